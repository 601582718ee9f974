/-
  SRecText; ImplRead; SRd; SCur; CeRc; SReadRecs; TxRow; FRow
-/
import Derived.Test.YtfmnaidhfgmemaaGreatDoorPk9
import Derived.Test.YtfmnaidhfgmemaaGreatDoorPk4
import Derived.Test.YtfmnaidhfgmemaaGreatDoorPk6
import Derived.Deep.RegionHeld3
import Derived.Test.YtfmnaidhfgmemaaGreatDoorPk0
import Derived.Test.YtfmnaidhfgmemaaGreatDoorPk3
import Derived.Deep.RegionWith
import Derived.Laws.DeepStrings4
import Derived.Deep.QuietTactic
import Derived.BigQuiet
import Derived.Lib.Strings
import Derived.WalkSmall
import Derived.Laws.Rows
import Derived.Maps.AppendAt
import Derived.Test.YtfmnaidhfgmemaaGreatDoorPk8
import Derived.Test.YtfmnaidhfgmemaaGreatDoorPk7
import Derived.Test.YtfmnaidhfgmemaaGreatDoorPk1
import Derived.Deep.MidRow
namespace Go.Proofs.YtfmnaidhfgmemaaGreatDoor
open Go.RowKit
open Words
def rtRes (r : Rc) : Value := letI := r.decR; if r.Right then .tuple #[.string (recA r), .bool true] else .tuple #[.string ⟨#[]⟩, .bool false]
theorem recA_size (r : Rc) (h : r.Right) : (recA r).size ≤ 19 := by
  have e : (recA r).size = (recA r).data.toList.length := rfl
  rw [e, recA_list]
  exact (recL_len r h).2
theorem cell_new4 (w w1 : World) (a b c d : Value) (ty : TypeId) (hb : Below (w.alloc (.cells #[a, b, c, d] ty)).heap.size (w.alloc (.cells #[a, b, c, d] ty)) w1) :
    w1.cell? ⟨w.heap.size, 0, none⟩ = some a ∧ w1.cell? ⟨w.heap.size, 1, none⟩ = some b ∧ w1.cell? ⟨w.heap.size, 2, none⟩ = some c ∧ w1.cell? ⟨w.heap.size, 3, none⟩ = some d := by
  refine ⟨?_, ?_, ?_, ?_⟩ <;> (rw [hb.cell (by simp)]; simp)
def RIn (w a : World) (k v x c : Int) : Prop := Below w.heap.size w a ∧ w.heap.size < a.heap.size ∧
  (a.cell? ⟨w.heap.size, 0, none⟩ = some (.int .i64 k) ∧ a.cell? ⟨w.heap.size, 1, none⟩ = some (.int .i64 v) ∧ a.cell? ⟨w.heap.size, 2, none⟩ = some (.int .i64 x) ∧ a.cell? ⟨w.heap.size, 3, none⟩ = some (.int .i64 c))
theorem RIn.next {w a b : World} {k v x c : Int} (h : RIn w a k v x c) (hb : Below a.heap.size a b) : RIn w b k v x c :=
  ⟨h.1.trans (hb.mono h.1.size), Nat.lt_of_lt_of_le h.2.1 hb.size, by rw [hb.cell h.2.1, hb.cell h.2.1, hb.cell h.2.1, hb.cell h.2.1]; exact h.2.2⟩
theorem RIn.drew {w a : World} {k v x c : Int} (h : RIn w a k v x c) : RIn w a.drew k v x c := ⟨h.1.drew, h.2.1, h.2.2⟩
set_option maxHeartbeats 1000000 in
set_option maxRecDepth 100000 in
theorem srecText (r : Rc) (w : World) :
    Calls Tryz.prog 68 #[rcVal r] w fun e w' => e = .returned (rtRes r) ∧ Below w.heap.size w w' := by
  have HB := hide ((Below.refl w.heap.size w).alloc (Nat.le_refl _) (.cells #[.int .i64 r.kind, .int .i64 r.vol, .int .i64 r.arg, .int .i64 r.chunk] 90))
  by_cases hr : r.Right
  · have HE : Hid (rtRes r = .tuple #[.string (recA r), .bool true]) := if_pos hr
    have hz := recA_size r hr
    have HS := hide (srecOk r)
    have hr' := hr
    obtain ⟨r1, r2⟩ := hr'
    have HP : Hid (recA r = (byteA (16 * r.kind + r.vol).toNat ++ varA r.arg.toNat) ++ varA r.chunk.toNat) := rfl
    have hd := dcY (d := r.decR) hr
    obtain ⟨k, v, x, c⟩ := r
    unfold rcVal at *
    simp only at *
    obtain ⟨k, rfl, -⟩ := i_nat (show 0 ≤ k by omega)
    obtain ⟨v, rfl, -⟩ := i_nat (show 0 ≤ v by omega)
    obtain ⟨x, rfl, ex⟩ := i_nat (show 0 ≤ x by omega)
    obtain ⟨c, rfl, ec⟩ := i_nat (show 0 ≤ c by omega)
    have hk : (16 * (k : Int) + (v : Int)).toNat = 16 * k + v := by omega
    have kb : k ≤ 5 := by omega
    have vb : v ≤ 9 := by omega
    have ew1 : IntKind.i64.wrap (16 * (k : Int)) = 16 * (k : Int) := by rw [IntKind.wrap_i64]; omega
    have ew2 : IntKind.i64.wrap (16 * (k : Int) + (v : Int)) = ((16 * k + v : Nat) : Int) := by rw [IntKind.wrap_i64]; omega
    obtain ⟨b, hb⟩ : ∃ b, b = 16 * k + v := ⟨_, rfl⟩
    rw [hk, ex, ec, ← hb] at HP
    rw [← hb] at ew2
    clear ex ec hk
    obtain ⟨b0, B0⟩ : ∃ z, z = byteA b := ⟨_, rfl⟩
    obtain ⟨v1, V1⟩ : ∃ z, z = varA x := ⟨_, rfl⟩
    obtain ⟨v2, V2⟩ : ∃ z, z = varA c := ⟨_, rfl⟩
    have C0 := hide (fun w => sbyte b (by omega) w)
    have C1 := hide (fun w => l01Var_any x w (by omega))
    have C2 := hide (fun w => l01Var_any c w (by omega))
    change Hid (∀ w, Calls Tryz.prog 93 #[.int .i64 x] w fun e w' => e = .returned (.string (varA x)) ∧ Below w.heap.size w w') at C1
    change Hid (∀ w, Calls Tryz.prog 93 #[.int .i64 c] w fun e w' => e = .returned (.string (varA c)) ∧ Below w.heap.size w w') at C2
    rw [← B0] at C0 HP
    rw [← V1] at C1 HP
    rw [← V2] at C2 HP
    clear B0 V1 V2 hb
    obtain ⟨pa, hpa⟩ : ∃ z, z = recA ⟨k, v, x, c⟩ := ⟨_, rfl⟩
    rw [← hpa] at hz HP HE
    clear hpa hr r1 r2 kb vb
    obtain ⟨u1, U1⟩ : ∃ u, b0 ++ v1 = u := ⟨_, rfl⟩
    rw [U1] at HP
    have U2 : u1 ++ v2 = pa := HP.out.symm
    have z1 := congrArg ByteArray.size U1
    have z2 := congrArg ByteArray.size U2
    rw [ByteArray.size_append] at z1 z2
    have Y1 : Hid (¬ (9223372036854775807 < b0.size + v1.size)) := by show ¬ _; omega
    have Y2 : Hid (¬ (9223372036854775807 < u1.size + v2.size)) := by show ¬ _; omega
    clear z1 z2 HP
    go_enter Tryz.func68, Tryz.ntmps68
    go_wp2_with fail
    refine (HS.out _).mono ?_
    rintro e w1 ⟨rfl, hb1⟩
    rw [hd]
    obtain ⟨c0, c1, c2, c3⟩ := cell_new4 _ _ _ _ _ _ _ hb1
    have P1 : Hid (RIn w w1 k v x c) := ⟨HB.out.trans (hb1.mono HB.out.size), Nat.lt_of_lt_of_le (by simp) hb1.size, c0, c1, c2, c3⟩
    clear hb1 HB hd HS
    go_wp2_with fail
    have y1 := Y1.out
    have y2 := Y2.out
    go_region_held3 (fun w' => w'.cell? ⟨w.heap.size, 0, none⟩ = some (.int .i64 k) ∧ w'.cell? ⟨w.heap.size, 1, none⟩ = some (.int .i64 v) ∧ w'.cell? ⟨w.heap.size, 2, none⟩ = some (.int .i64 x) ∧ w'.cell? ⟨w.heap.size, 3, none⟩ = some (.int .i64 c)) (first | go_keep | exact P1.out.2.2 | exact P1.out.drew.2.2) (first
      | (go_at_call 92; with_reducible refine Calls.mono (C0.out _) ?_; rintro e w2 ⟨rfl, b2⟩; have P1 := hide (RIn.next (by first | exact P1.out | exact P1.out.drew) b2); clear b2)
      | (go_at_call 93; (with_reducible first | refine Calls.mono (C1.out _) ?_ | refine Calls.mono (C2.out _) ?_); rintro e w3 ⟨rfl, b3⟩; have P1 := hide (RIn.next (by first | exact P1.out | exact P1.out.drew) b3); clear b3))
    all_goals
      go_wp2
      go_ret2
      exact ⟨by rw [HE.out]; rfl, P1.out.1⟩
  · have HE : Hid (rtRes r = .tuple #[.string ⟨#[]⟩, .bool false]) := if_neg hr
    have HS := hide (srecOk r)
    have hd := dcN (d := r.decR) hr
    obtain ⟨k, v, x, c⟩ := r
    unfold rcVal at *
    simp only at *
    clear hr
    go_enter Tryz.func68, Tryz.ntmps68
    go_wp2_with fail
    refine (HS.out _).mono ?_
    rintro e w1 ⟨rfl, hb1⟩
    rw [hd]
    go_wp2
    go_ret2
    exact ⟨by rw [HE.out]; rfl, HB.out.trans (hb1.mono HB.out.size)⟩
end Go.Proofs.YtfmnaidhfgmemaaGreatDoor

namespace Go.Proofs.YtfmnaidhfgmemaaGreatDoor
open Go.RowKit
open Words
end Go.Proofs.YtfmnaidhfgmemaaGreatDoor

namespace Go.Proofs.YtfmnaidhfgmemaaGreatDoor
open Go.RowKit
open Words
end Go.Proofs.YtfmnaidhfgmemaaGreatDoor

namespace Go.Proofs.YtfmnaidhfgmemaaGreatDoor
open Go.RowKit
open Words
end Go.Proofs.YtfmnaidhfgmemaaGreatDoor

namespace Go.Proofs.YtfmnaidhfgmemaaGreatDoor
open Go.RowKit
def rccell (t : Int × Int × Int × Int) : List Value := [.int .i64 t.1, .int .i64 t.2.1, .int .i64 t.2.2.1, .int .i64 t.2.2.2]
def rccells (l : List (Int × Int × Int × Int)) : List Value := l.flatMap rccell
theorem rccells_app (a b : List (Int × Int × Int × Int)) : rccells (a ++ b) = rccells a ++ rccells b := by simp [rccells]
theorem rccells_cons (t : Int × Int × Int × Int) (l : List (Int × Int × Int × Int)) : rccells (t :: l) = rccell t ++ rccells l := by simp [rccells]
theorem rccells_at (l : List (Int × Int × Int × Int)) (k : Nat) (t : Int × Int × Int × Int) (h : l[k]? = some t) (j : Nat) (v : Value) (hj : (rccell t)[j]? = some v) : (rccells l)[k * 4 + j]? = some v := by
  have hlt : j < 4 := (List.getElem?_eq_some_iff.1 hj).1
  induction l generalizing k with
  | nil => simp at h
  | cons a l ih =>
    rw [rccells_cons]
    cases k with
    | zero =>
      simp at h
      subst h
      rw [List.getElem?_append_left (by show _ < 4; omega), Nat.zero_mul, Nat.zero_add]
      exact hj
    | succ k =>
      rw [List.getElem?_append_right (by show 4 ≤ _; omega), show (k + 1) * 4 + j - (rccell a).length = k * 4 + j by show _ - 4 = _; omega]
      exact ih k (by simpa using h)
theorem infoRc : (Tryz.prog.info? 90).map (fun i => (i.zero, i.size, i.bytes)) = some (some (.agg #[.int .i64 0, .int .i64 0, .int .i64 0, .int .i64 0]), 4, 32) := by kernel_rfl
end Go.Proofs.YtfmnaidhfgmemaaGreatDoor

namespace Go.Proofs.YtfmnaidhfgmemaaGreatDoor
open Go.RowKit
open Words
end Go.Proofs.YtfmnaidhfgmemaaGreatDoor

namespace Go.Proofs.YtfmnaidhfgmemaaGreatDoor
open Go.RowKit
open Words
def Words.Pg.tu (p : Pg) : Int × Int × Int × Int × Int × ByteArray := (p.kind, p.seq, p.tx, p.part, p.count, p.text)
def PgOut (w : World) (Q : List Pg) (ok : Bool) (e : Ending) (w' : World) : Prop :=
  ∃ uv, e = .returned (.tuple #[uv, .bool ok]) ∧ w'.ownsRow w.heap.size 92 6 uv Q.length (pgcells (Q.map Pg.tu)) ∧ Below w.heap.size w w'
def gcels (gs : List (List Rc)) : List Value := gs.map (fun g => Value.string (recsB g))
theorem gcels_snoc (gs : List (List Rc)) (g : List Rc) : gcels gs ++ [Value.string (recsB g)] = gcels (gs ++ [g]) := by simp [gcels]
theorem gcels_set (gs : List (List Rc)) (g g' : List Rc) (m : Nat) (hm : gs.length = m) : (gcels (gs ++ [g])).set m (Value.string (recsB g')) = gcels (gs ++ [g']) := by
  subst hm
  simp [gcels, List.set_append_right]
def TS (w W : World) (uv : Value) (gs : List (List Rc)) : Prop :=
  Below w.heap.size w W ∧ W.heap[w.heap.size]? = some (.cells #[] 92 (0, 0)) ∧ W.ownsRow (w.heap.size + 1) 9 1 uv gs.length (gcels gs)
theorem TS.below {w W W' : World} {uv : Value} {gs : List (List Rc)} (h : TS w W uv gs) (b : Below W.heap.size W W') : TS w W' uv gs :=
  ⟨h.1.trans (b.mono h.1.size), (b.block _ (Array.getElem?_eq_some_iff.1 h.2.1).1).trans h.2.1, own_below h.2.2 b⟩
theorem TS.start (w : World) : TS w ((w.alloc (.cells #[] 92)).alloc (.cells #[.string ⟨#[]⟩] 9)) (.slice (some ⟨w.heap.size + 1, 0, none⟩) 1 1) [[]] := by
  have hz : (w.alloc (.cells #[] 92)).heap.size = w.heap.size + 1 := by simp
  have h1 := heap_alloc_new (w.alloc (.cells #[] 92)) (.cells #[.string ⟨#[]⟩] 9)
  rw [hz] at h1
  refine ⟨((Below.refl _ _).alloc (Nat.le_refl _) _).alloc (by simp) _, ?_, rfl, .inr ⟨w.heap.size + 1, 1, #[.string ⟨#[]⟩], rfl, Nat.le_refl _, h1, Nat.le_refl _, by unfold maxLen; omega, rfl, rfl⟩⟩
  exact (Below.heap_alloc (w.alloc (.cells #[] 92)) (.cells #[.string ⟨#[]⟩] 9) w.heap.size (by simp)).trans (heap_alloc_new w (.cells #[] 92))
theorem TS.grown {w W y : World} {uv u' : Value} {gs gs' : List (List Rc)} (h : TS w W uv gs) (hg : W.grownBy y uv.ownBlock) (ho : y.ownsRow (w.heap.size + 1) 9 1 u' gs'.length (gcels gs')) : TS w y u' gs' := by
  obtain ⟨h1, h2, h3⟩ := h
  have hlt := (Array.getElem?_eq_some_iff.1 h2).1
  refine ⟨h1.grown hg h1.size (fun k hk => Nat.le_of_succ_le (h3.lt k hk).1), ?_, ho⟩
  refine (hg.block _ hlt (fun e => ?_)).trans h2
  have := (h3.lt _ e.symm).1
  omega
theorem TS.none {w W : World} {uv : Value} {gs : List (List Rc)} (h : TS w W uv gs) : W.ownsRow w.heap.size 92 6 (.slice (some ⟨w.heap.size, 0, Option.none⟩) 0 0) ([] : List Pg).length (pgcells (([] : List Pg).map Pg.tu)) :=
  ⟨rfl, .inr ⟨w.heap.size, 0, #[], rfl, Nat.le_refl _, h.2.1, Nat.le_refl _, by unfold maxLen; omega, rfl, rfl⟩⟩
theorem TS.len {w W : World} {g n c : Nat} {gs : List (List Rc)} (h : TS w W (.slice (some ⟨g, 0, Option.none⟩) n c) gs) : gs.length = n := by
  rcases h.2.2.2 with ⟨e, -⟩ | ⟨_, _, _, e, -⟩
  · simp at e
  · simp at e; exact e.2.1.symm
theorem TS.at_ {w W : World} {g n c m : Nat} {gs : List (List Rc)} (h : TS w W (.slice (some ⟨g, 0, Option.none⟩) n c) gs) {x : List Rc} (hx : gs[m]? = some x) : W.cell? ⟨g, m, Option.none⟩ = some (.string (recsB x)) := by
  have := h.2.2.cells (g := g) rfl m (.string (recsB x)) (by simp [gcels, hx])
  rwa [addr_at] at this
theorem TS.stored {w W : World} {g n c m : Nat} {gs : List (List Rc)} {x y : List Rc} (h : TS w W (.slice (some ⟨g, 0, Option.none⟩) n c) (gs ++ [x])) (hm : gs.length = m) : TS w (W.setCell ⟨g, m, Option.none⟩ (.string (recsB y))) (.slice (some ⟨g, 0, Option.none⟩) n c) (gs ++ [y]) := by
  have hl := h.len
  have h3 := h.2.2
  rw [hl] at h3
  obtain ⟨h4, h5⟩ := h3.stored m (.string (recsB y))
  rw [gcels_set gs x y m hm] at h4
  refine TS.grown h h5 ?_
  rw [show (gs ++ [y]).length = n by simpa using hl]
  exact h4
theorem infoText : (Tryz.prog.info? 9).map (fun i => (i.zero, i.size, i.bytes)) = some (some (.string ⟨#[]⟩), 1, 16) := by kernel_rfl
theorem one_text (x : ByteArray) : ∀ u ∈ [Value.string x], u.oneCell' = true := by
  intro u hu; simp at hu; subst hu; rfl
def PSx (w W : World) (uv : Value) (gs : List (List Rc)) (ov : Value) (Q : List Pg) : Prop :=
  TS w W uv gs ∧ W.ownsRow (w.heap.size + 1) 92 6 ov Q.length (pgcells (Q.map Pg.tu))
theorem PSx.below {w W W' : World} {uv ov : Value} {gs : List (List Rc)} {Q : List Pg} (h : PSx w W uv gs ov Q) (b : Below W.heap.size W W') : PSx w W' uv gs ov Q :=
  ⟨h.1.below b, own_below h.2 b⟩
theorem PSx.grown {w W y : World} {uv ov o' : Value} {gs : List (List Rc)} {Q Q' : List Pg} (h : PSx w W uv gs ov Q) (hg : W.grownBy y ov.ownBlock) (ho : y.ownsRow (w.heap.size + 1) 92 6 o' Q'.length (pgcells (Q'.map Pg.tu))) : PSx w y uv gs o' Q' := by
  obtain ⟨⟨h1, h2, h3⟩, h4⟩ := h
  have hlt := (Array.getElem?_eq_some_iff.1 h2).1
  refine ⟨⟨h1.grown hg h1.size (fun k hk => Nat.le_of_succ_le (h4.lt k hk).1), ?_, ?_⟩, ho⟩
  · refine (hg.block _ hlt (fun e => ?_)).trans h2
    have := (h4.lt _ e.symm).1
    omega
  · refine h3.kept hg ?_
    cases hu : uv.ownBlock with
    | none => exact .inl rfl
    | some a =>
      refine .inr fun e => ?_
      rcases h3.2 with ⟨rfl, -⟩ | ⟨g3, c3, cu3, rfl, -, q3, -⟩
      · cases hu
      · rcases h4.2 with ⟨rfl, -⟩ | ⟨g4, c4, cu4, rfl, -, q4, -⟩
        · cases e
        · simp only [Value.ownBlock, Option.some.injEq] at hu e
          subst hu
          subst e
          rw [q3] at q4
          injection q4 with q4
          injection q4 with _ q4
          simp at q4
theorem PSx.start {w W : World} {uv : Value} {gs : List (List Rc)} (h : TS w W uv gs) : PSx w (W.alloc (.cells #[] 92)) uv gs (.slice (some ⟨W.heap.size, 0, Option.none⟩) 0 0) [] :=
  ⟨h.below ((Below.refl _ _).alloc (Nat.le_refl _) _), rfl, .inr ⟨W.heap.size, 0, #[], rfl, (Array.getElem?_eq_some_iff.1 h.2.1).1, heap_alloc_new W _, Nat.le_refl _, by unfold maxLen; omega, rfl, rfl⟩⟩
theorem pg_new (W : World) (p : Pg) (g : Nat) (hg : W.heap.size = g) : ∀ (j : Nat) (u : Value), (pgcell p.tu)[j]? = some u → (W.alloc (.cells #[.int .i64 p.kind, .int .i64 p.seq, .int .i64 p.tx, .int .i64 p.part, .int .i64 p.count, .string p.text] 92)).cell? ((⟨g, 0, Option.none⟩ : Addr).add j) = some u := by
  intro j u hj
  subst hg
  match j, hj with
  | 0, hj | 1, hj | 2, hj | 3, hj | 4, hj | 5, hj =>
    simp [pgcell, Pg.tu] at hj
    subst hj
    simp [Addr.add]
theorem pg_one (p : Pg) : ∀ u ∈ pgcell p.tu, u.oneCell' = true := by
  intro u hu
  simp [pgcell] at hu
  rcases hu with h | h | h | h | h | h <;> subst h <;> rfl
theorem pg_snoc (Q : List Pg) (p : Pg) : pgcells (Q.map Pg.tu) ++ pgcell p.tu = pgcells ((Q ++ [p]).map Pg.tu) := by
  rw [List.map_append, pgcells_app]
  simp [pgcells]
end Go.Proofs.YtfmnaidhfgmemaaGreatDoor

namespace Go.Proofs.YtfmnaidhfgmemaaGreatDoor
open Go.RowKit
theorem infoLeaf : (Tryz.prog.info? 119).map (fun i => (i.zero, i.size, i.bytes)) = some (some (.agg #[.int .i64 0, .string ⟨#[]⟩]), 2, 24) := by kernel_rfl
theorem infoBlock : (Tryz.prog.info? 80).map (fun i => (i.zero, i.size, i.bytes)) = some (some (.agg #[.bool false, .int .i64 0, .slice none 0 0]), 3, 40) := by kernel_rfl
def lcell (t : Int × ByteArray) : List Value := [.int .i64 t.1, .string t.2]
def lcells (l : List (Int × ByteArray)) : List Value := l.flatMap lcell
theorem lcells_len (l : List (Int × ByteArray)) : (lcells l).length = l.length * 2 := by
  induction l with
  | nil => rfl
  | cons t l ih => simp [lcells, lcell] at ih ⊢; omega
theorem lcells_app (a b : List (Int × ByteArray)) : lcells (a ++ b) = lcells a ++ lcells b := by simp [lcells]
theorem lcells_cons (t : Int × ByteArray) (l : List (Int × ByteArray)) : lcells (t :: l) = [.int .i64 t.1, .string t.2] ++ lcells l := by simp [lcells, lcell]
theorem lcells_at (l : List (Int × ByteArray)) (k : Nat) (t : Int × ByteArray) (h : l[k]? = some t) : (lcells l)[k * 2]? = some (.int .i64 t.1) ∧ (lcells l)[k * 2 + 1]? = some (.string t.2) := by
  induction l generalizing k with
  | nil => simp at h
  | cons a l ih =>
    cases k with
    | zero =>
      simp at h
      subst h
      exact ⟨rfl, rfl⟩
    | succ k =>
      have := ih k (by simpa using h)
      rw [lcells_cons, List.getElem?_append_right (by simp; omega), List.getElem?_append_right (by simp; omega)]
      simp only [List.length_cons, List.length_nil]
      rw [show (k + 1) * 2 - (0 + 1 + 1) = k * 2 by omega, show (k + 1) * 2 + 1 - (0 + 1 + 1) = k * 2 + 1 by omega]
      exact this
theorem lcells_one (l : List (Int × ByteArray)) : ∀ v ∈ lcells l, v.oneCell' = true := by
  intro v hv
  obtain ⟨t, -, ht⟩ := List.mem_flatMap.1 hv
  simp [lcell] at ht
  rcases ht with h | h <;> subst h <;> rfl
theorem lcells_upd (ls : List (Int × ByteArray)) (k : Nat) (t : Int × ByteArray) (h : ls[k]? = some t) :
    (∀ z : Int, (lcells ls).set (k * 2) (.int .i64 z) = lcells (ls.set k (z, t.2))) ∧ (∀ z : ByteArray, (lcells ls).set (k * 2 + 1) (.string z) = lcells (ls.set k (t.1, z))) := by
  induction ls generalizing k with
  | nil => simp at h
  | cons a r ih =>
    cases k with
    | zero =>
      simp at h
      subst h
      simp [lcells_cons]
    | succ k =>
      obtain ⟨h1, h2⟩ := ih k (by simpa using h)
      refine ⟨fun z => ?_, fun z => ?_⟩
      · rw [List.set_cons_succ, lcells_cons, lcells_cons, ← h1 z, List.set_append_right _ _ (by simp; omega)]
        congr 2
        simp
        omega
      · rw [List.set_cons_succ, lcells_cons, lcells_cons, ← h2 z, List.set_append_right _ _ (by simp; omega)]
        congr 2
        simp
        omega
theorem lown_cells {w : World} {B n cap g k : Nat} {l : List (Int × ByteArray)} {t : Int × ByteArray} (h : w.ownsRow B 119 2 (.slice (some ⟨g, 0, none⟩) n cap) n (lcells l)) (ht : l[k]? = some t) :
    w.cell? ⟨g, k * 2, none⟩ = some (.int .i64 t.1) ∧ w.cell? ⟨g, k * 2 + 1, none⟩ = some (.string t.2) := by
  obtain ⟨h1, h2⟩ := lcells_at l k t ht
  have c1 := h.cells (g := g) rfl _ _ h1
  have c2 := h.cells (g := g) rfl _ _ h2
  rw [addr_at] at c1 c2
  exact ⟨c1, c2⟩
def kcell (t : Bool × Int × Value) : List Value := [.bool t.1, .int .i64 t.2.1, t.2.2]
def kcells (l : List (Bool × Int × Value)) : List Value := l.flatMap kcell
theorem kcells_len (l : List (Bool × Int × Value)) : (kcells l).length = l.length * 3 := by
  induction l with
  | nil => rfl
  | cons t l ih => simp [kcells, kcell] at ih ⊢; omega
theorem kcells_app (a b : List (Bool × Int × Value)) : kcells (a ++ b) = kcells a ++ kcells b := by simp [kcells]
theorem kcells_cons (t : Bool × Int × Value) (l : List (Bool × Int × Value)) : kcells (t :: l) = [.bool t.1, .int .i64 t.2.1, t.2.2] ++ kcells l := by simp [kcells, kcell]
theorem kcells_at (l : List (Bool × Int × Value)) (k : Nat) (t : Bool × Int × Value) (h : l[k]? = some t) : (kcells l)[k * 3]? = some (.bool t.1) ∧ (kcells l)[k * 3 + 1]? = some (.int .i64 t.2.1) ∧ (kcells l)[k * 3 + 2]? = some t.2.2 := by
  induction l generalizing k with
  | nil => simp at h
  | cons a l ih =>
    cases k with
    | zero =>
      simp at h
      subst h
      exact ⟨rfl, rfl, rfl⟩
    | succ k =>
      have := ih k (by simpa using h)
      rw [kcells_cons, List.getElem?_append_right (by simp; omega), List.getElem?_append_right (by simp; omega), List.getElem?_append_right (by simp; omega)]
      simp only [List.length_cons, List.length_nil]
      rw [show (k + 1) * 3 - (0 + 1 + 1 + 1) = k * 3 by omega, show (k + 1) * 3 + 1 - (0 + 1 + 1 + 1) = k * 3 + 1 by omega, show (k + 1) * 3 + 2 - (0 + 1 + 1 + 1) = k * 3 + 2 by omega]
      exact this
theorem kcells_upd (ls : List (Bool × Int × Value)) (k : Nat) (t : Bool × Int × Value) (h : ls[k]? = some t) :
    (∀ z : Bool, (kcells ls).set (k * 3) (.bool z) = kcells (ls.set k (z, t.2.1, t.2.2))) ∧ (∀ z : Int, (kcells ls).set (k * 3 + 1) (.int .i64 z) = kcells (ls.set k (t.1, z, t.2.2))) ∧ (∀ z : Value, (kcells ls).set (k * 3 + 2) z = kcells (ls.set k (t.1, t.2.1, z))) := by
  induction ls generalizing k with
  | nil => simp at h
  | cons a r ih =>
    cases k with
    | zero =>
      simp at h
      subst h
      simp [kcells_cons]
    | succ k =>
      obtain ⟨h1, h2, h3⟩ := ih k (by simpa using h)
      refine ⟨fun z => ?_, fun z => ?_, fun z => ?_⟩
      · rw [List.set_cons_succ, kcells_cons, kcells_cons, ← h1 z, List.set_append_right _ _ (by simp; omega)]
        congr 2
        simp
        omega
      · rw [List.set_cons_succ, kcells_cons, kcells_cons, ← h2 z, List.set_append_right _ _ (by simp; omega)]
        congr 2
        simp
        omega
      · rw [List.set_cons_succ, kcells_cons, kcells_cons, ← h3 z, List.set_append_right _ _ (by simp; omega)]
        congr 2
        simp
        omega
theorem kown_cells {w : World} {B n cap g k : Nat} {l : List (Bool × Int × Value)} {t : Bool × Int × Value} (h : w.ownsRow B 80 3 (.slice (some ⟨g, 0, none⟩) n cap) n (kcells l)) (ht : l[k]? = some t) :
    w.cell? ⟨g, k * 3, none⟩ = some (.bool t.1) ∧ w.cell? ⟨g, k * 3 + 1, none⟩ = some (.int .i64 t.2.1) ∧ w.cell? ⟨g, k * 3 + 2, none⟩ = some t.2.2 := by
  obtain ⟨h1, h2, h3⟩ := kcells_at l k t ht
  have c1 := h.cells (g := g) rfl _ _ h1
  have c2 := h.cells (g := g) rfl _ _ h2
  have c3 := h.cells (g := g) rfl _ _ h3
  rw [addr_at] at c1 c2 c3
  exact ⟨c1, c2, c3⟩
theorem frow_form {w : World} {B : Nat} {e : TypeId} {z : Nat} {v : Value} {n : Nat} {xs : List Value} (h : w.ownsRow B e z v n xs) :
    ∃ ad cap, v = .slice ad n cap ∧ n ≤ cap ∧ cap ≤ maxLen ∧ (0 < n → ∃ g, ad = some ⟨g, 0, none⟩ ∧ B ≤ g ∧ g < w.heap.size) := by
  have hlt := h.lt
  rcases h.2 with ⟨h1, h2⟩ | ⟨g, cap, cur, h1, -, -, h3, h4, -⟩
  · exact ⟨none, 0, by rw [h1, h2], by omega, by unfold maxLen; omega, fun h => by omega⟩
  · subst h1
    exact ⟨_, cap, rfl, h3, h4, fun _ => ⟨g, rfl, hlt g rfl⟩⟩
abbrev Rw := Bool × Int × Value × List (Int × ByteArray)
def cellOf (r : Rw) : Bool × Int × Value := (r.1, r.2.1, r.2.2.1)
def tellOf (r : Rw) : Bk := (r.1, r.2.1, r.2.2.2)
def LeafIn (w : World) (lo hi : Nat) (v : Value) (ls : List (Int × ByteArray)) : Prop :=
  w.ownsRow lo 119 2 v ls.length (lcells ls) ∧ ∀ g, v.ownBlock = some g → g < hi
def FlashIn (w : World) (lo hi : Nat) (v : Value) (rs : List Rw) : Prop :=
  w.ownsRow lo 80 3 v rs.length (kcells (rs.map cellOf)) ∧ (∀ g, v.ownBlock = some g → g < hi) ∧ (∀ r ∈ rs, LeafIn w lo hi r.2.2.1 r.2.2.2) ∧
    (rs.map fun r => r.2.2.1).Pairwise (fun a b => a.ownBlock = none ∨ a.ownBlock ≠ b.ownBlock)
theorem own_blocks {w w' : World} {lo hi : Nat} {e : TypeId} {size : Nat} {v : Value} {n : Nat} {xs : List Value} (h : w.ownsRow lo e size v n xs) (hh : ∀ g, v.ownBlock = some g → g < hi) (hk : ∀ g, lo ≤ g → g < hi → w'.heap[g]? = w.heap[g]?) : w'.ownsRow lo e size v n xs := by
  have hlt := h.lt
  obtain ⟨h1, h2⟩ := h
  refine ⟨h1, ?_⟩
  rcases h2 with h | ⟨g, cap, cur, rfl, a2, a3, a4⟩
  · exact .inl h
  · exact .inr ⟨g, cap, cur, rfl, a2, by rw [hk g a2 (hh g rfl)]; exact a3, a4⟩
theorem LeafIn.kept {w w' : World} {lo hi : Nat} {v : Value} {ls : List (Int × ByteArray)} (h : LeafIn w lo hi v ls) (hk : ∀ g, lo ≤ g → g < hi → w'.heap[g]? = w.heap[g]?) : LeafIn w' lo hi v ls := ⟨own_blocks h.1 h.2 hk, h.2⟩
theorem FlashIn.kept {w w' : World} {lo hi : Nat} {v : Value} {rs : List Rw} (h : FlashIn w lo hi v rs) (hk : ∀ g, lo ≤ g → g < hi → w'.heap[g]? = w.heap[g]?) : FlashIn w' lo hi v rs :=
  ⟨own_blocks h.1 h.2.1 hk, h.2.1, fun r hr => (h.2.2.1 r hr).kept hk, h.2.2.2⟩
theorem FlashIn.below {w w' : World} {lo hi : Nat} {v : Value} {rs : List Rw} (h : FlashIn w lo hi v rs) (hb : Below w.heap.size w w') (hh : hi ≤ w.heap.size) : FlashIn w' lo hi v rs := h.kept (fun g _ hg => hb.block g (by omega))
theorem LeafIn.below {w w' : World} {lo hi : Nat} {v : Value} {ls : List (Int × ByteArray)} (h : LeafIn w lo hi v ls) (hb : Below w.heap.size w w') (hh : hi ≤ w.heap.size) : LeafIn w' lo hi v ls := h.kept (fun g _ hg => hb.block g (by omega))
theorem LeafIn.up {w : World} {lo hi hi' : Nat} {v : Value} {ls : List (Int × ByteArray)} (h : LeafIn w lo hi v ls) (hh : hi ≤ hi') : LeafIn w lo hi' v ls := ⟨h.1, fun g hg => Nat.lt_of_lt_of_le (h.2 g hg) hh⟩
theorem FlashIn.up {w : World} {lo hi hi' : Nat} {v : Value} {rs : List Rw} (h : FlashIn w lo hi v rs) (hh : hi ≤ hi') : FlashIn w lo hi' v rs := ⟨h.1, fun g hg => Nat.lt_of_lt_of_le (h.2.1 g hg) hh, fun r hr => (h.2.2.1 r hr).up hh, h.2.2.2⟩
theorem leaf_not_block {w : World} {B B' : Nat} {u v : Value} {n m : Nat} {xs ys : List Value} (hu : w.ownsRow B 80 3 u n xs) (hv : w.ownsRow B' 119 2 v m ys) : ∀ g, u.ownBlock = some g → v.ownBlock ≠ some g := by
  intro g h1 h2
  rcases hu.2 with ⟨rfl, -⟩ | ⟨g1, cap, cur, rfl, -, e1, -⟩
  · cases h1
  · rcases hv.2 with ⟨rfl, -⟩ | ⟨g2, cap2, cur2, rfl, -, e2, -⟩
    · cases h2
    · simp [Value.ownBlock] at h1 h2
      subst h1 h2
      rw [e1] at e2
      simp at e2
theorem set_same {α : Type} (l : List α) (k : Nat) (a : α) (h : l[k]? = some a) : l.set k a = l := by
  induction l generalizing k with
  | nil => rfl
  | cons b r ih =>
    cases k with
    | zero => simp at h; subst h; rfl
    | succ k => rw [List.set_cons_succ, ih k (by simpa using h)]
theorem leaf_ne {w : World} {B B' : Nat} {g n cq m : Nat} {v : Value} {xs ys : List Value} (hu : w.ownsRow B 80 3 (.slice (some ⟨g, 0, none⟩) n cq) n xs) (hv : w.ownsRow B' 119 2 v m ys) : v.ownBlock = none ∨ v.ownBlock ≠ some g := Or.inr (leaf_not_block hu hv g rfl)
theorem FlashIn.cell {w : World} {lo hi g n cq k : Nat} {rs : List Rw} {r r' : Rw} {j : Nat} {u : Value} (h : FlashIn w lo hi (.slice (some ⟨g, 0, none⟩) n cq) rs) (hn : n = rs.length) (hr : rs[k]? = some r) (hs : r'.2.2 = r.2.2)
    (hu : (kcells (rs.map cellOf)).set j u = kcells ((rs.map cellOf).set k (cellOf r'))) : FlashIn (w.setCell ⟨g, j, none⟩ u) lo hi (.slice (some ⟨g, 0, none⟩) n cq) (rs.set k r') := by
  subst hn
  refine ⟨?_, h.2.1, fun x hx => ?_, ?_⟩
  · have := fown_set h.1 rfl j u
    rw [hu, ← List.map_set] at this
    rw [List.length_set]
    exact this
  · have hx2 : ∃ y ∈ rs, x.2.2 = y.2.2 := by
      rcases List.mem_or_eq_of_mem_set hx with h1 | h1
      · exact ⟨x, h1, rfl⟩
      · exact ⟨r, List.mem_of_getElem? hr, by rw [h1, hs]⟩
    obtain ⟨y, hy, e⟩ := hx2
    have hl := h.2.2.1 y hy
    rw [e]
    exact ⟨hl.1.kept (grown_cell w g j u) (leaf_ne h.1 hl.1), hl.2⟩
  · rw [List.map_set, hs, set_same _ _ _ (by rw [List.getElem?_map, hr]; rfl)]
    exact h.2.2.2
theorem FlashIn.bad {w : World} {lo hi g n cq k : Nat} {rs : List Rw} {r : Rw} (h : FlashIn w lo hi (.slice (some ⟨g, 0, none⟩) n cq) rs) (hn : n = rs.length) (hr : rs[k]? = some r) (z : Bool) : FlashIn (w.setCell ⟨g, k * 3, none⟩ (.bool z)) lo hi (.slice (some ⟨g, 0, none⟩) n cq) (rs.set k (z, r.2)) :=
  h.cell hn hr rfl ((kcells_upd (rs.map cellOf) k (cellOf r) (by rw [List.getElem?_map, hr]; rfl)).1 z)
theorem FlashIn.wear {w : World} {lo hi g n cq k : Nat} {rs : List Rw} {r : Rw} (h : FlashIn w lo hi (.slice (some ⟨g, 0, none⟩) n cq) rs) (hn : n = rs.length) (hr : rs[k]? = some r) (z : Int) : FlashIn (w.setCell ⟨g, k * 3 + 1, none⟩ (.int .i64 z)) lo hi (.slice (some ⟨g, 0, none⟩) n cq) (rs.set k (r.1, z, r.2.2)) :=
  h.cell hn hr rfl ((kcells_upd (rs.map cellOf) k (cellOf r) (by rw [List.getElem?_map, hr]; rfl)).2.1 z)
theorem pair_at {α : Type} {R : α → α → Prop} {l : List α} (h : l.Pairwise R) (hsym : ∀ a b, R a b → R b a) {i j : Nat} {a b : α} (hi : l[i]? = some a) (hj : l[j]? = some b) (hne : i ≠ j) : R a b := by
  obtain ⟨h1, rfl⟩ := List.getElem?_eq_some_iff.1 hi
  obtain ⟨h2, rfl⟩ := List.getElem?_eq_some_iff.1 hj
  rw [List.pairwise_iff_getElem] at h
  by_cases hlt : i < j
  · exact h i j h1 h2 hlt
  · exact hsym _ _ (h j i h2 h1 (by omega))
theorem apart_sym (a b : Value) (h : a.ownBlock = none ∨ a.ownBlock ≠ b.ownBlock) : b.ownBlock = none ∨ b.ownBlock ≠ a.ownBlock := by
  cases hb : b.ownBlock with
  | none => exact Or.inl rfl
  | some g =>
    refine Or.inr (fun e => ?_)
    rcases h with h | h
    · rw [h] at e; cases e
    · exact h (by rw [hb, e])
theorem FlashIn.leaves {w w' : World} {lo hi k : Nat} {v : Value} {rs : List Rw} {r : Rw} {ls' : List (Int × ByteArray)} (h : FlashIn w lo hi v rs) (hr : rs[k]? = some r) (hg : w.grownBy w' r.2.2.1.ownBlock) (hl : LeafIn w' lo hi r.2.2.1 ls') :
    FlashIn w' lo hi v (rs.set k (r.1, r.2.1, r.2.2.1, ls')) := by
  have hrl := h.2.2.1 r (List.mem_of_getElem? hr)
  refine ⟨?_, h.2.1, fun x hx => ?_, ?_⟩
  · have e1 : (rs.set k (r.1, r.2.1, r.2.2.1, ls')).map cellOf = rs.map cellOf := by
      rw [List.map_set]
      exact set_same _ _ _ (by rw [List.getElem?_map, hr]; rfl)
    rw [e1, List.length_set]
    refine h.1.kept hg ?_
    cases hv : v.ownBlock with
    | none => exact Or.inl rfl
    | some g => exact Or.inr (fun e => leaf_not_block h.1 hrl.1 g hv e.symm)
  · obtain ⟨i, hi, rfl⟩ := List.getElem_of_mem hx
    have hi2 : i < rs.length := by simpa using hi
    by_cases hik : k = i
    · subst hik
      simp only [List.getElem_set_self]
      exact hl
    · rw [List.getElem_set_ne hik]
      have hxl := h.2.2.1 rs[i] (List.getElem_mem _)
      refine ⟨hxl.1.kept hg ?_, hxl.2⟩
      exact pair_at h.2.2.2 apart_sym (i := i) (j := k) (by rw [List.getElem?_map, List.getElem?_eq_getElem hi2]; rfl) (by rw [List.getElem?_map, hr]; rfl) (fun e => hik e.symm)
  · rw [List.map_set]
    simp only
    rw [set_same _ _ _ (by rw [List.getElem?_map, hr]; rfl)]
    exact h.2.2.2
end Go.Proofs.YtfmnaidhfgmemaaGreatDoor
