/-
  SRecText; ImplRead; SRd; Kept2; SCur; CeRc; Own; Tk; SReadRecs; TxRow; OwnC
-/
import Derived.Test.YtfmnaidhfgmemaaGreatDoorPk6
import Derived.Test.YtfmnaidhfgmemaaGreatDoorPk1
import Derived.Test.YtfmnaidhfgmemaaGreatDoorPk3
import Derived.Deep.RegionHeld3
import Derived.Test.YtfmnaidhfgmemaaGreatDoorPk0
import Derived.Deep.RegionWith
import Derived.Laws.DeepStrings4
import Derived.Deep.QuietTactic
import Derived.BigQuiet
import Derived.Lib.Strings
import Derived.WalkSmall
import Derived.Laws.Rows
import Derived.Maps.AppendAt
import Derived.Test.YtfmnaidhfgmemaaGreatDoorPk4
import Derived.Deep.MidRow
namespace Go.Proofs.YtfmnaidhfgmemaaGreatDoor
open Go.RowKit
open Words
def rtRes (r : Rc) : Value := letI := r.decR; if r.Right then .tuple #[.string (recA r), .bool true] else .tuple #[.string ⟨#[]⟩, .bool false]
theorem recA_size (r : Rc) (h : r.Right) : (recA r).size ≤ 19 := by
  have e : (recA r).size = (recA r).data.toList.length := rfl
  rw [e, recA_list]
  exact (recL_len r h).2
theorem cell_new4 (w w1 : World) (a b c d : Value) (ty : TypeId) (hb : Below (w.alloc (.cells #[a, b, c, d] ty)).heap.size (w.alloc (.cells #[a, b, c, d] ty)) w1) :
    w1.cell? ⟨w.heap.size, 0, none⟩ = some a ∧ w1.cell? ⟨w.heap.size, 1, none⟩ = some b ∧ w1.cell? ⟨w.heap.size, 2, none⟩ = some c ∧ w1.cell? ⟨w.heap.size, 3, none⟩ = some d := by
  refine ⟨?_, ?_, ?_, ?_⟩ <;> (rw [hb.cell (by simp)]; simp)
def RIn (w a : World) (k v x c : Int) : Prop := Below w.heap.size w a ∧ w.heap.size < a.heap.size ∧
  (a.cell? ⟨w.heap.size, 0, none⟩ = some (.int .i64 k) ∧ a.cell? ⟨w.heap.size, 1, none⟩ = some (.int .i64 v) ∧ a.cell? ⟨w.heap.size, 2, none⟩ = some (.int .i64 x) ∧ a.cell? ⟨w.heap.size, 3, none⟩ = some (.int .i64 c))
theorem RIn.next {w a b : World} {k v x c : Int} (h : RIn w a k v x c) (hb : Below a.heap.size a b) : RIn w b k v x c :=
  ⟨h.1.trans (hb.mono h.1.size), Nat.lt_of_lt_of_le h.2.1 hb.size, by rw [hb.cell h.2.1, hb.cell h.2.1, hb.cell h.2.1, hb.cell h.2.1]; exact h.2.2⟩
theorem RIn.drew {w a : World} {k v x c : Int} (h : RIn w a k v x c) : RIn w a.drew k v x c := ⟨h.1.drew, h.2.1, h.2.2⟩
set_option maxHeartbeats 1000000 in
set_option maxRecDepth 100000 in
theorem srecText (r : Rc) (w : World) :
    Calls Tryz.prog 68 #[rcVal r] w fun e w' => e = .returned (rtRes r) ∧ Below w.heap.size w w' := by
  have HB := hide ((Below.refl w.heap.size w).alloc (Nat.le_refl _) (.cells #[.int .i64 r.kind, .int .i64 r.vol, .int .i64 r.arg, .int .i64 r.chunk] 90))
  by_cases hr : r.Right
  · have HE : Hid (rtRes r = .tuple #[.string (recA r), .bool true]) := if_pos hr
    have hz := recA_size r hr
    have HS := hide (srecOk r)
    have hr' := hr
    obtain ⟨r1, r2⟩ := hr'
    have HP : Hid (recA r = (byteA (16 * r.kind + r.vol).toNat ++ varA r.arg.toNat) ++ varA r.chunk.toNat) := rfl
    have hd := dcY (d := r.decR) hr
    obtain ⟨k, v, x, c⟩ := r
    unfold rcVal at *
    simp only at *
    obtain ⟨k, rfl, -⟩ := i_nat (show 0 ≤ k by omega)
    obtain ⟨v, rfl, -⟩ := i_nat (show 0 ≤ v by omega)
    obtain ⟨x, rfl, ex⟩ := i_nat (show 0 ≤ x by omega)
    obtain ⟨c, rfl, ec⟩ := i_nat (show 0 ≤ c by omega)
    have hk : (16 * (k : Int) + (v : Int)).toNat = 16 * k + v := by omega
    have kb : k ≤ 5 := by omega
    have vb : v ≤ 9 := by omega
    have ew1 : IntKind.i64.wrap (16 * (k : Int)) = 16 * (k : Int) := by rw [IntKind.wrap_i64]; omega
    have ew2 : IntKind.i64.wrap (16 * (k : Int) + (v : Int)) = ((16 * k + v : Nat) : Int) := by rw [IntKind.wrap_i64]; omega
    obtain ⟨b, hb⟩ : ∃ b, b = 16 * k + v := ⟨_, rfl⟩
    rw [hk, ex, ec, ← hb] at HP
    rw [← hb] at ew2
    clear ex ec hk
    obtain ⟨b0, B0⟩ : ∃ z, z = byteA b := ⟨_, rfl⟩
    obtain ⟨v1, V1⟩ : ∃ z, z = varA x := ⟨_, rfl⟩
    obtain ⟨v2, V2⟩ : ∃ z, z = varA c := ⟨_, rfl⟩
    have C0 := hide (fun w => sbyte b (by omega) w)
    have C1 := hide (fun w => l01Var_any x w (by omega))
    have C2 := hide (fun w => l01Var_any c w (by omega))
    change Hid (∀ w, Calls Tryz.prog 93 #[.int .i64 x] w fun e w' => e = .returned (.string (varA x)) ∧ Below w.heap.size w w') at C1
    change Hid (∀ w, Calls Tryz.prog 93 #[.int .i64 c] w fun e w' => e = .returned (.string (varA c)) ∧ Below w.heap.size w w') at C2
    rw [← B0] at C0 HP
    rw [← V1] at C1 HP
    rw [← V2] at C2 HP
    clear B0 V1 V2 hb
    obtain ⟨pa, hpa⟩ : ∃ z, z = recA ⟨k, v, x, c⟩ := ⟨_, rfl⟩
    rw [← hpa] at hz HP HE
    clear hpa hr r1 r2 kb vb
    obtain ⟨u1, U1⟩ : ∃ u, b0 ++ v1 = u := ⟨_, rfl⟩
    rw [U1] at HP
    have U2 : u1 ++ v2 = pa := HP.out.symm
    have z1 := congrArg ByteArray.size U1
    have z2 := congrArg ByteArray.size U2
    rw [ByteArray.size_append] at z1 z2
    have Y1 : Hid (¬ (9223372036854775807 < b0.size + v1.size)) := by show ¬ _; omega
    have Y2 : Hid (¬ (9223372036854775807 < u1.size + v2.size)) := by show ¬ _; omega
    clear z1 z2 HP
    go_enter Tryz.func68, Tryz.ntmps68
    go_wp2_with fail
    refine (HS.out _).mono ?_
    rintro e w1 ⟨rfl, hb1⟩
    rw [hd]
    obtain ⟨c0, c1, c2, c3⟩ := cell_new4 _ _ _ _ _ _ _ hb1
    have P1 : Hid (RIn w w1 k v x c) := ⟨HB.out.trans (hb1.mono HB.out.size), Nat.lt_of_lt_of_le (by simp) hb1.size, c0, c1, c2, c3⟩
    clear hb1 HB hd HS
    go_wp2_with fail
    have y1 := Y1.out
    have y2 := Y2.out
    go_region_held3 (fun w' => w'.cell? ⟨w.heap.size, 0, none⟩ = some (.int .i64 k) ∧ w'.cell? ⟨w.heap.size, 1, none⟩ = some (.int .i64 v) ∧ w'.cell? ⟨w.heap.size, 2, none⟩ = some (.int .i64 x) ∧ w'.cell? ⟨w.heap.size, 3, none⟩ = some (.int .i64 c)) (first | go_keep | exact P1.out.2.2 | exact P1.out.drew.2.2) (first
      | (go_at_call 92; with_reducible refine Calls.mono (C0.out _) ?_; rintro e w2 ⟨rfl, b2⟩; have P1 := hide (RIn.next (by first | exact P1.out | exact P1.out.drew) b2); clear b2)
      | (go_at_call 93; (with_reducible first | refine Calls.mono (C1.out _) ?_ | refine Calls.mono (C2.out _) ?_); rintro e w3 ⟨rfl, b3⟩; have P1 := hide (RIn.next (by first | exact P1.out | exact P1.out.drew) b3); clear b3))
    all_goals
      go_wp2
      go_ret2
      exact ⟨by rw [HE.out]; rfl, P1.out.1⟩
  · have HE : Hid (rtRes r = .tuple #[.string ⟨#[]⟩, .bool false]) := if_neg hr
    have HS := hide (srecOk r)
    have hd := dcN (d := r.decR) hr
    obtain ⟨k, v, x, c⟩ := r
    unfold rcVal at *
    simp only at *
    clear hr
    go_enter Tryz.func68, Tryz.ntmps68
    go_wp2_with fail
    refine (HS.out _).mono ?_
    rintro e w1 ⟨rfl, hb1⟩
    rw [hd]
    go_wp2
    go_ret2
    exact ⟨by rw [HE.out]; rfl, HB.out.trans (hb1.mono HB.out.size)⟩
end Go.Proofs.YtfmnaidhfgmemaaGreatDoor

namespace Go.Proofs.YtfmnaidhfgmemaaGreatDoor
open Go.RowKit
open Words
end Go.Proofs.YtfmnaidhfgmemaaGreatDoor

namespace Go.Proofs.YtfmnaidhfgmemaaGreatDoor
open Go.RowKit
open Words
end Go.Proofs.YtfmnaidhfgmemaaGreatDoor

namespace Go.Proofs.YtfmnaidhfgmemaaGreatDoor
open Go.RowKit
def Kept2 (w w' : World) (ok : Nat → Prop) : Prop := w'.os = w.os ∧ w'.tape = w.tape ∧ w'.output = w.output ∧ w.heap.size ≤ w'.heap.size ∧ ∀ i, i < w.heap.size → ok i → w'.heap[i]? = w.heap[i]?
theorem Kept2.refl (w : World) (ok : Nat → Prop) : Kept2 w w ok := ⟨rfl, rfl, rfl, Nat.le_refl _, fun _ _ _ => rfl⟩
theorem Kept2.trans {a b c : World} {ok : Nat → Prop} (h : Kept2 a b ok) (k : Kept2 b c ok) : Kept2 a c ok :=
  ⟨k.1.trans h.1, k.2.1.trans h.2.1, k.2.2.1.trans h.2.2.1, Nat.le_trans h.2.2.2.1 k.2.2.2.1, fun i hi ho => (k.2.2.2.2 i (Nat.lt_of_lt_of_le hi h.2.2.2.1) ho).trans (h.2.2.2.2 i hi ho)⟩
theorem Kept2.grown {a b : World} {ok : Nat → Prop} {row : Option Nat} (h : a.grownBy b row) (hr : ∀ j, row = some j → ¬ ok j) : Kept2 a b ok :=
  ⟨h.os, h.tape, h.output, h.size, fun i hi ho => h.block i hi (fun e => hr i e.symm ho)⟩
theorem Kept2.below {a b : World} {ok : Nat → Prop} (h : Below a.heap.size a b) : Kept2 a b ok := ⟨h.os, h.tape, h.output, h.size, fun i hi _ => h.block i hi⟩
theorem Kept2.down {a b : World} {ok : Nat → Prop} {B : Nat} (h : Kept2 a b ok) (hB : B ≤ a.heap.size) (ho : ∀ i, i < B → ok i) : Below B a b := ⟨h.1, h.2.1, h.2.2.1, h.2.2.2.1, fun i hi => h.2.2.2.2 i (Nat.lt_of_lt_of_le hi hB) (ho i hi)⟩
theorem grown_old {a b : World} (h : Below a.heap.size a b) (row : Option Nat) : a.grownBy b row := ⟨h.os, h.tape, h.output, h.size, fun i hi _ => h.block i hi⟩
end Go.Proofs.YtfmnaidhfgmemaaGreatDoor

namespace Go.Proofs.YtfmnaidhfgmemaaGreatDoor
open Go.RowKit
open Words
end Go.Proofs.YtfmnaidhfgmemaaGreatDoor

namespace Go.Proofs.YtfmnaidhfgmemaaGreatDoor
open Go.RowKit
def rccell (t : Int × Int × Int × Int) : List Value := [.int .i64 t.1, .int .i64 t.2.1, .int .i64 t.2.2.1, .int .i64 t.2.2.2]
def rccells (l : List (Int × Int × Int × Int)) : List Value := l.flatMap rccell
theorem rccells_app (a b : List (Int × Int × Int × Int)) : rccells (a ++ b) = rccells a ++ rccells b := by simp [rccells]
theorem rccells_cons (t : Int × Int × Int × Int) (l : List (Int × Int × Int × Int)) : rccells (t :: l) = rccell t ++ rccells l := by simp [rccells]
theorem rccells_at (l : List (Int × Int × Int × Int)) (k : Nat) (t : Int × Int × Int × Int) (h : l[k]? = some t) (j : Nat) (v : Value) (hj : (rccell t)[j]? = some v) : (rccells l)[k * 4 + j]? = some v := by
  have hlt : j < 4 := (List.getElem?_eq_some_iff.1 hj).1
  induction l generalizing k with
  | nil => simp at h
  | cons a l ih =>
    rw [rccells_cons]
    cases k with
    | zero =>
      simp at h
      subst h
      rw [List.getElem?_append_left (by show _ < 4; omega), Nat.zero_mul, Nat.zero_add]
      exact hj
    | succ k =>
      rw [List.getElem?_append_right (by show 4 ≤ _; omega), show (k + 1) * 4 + j - (rccell a).length = k * 4 + j by show _ - 4 = _; omega]
      exact ih k (by simpa using h)
theorem infoRc : (Tryz.prog.info? 90).map (fun i => (i.zero, i.size, i.bytes)) = some (some (.agg #[.int .i64 0, .int .i64 0, .int .i64 0, .int .i64 0]), 4, 32) := by kernel_rfl
end Go.Proofs.YtfmnaidhfgmemaaGreatDoor

namespace Go.Proofs.YtfmnaidhfgmemaaGreatDoor
open Go.RowKit
theorem own_below {w w' : World} {base : Nat} {e : TypeId} {size : Nat} {v : Value} {n : Nat} {xs : List Value} (h : w.ownsRow base e size v n xs) (hb : Below w.heap.size w w') : w'.ownsRow base e size v n xs := by
  obtain ⟨h1, h2⟩ := h
  refine ⟨h1, ?_⟩
  rcases h2 with h | ⟨g, cap, cur, a1, a2, a3, a4⟩
  · exact .inl h
  · have hg : g < w.heap.size := (Array.getElem?_eq_some_iff.1 a3).1
    exact .inr ⟨g, cap, cur, a1, a2, by rw [hb.block g hg]; exact a3, a4⟩
theorem own_lower {w : World} {base C : Nat} {e : TypeId} {size : Nat} {v : Value} {n : Nat} {xs : List Value} (h : w.ownsRow base e size v n xs) (hC : C ≤ base) : w.ownsRow C e size v n xs := by
  obtain ⟨h1, h2⟩ := h
  refine ⟨h1, ?_⟩
  rcases h2 with h | ⟨g, cap, cur, a1, a2, a3⟩
  · exact .inl h
  · exact .inr ⟨g, cap, cur, a1, by omega, a3⟩
end Go.Proofs.YtfmnaidhfgmemaaGreatDoor

namespace Go.Proofs.YtfmnaidhfgmemaaGreatDoor
open Go.RowKit
def Loc (lo hi : Nat) (P : World → Prop) : Prop := ∀ w w' : World, (∀ g, lo ≤ g → g < hi → w'.heap[g]? = w.heap[g]?) → P w → P w'
abbrev Hold := Nat × Nat × (World → Prop)
def Tk (w wi : World) (hs : List Hold) : Prop := Below w.heap.size w wi ∧ ∀ h ∈ hs, h.2.1 ≤ wi.heap.size ∧ Loc h.1 h.2.1 h.2.2 ∧ h.2.2 wi
theorem Tk.start (w : World) : Tk w w [] := ⟨Below.refl _ _, fun _ h => by cases h⟩
theorem Tk.below {w wi wj : World} {hs : List Hold} (h : Tk w wi hs) (hb : Below wi.heap.size wi wj) : Tk w wj hs := by
  refine ⟨h.1.trans (hb.mono h.1.size), fun x hx => ?_⟩
  obtain ⟨h1, h2, h3⟩ := h.2 x hx
  have := hb.size
  exact ⟨by omega, h2, h2 wi wj (fun g _ hg => hb.block g (by omega)) h3⟩
theorem Tk.drew {w wi : World} {hs : List Hold} (h : Tk w wi hs) : Tk w wi.drew hs := h.below (Below.refl _ _).drew
theorem Tk.get {w wi : World} {hs : List Hold} (h : Tk w wi hs) (n : Nat) {lo hi : Nat} {P : World → Prop} (hn : hs[n]? = some (lo, hi, P)) : P wi := (h.2 _ (List.mem_of_getElem? hn)).2.2
theorem Tk.hi {w wi : World} {hs : List Hold} (h : Tk w wi hs) (n : Nat) {lo hi : Nat} {P : World → Prop} (hn : hs[n]? = some (lo, hi, P)) : hi ≤ wi.heap.size := (h.2 _ (List.mem_of_getElem? hn)).1
theorem Tk.add {w wi wj : World} {hs : List Hold} (h : Tk w wi hs) (hb : Below wi.heap.size wi wj) {P : World → Prop} (hl : Loc wi.heap.size wj.heap.size P) (hp : P wj) : Tk w wj ((wi.heap.size, wj.heap.size, P) :: hs) := by
  obtain ⟨h1, h2⟩ := h.below hb
  refine ⟨h1, fun x hx => ?_⟩
  rcases List.mem_cons.1 hx with rfl | hx
  · exact ⟨Nat.le_refl _, hl, hp⟩
  · exact h2 x hx
theorem Tk.put {w wi : World} {hs : List Hold} (h : Tk w wi hs) {lo hi : Nat} {P : World → Prop} (hh : hi ≤ wi.heap.size) (hl : Loc lo hi P) (hp : P wi) : Tk w wi ((lo, hi, P) :: hs) := by
  refine ⟨h.1, fun x hx => ?_⟩
  rcases List.mem_cons.1 hx with rfl | hx
  · exact ⟨hh, hl, hp⟩
  · exact h.2 x hx
def Cel (b : Nat) (cs : Array Value) (t : TypeId) : World → Prop := fun W => W.heap[b]? = some (.cells cs t (0, 0))
theorem Cel.loc (b : Nat) (cs : Array Value) (t : TypeId) : Loc b (b + 1) (Cel b cs t) := fun _ _ hk h => (hk b (Nat.le_refl _) (by omega)).trans h
theorem Tk.cell {w wi : World} {hs : List Hold} (h : Tk w wi hs) (cs : Array Value) (t : TypeId) : Tk w (wi.alloc (.cells cs t)) ((wi.heap.size, wi.heap.size + 1, Cel wi.heap.size cs t) :: hs) := by
  have hz : (wi.alloc (.cells cs t)).heap.size = wi.heap.size + 1 := by simp
  have := h.add ((Below.refl _ _).alloc (Nat.le_refl _) (.cells cs t)) (P := Cel wi.heap.size cs t) (by rw [hz]; exact Cel.loc _ _ _) (heap_alloc_new wi _)
  rw [hz] at this
  exact this
theorem Tk.at {w wi : World} {hs : List Hold} (h : Tk w wi hs) (n : Nat) {lo hi b : Nat} {cs : Array Value} {t : TypeId} (k : Nat) {v : Value} (hn : hs[n]? = some (lo, hi, Cel b cs t)) (hk : cs[k]? = some v) : wi.cell? ⟨b, k, none⟩ = some v := by
  rw [cell_of_row _ _ k _ _ _ (h.get n hn)]
  exact hk
theorem Tk.fr {w wi : World} {hs : List Hold} (h : Tk w wi hs) (n : Nat) {lo hi b : Nat} {cs : Array Value} {t : TypeId} (k : Nat) (hn : hs[n]? = some (lo, hi, Cel b cs t)) : wi.frozen? ⟨b, k, none⟩ = false := frozen_of_row _ _ k _ _ (h.get n hn)
theorem Tk.drop {w wi : World} {hs hs' : List Hold} (h : Tk w wi hs) (hh : ∀ x ∈ hs', x ∈ hs) : Tk w wi hs' := ⟨h.1, fun x hx => h.2 x (hh x hx)⟩
theorem Tk.write {w wi : World} {hs hs' : List Hold} {lo hi b : Nat} {v : Value} {t : TypeId} (h : Tk w wi hs) (n : Nat) (hn : hs[n]? = some (lo, hi, Cel b #[v] t)) (hb : w.heap.size ≤ b) (u : Value) (hh : ∀ x ∈ hs', x ∈ hs ∧ (x.2.1 ≤ b ∨ b + 1 ≤ x.1)) :
    Tk w (wi.setCell ⟨b, 0, none⟩ u) ((b, b + 1, Cel b #[u] t) :: hs') := by
  have hc := h.get n hn
  have hlt := (Array.getElem?_eq_some_iff.1 hc).1
  have hq : Cel b #[u] t (wi.setCell ⟨b, 0, none⟩ u) := by
    show (wi.setCell ⟨b, 0, none⟩ u).heap[b]? = _
    rw [setCell_eq_setRow wi b 0 #[v] t (0, 0) u hc]
    exact setRow_heap wi b #[v] _ t _ hc
  have hs := h.1.size
  have hz : (wi.setCell ⟨b, 0, none⟩ u).heap.size = wi.heap.size := by simp [World.setCell]
  refine ⟨h.1.setCell (p := ⟨b, 0, none⟩) hb u, fun x hx => ?_⟩
  rcases List.mem_cons.1 hx with rfl | hx
  · exact ⟨by rw [hz]; exact hlt, Cel.loc _ _ _, hq⟩
  · obtain ⟨hx1, hx2⟩ := hh x hx
    obtain ⟨h1, h2, h3⟩ := h.2 x hx1
    exact ⟨by rw [hz]; exact h1, h2, h2 wi _ (fun g g1 g2 => Below.heap_setCell _ _ _ _ (fun (e : g = b) => by omega)) h3⟩
def Apt (lo hi i : Nat) : Prop := ¬ (lo ≤ i ∧ i < hi)
theorem Tk.touch {w wi wj : World} {hs hs' : List Hold} {lo hi : Nat} {Q : World → Prop} (h : Tk w wi hs) (hk : Kept2 wi wj (Apt lo hi)) (hlo : w.heap.size ≤ lo) (hhi : hi ≤ wi.heap.size) (hl : Loc lo hi Q) (hq : Q wj)
    (hh : ∀ x ∈ hs', x ∈ hs ∧ (x.2.1 ≤ lo ∨ hi ≤ x.1)) : Tk w wj ((lo, hi, Q) :: hs') := by
  have hs := hk.2.2.2.1
  have hs1 := h.1.size
  refine ⟨h.1.trans (hk.down h.1.size (fun i hi' hq => by omega)), fun x hx => ?_⟩
  rcases List.mem_cons.1 hx with rfl | hx
  · exact ⟨by show hi ≤ _; omega, hl, hq⟩
  · obtain ⟨hx1, hx2⟩ := hh x hx
    obtain ⟨h1, h2, h3⟩ := h.2 x hx1
    exact ⟨by omega, h2, h2 wi wj (fun g g1 g2 => hk.2.2.2.2 g (by omega) (fun hz => by omega)) h3⟩
theorem Tk.spoil {w wi wj : World} {hs hs' : List Hold} {lo hi : Nat} (h : Tk w wi hs) (hk : Kept2 wi wj (Apt lo hi)) (hlo : w.heap.size ≤ lo) (hhi : hi ≤ wi.heap.size) (hh : ∀ x ∈ hs', x ∈ hs ∧ (x.2.1 ≤ lo ∨ hi ≤ x.1)) : Tk w wj hs' :=
  (h.touch hk hlo hhi (Q := fun _ => True) (fun _ _ _ _ => trivial) trivial hh).drop (fun _ hx => List.mem_cons_of_mem _ hx)
theorem Tk.celln {w wi : World} {hs : List Hold} (h : Tk w wi hs) {n : Nat} (hn : wi.heap.size = n) (cs : Array Value) (t : TypeId) : Tk w (wi.alloc (.cells cs t)) ((n, n + 1, Cel n cs t) :: hs) := by
  subst hn
  exact h.cell cs t
theorem alloc_size {w : World} {n : Nat} (hn : w.heap.size = n) (o : Obj) : (w.alloc o).heap.size = n + 1 := by simp [hn]
theorem Tk.two (w : World) (c1 c2 : Array Value) (t1 t2 : TypeId) : Tk w ((w.alloc (.cells c1 t1)).alloc (.cells c2 t2)) [(w.heap.size + 1, w.heap.size + 1 + 1, Cel (w.heap.size + 1) c2 t2), (w.heap.size, w.heap.size + 1, Cel w.heap.size c1 t1)] :=
  ((Tk.start w).celln rfl c1 t1).celln (alloc_size rfl _) c2 t2
theorem Tk.three (w : World) (c1 c2 c3 : Array Value) (t1 t2 t3 : TypeId) : Tk w (((w.alloc (.cells c1 t1)).alloc (.cells c2 t2)).alloc (.cells c3 t3)) [(w.heap.size + 1 + 1, w.heap.size + 1 + 1 + 1, Cel (w.heap.size + 1 + 1) c3 t3), (w.heap.size + 1, w.heap.size + 1 + 1, Cel (w.heap.size + 1) c2 t2), (w.heap.size, w.heap.size + 1, Cel w.heap.size c1 t1)] :=
  (Tk.two w c1 c2 t1 t2).celln (alloc_size (alloc_size rfl _) _) c3 t3
end Go.Proofs.YtfmnaidhfgmemaaGreatDoor

namespace Go.Proofs.YtfmnaidhfgmemaaGreatDoor
open Go.RowKit
open Words
end Go.Proofs.YtfmnaidhfgmemaaGreatDoor

namespace Go.Proofs.YtfmnaidhfgmemaaGreatDoor
open Go.RowKit
open Words
def Words.Pg.tu (p : Pg) : Int × Int × Int × Int × Int × ByteArray := (p.kind, p.seq, p.tx, p.part, p.count, p.text)
def PgOut (w : World) (Q : List Pg) (ok : Bool) (e : Ending) (w' : World) : Prop :=
  ∃ uv, e = .returned (.tuple #[uv, .bool ok]) ∧ w'.ownsRow w.heap.size 92 6 uv Q.length (pgcells (Q.map Pg.tu)) ∧ Below w.heap.size w w'
def gcels (gs : List (List Rc)) : List Value := gs.map (fun g => Value.string (recsB g))
theorem gcels_snoc (gs : List (List Rc)) (g : List Rc) : gcels gs ++ [Value.string (recsB g)] = gcels (gs ++ [g]) := by simp [gcels]
theorem gcels_set (gs : List (List Rc)) (g g' : List Rc) (m : Nat) (hm : gs.length = m) : (gcels (gs ++ [g])).set m (Value.string (recsB g')) = gcels (gs ++ [g']) := by
  subst hm
  simp [gcels, List.set_append_right]
def TS (w W : World) (uv : Value) (gs : List (List Rc)) : Prop :=
  Below w.heap.size w W ∧ W.heap[w.heap.size]? = some (.cells #[] 92 (0, 0)) ∧ W.ownsRow (w.heap.size + 1) 9 1 uv gs.length (gcels gs)
theorem TS.below {w W W' : World} {uv : Value} {gs : List (List Rc)} (h : TS w W uv gs) (b : Below W.heap.size W W') : TS w W' uv gs :=
  ⟨h.1.trans (b.mono h.1.size), (b.block _ (Array.getElem?_eq_some_iff.1 h.2.1).1).trans h.2.1, own_below h.2.2 b⟩
theorem TS.start (w : World) : TS w ((w.alloc (.cells #[] 92)).alloc (.cells #[.string ⟨#[]⟩] 9)) (.slice (some ⟨w.heap.size + 1, 0, none⟩) 1 1) [[]] := by
  have hz : (w.alloc (.cells #[] 92)).heap.size = w.heap.size + 1 := by simp
  have h1 := heap_alloc_new (w.alloc (.cells #[] 92)) (.cells #[.string ⟨#[]⟩] 9)
  rw [hz] at h1
  refine ⟨((Below.refl _ _).alloc (Nat.le_refl _) _).alloc (by simp) _, ?_, rfl, .inr ⟨w.heap.size + 1, 1, #[.string ⟨#[]⟩], rfl, Nat.le_refl _, h1, Nat.le_refl _, by unfold maxLen; omega, rfl, rfl⟩⟩
  exact (Below.heap_alloc (w.alloc (.cells #[] 92)) (.cells #[.string ⟨#[]⟩] 9) w.heap.size (by simp)).trans (heap_alloc_new w (.cells #[] 92))
theorem TS.grown {w W y : World} {uv u' : Value} {gs gs' : List (List Rc)} (h : TS w W uv gs) (hg : W.grownBy y uv.ownBlock) (ho : y.ownsRow (w.heap.size + 1) 9 1 u' gs'.length (gcels gs')) : TS w y u' gs' := by
  obtain ⟨h1, h2, h3⟩ := h
  have hlt := (Array.getElem?_eq_some_iff.1 h2).1
  refine ⟨h1.grown hg h1.size (fun k hk => Nat.le_of_succ_le (h3.lt k hk).1), ?_, ho⟩
  refine (hg.block _ hlt (fun e => ?_)).trans h2
  have := (h3.lt _ e.symm).1
  omega
theorem TS.none {w W : World} {uv : Value} {gs : List (List Rc)} (h : TS w W uv gs) : W.ownsRow w.heap.size 92 6 (.slice (some ⟨w.heap.size, 0, Option.none⟩) 0 0) ([] : List Pg).length (pgcells (([] : List Pg).map Pg.tu)) :=
  ⟨rfl, .inr ⟨w.heap.size, 0, #[], rfl, Nat.le_refl _, h.2.1, Nat.le_refl _, by unfold maxLen; omega, rfl, rfl⟩⟩
theorem TS.len {w W : World} {g n c : Nat} {gs : List (List Rc)} (h : TS w W (.slice (some ⟨g, 0, Option.none⟩) n c) gs) : gs.length = n := by
  rcases h.2.2.2 with ⟨e, -⟩ | ⟨_, _, _, e, -⟩
  · simp at e
  · simp at e; exact e.2.1.symm
theorem TS.at_ {w W : World} {g n c m : Nat} {gs : List (List Rc)} (h : TS w W (.slice (some ⟨g, 0, Option.none⟩) n c) gs) {x : List Rc} (hx : gs[m]? = some x) : W.cell? ⟨g, m, Option.none⟩ = some (.string (recsB x)) := by
  have := h.2.2.cells (g := g) rfl m (.string (recsB x)) (by simp [gcels, hx])
  rwa [addr_at] at this
theorem TS.stored {w W : World} {g n c m : Nat} {gs : List (List Rc)} {x y : List Rc} (h : TS w W (.slice (some ⟨g, 0, Option.none⟩) n c) (gs ++ [x])) (hm : gs.length = m) : TS w (W.setCell ⟨g, m, Option.none⟩ (.string (recsB y))) (.slice (some ⟨g, 0, Option.none⟩) n c) (gs ++ [y]) := by
  have hl := h.len
  have h3 := h.2.2
  rw [hl] at h3
  obtain ⟨h4, h5⟩ := h3.stored m (.string (recsB y))
  rw [gcels_set gs x y m hm] at h4
  refine TS.grown h h5 ?_
  rw [show (gs ++ [y]).length = n by simpa using hl]
  exact h4
theorem infoText : (Tryz.prog.info? 9).map (fun i => (i.zero, i.size, i.bytes)) = some (some (.string ⟨#[]⟩), 1, 16) := by kernel_rfl
theorem one_text (x : ByteArray) : ∀ u ∈ [Value.string x], u.oneCell' = true := by
  intro u hu; simp at hu; subst hu; rfl
def PSx (w W : World) (uv : Value) (gs : List (List Rc)) (ov : Value) (Q : List Pg) : Prop :=
  TS w W uv gs ∧ W.ownsRow (w.heap.size + 1) 92 6 ov Q.length (pgcells (Q.map Pg.tu))
theorem PSx.below {w W W' : World} {uv ov : Value} {gs : List (List Rc)} {Q : List Pg} (h : PSx w W uv gs ov Q) (b : Below W.heap.size W W') : PSx w W' uv gs ov Q :=
  ⟨h.1.below b, own_below h.2 b⟩
theorem PSx.grown {w W y : World} {uv ov o' : Value} {gs : List (List Rc)} {Q Q' : List Pg} (h : PSx w W uv gs ov Q) (hg : W.grownBy y ov.ownBlock) (ho : y.ownsRow (w.heap.size + 1) 92 6 o' Q'.length (pgcells (Q'.map Pg.tu))) : PSx w y uv gs o' Q' := by
  obtain ⟨⟨h1, h2, h3⟩, h4⟩ := h
  have hlt := (Array.getElem?_eq_some_iff.1 h2).1
  refine ⟨⟨h1.grown hg h1.size (fun k hk => Nat.le_of_succ_le (h4.lt k hk).1), ?_, ?_⟩, ho⟩
  · refine (hg.block _ hlt (fun e => ?_)).trans h2
    have := (h4.lt _ e.symm).1
    omega
  · refine h3.kept hg ?_
    cases hu : uv.ownBlock with
    | none => exact .inl rfl
    | some a =>
      refine .inr fun e => ?_
      rcases h3.2 with ⟨rfl, -⟩ | ⟨g3, c3, cu3, rfl, -, q3, -⟩
      · cases hu
      · rcases h4.2 with ⟨rfl, -⟩ | ⟨g4, c4, cu4, rfl, -, q4, -⟩
        · cases e
        · simp only [Value.ownBlock, Option.some.injEq] at hu e
          subst hu
          subst e
          rw [q3] at q4
          injection q4 with q4
          injection q4 with _ q4
          simp at q4
theorem PSx.start {w W : World} {uv : Value} {gs : List (List Rc)} (h : TS w W uv gs) : PSx w (W.alloc (.cells #[] 92)) uv gs (.slice (some ⟨W.heap.size, 0, Option.none⟩) 0 0) [] :=
  ⟨h.below ((Below.refl _ _).alloc (Nat.le_refl _) _), rfl, .inr ⟨W.heap.size, 0, #[], rfl, (Array.getElem?_eq_some_iff.1 h.2.1).1, heap_alloc_new W _, Nat.le_refl _, by unfold maxLen; omega, rfl, rfl⟩⟩
theorem pg_new (W : World) (p : Pg) (g : Nat) (hg : W.heap.size = g) : ∀ (j : Nat) (u : Value), (pgcell p.tu)[j]? = some u → (W.alloc (.cells #[.int .i64 p.kind, .int .i64 p.seq, .int .i64 p.tx, .int .i64 p.part, .int .i64 p.count, .string p.text] 92)).cell? ((⟨g, 0, Option.none⟩ : Addr).add j) = some u := by
  intro j u hj
  subst hg
  match j, hj with
  | 0, hj | 1, hj | 2, hj | 3, hj | 4, hj | 5, hj =>
    simp [pgcell, Pg.tu] at hj
    subst hj
    simp [Addr.add]
theorem pg_one (p : Pg) : ∀ u ∈ pgcell p.tu, u.oneCell' = true := by
  intro u hu
  simp [pgcell] at hu
  rcases hu with h | h | h | h | h | h <;> subst h <;> rfl
theorem pg_snoc (Q : List Pg) (p : Pg) : pgcells (Q.map Pg.tu) ++ pgcell p.tu = pgcells ((Q ++ [p]).map Pg.tu) := by
  rw [List.map_append, pgcells_app]
  simp [pgcells]
end Go.Proofs.YtfmnaidhfgmemaaGreatDoor

namespace Go.Proofs.YtfmnaidhfgmemaaGreatDoor
open Go.RowKit
theorem row_set {w : World} {g : Nat} {cs : Array Value} {t : TypeId} (h : w.heap[g]? = some (.cells cs t (0, 0))) (i : Nat) (u : Value) : (w.setCell ⟨g, i, none⟩ u).heap[g]? = some (.cells (cs.setIfInBounds i u) t (0, 0)) := by
  rw [setCell_eq_setRow w g i cs t (0, 0) u h]
  exact setRow_heap w g cs _ t _ h
theorem row_set_ne {w : World} {g g' : Nat} {o : Obj} (h : w.heap[g]? = some o) (hn : g ≠ g') (i : Nat) (u : Value) : (w.setCell ⟨g', i, none⟩ u).heap[g]? = some o := (Below.heap_setCell _ _ _ _ hn).trans h
theorem own_down {w : World} {B B' : Nat} {e : TypeId} {size n : Nat} {v : Value} {xs : List Value} (h : w.ownsRow B e size v n xs) (hb : B' ≤ B) : w.ownsRow B' e size v n xs := by
  obtain ⟨h1, h2⟩ := h
  refine ⟨h1, ?_⟩
  rcases h2 with h | ⟨g, cap, cur, rfl, a2, a3⟩
  · exact .inl h
  · exact .inr ⟨g, cap, cur, rfl, by omega, a3⟩
theorem own_cell {w : World} {B : Nat} {e : TypeId} {size n : Nat} {v : Value} {xs : List Value} (h : w.ownsRow B e size v n xs) {g : Nat} (hg : g < B) (i : Nat) (u : Value) : (w.setCell ⟨g, i, none⟩ u).ownsRow B e size v n xs := by
  obtain ⟨h1, h2⟩ := h
  refine ⟨h1, ?_⟩
  rcases h2 with h | ⟨g', cap, cur, rfl, a2, a3, a4⟩
  · exact .inl h
  · exact .inr ⟨g', cap, cur, rfl, a2, row_set_ne a3 (by omega) _ _, a4⟩
theorem own_block_lt {w : World} {B : Nat} {e : TypeId} {size n : Nat} {v : Value} {xs : List Value} (h : w.ownsRow B e size v n xs) : ∀ g, v.ownBlock = some g → B ≤ g ∧ g < w.heap.size := by
  intro g hg
  exact h.lt g hg
theorem fown_set {w : World} {base : Nat} {e : TypeId} {size n : Nat} {v : Value} {xs : List Value} {g cap : Nat} (h : w.ownsRow base e size v n xs) (hv : v = .slice (some ⟨g, 0, none⟩) n cap) (k : Nat) (u : Value) :
    (w.setCell ⟨g, k, none⟩ u).ownsRow base e size v n (xs.set k u) := by
  obtain ⟨h1, h2⟩ := h
  refine ⟨by simpa using h1, ?_⟩
  rcases h2 with ⟨h3, -⟩ | ⟨g', cap', cur, h3, h4, h5, h6, h7, h8, h9⟩
  · rw [hv] at h3; cases h3
  · right
    have hg : g' = g := by rw [hv] at h3; injection h3 with a; simp at a; exact a.symm
    subst hg
    refine ⟨g', cap', cur.setIfInBounds k u, h3, h4, ?_, h6, h7, by simpa using h8, ?_⟩
    · rw [setCell_eq_setRow w g' k cur e (0, 0) u h5]
      exact setRow_heap w g' cur _ e _ h5
    · rw [Array.toList_setIfInBounds, List.take_set, h9]
theorem grown_cell (w : World) (g k : Nat) (u : Value) : w.grownBy (w.setCell ⟨g, k, none⟩ u) (some g) :=
  ⟨rfl, rfl, rfl, by simp [World.setCell], fun i _ hi => Below.heap_setCell _ _ _ _ (fun e => hi (by rw [e]))⟩
end Go.Proofs.YtfmnaidhfgmemaaGreatDoor
