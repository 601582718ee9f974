/-
  IReadRec; IReadRecs
-/
import Derived.Test.YtogfdhfmamabiaaIRecOk
import Derived.Test.YtogfdhfmamabiaaPk8
import Derived.Deep.RegionWith
import Derived.Test.YtogfdhfmamabiaaSReadRecs
/-
  impl.readRec.
-/
namespace Go.Proofs.Ytogfdhfmamabiaa
open Go.RowKit
open Words

/-- A record in a block. -/
def RcAt (W : World) (g : Nat) (r : Rc) : Prop := W.heap[g]? = some (.cells #[.int .i64 r.kind, .int .i64 r.vol, .int .i64 r.arg, .int .i64 r.chunk] 34 (0, 0))
theorem RcAt.lt {W : World} {g : Nat} {r : Rc} (h : RcAt W g r) : g < W.heap.size := (Array.getElem?_eq_some_iff.1 h).1
theorem RcAt.below {W W' : World} {g : Nat} {r : Rc} (h : RcAt W g r) (b : Below W.heap.size W W') : RcAt W' g r := (b.block g h.lt).trans h
theorem RcAt.cells {W : World} {g : Nat} {r : Rc} (h : RcAt W g r) :
    W.cell? ⟨g, 0, none⟩ = some (.int .i64 r.kind) ∧ W.cell? ⟨g, 1, none⟩ = some (.int .i64 r.vol) ∧ W.cell? ⟨g, 2, none⟩ = some (.int .i64 r.arg) ∧ W.cell? ⟨g, 3, none⟩ = some (.int .i64 r.chunk) :=
  ⟨cell_of_row _ _ 0 _ _ _ h, cell_of_row _ _ 1 _ _ _ h, cell_of_row _ _ 2 _ _ _ h, cell_of_row _ _ 3 _ _ _ h⟩
theorem RcAt.free {W : World} {g : Nat} {r : Rc} (h : RcAt W g r) :
    W.frozen? ⟨g, 0, none⟩ = false ∧ W.frozen? ⟨g, 1, none⟩ = false ∧ W.frozen? ⟨g, 2, none⟩ = false ∧ W.frozen? ⟨g, 3, none⟩ = false :=
  ⟨frozen_of_row _ _ 0 _ _ h, frozen_of_row _ _ 1 _ _ h, frozen_of_row _ _ 2 _ _ h, frozen_of_row _ _ 3 _ _ h⟩
theorem RcAt.set {W : World} {g : Nat} {r : Rc} (h : RcAt W g r) (k v a c : Int) :
    RcAt ((((W.setCell ⟨g, 0, none⟩ (.int .i64 k)).setCell ⟨g, 1, none⟩ (.int .i64 v)).setCell ⟨g, 2, none⟩ (.int .i64 a)).setCell ⟨g, 3, none⟩ (.int .i64 c)) g ⟨k, v, a, c⟩ :=
  heap_setCell_same _ _ _ _ _ _ (heap_setCell_same _ _ _ _ _ _ (heap_setCell_same _ _ _ _ _ _ (heap_setCell_same _ _ _ _ _ _ h)))
theorem below_rc {B g : Nat} {a w : World} {x y z u : Value} (h : Below B a w) (hg : B ≤ g) : Below B a ((((w.setCell ⟨g, 0, none⟩ x).setCell ⟨g, 1, none⟩ y).setCell ⟨g, 2, none⟩ z).setCell ⟨g, 3, none⟩ u) :=
  (((h.setCell (p := ⟨g, 0, none⟩) hg x).setCell (p := ⟨g, 1, none⟩) hg y).setCell (p := ⟨g, 2, none⟩) hg z).setCell (p := ⟨g, 3, none⟩) hg u
theorem infoRcS : (Try.prog.info? 34).map (·.size) = some 4 := by kernel_rfl
theorem results_rec3 {fn : Func} {p q r : Tmp} (h : fn.results = #[.cell p 34, .tmp q, .tmp r]) (tmps : Array Value) (w : World) (g : Nat) (x : Rc)
    (hp : tmps.getD p undef = .pointer (some ⟨g, 0, none⟩)) (hc : RcAt w g x) :
    (results fn tmps).run Try.prog w = .ok (.tuple #[rcVal x, tmps.getD q undef, tmps.getD r undef]) w := by
  have hp' : tmps[p]?.getD undef = .pointer (some ⟨g, 0, none⟩) := by simpa using hp
  have hl := run_loadVar_row (P := Try.prog) w g 34 34 _ _ _ hc Try.underlying34 rfl infoRcS
  simp [results, h, hp', asAddr, hl, rcVal]

/-- What readRec answers. -/
def RdRec (w : World) (t : ByteArray) (q : Nat) (e : Ending) (w' : World) : Prop :=
  ∃ (r : Rc) (j : Nat) (ok : Bool), e = .returned (.tuple #[rcVal r, .int .i64 j, .bool ok]) ∧ rec1 t.data.toList q = (if ok = true then some (r, j) else none) ∧ Below w.heap.size w w'

/-- The result's cell and the record that was read, in two blocks of the call's own. -/
def RPr (w W : World) (r : Rc) : Prop := Below w.heap.size w W ∧ RcAt W w.heap.size ⟨0, 0, 0, 0⟩ ∧ RcAt W (w.heap.size + 1) r
theorem RPr.next {w W W' : World} {r : Rc} (h : RPr w W r) (b : Below W.heap.size W W') : RPr w W' r := ⟨h.1.trans (b.mono h.1.size), h.2.1.below b, h.2.2.below b⟩
theorem RPr.drew {w W : World} {r : Rc} (h : RPr w W r) : RPr w W.drew r := ⟨h.1.drew, h.2.1, h.2.2⟩

set_option maxHeartbeats 1000000 in
set_option maxRecDepth 100000 in
theorem ireadRec (t : ByteArray) (q : Nat) (w : World) (hs : t.size ≤ 1048576) (hq : q < t.size) :
    Calls Try.prog 82 #[.string t, .int .i64 q] w (RdRec w t q) := by
  have hqi : (q : Int) < t.size := by omega
  obtain ⟨c, hcc⟩ : ∃ c : Nat, t[q].toNat = c := ⟨_, rfl⟩
  have hc8 : c < 256 := by rw [← hcc]; exact UInt8.toNat_lt _
  have hb : t.data.toList[q]? = some t[q] := List.getElem?_eq_some_iff.2 ⟨by simpa using hq, rfl⟩
  obtain ⟨k, hk⟩ : ∃ k, k = c / 16 := ⟨_, rfl⟩
  obtain ⟨v, hv⟩ : ∃ v, v = c % 16 := ⟨_, rfl⟩
  have ek : (c : Int).tdiv 16 = (k : Int) := by rw [hk]; rfl
  have ev : (c : Int).tmod 16 = (v : Int) := by rw [hv]; rfl
  have ek2 : (c : Int) / 16 = (k : Int) := by omega
  have ev2 : (c : Int) % 16 = (v : Int) := by omega
  have k16 : k < 16 := by omega
  have v16 : v < 16 := by omega
  have HR : Hid (rec1 t.data.toList q = match readV t.data.toList (q + 1) with
      | none => none
      | some (a, i) => match readV t.data.toList i with
        | none => none
        | some (c, j) => letI := (Rc.mk k v a c).decR; if (Rc.mk k v a c).Right then some (Rc.mk k v a c, j) else none) := by
    show _ = _
    unfold rec1
    simp only [hb]
    rw [show t[q].toNat / 16 = k by rw [hcc, hk], show t[q].toNat % 16 = v by rw [hcc, hv]]
    rfl
  clear hk hv hb
  have HZ := hide (show RcAt (w.alloc (.cells #[.int .i64 0, .int .i64 0, .int .i64 0, .int .i64 0] 34)) w.heap.size ⟨0, 0, 0, 0⟩ from heap_alloc_new w _)
  have BZ := hide ((Below.refl w.heap.size w).alloc (Nat.le_refl _) (.cells #[.int .i64 0, .int .i64 0, .int .i64 0, .int .i64 0] 34))
  obtain ⟨q1, hq1⟩ : ∃ q1, q + 1 = q1 := ⟨_, rfl⟩
  have hq1s : q1 ≤ t.size := by omega
  have V1 := hide (fun W => implRead t q1 W hs hq1s)
  rw [hq1] at HR
  have ea : ((q : Int) + 1) = (q1 : Int) := by omega
  cases h1 : readV t.data.toList q1 with
  | none =>
    rw [h1] at HR V1
    change Hid (∀ W, Calls Try.prog 90 #[.string t, .int .i64 q1] W fun e w' => e = .returned (.tuple #[.int .i64 0, .int .i64 0, .bool false]) ∧ w' = W) at V1
    clear h1
    go_enter Try.func82, Try.ntmps82
    go_wp2_with fail
    refine (V1.out _).mono ?_
    rintro e w1 ⟨rfl, rfl⟩
    go_wp2
    exact bodyPost_ret (results_rec3 rfl _ _ w.heap.size _ rfl HZ.out) rfl ⟨⟨0, 0, 0, 0⟩, 0, false, rfl, HR.out, BZ.out⟩
  | some x =>
    obtain ⟨a, i⟩ := x
    have hi := readV_le t.data.toList q1 a i (by simpa using hq1s) h1
    have hi2 : i ≤ t.size := by simpa using hi.1
    have ha9 : a ≤ 1000000000 := hi.2
    have V2 := hide (fun W => implRead t i W hs hi2)
    rw [h1] at HR V1
    change Hid (∀ W, Calls Try.prog 90 #[.string t, .int .i64 q1] W fun e w' => e = .returned (.tuple #[.int .i64 a, .int .i64 i, .bool true]) ∧ w' = W) at V1
    simp only at HR
    clear h1 hi
    cases h2 : readV t.data.toList i with
    | none =>
      rw [h2] at HR V2
      change Hid (∀ W, Calls Try.prog 90 #[.string t, .int .i64 i] W fun e w' => e = .returned (.tuple #[.int .i64 0, .int .i64 0, .bool false]) ∧ w' = W) at V2
      clear h2
      go_enter Try.func82, Try.ntmps82
      go_wp2_with fail
      refine (V1.out _).mono ?_
      rintro e w1 ⟨rfl, rfl⟩
      go_wp2_with fail
      refine (V2.out _).mono ?_
      rintro e w2 ⟨rfl, rfl⟩
      go_wp2
      exact bodyPost_ret (results_rec3 rfl _ _ w.heap.size _ rfl HZ.out) rfl ⟨⟨0, 0, 0, 0⟩, 0, false, rfl, HR.out, BZ.out⟩
    | some y =>
      obtain ⟨d, j⟩ := y
      rw [h2] at HR V2
      change Hid (∀ W, Calls Try.prog 90 #[.string t, .int .i64 i] W fun e w' => e = .returned (.tuple #[.int .i64 d, .int .i64 j, .bool true]) ∧ w' = W) at V2
      simp only at HR
      clear h2
      have CK := hide (irecOk (Rc.mk k v a d))
      unfold rcVal at CK
      simp only at CK
      obtain ⟨o, ho⟩ : ∃ o, @decide (Rc.mk k v a d).Right (Rc.mk k v a d).decR = o := ⟨_, rfl⟩
      rw [ho] at CK
      have HR2 : Hid (rec1 t.data.toList q = if o = true then some (Rc.mk k v a d, j) else none) := by
        show _ = _
        rw [HR.out, ← ho]
        by_cases h : (Rc.mk k v a d).Right <;> simp [h]
      clear ho HR
      go_enter Try.func82, Try.ntmps82
      go_wp2_with fail
      refine (V1.out _).mono ?_
      rintro e w1 ⟨rfl, rfl⟩
      go_wp2_with fail
      refine (V2.out _).mono ?_
      rintro e w2 ⟨rfl, rfl⟩
      clear V1 V2 hcc
      go_wp2_with fail
      have B1 := hide (BZ.out.alloc BZ.out.size (.cells #[.int .i64 k, .int .i64 v, .int .i64 a, .int .i64 d] 34))
      have Z1 := hide (HZ.out.below ((Below.refl _ _).alloc (Nat.le_refl _) (.cells #[.int .i64 k, .int .i64 v, .int .i64 a, .int .i64 d] 34)))
      have S1 := hide (show RcAt ((w.alloc (.cells #[.int .i64 0, .int .i64 0, .int .i64 0, .int .i64 0] 34)).alloc (.cells #[.int .i64 k, .int .i64 v, .int .i64 a, .int .i64 d] 34)) (w.heap.size + 1) ⟨k, v, a, d⟩ by have := heap_alloc_new (w.alloc (.cells #[.int .i64 0, .int .i64 0, .int .i64 0, .int .i64 0] 34)) (.cells #[.int .i64 k, .int .i64 v, .int .i64 a, .int .i64 d] 34); simpa [RcAt] using this)
      generalize (w.alloc (.cells #[.int .i64 0, .int .i64 0, .int .i64 0, .int .i64 0] 34)).alloc (.cells #[.int .i64 k, .int .i64 v, .int .i64 a, .int .i64 d] 34) = x1 at B1 Z1 S1 ⊢
      clear HZ BZ
      have P1 : Hid (RPr w x1 ⟨k, v, a, d⟩) := ⟨B1.out, Z1.out, S1.out⟩
      clear B1 Z1 S1
      have fz := P1.out.2.1.free
      obtain ⟨f0, f1, f2, f3⟩ := fz
      obtain ⟨c0, c1, c2, c3⟩ := P1.out.2.1.cells
      obtain ⟨d0, d1, d2, d3⟩ := P1.out.2.2.cells
      go_region_with (first
        | (go_at_call 75; (with_reducible refine Calls.mono (CK.out _) ?_); rintro e x2 ⟨rfl, b2⟩; have P2 := hide (RPr.next (by first | exact P1.out | exact P1.out.drew) b2); clear b2; obtain ⟨f0, f1, f2, f3⟩ := P2.out.2.1.free; obtain ⟨c0, c1, c2, c3⟩ := P2.out.2.1.cells; obtain ⟨d0, d1, d2, d3⟩ := P2.out.2.2.cells))
      all_goals
        go_wp2
        refine bodyPost_ret (results_rec3 rfl _ _ w.heap.size ⟨k, v, a, d⟩ rfl ?_) rfl ⟨⟨k, v, a, d⟩, j, o, rfl, HR2.out, ?_⟩
        · first | exact P2.out.2.1.set k v a d
        · first | exact below_rc P2.out.1 (Nat.le_refl _) | exact below_rc P2.out.1.drew (Nat.le_refl _) | exact (below_rc P2.out.1 (Nat.le_refl _)).drew
end Go.Proofs.Ytogfdhfmamabiaa

/-
  impl.ReadRecs.
-/
namespace Go.Proofs.Ytogfdhfmamabiaa
open Go.RowKit
open Words

/-- The row of records that was read so far. -/
def RO (w W : World) (uv : Value) (acc : List Rc) : Prop := Below w.heap.size w W ∧ W.ownsRow w.heap.size 34 4 uv acc.length (rccells (acc.map Rc.tu))
theorem RO.below {w W W' : World} {uv : Value} {acc : List Rc} (h : RO w W uv acc) (b : Below W.heap.size W W') : RO w W' uv acc :=
  ⟨h.1.trans (b.mono h.1.size), own_kept h.2 (fun i hi _ => b.block i hi)⟩
theorem rc_new2 (W : World) (r : Rc) (g : Nat) (hg : W.heap.size + 1 = g) : ∀ (j : Nat) (u : Value), [Value.int .i64 r.kind, Value.int .i64 r.vol, Value.int .i64 r.arg, Value.int .i64 r.chunk][j]? = some u → ((W.alloc (.cells #[.int .i64 r.kind, .int .i64 r.vol, .int .i64 r.arg, .int .i64 r.chunk] 34)).alloc (.cells #[.int .i64 r.kind, .int .i64 r.vol, .int .i64 r.arg, .int .i64 r.chunk] 34)).cell? ((⟨g, 0, none⟩ : Addr).add j) = some u :=
  rc_new (W.alloc (.cells #[.int .i64 r.kind, .int .i64 r.vol, .int .i64 r.arg, .int .i64 r.chunk] 34)) r g (by simpa using hg)

set_option maxHeartbeats 1000000 in
set_option maxRecDepth 100000 in
theorem ireadRecs (t : ByteArray) (w : World) (hs : t.size ≤ 1048576) :
    Calls Try.prog 60 #[.string t] w (RcOut w t) := by
  go_enter Try.func60, Try.ntmps60
  go_wp2
  go_loopw [4, 5] (fun uv iv wr => ∃ (q : Nat) (acc : List Rc), iv = .int .i64 q ∧ acc.length ≤ q ∧ q ≤ t.size ∧ Hid (RO w wr uv acc) ∧ Hid (recs t.data.toList 0 = (recs t.data.toList q).map (acc ++ ·))) (fun _ iv _ => t.size - (intOf iv).toNat)
  case atStart => exact ⟨0, [], rfl, Nat.le_refl _, Nat.zero_le _, ⟨Below.refl _ _, World.ownsRow_nil _ _ _ _⟩, by show _ = Option.map _ _; cases recs t.data.toList 0 <;> simp⟩
  case round =>
    obtain ⟨q, acc, rfl, ha, hq, R, E⟩ := hrel
    by_cases hlt : (q : Int) < t.size
    · have hqt : q < t.size := by omega
      go_wp2_with fail
      refine (ireadRec t q _ hs hqt).mono ?_
      rintro e x1 ⟨r, j, ok, rfl, hr, b1⟩
      have R1 := hide (R.out.below b1)
      clear b1 R
      cases ok with
      | false =>
        have HN : Hid (recs t.data.toList q = none) := recs_none (by simpa using hqt) (by simpa using hr)
        unfold rcVal
        have B := hide (R1.out.1.alloc R1.out.1.size (.cells #[.int .i64 r.kind, .int .i64 r.vol, .int .i64 r.arg, .int .i64 r.chunk] 34))
        clear hr
        go_wp2
        go_ret2
        exact ⟨_, [], false, rfl, World.ownsRow_nil _ _ _ _, B.out, .inl ⟨by rw [E.out, HN.out]; rfl, rfl, rfl⟩⟩
      | true =>
        have hrec : rec1 t.data.toList q = some (r, j) := by simpa using hr
        obtain ⟨-, -, hqj, hjl, -⟩ := rec1_cut hrec
        have hjl2 : j ≤ t.size := by simpa using hjl
        have E' : Hid (recs t.data.toList 0 = (recs t.data.toList j).map ((acc ++ [r]) ++ ·)) := by
          show _ = _
          rw [E.out, recs_some hrec]
          cases recs t.data.toList j <;> simp
        clear hr hrec E hjl
        have HN := hide (rc_new2 x1 r (x1.heap.size + 1) rfl)
        have HO := hide (rc_one r)
        have R2 := hide ((R1.out.below ((Below.refl _ _).alloc (Nat.le_refl _) (.cells #[.int .i64 r.kind, .int .i64 r.vol, .int .i64 r.arg, .int .i64 r.chunk] 34))).below ((Below.refl _ _).alloc (Nat.le_refl _) (.cells #[.int .i64 r.kind, .int .i64 r.vol, .int .i64 r.arg, .int .i64 r.chunk] 34)))
        have HZ := hide R2.out.1.size
        have OW := hide R2.out.2
        obtain ⟨k, v, a, d⟩ := r
        unfold rcVal
        simp only at *
        clear R1
        obtain ⟨i0, hi0, hz0, hz1, hz2⟩ := info_parts infoRc
        have I0 := hide hi0
        have Z0 := hide hz0
        have Z1 := hide hz1
        have Z2 := hide hz2
        clear hi0 hz0 hz1 hz2
        go_wp2_with (at_builtin; refine wpList_append_own _ rfl _ _ 29 rfl w.heap.size 34 i0 (.agg #[.int .i64 0, .int .i64 0, .int .i64 0, .int .i64 0]) 4 32 Try.underlying29 I0.out Z0.out Z1.out Z2.out rfl (by decide) _ acc.length (rccells (acc.map Rc.tu)) rfl OW.out ⟨x1.heap.size + 1, 0, none⟩ 1 1 [Value.int .i64 k, Value.int .i64 v, Value.int .i64 a, Value.int .i64 d] rfl rfl HN.out HO.out ?m1 ?m2 HZ.out ?_)
        case m1 => unfold maxLen; omega
        case m2 => omega
        intro u' y ho hg _
        have es := rc_snoc acc (Rc.mk k v a d)
        simp only at es
        rw [es, show acc.length + 1 = (acc ++ [Rc.mk k v a d]).length by simp] at ho
        have RN : Hid (RO w y u' (acc ++ [Rc.mk k v a d])) := ⟨R2.out.1.grown hg R2.out.1.size (fun k hk => (R2.out.2.lt k hk).1), ho⟩
        have hll : (acc ++ [Rc.mk k v a d]).length = acc.length + 1 := by simp
        generalize acc ++ [Rc.mk k v a d] = acc' at RN hll ho E'
        clear ho hg HN HO HZ OW es I0 Z0 Z1 Z2 R2
        go_wp2
        go_roundw
        case rel => exact ⟨j, acc', rfl, by omega, hjl2, RN, E'⟩
        case measure => simp [intOf]; omega
    · have hq2 : q = t.size := by omega
      have HN : Hid (recs t.data.toList q = some []) := recs_end (show t.size ≤ q by omega)
      go_wp2_with fail
      go_ret2
      exact ⟨_, acc, true, rfl, R.out.2, R.out.1, .inr ⟨by rw [E.out, HN.out]; simp, rfl⟩⟩
end Go.Proofs.Ytogfdhfmamabiaa
