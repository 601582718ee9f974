/-
  StsM; GsM; IRecOk
-/
import Derived.Test.YtcnaahajaaifjaaPq12
import Derived.Test.YtcnaahajaaifjaaPq10
import Derived.Test.YtcnaahajaaifjaaPq20
/-
  A store among what a law holds.
-/
namespace Go.Proofs.Ytcnaahajaaifjaa
open Go.RowKit
open Words

/-- A store in blocks lo to hi. -/
def Sts (lo hi : Nat) (v : Value) (s : Sto) : World → Prop := fun W =>
  ∃ vv kv lo1 hi1 lo2 hi2, v = .agg #[vv, kv, .int .i64 s.next] ∧ Sli 49 lo1 hi1 vv s.vols.length (vlcells s.vols) W ∧ Kns lo2 hi2 kv s.kns W ∧ lo ≤ lo1 ∧ hi1 ≤ hi ∧ lo ≤ lo2 ∧ hi2 ≤ hi ∧ (hi1 ≤ lo2 ∨ hi2 ≤ lo1)
theorem Sts.loc (lo hi : Nat) (v : Value) (s : Sto) : Loc lo hi (Sts lo hi v s) := by
  rintro w w' hk ⟨vv, kv, lo1, hi1, lo2, hi2, e, h1, h2, h3, h4, h5, h6, h7⟩
  exact ⟨vv, kv, lo1, hi1, lo2, hi2, e, Sli.loc _ _ _ _ _ _ w w' (fun g g1 g2 => hk g (by omega) (by omega)) h1, Kns.loc _ _ _ _ w w' (fun g g1 g2 => hk g (by omega) (by omega)) h2, h3, h4, h5, h6, h7⟩
theorem StOut.sts {w w' : World} {v : Value} {s : Sto} (h : StOut w s v w') : Sts w.heap.size w'.heap.size v s w' := by
  obtain ⟨vv, kv, lo1, hi1, lo2, hi2, e, h1, h2, h3, h4, h5, h6, h7, -⟩ := h
  exact ⟨vv, kv, lo1, hi1, lo2, hi2, e, h1, h2, h3, h4, h5, h6, h7⟩
theorem Sts.rd {lo hi : Nat} {W : World} {v : Value} {s : Sto} (h : Sts lo hi v s W) (hf : s.Fit) (hh : hi ≤ W.heap.size) : StIn W v s := by
  obtain ⟨vv, kv, lo1, hi1, lo2, hi2, rfl, h1, h2, h3, h4, h5, h6, h7⟩ := h
  obtain ⟨va, vc, rfl, h9, h10⟩ := VlSl.of h1 (by have := hf.1; unfold maxLen; omega) (by omega)
  obtain ⟨ad, cap, rfl⟩ := h2.form
  obtain ⟨rs, e, hr⟩ := h2.rd rfl (by omega)
  refine ⟨va, s.vols.length, vc, ad, s.kns.length, cap, rs, rfl, e.symm, hf.1, hf.2.1, fun r hr => ?_, h9, h10, hr⟩
  exact hf.2.2 (ktell r) (by rw [← e]; exact List.mem_map.2 ⟨r, hr, rfl⟩)
theorem Sts.form {lo hi : Nat} {W : World} {v : Value} {s : Sto} (h : Sts lo hi v s W) : ∃ va vc ad cap, v = .agg #[.slice va s.vols.length vc, .slice ad s.kns.length cap, .int .i64 s.next] := by
  obtain ⟨vv, kv, lo1, hi1, lo2, hi2, rfl, h1, h2, -⟩ := h
  obtain ⟨va, vc, rfl, -⟩ := h1.form
  obtain ⟨ad, cap, rfl⟩ := h2.form
  exact ⟨_, _, _, _, rfl⟩
end Go.Proofs.Ytcnaahajaaifjaa

/-
  A call that answers a store into a cell of its own, whichever came first.
-/
namespace Go.Proofs.Ytcnaahajaaifjaa
open Go.RowKit
open Words

theorem vcap_le {a : Option Addr} {n c : Nat} {k x : Value} (h : VCap (.agg #[.slice a n c, k, x])) : n ≤ c := by
  obtain ⟨a', n', c', k', x', e, hh⟩ := h
  injection e with e
  injection e with e
  simp only [List.cons.injEq, and_true] at e
  obtain ⟨e, -⟩ := e
  injection e with e1 e2 e3
  omega
theorem bel_tr {w w1 w2 : World} {B : Nat} (h : Below B w w1) (hB : B ≤ w1.heap.size) (b : Below w1.heap.size w1 w2) : Below B w w2 := h.trans (b.mono hB)
theorem bel3 {w W : World} {B c : Nat} (h : Below B w W) (hc : B ≤ c) (a b d : Value) : Below B w (((W.setCell ⟨c, 0, none⟩ a).setCell ⟨c, 1, none⟩ b).setCell ⟨c, 2, none⟩ d) := ((h.setCell (p := ⟨c, 0, none⟩) hc a).setCell (p := ⟨c, 1, none⟩) hc b).setCell (p := ⟨c, 2, none⟩) hc d
/-- The cell, the store, and all that was held before. -/
def Gs (w wr : World) (hs : List Hold) (s0 c : Nat) (a b : Value) (R : Sto) : Prop := ∃ lo hi, s0 ≤ lo ∧ s0 ≤ c ∧ (c + 1 ≤ lo ∨ hi ≤ c) ∧ Tk w wr ((c, c + 1, Cel c #[a, b, .int .i64 R.next] 29) :: (lo, hi, Sts lo hi (.agg #[a, b, .int .i64 R.next]) R) :: hs)
theorem Gs.late {w wS W w3 : World} {hs : List Hold} {a b : Value} {R : Sto} (T : Tk w wS hs) (hb : Below wS.heap.size wS w3) (f : StOut W R (.agg #[a, b, .int .i64 R.next]) w3) (h : wS.heap.size ≤ W.heap.size) : Gs w (w3.alloc (.cells #[a, b, .int .i64 R.next] 29)) hs wS.heap.size w3.heap.size a b R := by
  have T1 := (T.below hb).put (Nat.le_refl _) (Sts.loc W.heap.size w3.heap.size (.agg #[a, b, .int .i64 R.next]) R) f.sts
  exact ⟨W.heap.size, w3.heap.size, h, hb.size, Or.inr (Nat.le_refl _), T1.celln rfl _ _⟩
theorem Gs.early {w wS W w3 : World} {hs : List Hold} {c : Nat} {a b z0 z1 z2 : Value} {R : Sto} (T : Tk w wS hs) (hb : Below wS.heap.size wS w3) (f : StOut W R (.agg #[a, b, .int .i64 R.next]) w3) (hc : w3.heap[c]? = some (.cells #[z0, z1, z2] 29 (0, 0))) (h0 : wS.heap.size ≤ c) (h1 : c < W.heap.size) :
    Gs w (((w3.setCell ⟨c, 0, none⟩ a).setCell ⟨c, 1, none⟩ b).setCell ⟨c, 2, none⟩ (.int .i64 R.next)) hs wS.heap.size c a b R := by
  have hlt := (Array.getElem?_eq_some_iff.1 hc).1
  have hz := T.1.size
  have hq : ∀ q, q ≠ c → (((w3.setCell ⟨c, 0, none⟩ a).setCell ⟨c, 1, none⟩ b).setCell ⟨c, 2, none⟩ (.int .i64 R.next)).heap[q]? = w3.heap[q]? := fun q q1 => (Below.heap_setCell _ _ _ _ q1).trans ((Below.heap_setCell _ _ _ _ q1).trans (Below.heap_setCell _ _ _ _ q1))
  have T1 := (T.below hb).put (Nat.le_refl _) (Sts.loc W.heap.size w3.heap.size (.agg #[a, b, .int .i64 R.next]) R) f.sts
  refine ⟨W.heap.size, w3.heap.size, by omega, h0, Or.inl h1, T1.touch (lo := c) (hi := c + 1) ⟨rfl, rfl, rfl, by simp [World.setCell], fun i _ hi => hq i (fun e => hi (by omega))⟩ (by omega) hlt (Cel.loc _ _ _) (sto_row3 hc) (fun x hx => ?_)⟩
  rcases List.mem_cons.1 hx with rfl | hx
  · exact ⟨List.mem_of_getElem? (i := 0) rfl, Or.inr h1⟩
  · exact ⟨List.mem_cons_of_mem _ hx, Or.inl (Nat.le_trans (T.2 x hx).1 h0)⟩
end Go.Proofs.Ytcnaahajaaifjaa

/-
  impl.isWithin, impl.RecOk.
-/
namespace Go.Proofs.Ytcnaahajaaifjaa
open Go.RowKit
open Words

set_option maxHeartbeats 400000 in
set_option maxRecDepth 100000 in
theorem iwithin (x lo hi : Int) (b : Bool) (w : World) (h : (lo ≤ x ∧ x ≤ hi ∧ b = true) ∨ ((x < lo ∨ lo ≤ x ∧ ¬ x ≤ hi) ∧ b = false)) :
    Calls Try.prog 57 #[.int .i64 x, .int .i64 lo, .int .i64 hi] w fun e w' => e = .returned (.bool b) ∧ w' = w := by
  rcases h with ⟨h1, h2, rfl⟩ | ⟨h1 | ⟨h1, h2⟩, rfl⟩
  all_goals
    go_enter Try.func57, Try.ntmps57
    go_wp2
    go_ret
    exact ⟨rfl, rfl⟩
set_option maxHeartbeats 1000000 in
set_option maxRecDepth 100000 in
theorem irecOk (r : Rc) (w : World) :
    Calls Try.prog 40 #[rcVal r] w fun e w' => e = .returned (.bool (@decide r.Right r.decR)) ∧ Below w.heap.size w w' := by
  obtain ⟨k, v, a, c⟩ := r
  have HE := hide (rc_spec k v a c)
  have HB := hide ((Below.refl w.heap.size w).alloc (Nat.le_refl _) (.cells #[.int .i64 k, .int .i64 v, .int .i64 a, .int .i64 c] 31))
  unfold rcVal
  simp only
  by_cases a1 : 1 ≤ k ∧ k ≤ 5
  · obtain a5 | a5 | a5 | a5 | a5 : k = 1 ∨ k = 2 ∨ k = 3 ∨ k = 4 ∨ k = 5 := by omega
    · subst a5
      by_cases a2 : 0 ≤ a ∧ a ≤ 1000000000
      · by_cases a3 : (v == 0) = true
        · go_enter Try.func40, Try.ntmps40
          go_wp2_with fail
          refine (iwithin a 0 1000000000 true _ (.inl ⟨by omega, by omega, rfl⟩)).mono ?_
          rintro e w1 ⟨rfl, rfl⟩
          go_wp2
          go_ret
          refine ⟨?_, by first | exact HB.out | exact (Below.refl _ _).alloc (Nat.le_refl _) _ | (repeat (first | exact HB.out | exact (Below.refl _ _).alloc (Nat.le_refl _) _ | refine Below.setCell ?_ (by simp) _))⟩
          have e : @decide (Rc.mk 1 v a c).Right (Rc.mk 1 v a c).decR = (c == 0) := by
            cases hq : (c == 0) with
            | true => exact dcY (HE.out.2 (by first | omega | (simp_all; done) | (simp_all; omega)))
            | false => exact dcN (fun h => by have := HE.out.1 h; first | omega | (simp_all; done) | (simp_all; omega))
          rw [e]
          rfl
        · have a3 : (v == 0) = false := by simpa using a3
          go_enter Try.func40, Try.ntmps40
          go_wp2_with fail
          refine (iwithin a 0 1000000000 true _ (.inl ⟨by omega, by omega, rfl⟩)).mono ?_
          rintro e w1 ⟨rfl, rfl⟩
          go_wp2
          go_ret
          exact ⟨by rw [dcN (fun h => by have := HE.out.1 h; first | omega | (simp at this; omega) | (simp_all; done) | (simp_all; omega))]; rfl, by first | exact HB.out | exact (Below.refl _ _).alloc (Nat.le_refl _) _ | (repeat (first | exact HB.out | exact (Below.refl _ _).alloc (Nat.le_refl _) _ | refine Below.setCell ?_ (by simp) _))⟩
      · go_enter Try.func40, Try.ntmps40
        go_wp2_with fail
        refine (iwithin a 0 1000000000 false _ (.inr ⟨by omega, rfl⟩)).mono ?_
        rintro e w1 ⟨rfl, rfl⟩
        go_wp2
        go_ret
        exact ⟨by rw [dcN (fun h => by have := HE.out.1 h; first | omega | (simp at this; omega) | (simp_all; done) | (simp_all; omega))]; rfl, by first | exact HB.out | exact (Below.refl _ _).alloc (Nat.le_refl _) _ | (repeat (first | exact HB.out | exact (Below.refl _ _).alloc (Nat.le_refl _) _ | refine Below.setCell ?_ (by simp) _))⟩
    · subst a5
      by_cases a2 : 1 ≤ v ∧ v ≤ 9
      · by_cases a3 : 0 ≤ a ∧ a ≤ 9
        · go_enter Try.func40, Try.ntmps40
          go_wp2_with fail
          refine (iwithin v 1 9 true _ (.inl ⟨by omega, by omega, rfl⟩)).mono ?_
          rintro e w1 ⟨rfl, rfl⟩
          go_wp2_with fail
          refine (iwithin a 0 9 true _ (.inl ⟨by omega, by omega, rfl⟩)).mono ?_
          rintro e w1 ⟨rfl, rfl⟩
          go_wp2_with fail
          refine (iwithin a 0 1000000000 true _ (.inl ⟨by omega, by omega, rfl⟩)).mono ?_
          rintro e w1 ⟨rfl, rfl⟩
          go_wp2
          go_ret
          refine ⟨?_, by first | exact HB.out | exact (Below.refl _ _).alloc (Nat.le_refl _) _ | (repeat (first | exact HB.out | exact (Below.refl _ _).alloc (Nat.le_refl _) _ | refine Below.setCell ?_ (by simp) _))⟩
          have e : @decide (Rc.mk 2 v a c).Right (Rc.mk 2 v a c).decR = (c == 0) := by
            cases hq : (c == 0) with
            | true => exact dcY (HE.out.2 (by first | omega | (simp_all; done) | (simp_all; omega)))
            | false => exact dcN (fun h => by have := HE.out.1 h; first | omega | (simp_all; done) | (simp_all; omega))
          rw [e]
          rfl
        · go_enter Try.func40, Try.ntmps40
          go_wp2_with fail
          refine (iwithin v 1 9 true _ (.inl ⟨by omega, by omega, rfl⟩)).mono ?_
          rintro e w1 ⟨rfl, rfl⟩
          go_wp2_with fail
          refine (iwithin a 0 9 false _ (.inr ⟨by omega, rfl⟩)).mono ?_
          rintro e w1 ⟨rfl, rfl⟩
          go_wp2
          go_ret
          exact ⟨by rw [dcN (fun h => by have := HE.out.1 h; first | omega | (simp at this; omega) | (simp_all; done) | (simp_all; omega))]; rfl, by first | exact HB.out | exact (Below.refl _ _).alloc (Nat.le_refl _) _ | (repeat (first | exact HB.out | exact (Below.refl _ _).alloc (Nat.le_refl _) _ | refine Below.setCell ?_ (by simp) _))⟩
      · go_enter Try.func40, Try.ntmps40
        go_wp2_with fail
        refine (iwithin v 1 9 false _ (.inr ⟨by omega, rfl⟩)).mono ?_
        rintro e w1 ⟨rfl, rfl⟩
        go_wp2
        go_ret
        exact ⟨by rw [dcN (fun h => by have := HE.out.1 h; first | omega | (simp at this; omega) | (simp_all; done) | (simp_all; omega))]; rfl, by first | exact HB.out | exact (Below.refl _ _).alloc (Nat.le_refl _) _ | (repeat (first | exact HB.out | exact (Below.refl _ _).alloc (Nat.le_refl _) _ | refine Below.setCell ?_ (by simp) _))⟩
    · subst a5
      by_cases a2 : a = 0
      · subst a2
        by_cases a3 : 1 ≤ v ∧ v ≤ 9
        · go_enter Try.func40, Try.ntmps40
          go_wp2_with fail
          refine (iwithin v 1 9 true _ (.inl ⟨by omega, by omega, rfl⟩)).mono ?_
          rintro e w1 ⟨rfl, rfl⟩
          go_wp2_with fail
          refine (iwithin 0 0 9 true _ (.inl ⟨by omega, by omega, rfl⟩)).mono ?_
          rintro e w1 ⟨rfl, rfl⟩
          go_wp2_with fail
          refine (iwithin 0 0 1000000000 true _ (.inl ⟨by omega, by omega, rfl⟩)).mono ?_
          rintro e w1 ⟨rfl, rfl⟩
          go_wp2
          go_ret
          refine ⟨?_, by first | exact HB.out | exact (Below.refl _ _).alloc (Nat.le_refl _) _ | (repeat (first | exact HB.out | exact (Below.refl _ _).alloc (Nat.le_refl _) _ | refine Below.setCell ?_ (by simp) _))⟩
          have e : @decide (Rc.mk 3 v 0 c).Right (Rc.mk 3 v 0 c).decR = (c == 0) := by
            cases hq : (c == 0) with
            | true => exact dcY (HE.out.2 (by first | omega | (simp_all; done) | (simp_all; omega)))
            | false => exact dcN (fun h => by have := HE.out.1 h; first | omega | (simp_all; done) | (simp_all; omega))
          rw [e]
          rfl
        · go_enter Try.func40, Try.ntmps40
          go_wp2_with fail
          refine (iwithin v 1 9 false _ (.inr ⟨by omega, rfl⟩)).mono ?_
          rintro e w1 ⟨rfl, rfl⟩
          go_wp2
          go_ret
          exact ⟨by rw [dcN (fun h => by have := HE.out.1 h; first | omega | (simp at this; omega) | (simp_all; done) | (simp_all; omega))]; rfl, by first | exact HB.out | exact (Below.refl _ _).alloc (Nat.le_refl _) _ | (repeat (first | exact HB.out | exact (Below.refl _ _).alloc (Nat.le_refl _) _ | refine Below.setCell ?_ (by simp) _))⟩
      · have a2 : (a != 0) = true := by simpa using a2
        go_enter Try.func40, Try.ntmps40
        go_wp2
        go_ret
        exact ⟨by rw [dcN (fun h => by have := HE.out.1 h; first | omega | (simp at this; omega) | (simp_all; done) | (simp_all; omega))]; rfl, by first | exact HB.out | exact (Below.refl _ _).alloc (Nat.le_refl _) _ | (repeat (first | exact HB.out | exact (Below.refl _ _).alloc (Nat.le_refl _) _ | refine Below.setCell ?_ (by simp) _))⟩
    · subst a5
      by_cases a2 : 1 ≤ c ∧ c ≤ 1000000000
      · by_cases a3 : 0 ≤ a ∧ a ≤ 15
        · by_cases a4 : 1 ≤ v ∧ v ≤ 9
          · go_enter Try.func40, Try.ntmps40
            go_wp2_with fail
            refine (iwithin c 1 1000000000 true _ (.inl ⟨by omega, by omega, rfl⟩)).mono ?_
            rintro e w1 ⟨rfl, rfl⟩
            go_wp2_with fail
            refine (iwithin a 0 15 true _ (.inl ⟨by omega, by omega, rfl⟩)).mono ?_
            rintro e w1 ⟨rfl, rfl⟩
            go_wp2_with fail
            refine (iwithin v 1 9 true _ (.inl ⟨by omega, by omega, rfl⟩)).mono ?_
            rintro e w1 ⟨rfl, rfl⟩
            go_wp2_with fail
            refine (iwithin 0 0 9 true _ (.inl ⟨by omega, by omega, rfl⟩)).mono ?_
            rintro e w1 ⟨rfl, rfl⟩
            go_wp2_with fail
            refine (iwithin 0 0 1000000000 true _ (.inl ⟨by omega, by omega, rfl⟩)).mono ?_
            rintro e w1 ⟨rfl, rfl⟩
            go_wp2
            go_ret
            exact ⟨by rw [dcY (HE.out.2 (by first | omega | (simp; omega)))]; rfl, by first | exact HB.out | exact (Below.refl _ _).alloc (Nat.le_refl _) _ | (repeat (first | exact HB.out | exact (Below.refl _ _).alloc (Nat.le_refl _) _ | refine Below.setCell ?_ (by simp) _))⟩
          · go_enter Try.func40, Try.ntmps40
            go_wp2_with fail
            refine (iwithin c 1 1000000000 true _ (.inl ⟨by omega, by omega, rfl⟩)).mono ?_
            rintro e w1 ⟨rfl, rfl⟩
            go_wp2_with fail
            refine (iwithin a 0 15 true _ (.inl ⟨by omega, by omega, rfl⟩)).mono ?_
            rintro e w1 ⟨rfl, rfl⟩
            go_wp2_with fail
            refine (iwithin v 1 9 false _ (.inr ⟨by omega, rfl⟩)).mono ?_
            rintro e w1 ⟨rfl, rfl⟩
            go_wp2
            go_ret
            exact ⟨by rw [dcN (fun h => by have := HE.out.1 h; first | omega | (simp at this; omega) | (simp_all; done) | (simp_all; omega))]; rfl, by first | exact HB.out | exact (Below.refl _ _).alloc (Nat.le_refl _) _ | (repeat (first | exact HB.out | exact (Below.refl _ _).alloc (Nat.le_refl _) _ | refine Below.setCell ?_ (by simp) _))⟩
        · go_enter Try.func40, Try.ntmps40
          go_wp2_with fail
          refine (iwithin c 1 1000000000 true _ (.inl ⟨by omega, by omega, rfl⟩)).mono ?_
          rintro e w1 ⟨rfl, rfl⟩
          go_wp2_with fail
          refine (iwithin a 0 15 false _ (.inr ⟨by omega, rfl⟩)).mono ?_
          rintro e w1 ⟨rfl, rfl⟩
          go_wp2
          go_ret
          exact ⟨by rw [dcN (fun h => by have := HE.out.1 h; first | omega | (simp at this; omega) | (simp_all; done) | (simp_all; omega))]; rfl, by first | exact HB.out | exact (Below.refl _ _).alloc (Nat.le_refl _) _ | (repeat (first | exact HB.out | exact (Below.refl _ _).alloc (Nat.le_refl _) _ | refine Below.setCell ?_ (by simp) _))⟩
      · go_enter Try.func40, Try.ntmps40
        go_wp2_with fail
        refine (iwithin c 1 1000000000 false _ (.inr ⟨by omega, rfl⟩)).mono ?_
        rintro e w1 ⟨rfl, rfl⟩
        go_wp2
        go_ret
        exact ⟨by rw [dcN (fun h => by have := HE.out.1 h; first | omega | (simp at this; omega) | (simp_all; done) | (simp_all; omega))]; rfl, by first | exact HB.out | exact (Below.refl _ _).alloc (Nat.le_refl _) _ | (repeat (first | exact HB.out | exact (Below.refl _ _).alloc (Nat.le_refl _) _ | refine Below.setCell ?_ (by simp) _))⟩
    · subst a5
      by_cases a3 : 0 ≤ a ∧ a ≤ 15
      · by_cases a4 : 1 ≤ v ∧ v ≤ 9
        · go_enter Try.func40, Try.ntmps40
          go_wp2_with fail
          refine (iwithin a 0 15 true _ (.inl ⟨by omega, by omega, rfl⟩)).mono ?_
          rintro e w1 ⟨rfl, rfl⟩
          go_wp2_with fail
          refine (iwithin v 1 9 true _ (.inl ⟨by omega, by omega, rfl⟩)).mono ?_
          rintro e w1 ⟨rfl, rfl⟩
          go_wp2_with fail
          refine (iwithin 0 0 9 true _ (.inl ⟨by omega, by omega, rfl⟩)).mono ?_
          rintro e w1 ⟨rfl, rfl⟩
          go_wp2_with fail
          refine (iwithin 0 0 1000000000 true _ (.inl ⟨by omega, by omega, rfl⟩)).mono ?_
          rintro e w1 ⟨rfl, rfl⟩
          go_wp2
          go_ret
          refine ⟨?_, by first | exact HB.out | exact (Below.refl _ _).alloc (Nat.le_refl _) _ | (repeat (first | exact HB.out | exact (Below.refl _ _).alloc (Nat.le_refl _) _ | refine Below.setCell ?_ (by simp) _))⟩
          have e : @decide (Rc.mk 5 v a c).Right (Rc.mk 5 v a c).decR = (c == 0) := by
            cases hq : (c == 0) with
            | true => exact dcY (HE.out.2 (by first | omega | (simp_all; done) | (simp_all; omega)))
            | false => exact dcN (fun h => by have := HE.out.1 h; first | omega | (simp_all; done) | (simp_all; omega))
          rw [e]
          rfl
        · go_enter Try.func40, Try.ntmps40
          go_wp2_with fail
          refine (iwithin a 0 15 true _ (.inl ⟨by omega, by omega, rfl⟩)).mono ?_
          rintro e w1 ⟨rfl, rfl⟩
          go_wp2_with fail
          refine (iwithin v 1 9 false _ (.inr ⟨by omega, rfl⟩)).mono ?_
          rintro e w1 ⟨rfl, rfl⟩
          go_wp2
          go_ret
          exact ⟨by rw [dcN (fun h => by have := HE.out.1 h; first | omega | (simp at this; omega) | (simp_all; done) | (simp_all; omega))]; rfl, by first | exact HB.out | exact (Below.refl _ _).alloc (Nat.le_refl _) _ | (repeat (first | exact HB.out | exact (Below.refl _ _).alloc (Nat.le_refl _) _ | refine Below.setCell ?_ (by simp) _))⟩
      · go_enter Try.func40, Try.ntmps40
        go_wp2_with fail
        refine (iwithin a 0 15 false _ (.inr ⟨by omega, rfl⟩)).mono ?_
        rintro e w1 ⟨rfl, rfl⟩
        go_wp2
        go_ret
        exact ⟨by rw [dcN (fun h => by have := HE.out.1 h; first | omega | (simp at this; omega) | (simp_all; done) | (simp_all; omega))]; rfl, by first | exact HB.out | exact (Below.refl _ _).alloc (Nat.le_refl _) _ | (repeat (first | exact HB.out | exact (Below.refl _ _).alloc (Nat.le_refl _) _ | refine Below.setCell ?_ (by simp) _))⟩
  · have n1 : (k == 1) = false := by simp; omega
    have n2 : (k == 2) = false := by simp; omega
    have n3 : (k == 3) = false := by simp; omega
    have n4 : (k == 4) = false := by simp; omega
    have n5 : (k == 5) = false := by simp; omega
    go_enter Try.func40, Try.ntmps40
    go_wp2
    go_ret
    exact ⟨by rw [dcN (fun h => by have := HE.out.1 h; first | omega | (simp at this; omega) | (simp_all; done) | (simp_all; omega))]; rfl, by first | exact HB.out | exact (Below.refl _ _).alloc (Nat.le_refl _) _ | (repeat (first | exact HB.out | exact (Below.refl _ _).alloc (Nat.le_refl _) _ | refine Below.setCell ?_ (by simp) _))⟩
end Go.Proofs.Ytcnaahajaaifjaa
