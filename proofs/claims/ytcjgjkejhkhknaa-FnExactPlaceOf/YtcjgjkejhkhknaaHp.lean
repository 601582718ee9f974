/-
  container/heap's Push and Pop; (*impl.wearHeap).takeLeast.
-/
import Derived.Test.YtcjgjkejhkhknaaHd
namespace Go.Proofs.Ytcjgjkejhkhknaa
open Go.RowKit

/-- A heap that has what L has. -/
def HeapOf (w wr : World) (hp q : Nat) (L : List Wb) : Prop := ∃ u D, Heapy D ∧ D.length = L.length ∧ (∀ y, y ∈ D ↔ y ∈ L) ∧ HeapAt wr hp q u D ∧ KeptH w wr hp q
set_option maxHeartbeats 1000000 in
set_option maxRecDepth 100000 in
theorem heapPush_any (hp q : Nat) (L : List Wb) (x : Wb) (w0 w : World) (h : HeapOf w0 w hp q L) (hd : L.length < 1048576) :
    Calls Try.prog 89 #[.iface 85 (.pointer (some ⟨hp, 0, none⟩)), .iface 89 (.agg #[.int .i64 x.1, .int .i64 x.2])] w fun e w' => e = .returned (.tuple #[]) ∧ HeapOf w0 w' hp q (L ++ [x]) := by
  have mN := find_len (some ⟨hp, 0, none⟩)
  have mP := find_push (some ⟨hp, 0, none⟩)
  obtain ⟨u, D, h1, h2, h3, h4, h5⟩ := h
  have C := hide (hpush_any hp q u D x w h4 (by omega))
  obtain ⟨n, hn⟩ : ∃ n, D.length = n := ⟨_, rfl⟩
  have HH := hide (show Heapy D ∧ D.length = L.length ∧ (∀ y, y ∈ D ↔ y ∈ L) ∧ KeptH w0 w hp q from ⟨h1, h2, h3, h5⟩)
  have hnl : n + 1 ≤ 1048576 := by omega
  have HN := hide hn
  clear h1 h2 h3 h4 h5 hn hd
  go_enter Try.func89, Try.ntmps89
  go_wp2_with fail
  refine C.out.mono ?_
  rintro e w2 ⟨rfl, u2, h2, k2⟩
  have C2 := hide (hlen_any hp q u2 _ w2 h2)
  have C3 := hide (up_any hp q n u2 (D ++ [x]) w2 h2 (by have := HH.out.1.push x; rw [HN.out] at this; exact this) (by have := HN.out; simp; omega))
  rw [show (((D ++ [x]).length : Nat) : Int) = (n : Int) + 1 by have := HN.out; simp; omega] at C2
  have K2 := hide k2
  clear C h2 k2
  go_wp2_with fail
  refine C2.out.mono ?_
  rintro e w3 ⟨rfl, rfl⟩
  clear C2
  go_wp2_with fail
  refine C3.out.mono ?_
  rintro e w4 ⟨rfl, D4, g4, e4, m4, a4, k4⟩
  have PF : Hid (HeapOf w0 w4 hp q (L ++ [x])) := by
    refine ⟨u2, D4, g4, ?_, fun y => ?_, a4, (HH.out.2.2.2.trans K2.out).trans k4⟩
    · rw [e4, List.length_append, List.length_append, HH.out.2.1]
    · rw [m4 y, List.mem_append, List.mem_append, HH.out.2.2.1 y]
  clear C3 g4 e4 m4 a4 k4 K2 HH
  go_wp2
  go_end0
  exact ⟨rfl, PF.out⟩

set_option maxHeartbeats 1000000 in
set_option maxRecDepth 100000 in
theorem heapPop_any (hp q : Nat) (u : Value) (D : List Wb) (L : List Wb) (r : Wb) (w : World) (h1 : Heapy D) (h3 : ∀ y, y ∈ D ↔ y ∈ L) (h4 : HeapAt w hp q u D) (hr : IsLeast L r) :
    Calls Try.prog 90 #[.iface 85 (.pointer (some ⟨hp, 0, none⟩))] w fun e w' => e = .returned (.iface 89 (.agg #[.int .i64 r.1, .int .i64 r.2])) ∧ KeptG w w' hp u := by
  have mN := find_len (some ⟨hp, 0, none⟩)
  have mS := find_swap (some ⟨hp, 0, none⟩)
  have mP := find_pop (some ⟨hp, 0, none⟩)
  have hrD := (h3 r).2 hr.1
  obtain ⟨k, hk, ek⟩ := List.getElem_of_mem hrD
  obtain ⟨n, hn⟩ : ∃ n, D.length = n + 1 := ⟨D.length - 1, by omega⟩
  obtain ⟨t, ht⟩ : ∃ t, D[0]? = some t := ⟨_, List.getElem?_eq_getElem (by omega)⟩
  have htr : t = r := IsLeast.eq (L := L) ⟨(h3 t).1 (List.mem_of_getElem? ht), fun x hx => by
    obtain ⟨j, hj, ej⟩ := List.getElem_of_mem ((h3 x).2 hx)
    exact h1.root ht j x (List.getElem?_eq_some_iff.2 ⟨hj, ej⟩)⟩ hr
  subst htr
  obtain ⟨z, hz⟩ : ∃ z, D[n]? = some z := ⟨_, List.getElem?_eq_getElem (by omega)⟩
  have hl := h4.2.2.1
  rw [hn] at hl
  have C1 := hide (hlen_any hp q u D w h4)
  rw [show ((D.length : Nat) : Int) = (n : Int) + 1 by omega] at C1
  -- the first place and the last one change
  have C2 : Hid (Calls Try.prog 173 #[.pointer (some ⟨hp, 0, none⟩), .int .i64 0, .int .i64 n] w fun e w' => e = .returned (.tuple #[]) ∧ ∃ D2, DnS w w' hp q n u t D2) := by
    by_cases h0 : n = 0
    · subst h0
      refine (hswap_self hp q 0 u D t w h4 ht).mono ?_
      rintro e w' ⟨rfl, a, b⟩
      exact ⟨rfl, D, hn, ht, a, b⟩
    · refine (hswap_ne hp q 0 n u D t z w h4 ht hz (by omega)).mono ?_
      rintro e w' ⟨rfl, a, b⟩
      exact ⟨rfl, _, (swp_len _ _ _ _ _).trans hn, by rw [swp_at ht hz, if_pos rfl], a, b⟩
  clear h1 h3 h4 hr hrD hk ek hz ht
  obtain ⟨w0, e0⟩ : ∃ w0, w0 = w := ⟨_, rfl⟩
  have C2 : Hid (Calls Try.prog 173 #[.pointer (some ⟨hp, 0, none⟩), .int .i64 0, .int .i64 n] w fun e w' => e = .returned (.tuple #[]) ∧ ∃ D2, DnS w0 w' hp q n u t D2) := by rw [e0]; exact C2
  rw [show (fun e w' => e = Ending.returned (.iface 89 (.agg #[.int .i64 t.1, .int .i64 t.2])) ∧ KeptG w w' hp u) = (fun e w' => e = Ending.returned (.iface 89 (.agg #[.int .i64 t.1, .int .i64 t.2])) ∧ KeptG w0 w' hp u) by rw [e0]]
  clear e0
  go_enter Try.func90, Try.ntmps90
  go_wp2_with fail
  refine C1.out.mono ?_
  rintro e w1 ⟨rfl, rfl⟩
  clear C1
  go_wp2_with fail
  refine C2.out.mono ?_
  rintro e w2 ⟨rfl, D2, s2⟩
  have C3 := hide (down_any hp q n u t D2 w0 w2 s2)
  clear C2 s2
  go_wp2_with fail
  refine C3.out.mono ?_
  rintro e w3 ⟨b3, D3, rfl, s3⟩
  have C4 := hide (hpop_any hp q n u D3 t w3 s3.2.2.1 s3.1 s3.2.1)
  have K3 := hide s3.2.2.2
  clear C3 s3
  go_wp2_with fail
  refine C4.out.mono ?_
  rintro e w4 ⟨rfl, k4⟩
  have K4 := hide (K3.out.trans k4)
  clear C4 k4 K3
  go_wp2
  go_ret
  exact ⟨rfl, K4.out⟩

theorem worn_assert2 (x y : Int) (w : World) : (Instr.typeAssert (.iface 89 (.agg #[.int .i64 x, .int .i64 y])) 20 89 false).run Try.prog w = .ok (.agg #[.int .i64 x, .int .i64 y]) w := by kernel_rfl
theorem infoWorn2 : (Try.prog.info? 89).map (·.size) = some 2 := by kernel_rfl
set_option maxHeartbeats 1000000 in
set_option maxRecDepth 100000 in
theorem least_any (hp q : Nat) (L : List Wb) (r : Wb) (w0 w : World) (h : HeapOf w0 w hp q L) (hr : IsLeast L r) :
    Calls Try.prog 47 #[.pointer (some ⟨hp, 0, none⟩)] w fun e w' => e = .returned (.agg #[.int .i64 r.1, .int .i64 r.2]) ∧ KeptH w0 w' hp q := by
  have TA := worn_assert2 r.1 r.2
  have b1 := (Below.refl w.heap.size w).alloc (Nat.le_refl _) (.cells #[.int .i64 0, .int .i64 0] 89)
  obtain ⟨u, D, h1, h2, h3, h4, h5⟩ := h
  have C := hide (heapPop_any hp q u D L r _ h1 h3 (h4.below b1) hr)
  have hpl : hp < w.heap.size := (Array.getElem?_eq_some_iff.1 h4.2.2.2.1).1
  have hul : ∀ g, u.ownBlock = some g → g < w.heap.size := fun g hg => (h4.2.2.2.2.lt g hg).2
  have R0 := hide (heap_alloc_new w (.cells #[.int .i64 0, .int .i64 0] 89))
  have HZ := hide (show (w.alloc (.cells #[.int .i64 0, .int .i64 0] 89)).heap.size = w.heap.size + 1 by simp)
  have KF : Hid (∀ W v v', KeptG (w.alloc (.cells #[.int .i64 0, .int .i64 0] 89)) W hp u → KeptH w0 ((W.setCell ⟨w.heap.size, 0, none⟩ v).setCell ⟨w.heap.size, 1, none⟩ v') hp q) := by
    intro W v v' hk
    have h6 := h4.2.1
    exact ((h5.trans (KeptH.below b1)).trans (hk.h (h4.below b1))).trans ((keptH_set h6 _ _).trans (keptH_set h6 _ _))
  have HNE : Hid (hp ≠ w.heap.size ∧ u.ownBlock ≠ some w.heap.size) := ⟨by omega, fun e => by have := hul _ e; omega⟩
  obtain ⟨x, y⟩ := r
  simp only at TA C ⊢
  clear b1 h1 h2 h3 h4 h5 hul hpl hr
  go_enter Try.func47, Try.ntmps47
  go_wp2_with fail
  refine C.out.mono ?_
  rintro e w2 ⟨rfl, k2⟩
  have r2 := (k2.2.2.2.2 w.heap.size (by have := HZ.out; omega) ⟨fun e => HNE.out.1 e.symm, HNE.out.2⟩).trans R0.out
  have c0 : w2.cell? ⟨w.heap.size, 0, none⟩ = some (.int .i64 0) := cell_of_row _ _ 0 _ _ _ r2
  have c1 : w2.cell? ⟨w.heap.size, 1, none⟩ = some (.int .i64 0) := cell_of_row _ _ 1 _ _ _ r2
  have f0 := frozen_of_row _ _ 0 _ _ r2
  have f1 := frozen_of_row _ _ 1 _ _ r2
  have Q2 := hide (row_set (row_set r2 0 (.int .i64 x)) 1 (.int .i64 y))
  have K2 := hide (KF.out w2 (.int .i64 x) (.int .i64 y) k2)
  clear C k2 r2
  go_wp2
  exact bodyPost_ret (results_cell_row rfl _ _ w.heap.size 89 _ (0, 0) _ rfl Q2.out Try.underlying89 rfl infoWorn2) rfl ⟨rfl, K2.out⟩
end Go.Proofs.Ytcjgjkejhkhknaa
