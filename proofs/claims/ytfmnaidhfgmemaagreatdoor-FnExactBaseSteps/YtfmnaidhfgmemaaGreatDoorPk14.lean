/-
  WSwap; HPop; Hv; Hd; Hp
-/
import Derived.Test.YtfmnaidhfgmemaaGreatDoorPk12
import Derived.BigRegion
import Derived.Test.YtfmnaidhfgmemaaGreatDoorPk13
namespace Go.Proofs.YtfmnaidhfgmemaaGreatDoor
open Go.RowKit
set_option maxHeartbeats 1000000 in
set_option maxRecDepth 100000 in
theorem hswap_ne (hp q i j : Nat) (u : Value) (D : List Wb) (a b : Wb) (w : World) (h : HeapAt w hp q u D) (hi : D[i]? = some a) (hj : D[j]? = some b) (hij : i ≠ j) :
    Calls Tryz.prog 230 #[.pointer (some ⟨hp, 0, none⟩), .int .i64 i, .int .i64 j] w fun e w' => e = .returned (.tuple #[]) ∧ HeapAt w' hp q u (swp D i j a b) ∧ KeptG w w' hp u := by
  obtain ⟨ad, cap, rfl, -, -, h3⟩ := h.form
  have li := (List.getElem?_eq_some_iff.1 hi).1
  have lj := (List.getElem?_eq_some_iff.1 hj).1
  obtain ⟨g, rfl, hqg, -⟩ := h3 (by omega)
  have c := h.cell
  have hl := h.2.2.1
  obtain ⟨a0, a1⟩ := wown_cells h.2.2.2.2 hi
  obtain ⟨b0, b1⟩ := wown_cells h.2.2.2.2 hj
  have f0 := fun o => wown_frozen h.2.2.2.2 o
  have hD := h.below (Below.refl _ _).drew
  have P1 := hD.put i li b
  have P2 := P1
  rw [show D.length = (D.set i b).length by simp] at P2
  have P3 := P2.put j (by simpa using lj) a
  rw [show (D.set i b).length = D.length by simp] at P3
  have PF : Hid (HeapAt ((((w.drew.setCell ⟨g, i * 2, none⟩ (.int .i64 b.1)).setCell ⟨g, i * 2 + 1, none⟩ (.int .i64 b.2)).setCell ⟨g, j * 2, none⟩ (.int .i64 a.1)).setCell ⟨g, j * 2 + 1, none⟩ (.int .i64 a.2)) hp q (.slice (some ⟨g, 0, none⟩) D.length cap) (swp D i j a b) ∧ KeptG w ((((w.drew.setCell ⟨g, i * 2, none⟩ (.int .i64 b.1)).setCell ⟨g, i * 2 + 1, none⟩ (.int .i64 b.2)).setCell ⟨g, j * 2, none⟩ (.int .i64 a.1)).setCell ⟨g, j * 2 + 1, none⟩ (.int .i64 a.2)) hp (.slice (some ⟨g, 0, none⟩) D.length cap)) := ⟨P3, ((KeptG.below (Below.refl w.heap.size w).drew).trans (keptG_put _ _ _ _)).trans (keptG_put _ _ _ _)⟩
  obtain ⟨x, y⟩ := a
  obtain ⟨x2, y2⟩ := b
  simp only at a0 a1 b0 b1 PF
  clear P1 P2 P3 hD
  generalize swp D i j (x, y) (x2, y2) = D2 at PF ⊢
  have hpg : hp ≠ g := by have := h.1; omega
  clear h h3 hi hj
  generalize D.length = n at li lj hl c PF ⊢
  have i0 : (0 : Int) ≤ i := by omega
  have j0 : (0 : Int) ≤ j := by omega
  have iN : (i : Int) < n := by omega
  have jN : (j : Int) < n := by omega
  have e1 : i * 2 ≠ j * 2 := by omega
  have e2 : i * 2 + 1 ≠ j * 2 := by omega
  have e3 : i * 2 ≠ j * 2 + 1 := by omega
  have e4 : j * 2 ≠ i * 2 := by omega
  have e5 : j * 2 + 1 ≠ i * 2 := by omega
  have e6 : j * 2 ≠ i * 2 + 1 := by omega
  go_enter Tryz.func230, Tryz.ntmps230
  go_wp2
  go_region
  all_goals
    go_wp2
    go_end0
    exact ⟨rfl, PF.out⟩
end Go.Proofs.YtfmnaidhfgmemaaGreatDoor

namespace Go.Proofs.YtfmnaidhfgmemaaGreatDoor
open Go.RowKit
theorem set_same_wb (D : List Wb) (i : Nat) (a : Wb) (h : D[i]? = some a) : D.set i a = D := by
  obtain ⟨h1, rfl⟩ := List.getElem?_eq_some_iff.1 h
  exact List.set_getElem_self h1
set_option maxHeartbeats 1000000 in
set_option maxRecDepth 100000 in
theorem hswap_self (hp q i : Nat) (u : Value) (D : List Wb) (a : Wb) (w : World) (h : HeapAt w hp q u D) (hi : D[i]? = some a) :
    Calls Tryz.prog 230 #[.pointer (some ⟨hp, 0, none⟩), .int .i64 i, .int .i64 i] w fun e w' => e = .returned (.tuple #[]) ∧ HeapAt w' hp q u D ∧ KeptG w w' hp u := by
  obtain ⟨ad, cap, rfl, -, -, h3⟩ := h.form
  have li := (List.getElem?_eq_some_iff.1 hi).1
  obtain ⟨g, rfl, hqg, -⟩ := h3 (by omega)
  have c := h.cell
  have hl := h.2.2.1
  obtain ⟨a0, a1⟩ := wown_cells h.2.2.2.2 hi
  have f0 := fun o => wown_frozen h.2.2.2.2 o
  have hD := h.below (Below.refl _ _).drew
  have P1 := hD.put i li a
  rw [set_same_wb D i a hi] at P1
  have P3 := P1.put i li a
  rw [set_same_wb D i a hi] at P3
  have PF : Hid (HeapAt ((((w.drew.setCell ⟨g, i * 2, none⟩ (.int .i64 a.1)).setCell ⟨g, i * 2 + 1, none⟩ (.int .i64 a.2)).setCell ⟨g, i * 2, none⟩ (.int .i64 a.1)).setCell ⟨g, i * 2 + 1, none⟩ (.int .i64 a.2)) hp q (.slice (some ⟨g, 0, none⟩) D.length cap) D ∧ KeptG w ((((w.drew.setCell ⟨g, i * 2, none⟩ (.int .i64 a.1)).setCell ⟨g, i * 2 + 1, none⟩ (.int .i64 a.2)).setCell ⟨g, i * 2, none⟩ (.int .i64 a.1)).setCell ⟨g, i * 2 + 1, none⟩ (.int .i64 a.2)) hp (.slice (some ⟨g, 0, none⟩) D.length cap)) := ⟨P3, ((KeptG.below (Below.refl w.heap.size w).drew).trans (keptG_put _ _ _ _)).trans (keptG_put _ _ _ _)⟩
  obtain ⟨x, y⟩ := a
  simp only at a0 a1 PF
  clear P1 P3 hD
  have hpg : hp ≠ g := by have := h.1; omega
  clear h h3 hi
  generalize D.length = n at li hl c PF ⊢
  have i0 : (0 : Int) ≤ i := by omega
  have iN : (i : Int) < n := by omega
  go_enter Tryz.func230, Tryz.ntmps230
  go_wp2
  go_region
  all_goals
    go_wp2
    go_end0
    exact ⟨rfl, PF.out⟩
set_option maxHeartbeats 1000000 in
set_option maxRecDepth 100000 in
theorem hpop_any (hp q n : Nat) (u : Value) (D : List Wb) (a : Wb) (w : World) (h : HeapAt w hp q u D) (hn : D.length = n + 1) (ha : D[n]? = some a) :
    Calls Tryz.prog 228 #[.pointer (some ⟨hp, 0, none⟩)] w fun e w' => e = .returned (.iface 182 (.agg #[.int .i64 a.1, .int .i64 a.2])) ∧ KeptG w w' hp u := by
  obtain ⟨ad, cap, rfl, h1, h2, h3⟩ := h.form
  obtain ⟨g, rfl, hqg, hgl⟩ := h3 (by omega)
  have c := h.cell
  have hl := h.2.2.1
  obtain ⟨a0, a1⟩ := wown_cells h.2.2.2.2 ha
  have hpl : hp < w.heap.size := (Array.getElem?_eq_some_iff.1 h.2.2.2.1).1
  have hp1 := h.1
  rw [hn] at c hl h1
  obtain ⟨x, y⟩ := a
  simp only at a0 a1 ⊢
  have b1 := (Below.refl w.heap.size w).alloc (Nat.le_refl _) (.cells #[.int .i64 x, .int .i64 y] 182)
  have r1 := (b1.block _ hpl).trans h.2.2.2.1
  rw [hn] at r1
  have c1 : (w.alloc (.cells #[.int .i64 x, .int .i64 y] 182)).cell? ⟨hp, 0, none⟩ = some (.slice (some ⟨g, 0, none⟩) (n + 1) cap) := cell_of_row _ _ 0 _ _ _ r1
  have f1 : (w.alloc (.cells #[.int .i64 x, .int .i64 y] 182)).frozen? ⟨hp, 0, none⟩ = false := frozen_of_row _ _ 0 _ _ r1
  have PF : ∀ v, Hid (KeptG w ((w.setCell ⟨hp, 0, none⟩ v).alloc (.cells #[.int .i64 x, .int .i64 y] 182)) hp (.slice (some ⟨g, 0, none⟩) D.length cap)) := fun v => KeptG.trans (b := w.setCell ⟨hp, 0, none⟩ v) ⟨rfl, rfl, rfl, by simp, fun i _ hne => Below.heap_setCell _ _ _ _ hne.1⟩ (KeptG.below ((Below.refl _ _).alloc (Nat.le_refl _) _))
  unfold maxLen at h2
  have n0 : (0 : Int) ≤ n := by omega
  have hnw : ((n + 1 : Nat) : Int) - 1 = n := by omega
  have hne : hp ≠ w.heap.size := by omega
  clear h h3 ha b1 r1
  go_enter Tryz.func228, Tryz.ntmps228
  go_wp2
  go_ret
  exact ⟨rfl, (PF _).out⟩
end Go.Proofs.YtfmnaidhfgmemaaGreatDoor

namespace Go.Proofs.YtfmnaidhfgmemaaGreatDoor
open Go.RowKit
theorem find_len (a : Option Addr) (w : World) : Sem.run Tryz.prog (method (Tryz.prog.types.size + 100) 179 (.pointer a) "Len") w = .ok (114, .pointer a) w := by kernel_rfl
theorem find_less (a : Option Addr) (w : World) : Sem.run Tryz.prog (method (Tryz.prog.types.size + 100) 179 (.pointer a) "Less") w = .ok (227, .pointer a) w := by kernel_rfl
theorem find_swap (a : Option Addr) (w : World) : Sem.run Tryz.prog (method (Tryz.prog.types.size + 100) 179 (.pointer a) "Swap") w = .ok (230, .pointer a) w := by kernel_rfl
theorem find_push (a : Option Addr) (w : World) : Sem.run Tryz.prog (method (Tryz.prog.types.size + 100) 179 (.pointer a) "Push") w = .ok (229, .pointer a) w := by kernel_rfl
theorem find_pop (a : Option Addr) (w : World) : Sem.run Tryz.prog (method (Tryz.prog.types.size + 100) 179 (.pointer a) "Pop") w = .ok (228, .pointer a) w := by kernel_rfl
def UpS (w wr : World) (hp q : Nat) (u : Value) (D0 D : List Wb) : Prop := D.length = D0.length ∧ (∀ x, x ∈ D ↔ x ∈ D0) ∧ HeapAt wr hp q u D ∧ KeptH w wr hp q
theorem UpS.swap {w wr w2 : World} {hp q i j : Nat} {u : Value} {D0 D : List Wb} {a b : Wb} (h : UpS w wr hp q u D0 D) (ha : D[i]? = some a) (hb : D[j]? = some b) (h2 : HeapAt w2 hp q u (swp D i j a b)) (k2 : KeptG wr w2 hp u) : UpS w w2 hp q u D0 (swp D i j a b) :=
  ⟨(swp_len _ _ _ _ _).trans h.1, fun x => (swp_mem ha hb x).trans (h.2.1 x), h2, h.2.2.2.trans (k2.h h.2.2.1)⟩
theorem UpS.below {w wr w2 : World} {hp q : Nat} {u : Value} {D0 D : List Wb} (h : UpS w wr hp q u D0 D) (hb : Below wr.heap.size wr w2) : UpS w w2 hp q u D0 D :=
  ⟨h.1, h.2.1, h.2.2.1.below hb, h.2.2.2.trans (KeptH.below hb)⟩
set_option maxHeartbeats 1000000 in
set_option maxRecDepth 100000 in
theorem up_any (hp q j0 : Nat) (u : Value) (D0 : List Wb) (w : World) (h : HeapAt w hp q u D0) (hb : HeapBut D0 j0) (hj : j0 < D0.length) :
    Calls Tryz.prog 161 #[.iface 179 (.pointer (some ⟨hp, 0, none⟩)), .int .i64 j0] w fun e w' => e = .returned (.tuple #[]) ∧ ∃ D, Heapy D ∧ UpS w w' hp q u D0 D := by
  have mL := find_less (some ⟨hp, 0, none⟩)
  have mS := find_swap (some ⟨hp, 0, none⟩)
  have R0 : Hid (UpS w w hp q u D0 D0) := ⟨rfl, fun _ => Iff.rfl, h, KeptH.refl _ _ _⟩
  have HB0 := hide hb
  have hl := h.2.2.1
  obtain ⟨n, hn⟩ : ∃ n, D0.length = n := ⟨_, rfl⟩
  rw [hn] at hj hl
  have HN := hide hn
  clear h hb hn
  go_enter Tryz.func161, Tryz.ntmps161
  go_wp2
  go_loopw [1] (fun jv wr => ∃ (j : Nat) (D : List Wb), jv = .int .i64 j ∧ j < n ∧ Hid (HeapBut D j) ∧ Hid (UpS w wr hp q u D0 D)) (fun jv _ => (intOf jv).toNat)
  case atStart => exact ⟨j0, D0, rfl, hj, HB0, R0⟩
  case round =>
    obtain ⟨j, D, rfl, hjn, HB, HR⟩ := hrel
    clear R0 HB0
    by_cases h0 : j = 0
    · subst h0
      have PF : Hid (∃ D, Heapy D ∧ UpS w wr hp q u D0 D) := ⟨D, HB.out.done (Or.inl rfl), HR.out⟩
      clear HR HB
      go_wp2
      go_end0
      exact ⟨rfl, PF.out⟩
    · obtain ⟨i, hi⟩ : ∃ i, (j - 1) / 2 = i := ⟨_, rfl⟩
      have hij : i < j := by omega
      have hiI : ((j : Int) - 1) / 2 = i := by omega
      have hiT : ((j : Int) - 1).tdiv 2 = i := by rw [Int.tdiv_eq_ediv_of_nonneg (by omega)]; exact hiI
      have hne : ((i : Int) == (j : Int)) = false := by simp; omega
      have hne2 : ¬ (i : Int) = j := by omega
      have hdl : D.length = n := HR.out.1.trans HN.out
      obtain ⟨b, hb⟩ : ∃ b, D[j]? = some b := ⟨_, List.getElem?_eq_getElem (by omega)⟩
      obtain ⟨a, ha⟩ : ∃ a, D[i]? = some a := ⟨_, List.getElem?_eq_getElem (by omega)⟩
      have C := hide (hless_any hp q j i u D b a wr HR.out.2.2.1 hb ha)
      have HI := hide hi
      have HHb := hide hb
      have HHa := hide ha
      have HI2 := hide hiI
      have HI3 := hide hiT
      clear hi hb ha hdl
      by_cases hlt : ltW b a
      · rw [decide_eq_true hlt] at C
        have NB := hide (HB.out.step (by omega) HI.out HHa.out HHb.out hlt)
        clear hlt HB
        go_wp2_with fail
        refine C.out.mono ?_
        rintro e w2 ⟨rfl, b2⟩
        have R2 := hide (HR.out.below b2)
        have C2 := hide (hswap_ne hp q i j u D a b w2 R2.out.2.2.1 HHa.out HHb.out (by omega))
        clear C b2 HR
        go_wp2_with fail
        refine C2.out.mono ?_
        rintro e w3 ⟨rfl, h3, k3⟩
        have R3 := hide (R2.out.swap HHa.out HHb.out h3 k3)
        clear C2 h3 k3 R2
        go_wp2
        go_roundw
        case rel => exact ⟨i, _, rfl, by omega, NB, R3⟩
        case measure => simp [intOf]; omega
      · rw [decide_eq_false hlt] at C
        have PF := hide (HB.out.done (Or.inr ⟨b, a, HHb.out, by rw [HI.out]; exact HHa.out, hlt⟩))
        clear hlt HB
        go_wp2_with fail
        refine C.out.mono ?_
        rintro e w2 ⟨rfl, b2⟩
        have R2 := hide (HR.out.below b2)
        clear C b2 HR
        go_wp2
        go_end0
        exact ⟨rfl, D, PF.out, R2.out⟩
end Go.Proofs.YtfmnaidhfgmemaaGreatDoor

namespace Go.Proofs.YtfmnaidhfgmemaaGreatDoor
open Go.RowKit
def DnS (w wr : World) (hp q n : Nat) (u : Value) (x : Wb) (D : List Wb) : Prop := D.length = n + 1 ∧ D[n]? = some x ∧ HeapAt wr hp q u D ∧ KeptG w wr hp u
theorem DnS.below {w wr w2 : World} {hp q n : Nat} {u : Value} {x : Wb} {D : List Wb} (h : DnS w wr hp q n u x D) (hb : Below wr.heap.size wr w2) : DnS w w2 hp q n u x D :=
  ⟨h.1, h.2.1, h.2.2.1.below hb, h.2.2.2.trans (KeptG.below hb)⟩
theorem DnS.swap {w wr w2 : World} {hp q n i j : Nat} {u : Value} {x : Wb} {D : List Wb} {a b : Wb} (h : DnS w wr hp q n u x D) (ha : D[i]? = some a) (hb : D[j]? = some b) (hi : i < n) (hj : j < n) (h2 : HeapAt w2 hp q u (swp D i j a b)) (k2 : KeptG wr w2 hp u) : DnS w w2 hp q n u x (swp D i j a b) :=
  ⟨(swp_len _ _ _ _ _).trans h.1, by rw [swp_at ha hb, if_neg (by omega), if_neg (by omega)]; exact h.2.1, h2, h.2.2.2.trans k2⟩
set_option maxHeartbeats 1000000 in
set_option maxRecDepth 100000 in
theorem down_any (hp q n : Nat) (u : Value) (x : Wb) (D0 : List Wb) (w0 w : World) (h : DnS w0 w hp q n u x D0) :
    Calls Tryz.prog 162 #[.iface 179 (.pointer (some ⟨hp, 0, none⟩)), .int .i64 0, .int .i64 n] w fun e w' => ∃ b D, e = .returned (.bool b) ∧ DnS w0 w' hp q n u x D := by
  have mL := find_less (some ⟨hp, 0, none⟩)
  have mS := find_swap (some ⟨hp, 0, none⟩)
  have R0 := hide h
  have hl : n + 1 ≤ 1048576 := by have := h.2.2.1.2.2.1; rw [h.1] at this; exact this
  clear h
  go_enter Tryz.func162, Tryz.ntmps162
  go_wp2
  go_loopw [7] (fun iv wr => ∃ (i : Nat) (D : List Wb), iv = .int .i64 i ∧ i ≤ n ∧ Hid (DnS w0 wr hp q n u x D)) (fun iv _ => n - (intOf iv).toNat)
  case atStart => exact ⟨0, D0, rfl, Nat.zero_le _, R0⟩
  case round =>
    obtain ⟨i, D, rfl, hin, HR⟩ := hrel
    clear R0
    by_cases h1 : (n : Int) ≤ 2 * i + 1
    · go_wp2
      go_ret
      exact ⟨_, D, rfl, HR.out⟩
    · have hdl := HR.out.1
      obtain ⟨a, ha⟩ : ∃ a, D[i]? = some a := ⟨_, List.getElem?_eq_getElem (by omega)⟩
      obtain ⟨b, hb⟩ : ∃ b, D[2 * i + 1]? = some b := ⟨_, List.getElem?_eq_getElem (by omega)⟩
      obtain ⟨j, hj⟩ : ∃ j, 2 * i + 1 = j := ⟨_, rfl⟩
      rw [hj] at hb
      have hjI : 2 * (i : Int) + 1 = j := by omega
      have HHa := hide ha
      have HHb := hide hb
      have HJ := hide hj
      have hjn : j < n := by omega
      have hj0 : (0 : Int) ≤ j := by omega
      clear ha hb hj
      by_cases h2 : (j : Int) + 1 < n
      · obtain ⟨b2, hb2⟩ : ∃ b2, D[j + 1]? = some b2 := ⟨_, List.getElem?_eq_getElem (by omega)⟩
        have C := hide (hless_any hp q (j + 1) j u D b2 b wr HR.out.2.2.1 hb2 HHb.out)
        have HHb2 := hide hb2
        rw [show ((j + 1 : Nat) : Int) = (j : Int) + 1 by omega] at C
        clear hb2 hdl
        by_cases hls : ltW b2 b
        · rw [decide_eq_true hls] at C
          clear hls
          go_wp2_with fail
          refine C.out.mono ?_
          rintro e w2 ⟨rfl, b2'⟩
          have R2 := hide (HR.out.below b2')
          clear C b2' HR
          have C3 := hide (hless_any hp q (j + 1) i u D b2 a _ R2.out.2.2.1 HHb2.out HHa.out)
          rw [show ((j + 1 : Nat) : Int) = (j : Int) + 1 by omega] at C3
          by_cases hlt : ltW b2 a
          · rw [decide_eq_true hlt] at C3
            clear hlt
            go_wp2_with fail
            refine C3.out.mono ?_
            rintro e w3 ⟨rfl, b3⟩
            have R3 := hide (R2.out.below b3)
            have C4 := hide (hswap_ne hp q i (j + 1) u D a b2 w3 R3.out.2.2.1 HHa.out HHb2.out (by omega))
            rw [show ((j + 1 : Nat) : Int) = (j : Int) + 1 by omega] at C4
            clear C3 b3 R2
            go_wp2_with fail
            refine C4.out.mono ?_
            rintro e w4 ⟨rfl, h4, k4⟩
            have R4 := hide (R3.out.swap HHa.out HHb2.out (by omega) (by omega) h4 k4)
            clear C4 h4 k4 R3
            go_wp2
            go_roundw
            case rel => exact ⟨j + 1, _, by go_num, by omega, R4⟩
            case measure => simp [intOf]; omega
          · rw [decide_eq_false hlt] at C3
            clear hlt
            go_wp2_with fail
            refine C3.out.mono ?_
            rintro e w3 ⟨rfl, b3⟩
            have R3 := hide (R2.out.below b3)
            clear C3 b3 R2
            go_wp2
            go_ret
            exact ⟨_, D, rfl, R3.out⟩
        · rw [decide_eq_false hls] at C
          clear hls
          go_wp2_with fail
          refine C.out.mono ?_
          rintro e w2 ⟨rfl, b2'⟩
          have R2 := hide (HR.out.below b2')
          clear C b2' HR
          have C3 := hide (hless_any hp q (j) i u D b a _ R2.out.2.2.1 HHb.out HHa.out)
          by_cases hlt : ltW b a
          · rw [decide_eq_true hlt] at C3
            clear hlt
            go_wp2_with fail
            refine C3.out.mono ?_
            rintro e w3 ⟨rfl, b3⟩
            have R3 := hide (R2.out.below b3)
            have C4 := hide (hswap_ne hp q i (j) u D a b w3 R3.out.2.2.1 HHa.out HHb.out (by omega))
            clear C3 b3 R2
            go_wp2_with fail
            refine C4.out.mono ?_
            rintro e w4 ⟨rfl, h4, k4⟩
            have R4 := hide (R3.out.swap HHa.out HHb.out (by omega) (by omega) h4 k4)
            clear C4 h4 k4 R3
            go_wp2
            go_roundw
            case rel => exact ⟨j, _, by go_num, by omega, R4⟩
            case measure => simp [intOf]; omega
          · rw [decide_eq_false hlt] at C3
            clear hlt
            go_wp2_with fail
            refine C3.out.mono ?_
            rintro e w3 ⟨rfl, b3⟩
            have R3 := hide (R2.out.below b3)
            clear C3 b3 R2
            go_wp2
            go_ret
            exact ⟨_, D, rfl, R3.out⟩
      · clear hdl
        have C3 := hide (hless_any hp q (j) i u D b a _ HR.out.2.2.1 HHb.out HHa.out)
        by_cases hlt : ltW b a
        · rw [decide_eq_true hlt] at C3
          clear hlt
          go_wp2_with fail
          refine C3.out.mono ?_
          rintro e w3 ⟨rfl, b3⟩
          have R3 := hide (HR.out.below b3)
          have C4 := hide (hswap_ne hp q i (j) u D a b w3 R3.out.2.2.1 HHa.out HHb.out (by omega))
          clear C3 b3 HR
          go_wp2_with fail
          refine C4.out.mono ?_
          rintro e w4 ⟨rfl, h4, k4⟩
          have R4 := hide (R3.out.swap HHa.out HHb.out (by omega) (by omega) h4 k4)
          clear C4 h4 k4 R3
          go_wp2
          go_roundw
          case rel => exact ⟨j, _, by go_num, by omega, R4⟩
          case measure => simp [intOf]; omega
        · rw [decide_eq_false hlt] at C3
          clear hlt
          go_wp2_with fail
          refine C3.out.mono ?_
          rintro e w3 ⟨rfl, b3⟩
          have R3 := hide (HR.out.below b3)
          clear C3 b3 HR
          go_wp2
          go_ret
          exact ⟨_, D, rfl, R3.out⟩
end Go.Proofs.YtfmnaidhfgmemaaGreatDoor

namespace Go.Proofs.YtfmnaidhfgmemaaGreatDoor
open Go.RowKit
def HeapOf (w wr : World) (hp q : Nat) (L : List Wb) : Prop := ∃ u D, Heapy D ∧ D.length = L.length ∧ (∀ y, y ∈ D ↔ y ∈ L) ∧ HeapAt wr hp q u D ∧ KeptH w wr hp q
set_option maxHeartbeats 1000000 in
set_option maxRecDepth 100000 in
theorem heapPush_any (hp q : Nat) (L : List Wb) (x : Wb) (w0 w : World) (h : HeapOf w0 w hp q L) (hd : L.length < 1048576) :
    Calls Tryz.prog 142 #[.iface 179 (.pointer (some ⟨hp, 0, none⟩)), .iface 182 (.agg #[.int .i64 x.1, .int .i64 x.2])] w fun e w' => e = .returned (.tuple #[]) ∧ HeapOf w0 w' hp q (L ++ [x]) := by
  have mN := find_len (some ⟨hp, 0, none⟩)
  have mP := find_push (some ⟨hp, 0, none⟩)
  obtain ⟨u, D, h1, h2, h3, h4, h5⟩ := h
  have C := hide (hpush_any hp q u D x w h4 (by omega))
  obtain ⟨n, hn⟩ : ∃ n, D.length = n := ⟨_, rfl⟩
  have HH := hide (show Heapy D ∧ D.length = L.length ∧ (∀ y, y ∈ D ↔ y ∈ L) ∧ KeptH w0 w hp q from ⟨h1, h2, h3, h5⟩)
  have hnl : n + 1 ≤ 1048576 := by omega
  have HN := hide hn
  clear h1 h2 h3 h4 h5 hn hd
  go_enter Tryz.func142, Tryz.ntmps142
  go_wp2_with fail
  refine C.out.mono ?_
  rintro e w2 ⟨rfl, u2, h2, k2⟩
  have C2 := hide (hlen_any hp q u2 _ w2 h2)
  have C3 := hide (up_any hp q n u2 (D ++ [x]) w2 h2 (by have := HH.out.1.push x; rw [HN.out] at this; exact this) (by have := HN.out; simp; omega))
  rw [show (((D ++ [x]).length : Nat) : Int) = (n : Int) + 1 by have := HN.out; simp; omega] at C2
  have K2 := hide k2
  clear C h2 k2
  go_wp2_with fail
  refine C2.out.mono ?_
  rintro e w3 ⟨rfl, rfl⟩
  clear C2
  go_wp2_with fail
  refine C3.out.mono ?_
  rintro e w4 ⟨rfl, D4, g4, e4, m4, a4, k4⟩
  have PF : Hid (HeapOf w0 w4 hp q (L ++ [x])) := by
    refine ⟨u2, D4, g4, ?_, fun y => ?_, a4, (HH.out.2.2.2.trans K2.out).trans k4⟩
    · rw [e4, List.length_append, List.length_append, HH.out.2.1]
    · rw [m4 y, List.mem_append, List.mem_append, HH.out.2.2.1 y]
  clear C3 g4 e4 m4 a4 k4 K2 HH
  go_wp2
  go_end0
  exact ⟨rfl, PF.out⟩
set_option maxHeartbeats 1000000 in
set_option maxRecDepth 100000 in
theorem heapPop_any (hp q : Nat) (u : Value) (D : List Wb) (L : List Wb) (r : Wb) (w : World) (h1 : Heapy D) (h3 : ∀ y, y ∈ D ↔ y ∈ L) (h4 : HeapAt w hp q u D) (hr : IsLeast L r) :
    Calls Tryz.prog 143 #[.iface 179 (.pointer (some ⟨hp, 0, none⟩))] w fun e w' => e = .returned (.iface 182 (.agg #[.int .i64 r.1, .int .i64 r.2])) ∧ KeptG w w' hp u := by
  have mN := find_len (some ⟨hp, 0, none⟩)
  have mS := find_swap (some ⟨hp, 0, none⟩)
  have mP := find_pop (some ⟨hp, 0, none⟩)
  have hrD := (h3 r).2 hr.1
  obtain ⟨k, hk, ek⟩ := List.getElem_of_mem hrD
  obtain ⟨n, hn⟩ : ∃ n, D.length = n + 1 := ⟨D.length - 1, by omega⟩
  obtain ⟨t, ht⟩ : ∃ t, D[0]? = some t := ⟨_, List.getElem?_eq_getElem (by omega)⟩
  have htr : t = r := IsLeast.eq (L := L) ⟨(h3 t).1 (List.mem_of_getElem? ht), fun x hx => by
    obtain ⟨j, hj, ej⟩ := List.getElem_of_mem ((h3 x).2 hx)
    exact h1.root ht j x (List.getElem?_eq_some_iff.2 ⟨hj, ej⟩)⟩ hr
  subst htr
  obtain ⟨z, hz⟩ : ∃ z, D[n]? = some z := ⟨_, List.getElem?_eq_getElem (by omega)⟩
  have hl := h4.2.2.1
  rw [hn] at hl
  have C1 := hide (hlen_any hp q u D w h4)
  rw [show ((D.length : Nat) : Int) = (n : Int) + 1 by omega] at C1
  -- the first place and the last one change
  have C2 : Hid (Calls Tryz.prog 230 #[.pointer (some ⟨hp, 0, none⟩), .int .i64 0, .int .i64 n] w fun e w' => e = .returned (.tuple #[]) ∧ ∃ D2, DnS w w' hp q n u t D2) := by
    by_cases h0 : n = 0
    · subst h0
      refine (hswap_self hp q 0 u D t w h4 ht).mono ?_
      rintro e w' ⟨rfl, a, b⟩
      exact ⟨rfl, D, hn, ht, a, b⟩
    · refine (hswap_ne hp q 0 n u D t z w h4 ht hz (by omega)).mono ?_
      rintro e w' ⟨rfl, a, b⟩
      exact ⟨rfl, _, (swp_len _ _ _ _ _).trans hn, by rw [swp_at ht hz, if_pos rfl], a, b⟩
  clear h1 h3 h4 hr hrD hk ek hz ht
  obtain ⟨w0, e0⟩ : ∃ w0, w0 = w := ⟨_, rfl⟩
  have C2 : Hid (Calls Tryz.prog 230 #[.pointer (some ⟨hp, 0, none⟩), .int .i64 0, .int .i64 n] w fun e w' => e = .returned (.tuple #[]) ∧ ∃ D2, DnS w0 w' hp q n u t D2) := by rw [e0]; exact C2
  rw [show (fun e w' => e = Ending.returned (.iface 182 (.agg #[.int .i64 t.1, .int .i64 t.2])) ∧ KeptG w w' hp u) = (fun e w' => e = Ending.returned (.iface 182 (.agg #[.int .i64 t.1, .int .i64 t.2])) ∧ KeptG w0 w' hp u) by rw [e0]]
  clear e0
  go_enter Tryz.func143, Tryz.ntmps143
  go_wp2_with fail
  refine C1.out.mono ?_
  rintro e w1 ⟨rfl, rfl⟩
  clear C1
  go_wp2_with fail
  refine C2.out.mono ?_
  rintro e w2 ⟨rfl, D2, s2⟩
  have C3 := hide (down_any hp q n u t D2 w0 w2 s2)
  clear C2 s2
  go_wp2_with fail
  refine C3.out.mono ?_
  rintro e w3 ⟨b3, D3, rfl, s3⟩
  have C4 := hide (hpop_any hp q n u D3 t w3 s3.2.2.1 s3.1 s3.2.1)
  have K3 := hide s3.2.2.2
  clear C3 s3
  go_wp2_with fail
  refine C4.out.mono ?_
  rintro e w4 ⟨rfl, k4⟩
  have K4 := hide (K3.out.trans k4)
  clear C4 k4 K3
  go_wp2
  go_ret
  exact ⟨rfl, K4.out⟩
theorem worn_assert2 (x y : Int) (w : World) : (Instr.typeAssert (.iface 182 (.agg #[.int .i64 x, .int .i64 y])) 20 182 false).run Tryz.prog w = .ok (.agg #[.int .i64 x, .int .i64 y]) w := by kernel_rfl
theorem infoWorn2 : (Tryz.prog.info? 182).map (·.size) = some 2 := by kernel_rfl
set_option maxHeartbeats 1000000 in
set_option maxRecDepth 100000 in
theorem least_any (hp q : Nat) (L : List Wb) (r : Wb) (w0 w : World) (h : HeapOf w0 w hp q L) (hr : IsLeast L r) :
    Calls Tryz.prog 115 #[.pointer (some ⟨hp, 0, none⟩)] w fun e w' => e = .returned (.agg #[.int .i64 r.1, .int .i64 r.2]) ∧ KeptH w0 w' hp q := by
  have TA := worn_assert2 r.1 r.2
  have b1 := (Below.refl w.heap.size w).alloc (Nat.le_refl _) (.cells #[.int .i64 0, .int .i64 0] 182)
  obtain ⟨u, D, h1, h2, h3, h4, h5⟩ := h
  have C := hide (heapPop_any hp q u D L r _ h1 h3 (h4.below b1) hr)
  have hpl : hp < w.heap.size := (Array.getElem?_eq_some_iff.1 h4.2.2.2.1).1
  have hul : ∀ g, u.ownBlock = some g → g < w.heap.size := fun g hg => (h4.2.2.2.2.lt g hg).2
  have R0 := hide (heap_alloc_new w (.cells #[.int .i64 0, .int .i64 0] 182))
  have HZ := hide (show (w.alloc (.cells #[.int .i64 0, .int .i64 0] 182)).heap.size = w.heap.size + 1 by simp)
  have KF : Hid (∀ W v v', KeptG (w.alloc (.cells #[.int .i64 0, .int .i64 0] 182)) W hp u → KeptH w0 ((W.setCell ⟨w.heap.size, 0, none⟩ v).setCell ⟨w.heap.size, 1, none⟩ v') hp q) := by
    intro W v v' hk
    have h6 := h4.2.1
    exact ((h5.trans (KeptH.below b1)).trans (hk.h (h4.below b1))).trans ((keptH_set h6 _ _).trans (keptH_set h6 _ _))
  have HNE : Hid (hp ≠ w.heap.size ∧ u.ownBlock ≠ some w.heap.size) := ⟨by omega, fun e => by have := hul _ e; omega⟩
  obtain ⟨x, y⟩ := r
  simp only at TA C ⊢
  clear b1 h1 h2 h3 h4 h5 hul hpl hr
  go_enter Tryz.func115, Tryz.ntmps115
  go_wp2_with fail
  refine C.out.mono ?_
  rintro e w2 ⟨rfl, k2⟩
  have r2 := (k2.2.2.2.2 w.heap.size (by have := HZ.out; omega) ⟨fun e => HNE.out.1 e.symm, HNE.out.2⟩).trans R0.out
  have c0 : w2.cell? ⟨w.heap.size, 0, none⟩ = some (.int .i64 0) := cell_of_row _ _ 0 _ _ _ r2
  have c1 : w2.cell? ⟨w.heap.size, 1, none⟩ = some (.int .i64 0) := cell_of_row _ _ 1 _ _ _ r2
  have f0 := frozen_of_row _ _ 0 _ _ r2
  have f1 := frozen_of_row _ _ 1 _ _ r2
  have Q2 := hide (row_set (row_set r2 0 (.int .i64 x)) 1 (.int .i64 y))
  have K2 := hide (KF.out w2 (.int .i64 x) (.int .i64 y) k2)
  clear C k2 r2
  go_wp2
  exact bodyPost_ret (results_cell_row rfl _ _ w.heap.size 182 _ (0, 0) _ rfl Q2.out Tryz.underlying182 rfl infoWorn2) rfl ⟨rfl, K2.out⟩
end Go.Proofs.YtfmnaidhfgmemaaGreatDoor
