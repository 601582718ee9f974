/-
  container/heap's up.
-/
import Derived.Test.YtcjgjkejhkhknaaLess
import Derived.Test.YtcjgjkejhkhknaaHPush
import Derived.Test.YtcjgjkejhkhknaaHPop
namespace Go.Proofs.Ytcjgjkejhkhknaa
open Go.RowKit

theorem find_len (a : Option Addr) (w : World) : Sem.run Try.prog (method (Try.prog.types.size + 100) 85 (.pointer a) "Len") w = .ok (46, .pointer a) w := by kernel_rfl
theorem find_less (a : Option Addr) (w : World) : Sem.run Try.prog (method (Try.prog.types.size + 100) 85 (.pointer a) "Less") w = .ok (170, .pointer a) w := by kernel_rfl
theorem find_swap (a : Option Addr) (w : World) : Sem.run Try.prog (method (Try.prog.types.size + 100) 85 (.pointer a) "Swap") w = .ok (173, .pointer a) w := by kernel_rfl
theorem find_push (a : Option Addr) (w : World) : Sem.run Try.prog (method (Try.prog.types.size + 100) 85 (.pointer a) "Push") w = .ok (172, .pointer a) w := by kernel_rfl
theorem find_pop (a : Option Addr) (w : World) : Sem.run Try.prog (method (Try.prog.types.size + 100) 85 (.pointer a) "Pop") w = .ok (171, .pointer a) w := by kernel_rfl

/-- A heap whose row is another order of D0. -/
def UpS (w wr : World) (hp q : Nat) (u : Value) (D0 D : List Wb) : Prop := D.length = D0.length ∧ (∀ x, x ∈ D ↔ x ∈ D0) ∧ HeapAt wr hp q u D ∧ KeptH w wr hp q
theorem UpS.swap {w wr w2 : World} {hp q i j : Nat} {u : Value} {D0 D : List Wb} {a b : Wb} (h : UpS w wr hp q u D0 D) (ha : D[i]? = some a) (hb : D[j]? = some b) (h2 : HeapAt w2 hp q u (swp D i j a b)) (k2 : KeptG wr w2 hp u) : UpS w w2 hp q u D0 (swp D i j a b) :=
  ⟨(swp_len _ _ _ _ _).trans h.1, fun x => (swp_mem ha hb x).trans (h.2.1 x), h2, h.2.2.2.trans (k2.h h.2.2.1)⟩
theorem UpS.below {w wr w2 : World} {hp q : Nat} {u : Value} {D0 D : List Wb} (h : UpS w wr hp q u D0 D) (hb : Below wr.heap.size wr w2) : UpS w w2 hp q u D0 D :=
  ⟨h.1, h.2.1, h.2.2.1.below hb, h.2.2.2.trans (KeptH.below hb)⟩

set_option maxHeartbeats 1000000 in
set_option maxRecDepth 100000 in
theorem up_any (hp q j0 : Nat) (u : Value) (D0 : List Wb) (w : World) (h : HeapAt w hp q u D0) (hb : HeapBut D0 j0) (hj : j0 < D0.length) :
    Calls Try.prog 116 #[.iface 85 (.pointer (some ⟨hp, 0, none⟩)), .int .i64 j0] w fun e w' => e = .returned (.tuple #[]) ∧ ∃ D, Heapy D ∧ UpS w w' hp q u D0 D := by
  have mL := find_less (some ⟨hp, 0, none⟩)
  have mS := find_swap (some ⟨hp, 0, none⟩)
  have R0 : Hid (UpS w w hp q u D0 D0) := ⟨rfl, fun _ => Iff.rfl, h, KeptH.refl _ _ _⟩
  have HB0 := hide hb
  have hl := h.2.2.1
  obtain ⟨n, hn⟩ : ∃ n, D0.length = n := ⟨_, rfl⟩
  rw [hn] at hj hl
  have HN := hide hn
  clear h hb hn
  go_enter Try.func116, Try.ntmps116
  go_wp2
  go_loopw [1] (fun jv wr => ∃ (j : Nat) (D : List Wb), jv = .int .i64 j ∧ j < n ∧ Hid (HeapBut D j) ∧ Hid (UpS w wr hp q u D0 D)) (fun jv _ => (intOf jv).toNat)
  case atStart => exact ⟨j0, D0, rfl, hj, HB0, R0⟩
  case round =>
    obtain ⟨j, D, rfl, hjn, HB, HR⟩ := hrel
    clear R0 HB0
    by_cases h0 : j = 0
    · subst h0
      have PF : Hid (∃ D, Heapy D ∧ UpS w wr hp q u D0 D) := ⟨D, HB.out.done (Or.inl rfl), HR.out⟩
      clear HR HB
      go_wp2
      go_end0
      exact ⟨rfl, PF.out⟩
    · obtain ⟨i, hi⟩ : ∃ i, (j - 1) / 2 = i := ⟨_, rfl⟩
      have hij : i < j := by omega
      have hiI : ((j : Int) - 1) / 2 = i := by omega
      have hiT : ((j : Int) - 1).tdiv 2 = i := by rw [Int.tdiv_eq_ediv_of_nonneg (by omega)]; exact hiI
      have hne : ((i : Int) == (j : Int)) = false := by simp; omega
      have hne2 : ¬ (i : Int) = j := by omega
      have hdl : D.length = n := HR.out.1.trans HN.out
      obtain ⟨b, hb⟩ : ∃ b, D[j]? = some b := ⟨_, List.getElem?_eq_getElem (by omega)⟩
      obtain ⟨a, ha⟩ : ∃ a, D[i]? = some a := ⟨_, List.getElem?_eq_getElem (by omega)⟩
      have C := hide (hless_any hp q j i u D b a wr HR.out.2.2.1 hb ha)
      have HI := hide hi
      have HHb := hide hb
      have HHa := hide ha
      have HI2 := hide hiI
      have HI3 := hide hiT
      clear hi hb ha hdl
      by_cases hlt : ltW b a
      · rw [decide_eq_true hlt] at C
        have NB := hide (HB.out.step (by omega) HI.out HHa.out HHb.out hlt)
        clear hlt HB
        go_wp2_with fail
        refine C.out.mono ?_
        rintro e w2 ⟨rfl, b2⟩
        have R2 := hide (HR.out.below b2)
        have C2 := hide (hswap_ne hp q i j u D a b w2 R2.out.2.2.1 HHa.out HHb.out (by omega))
        clear C b2 HR
        go_wp2_with fail
        refine C2.out.mono ?_
        rintro e w3 ⟨rfl, h3, k3⟩
        have R3 := hide (R2.out.swap HHa.out HHb.out h3 k3)
        clear C2 h3 k3 R2
        go_wp2
        go_roundw
        case rel => exact ⟨i, _, rfl, by omega, NB, R3⟩
        case measure => simp [intOf]; omega
      · rw [decide_eq_false hlt] at C
        have PF := hide (HB.out.done (Or.inr ⟨b, a, HHb.out, by rw [HI.out]; exact HHa.out, hlt⟩))
        clear hlt HB
        go_wp2_with fail
        refine C.out.mono ?_
        rintro e w2 ⟨rfl, b2⟩
        have R2 := hide (HR.out.below b2)
        clear C b2 HR
        go_wp2
        go_end0
        exact ⟨rfl, D, PF.out, R2.out⟩
end Go.Proofs.Ytcjgjkejhkhknaa
