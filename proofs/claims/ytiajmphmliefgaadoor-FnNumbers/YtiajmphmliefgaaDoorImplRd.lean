/-
  The walk of impl.ReadDecimal.
-/
import Derived.Test.YtiajmphmliefgaaDoorImplDec
import Derived.Test.YtiajmphmliefgaaDoorRdMath
import Derived.Test.YtiajmphmliefgaaDoorFigs
namespace Go.Proofs.YtiajmphmliefgaaDoor
open Go.RowKit
open Words
open Go.Lib (decDigits itoa)

def rdYes (l : List UInt8) : Value := .tuple #[.int .i64 (dv l), .bool true]
def rdNo : Value := .tuple #[.int .i64 0, .bool false]

theorem figs_10 (s : ByteArray) (w : World) (hs : s.size ≤ 1048576) :
    Calls Tryd.prog 17 #[.string s, .int .i64 10] w fun e w' => (FigsOk 10 s.data.toList ∧ ∃ v, e = .returned (.tuple #[v, .bool true]) ∧ v ≠ .slice none 0 0 ∧ w'.ownsRow w.heap.size 3 1 v s.size (icells (vals s.data.toList)) ∧ Below w.heap.size w w') ∨
      (¬ FigsOk 10 s.data.toList ∧ e = .returned (.tuple #[.slice none 0 0, .bool false]) ∧ Below w.heap.size w w') :=
  figs_any s 10 w hs (by omega)
set_option maxHeartbeats 1000000 in
set_option maxRecDepth 100000 in
theorem implRd (s : ByteArray) (w : World) (hs : s.size ≤ 10) (ht : PowIn w) :
    Calls Tryd.prog 8 #[.string s] w fun e w' => (RdOk s.data.toList ∧ e = .returned (rdYes s.data.toList) ∨ ¬ RdOk s.data.toList ∧ e = .returned rdNo) ∧ Below w.heap.size w w' := by
  have HT := hide ht
  have hs10 : s.data.toList.length ≤ 10 := by simpa using hs
  have HS := hide hs10
  clear ht hs10
  have hml := max_len
  obtain ⟨L, hL⟩ : ∃ L, itoa 1000000000 = L := ⟨_, rfl⟩
  have HL := hide hL
  rw [hL] at hml
  clear hL
  go_enter Tryd.func8, Tryd.ntmps8
  go_wp2_with fail
  refine (implDec 1000000000 _ (by omega) (by omega) HT.out).mono ?_
  rintro e w1 ⟨rfl, hb1⟩
  rw [HL.out]
  go_wp2_with fail
  refine (figs_10 s _ (by omega)).mono ?_
  rintro e w2 (⟨hok, v, rfl, hnn, hownv, hb2⟩ | ⟨hno, rfl, hb2⟩)
  · have HOK := hide hok
    clear hok
    obtain ⟨gv, capv, rfl, hgv⟩ : ∃ gv capv, v = .slice (some ⟨gv, 0, none⟩) s.size capv ∧ w1.heap.size ≤ gv ∧ gv < w2.heap.size := by
      have hlt := hownv.lt
      rcases hownv.2 with ⟨h, _⟩ | ⟨gv, capv, cur, rfl, -⟩
      · exact absurd h hnn
      · exact ⟨gv, capv, rfl, hlt gv rfl⟩
    clear hnn hgv
    have hb3 := hb1.trans (hb2.mono hb1.size)
    have hT2 := hide (HT.out.on hb3)
    clear hb1 hb2 HT
    go_wp2
    go_loop [6, 23] (fun nv iv => ∃ k : Nat, k ≤ s.size ∧ iv = .int .i64 k ∧ nv = .int .i64 (dv (s.data.toList.take k))) (fun _ iv => s.size - (intOf iv).toNat)
    case atStart => exact ⟨0, Nat.zero_le _, rfl, rfl⟩
    case round =>
      obtain ⟨k, hk, rfl, rfl⟩ := hrel
      have HOKk : Hid (FigsOk 10 (s.data.toList.take k)) := fun x hx => HOK.out x (List.mem_of_mem_take hx)
      obtain ⟨d0, d1⟩ := dv_le s.data.toList k (by simpa using hk) HS.out HOKk.out
      obtain ⟨d, hd⟩ : ∃ d, dv (s.data.toList.take k) = d := ⟨_, rfl⟩
      rw [hd] at d0 d1
      by_cases hlt : (k : Int) < s.size
      · have hl : k < s.data.toList.length := by simpa using hlt
        have z1 := vals_at s.data.toList k hl
        have hdt := dv_take hl
        have hvb := HOK.out _ (List.getElem_mem hl)
        obtain ⟨x, hx⟩ : ∃ x, val16 s.data.toList[k].toNat = x := ⟨_, rfl⟩
        rw [hx] at z1 hvb
        rw [hx, hd] at hdt
        obtain ⟨x0, x1⟩ := hvb
        have hc1 : w2.cell? ⟨gv, k, none⟩ = some (.int .i64 x) := by simpa [addr_at] using hownv.cells (g := gv) rfl k _ z1
        have HD := hide hdt
        rw [hd]
        have HO := hide hownv
        clear hdt hd hx z1 hl hownv
        go_wp2
        go_round
        case rel => exact ⟨k + 1, by omega, by go_num, by rw [HD.out]⟩
        case measure => simp [intOf]; omega
      · have hke : k = s.size := by omega
        have et : s.data.toList.take k = s.data.toList := List.take_of_length_le (by simp; omega)
        rw [et] at hd
        rw [et, hd]
        have E := hide hd
        have hsl : s.toList = s.data.toList := Lib.toList_data s
        clear et hke hd hownv HOKk
        by_cases hM : d ≤ 1000000000
        · by_cases hq : itoa d = s.data.toList
          · have F : Hid (RdOk s.data.toList) := ⟨HOK.out, by rw [E.out]; exact hM, by rw [E.out]; exact hq⟩
            have hcmp : (itoa d == s.toList) = true := by rw [hsl, beq_iff_eq]; exact hq
            clear hsl hq
            go_wp2_with fail
            refine (implDec d _ (by omega) (by omega) hT2.out).mono ?_
            rintro e w3 ⟨rfl, hb⟩
            go_wp2
            go_ret2
            exact ⟨.inl ⟨F.out, by rw [rdYes, E.out]; rfl⟩, hb3.trans (hb.mono hb3.size)⟩
          · have F : Hid (¬ RdOk s.data.toList) := fun h => hq (by have := h.2.2; rw [E.out] at this; exact this)
            have hcmp : (itoa d == s.toList) = false := by rw [hsl, beq_eq_false_iff_ne]; exact hq
            clear hsl hq
            go_wp2_with fail
            refine (implDec d _ (by omega) (by omega) hT2.out).mono ?_
            rintro e w3 ⟨rfl, hb⟩
            go_wp2
            go_ret2
            exact ⟨.inr ⟨F.out, rfl⟩, hb3.trans (hb.mono hb3.size)⟩
        · have F : Hid (¬ RdOk s.data.toList) := fun h => hM (by have := h.2.1; rw [E.out] at this; exact this)
          clear hsl
          go_wp2
          go_ret2
          exact ⟨.inr ⟨F.out, rfl⟩, hb3⟩
  · have HN : Hid (¬ RdOk s.data.toList) := fun h => hno h.1
    clear hno
    go_wp2
    go_ret2
    exact ⟨.inr ⟨HN.out, rfl⟩, hb1.trans (hb2.mono hb1.size)⟩

theorem implRd_no (s : ByteArray) (w : World) (hs : (10 : Int) < s.size) (ht : PowIn w) :
    Calls Tryd.prog 8 #[.string s] w fun e w' => e = .returned rdNo ∧ Below w.heap.size w w' := by
  have HT := hide ht
  clear ht
  have hml := max_len
  obtain ⟨L, hL⟩ : ∃ L, itoa 1000000000 = L := ⟨_, rfl⟩
  have HL := hide hL
  rw [hL] at hml
  clear hL
  go_enter Tryd.func8, Tryd.ntmps8
  go_wp2_with fail
  refine (implDec 1000000000 _ (by omega) (by omega) HT.out).mono ?_
  rintro e w1 ⟨rfl, hb1⟩
  rw [HL.out]
  go_wp2
  go_ret2
  exact ⟨rfl, hb1⟩
end Go.Proofs.YtiajmphmliefgaaDoor
