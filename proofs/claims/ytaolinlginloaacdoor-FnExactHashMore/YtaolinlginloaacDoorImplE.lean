/-
  The walk of impl's last bytes of a text.
-/
import Derived.Test.YtaolinlginloaacDoorImplM
import Derived.Test.YtaolinlginloaacDoorEnd
namespace Go.Proofs.YtaolinlginloaacDoor
open Go.RowKit
open Dig

theorem lbN_four (b : Nat) : lbN 8 b = four4 (b / 4294967296) ++ four4 (b % 4294967296) := by
  have e : ∀ x y : Nat, x % 256 = y % 256 → UInt8.ofNat x = UInt8.ofNat y := by
    intro x y h
    apply UInt8.toNat_inj.1
    rw [UInt8.toNat_ofNat', UInt8.toNat_ofNat']
    exact h
  simp only [lbN, four4, List.nil_append, List.cons_append]
  simp only [List.cons.injEq, and_true]
  refine ⟨?_, ?_, ?_, ?_, ?_, ?_, ?_, ?_⟩
  all_goals first | exact e _ _ (by omega) | trivial

/-- What is put behind a text of so many bytes. -/
def lastL (n : Nat) : List UInt8 := [128] ++ List.replicate ((119 - n % 64) % 64) 0 ++ lbN 8 (8 * n)
theorem padL_last (r : List UInt8) (n : Nat) (h : r.length = n % 64) : padL r n = r ++ lastL n := by
  unfold padL padN lastL
  rw [h]
  simp [List.append_assoc]

theorem own_slice {w : World} {base : Nat} {v : Value} {l : List UInt8} (h : w.ownsRow base 5 1 v l.length (bcells l)) (h0 : 0 < l.length) : ∃ g cap, v = .slice (some ⟨g, 0, none⟩) l.length cap := by
  rcases h.2 with ⟨-, h0'⟩ | ⟨g, cap, cur, rfl, -⟩
  · omega
  · exact ⟨g, cap, rfl⟩
theorem appendWord_int (v : Value) (l : List UInt8) (z : Int) (x base : Nat) (hz : z = x) (w : World) (hx : x < 4294967296) (hl : l.length ≤ 1000000) (hown : w.ownsRow base 5 1 v l.length (bcells l)) (hB : base ≤ w.heap.size) :
    Calls Tryd.prog 73 #[v, .int .u32 z] w fun e w' => ∃ v' : Value, e = .returned v' ∧ w'.ownsRow base 5 1 v' (l ++ four4 x).length (bcells (l ++ four4 x)) ∧ Below base w w' := by
  subst hz
  exact appendWord_any v l x base w hx hl hown hB

theorem pad_snoc (k : Nat) : ([128] ++ List.replicate k 0 : List UInt8) ++ [0] = [128] ++ List.replicate (k + 1) 0 := by simp [List.replicate_succ']

set_option maxHeartbeats 400000 in
set_option maxRecDepth 100000 in
theorem last_any (n : Nat) (w : World) (hn : n ≤ 1000000000) :
    Calls Tryd.prog 70 #[.int .i64 n] w fun e w' => e = .returned (.string ⟨(lastL n).toArray⟩) ∧ Below w.heap.size w w' := by
  obtain ⟨i0, hi, hz0, hz1, hz2⟩ := info_parts infoByte
  go_enter Tryd.func70, Tryd.ntmps70
  go_wp2
  go_loopw [3] (fun out wr => ∃ (k : Nat) (l : List UInt8), k ≤ (119 - n % 64) % 64 ∧ Hid (l = [128] ++ List.replicate k 0) ∧ l.length = k + 1 ∧ Hid (wr.ownsRow w.heap.size 5 1 out l.length (bcells l)) ∧ Below w.heap.size w wr) (fun out _ => 64 - lenOf out)
  case atStart =>
    refine ⟨0, [128], by omega, rfl, rfl, ?_, (Below.refl _ _).alloc (Nat.le_refl _) _⟩
    exact ⟨rfl, .inr ⟨w.heap.size, 1, #[.int .u8 128], rfl, Nat.le_refl _, heap_alloc_new w _, Nat.le_refl _, by unfold maxLen; omega, rfl, rfl⟩⟩
  case round =>
    obtain ⟨k, l, hk, EL, hl, HO, hbel⟩ := hrel
    have hsz := hbel.size
    obtain ⟨gg, cap, rfl⟩ := own_slice HO.out (by omega)
    by_cases h56 : k = (119 - n % 64) % 64
    · have t1 : ((n : Int) + ((k + 1 : Nat) : Int)) % 64 = 56 := by omega
      obtain ⟨S, hS⟩ : ∃ S, S = 8 * n := ⟨_, rfl⟩
      have hS9 : S ≤ 8000000000 := by omega
      have fS : (8 : Int) * (n : Int) = (S : Int) := by omega
      obtain ⟨hi', hH⟩ : ∃ x, x = S / 4294967296 := ⟨_, rfl⟩
      obtain ⟨lo, hL⟩ : ∃ x, x = S % 4294967296 := ⟨_, rfl⟩
      have fH : (S : Int) / 4294967296 = (hi' : Int) := by omega
      have fL : (S : Int) % 4294967296 = (lo : Int) := by omega
      have EF : Hid (lastL n = l ++ four4 hi' ++ four4 lo) := by
        show _ = _
        unfold lastL
        rw [EL.out, ← h56, ← hS, lbN_four S, hH, hL, List.append_assoc, List.append_assoc, List.append_assoc]
      have hlo : lo < 4294967296 := by omega
      have hhi : hi' < 4294967296 := by omega
      have t2 : ((n : Int) + (l.length : Int)) % 64 = 56 := by rw [hl]; exact t1
      have hl9 : l.length ≤ 1000 := by omega
      have HO1 : Hid (wr.ownsRow w.heap.size 5 1 (.slice (some ⟨gg, 0, none⟩) (k + 1) cap) l.length (bcells l)) := by
        show World.ownsRow _ _ _ _ _ _ _
        have := HO.out
        rw [hl] at this ⊢
        exact this
      clear hS hH hL h56 EL t2 hk HO
      go_wp2_with fail
      refine (appendWord_int _ l _ hi' w.heap.size rfl _ hhi (by omega) HO1.out hsz).mono ?_
      rintro e w1 ⟨v1, rfl, hown1, hb1⟩
      have HO3 := hide hown1
      have hb1' := hide hb1
      have hsz1 : w.heap.size ≤ w1.heap.size := by have := hb1.size; omega
      have hl1 : (l ++ four4 hi').length ≤ 1000000 := by simp [four4]; omega
      clear hown1 hb1 HO1
      go_wp2_with fail
      refine (appendWord_int _ (l ++ four4 hi') _ lo w.heap.size rfl _ hlo hl1 HO3.out hsz1).mono ?_
      rintro e w2 ⟨v2, rfl, hown2, hb2⟩
      have hcv := conv_own w2 _ _ hown2
      rw [← EF.out] at hcv
      have HB : Hid (Below w.heap.size w w2) := (hbel.trans hb1'.out).trans hb2
      obtain ⟨r, hr⟩ : ∃ r, lastL n = r := ⟨_, rfl⟩
      rw [hr] at hcv
      have HR := hide hr
      clear hr hown2 hb2 HO3 EF
      go_wp2
      go_ret
      exact ⟨by rw [HR.out]; rfl, HB.out⟩
    · have t1 : ¬ ((n : Int) + (l.length : Int)) % 64 = 56 := by omega
      have F : Hid (l ++ [0] = [128] ++ List.replicate (k + 1) 0) := by show _ = _; rw [EL.out, pad_snoc]
      clear EL
      go_wp2_with (at_builtin; refine wpList_append_own _ rfl _ _ 32 rfl w.heap.size 5 i0 (.int .u8 0) 1 1 Tryd.underlying32 hi hz0 hz1 hz2 rfl (by decide) _ _ _ rfl (by exact HO.out.alloc _) ⟨wr.heap.size, 0, none⟩ 1 1 [Value.int .u8 _] rfl rfl (by exact one_cell _ _ _) (one_u8 _) (by unfold maxLen; omega) (by omega) (by simp; omega) ?_)
      intro v' w2 hown2 hgrow _
      have hb2 : Below w.heap.size w w2 := own_grown hbel hsz HO.out (by rw [hl]; exact hgrow)
      rw [bcells_snoc l 0 0 rfl] at hown2
      have HO2 : Hid (w2.ownsRow w.heap.size 5 1 v' (l ++ [0]).length (bcells (l ++ [0]))) := by
        show World.ownsRow _ _ _ _ _ _ _
        rw [List.length_append, hl]; exact hown2
      have hl2 : (l ++ [0]).length = k + 1 + 1 := by simp [hl]
      have hm : lenOf v' = k + 1 + 1 := by
        obtain ⟨g2, c2, hv2⟩ := own_slice HO2.out (by omega)
        rw [hv2, hl2]; rfl
      clear hown2 hgrow HO hbel
      go_wp2
      go_roundw
      case rel => exact ⟨k + 1, l ++ [0], by omega, F, hl2, HO2, hb2⟩
      case measure => simp [lenOf] at hm ⊢; omega

/-- The digest behind a state, a rest and a count. -/
def endS (st : List Nat) (r : List UInt8) (n : Nat) : List UInt8 := bytesOf (mixes ((padL r n).length / 64) st (padL r n))
theorem endS_words (s r : List UInt8) (n : Nat) : endS (words s) r n = endL s r n := rfl

/-- A state that lies in block g, written out. -/
def St8 (w : World) (g m0 m1 m2 m3 m4 m5 m6 m7 : Nat) : Prop := (w.cell? ⟨g, 0, none⟩ = some (.int .u32 m0) ∧ w.cell? ⟨g, 1, none⟩ = some (.int .u32 m1) ∧ w.cell? ⟨g, 2, none⟩ = some (.int .u32 m2) ∧ w.cell? ⟨g, 3, none⟩ = some (.int .u32 m3) ∧ w.cell? ⟨g, 4, none⟩ = some (.int .u32 m4) ∧ w.cell? ⟨g, 5, none⟩ = some (.int .u32 m5) ∧ w.cell? ⟨g, 6, none⟩ = some (.int .u32 m6) ∧ w.cell? ⟨g, 7, none⟩ = some (.int .u32 m7)) ∧
  (w.frozen? ⟨g, 0, none⟩ = false ∧ w.frozen? ⟨g, 1, none⟩ = false ∧ w.frozen? ⟨g, 2, none⟩ = false ∧ w.frozen? ⟨g, 3, none⟩ = false ∧ w.frozen? ⟨g, 4, none⟩ = false ∧ w.frozen? ⟨g, 5, none⟩ = false ∧ w.frozen? ⟨g, 6, none⟩ = false ∧ w.frozen? ⟨g, 7, none⟩ = false)
theorem st8_of {w : World} {g m0 m1 m2 m3 m4 m5 m6 m7 : Nat} (h : VAt w g [m0, m1, m2, m3, m4, m5, m6, m7]) : St8 w g m0 m1 m2 m3 m4 m5 m6 m7 :=
  ⟨⟨words_at h.1 0 m0 rfl, words_at h.1 1 m1 rfl, words_at h.1 2 m2 rfl, words_at h.1 3 m3 rfl, words_at h.1 4 m4 rfl, words_at h.1 5 m5 rfl, words_at h.1 6 m6 rfl, words_at h.1 7 m7 rfl⟩, h.2 0, h.2 1, h.2 2, h.2 3, h.2 4, h.2 5, h.2 6, h.2 7⟩
theorem store8 {w : World} {g p0 p1 p2 p3 p4 p5 p6 p7 : Nat} {l : List Nat} (h : VAt w g l) (hl : l.length = 8) : VAt ((((((((w.setCell ⟨g, 0, none⟩ (.int .u32 p0)).setCell ⟨g, 1, none⟩ (.int .u32 p1)).setCell ⟨g, 2, none⟩ (.int .u32 p2)).setCell ⟨g, 3, none⟩ (.int .u32 p3)).setCell ⟨g, 4, none⟩ (.int .u32 p4)).setCell ⟨g, 5, none⟩ (.int .u32 p5)).setCell ⟨g, 6, none⟩ (.int .u32 p6)).setCell ⟨g, 7, none⟩ (.int .u32 p7)) g [p0, p1, p2, p3, p4, p5, p6, p7] :=
  h.store [p0, p1, p2, p3, p4, p5, p6, p7] (by rw [hl]; rfl)
theorem below8 {B : Nat} {a w : World} {g p0 p1 p2 p3 p4 p5 p6 p7 : Nat} (h : Below B a w) (hg : B ≤ g) : Below B a ((((((((w.setCell ⟨g, 0, none⟩ (.int .u32 p0)).setCell ⟨g, 1, none⟩ (.int .u32 p1)).setCell ⟨g, 2, none⟩ (.int .u32 p2)).setCell ⟨g, 3, none⟩ (.int .u32 p3)).setCell ⟨g, 4, none⟩ (.int .u32 p4)).setCell ⟨g, 5, none⟩ (.int .u32 p5)).setCell ⟨g, 6, none⟩ (.int .u32 p6)).setCell ⟨g, 7, none⟩ (.int .u32 p7)) :=
  below_cellsD hg (wcells [p0, p1, p2, p3, p4, p5, p6, p7]) 0 w h
end Go.Proofs.YtaolinlginloaacDoor
