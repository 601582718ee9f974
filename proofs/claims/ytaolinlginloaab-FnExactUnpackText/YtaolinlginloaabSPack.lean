/-
  The walk of the specification's packing.
-/
import Derived.Test.YtaolinlginloaabIPack
import Derived.Test.YtaolinlginloaabSTok
namespace Go.Proofs.Ytaolinlginloaab
open Go.RowKit
open Pack

theorem two_conv (w : World) (c d : UInt8) (x y : Int) (hc : (c.toNat : Int) = x) (hd : (d.toNat : Int) = y) :
    (convert 47 9 (.slice (some ⟨w.heap.size, 0, none⟩) 2 2)).run Try.prog (w.alloc (.cells #[.int .u8 x, .int .u8 y] 5)) = .ok (.string ⟨#[c, d]⟩) (w.alloc (.cells #[.int .u8 x, .int .u8 y] 5)) := by
  subst hc hd
  exact run_convert_bytes_back (P := Try.prog) (w.alloc (.cells #[.int .u8 c.toNat, .int .u8 d.toNat] 5)) 47 9 5 ⟨w.heap.size, 0, none⟩ 2 [c, d] Try.underlying47 Try.underlying5 Try.underlying9
    (fun j hj => two_cell w _ _ 5 j _ (by
      match j, hj with
      | 0, _ => rfl
      | 1, _ => rfl))
theorem str_two (o : List UInt8) (c d : UInt8) : Value.string (⟨o.toArray⟩ ++ ⟨#[c, d]⟩) = .string ⟨(o ++ [c, d]).toArray⟩ := by
  rw [show (#[c, d] : Array UInt8) = [c, d].toArray from rfl, ByteArray.mk_append_mk]
theorem str_more (o : List UInt8) (c : UInt8) (t : ByteArray) : Value.string (⟨o.toArray⟩ ++ ⟨#[c]⟩ ++ t) = .string ⟨(o ++ c :: t.data.toList).toArray⟩ := by
  congr 1
  apply ByteArray.ext
  rw [ByteArray.data_append, ByteArray.data_append]
  apply Array.ext'
  simp

set_option maxHeartbeats 1000000 in
set_option maxRecDepth 100000 in
theorem spack_any (s : ByteArray) (w : World) :
    Calls Try.prog 18 #[.string s] w fun e w' => e = .returned (plainV (packL s.data.toList)) ∧ Below w.heap.size w w' := by
  have hl : s.data.toList.length = s.size := by simp
  by_cases hs : (64 : Int) < s.size
  · have HX : Hid (packL s.data.toList = none) := by show _ = _; unfold packL; rw [if_pos (by omega)]
    go_enter Try.func18, Try.ntmps18
    go_wp2
    exact bodyPost_ret (results_tmp2 rfl _ _ _) rfl ⟨by rw [HX.out]; rfl, Below.refl _ _⟩
  · have HF := hide (toks_fit s.data.toList (by omega))
    have hlen := itoks_len s.data.toList
    obtain ⟨l, hll⟩ : ∃ l, toks s.data.toList = l := ⟨_, rfl⟩
    have HP : Hid (packL s.data.toList = some (if s.size + 1 ≤ (122 :: l.flatMap zTok).length then 114 :: s.data.toList else 122 :: l.flatMap zTok)) := by
      show _ = _
      unfold packL zOf
      rw [if_neg (by omega), hll, hl]
    have HT := hide (toks_any s)
    rw [hll] at HF hlen
    have HT2 : Hid (∀ w, Calls Try.prog 23 #[.string s] w fun e w' => TRow w e w' l) := fun w => by
      have := HT.out w (by omega)
      rw [hll] at this
      exact this
    have hl64 : l.length ≤ 64 := by omega
    clear hlen hll HT
    go_enter Try.func18, Try.ntmps18
    go_wp2_with fail
    refine (HT2.out _).mono ?_
    rintro e w1 ⟨v, rfl, ho, hb⟩
    rw [tcells_g] at ho
    obtain ⟨ad, capa, rfl, a1, a2, a3⟩ := row_form3 ho
    unfold maxLen at a2
    have A3 := hide a3
    have HA := hide ho
    have HB := hide hb
    have hsz1 := hb.size
    clear a3 ho hb HT2
    go_wp2
    go_loopw [5, 6] (fun zv iv wr => ∃ (k : Nat) (o : List UInt8), k ≤ l.length ∧ o.length ≤ 32 * k + 1 ∧ iv = .int .i64 k ∧ zv = .string ⟨o.toArray⟩ ∧ Hid (o = 122 :: (l.take k).flatMap zTok) ∧ Hid (Below w1.heap.size w1 wr)) (fun _ iv _ => l.length - (intOf iv).toNat)
    case atStart => exact ⟨0, [122], Nat.zero_le _, by simp, rfl, rfl, rfl, Below.refl _ _⟩
    case round =>
      obtain ⟨k, o, hk, hol, rfl, rfl, HG, HW⟩ := hrel
      have hsz := HW.out.size
      by_cases hlt : (k : Int) < l.length
      · obtain ⟨ga, rfl, _, hga⟩ := A3.out (by omega)
        have hkl : k < l.length := by omega
        obtain ⟨b, z, x, ht⟩ : ∃ b z x, l[k]? = some (b, z, x) := ⟨l[k].1, l[k].2.1, l[k].2.2, List.getElem?_eq_getElem hkl⟩
        have htg : (l.map gtok)[k]? = some (gtok (b, z, x)) := by rw [List.getElem?_map, ht]; rfl
        obtain ⟨c1, c2, c3⟩ := gown_cells (own_below HA.out HW.out) htg
        simp only [gtok] at c1 c2 c3
        have hfit := HF.out _ (List.mem_of_getElem? ht)
        have hstep : 122 :: (l.take (k + 1)).flatMap zTok = o ++ zTok (b, z, x) := by
          obtain ⟨e1, e2⟩ := List.getElem?_eq_some_iff.1 ht
          rw [List.take_succ_eq_append_getElem e1, e2, List.flatMap_append, HG.out]
          simp
        have k0 : (0 : Int) ≤ k := by omega
        obtain ⟨t, hxt⟩ : ∃ t : ByteArray, t = ⟨x.toArray⟩ := ⟨_, rfl⟩
        have hts : t.size = x.length := by rw [hxt]; show x.toArray.size = _; simp
        have htl : t.data.toList = x := by rw [hxt]
        rw [← hxt] at c3
        have HST := hide hstep
        have HTL := hide htl
        clear ht htg hstep HG hxt htl
        obtain ⟨w5, hw5⟩ : ∃ w5, w5 = wr.alloc (.cells #[.int .i64 (b : Int), .int .i64 (z : Int), .string t] 46) := ⟨_, rfl⟩
        have hs5 : w5.heap.size = wr.heap.size + 1 := by rw [hw5]; simp
        have HW6 : Hid (∀ o, Below w1.heap.size w1 (w5.alloc o)) := fun o => by rw [hw5]; exact (HW.out.alloc hsz _).alloc (by simp; omega) _
        by_cases hb : b = 0
        · have hx31 : t.size ≤ 31 := by rcases hfit with ⟨_, _, h, _⟩ | ⟨h, _⟩ <;> simp only at * <;> omega
          have HZ : Hid (zTok (b, z, x) = UInt8.ofNat t.size :: t.data.toList) := by show _ = _; unfold zTok; rw [if_pos hb, hts, HTL.out]
          have hcv := mt_conv w5 (UInt8.ofNat t.size) (t.size : Int) (by rw [small_byte _ (by omega)])
          have tb : ((b : Int) == 0) = true := by rw [beq_iff_eq]; omega
          have hlz : (o ++ zTok (b, z, x)).length ≤ 32 * (k + 1) + 1 := by rw [List.length_append, HZ.out, List.length_cons]; simp; omega
          rw [hs5, hw5] at hcv
          rw [hw5] at HW6
          clear hfit hts hw5 hs5 hb w5
          go_wp2
          go_roundw
          case rel => exact ⟨k + 1, o ++ zTok (b, z, x), by omega, hlz, by go_num, (by rw [HZ.out]; exact str_more _ _ _), (by show _ = _; rw [HST.out]), HW6.out _⟩
          case measure => simp [intOf]; omega
        · have hz31 : z ≤ 31 := by rcases hfit with ⟨h1, _⟩ | ⟨_, _, _, h, _⟩ <;> simp only at * <;> omega
          have hb64 : b ≤ 64 := by rcases hfit with ⟨h1, _⟩ | ⟨_, h, _⟩ <;> simp only at * <;> omega
          have HZ : Hid (zTok (b, z, x) = [UInt8.ofNat (128 + z), UInt8.ofNat b]) := by show _ = _; unfold zTok; rw [if_neg hb]
          have hcv := two_conv w5 (UInt8.ofNat (128 + z)) (UInt8.ofNat b) (128 + (z : Int)) (b : Int) (by rw [small_byte _ (by omega)]; omega) (by rw [small_byte _ (by omega)])
          have tb : ((b : Int) == 0) = false := by rw [beq_eq_false_iff_ne]; omega
          obtain ⟨c, hc⟩ : ∃ c : UInt8, c = UInt8.ofNat (128 + z) := ⟨_, rfl⟩
          rw [← hc] at hcv HZ
          clear hc
          have hlz : (o ++ zTok (b, z, x)).length ≤ 32 * (k + 1) + 1 := by rw [List.length_append, HZ.out]; simp; omega
          rw [hs5, hw5] at hcv
          rw [hw5] at HW6
          clear hfit hts hw5 hs5 w5
          go_wp2
          go_roundw
          case rel => exact ⟨k + 1, o ++ zTok (b, z, x), by omega, hlz, by go_num, (by rw [HZ.out]; exact str_two _ _ _), (by show _ = _; rw [HST.out]), HW6.out _⟩
          case measure => simp [intOf]; omega
      · have hke : k = l.length := by omega
        have HX : Hid (o = 122 :: l.flatMap zTok) := by show _ = _; rw [HG.out, hke, List.take_length]
        rw [← HX.out] at HP
        have HWW := hide (HB.out.trans (HW.out.mono hsz1))
        clear HG hke HX
        by_cases hle : (s.size : Int) + 1 ≤ o.length
        · have HX : Hid (packL s.data.toList = some (114 :: s.data.toList)) := by show _ = _; rw [HP.out, if_pos (by omega)]
          clear HP
          go_wp2
          exact bodyPost_ret (results_tmp2 rfl _ _ _) rfl ⟨by rw [HX.out]; show _ = Ending.returned (.tuple #[.string _, .bool true]); rw [← cons_str]; rfl, HWW.out⟩
        · have HX : Hid (packL s.data.toList = some o) := by show _ = _; rw [HP.out, if_neg (by omega)]
          clear HP
          go_wp2
          exact bodyPost_ret (results_tmp2 rfl _ _ _) rfl ⟨by rw [HX.out]; rfl, HWW.out⟩

theorem plainV_open (r : Option (List UInt8)) : ∃ p q, plainV r = .tuple #[.string p, .bool q] := by
  cases r with
  | none => exact ⟨_, _, rfl⟩
  | some o => exact ⟨_, _, rfl⟩
end Go.Proofs.Ytaolinlginloaab
