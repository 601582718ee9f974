/-
  IPack
-/
import Derived.Test.YtcjgjkejhkhknabGreatDoorPk34
import Derived.Test.YtcjgjkejhkhknabGreatDoorPk9
import Derived.Test.YtcjgjkejhkhknabGreatDoorPk10
set_option maxHeartbeats 1000000
set_option maxRecDepth 100000
namespace Go.Proofs.YtcjgjkejhkhknabGreatDoor
open Go.RowKit
open Pack
theorem two_cell (w : World) (x y : Value) (t : TypeId) : ∀ (j : Nat) (u : Value), [x, y][j]? = some u → (w.alloc (.cells #[x, y] t)).cell? ((⟨w.heap.size, 0, none⟩ : Addr).add j) = some u := by
 intro j u hj
 match j, hj with
 | 0, hj => simp at hj; subst hj; simp [Addr.add]
 | 1, hj => simp at hj; subst hj; simp [Addr.add]
theorem two_u8 (x y : Int) : ∀ u ∈ [Value.int .u8 x, Value.int .u8 y], u.oneCell' = true := by
 intro u hu
 simp at hu
 rcases hu with rfl | rfl <;> rfl
theorem zTok_le (t : Nat × Nat × List UInt8) (h : Fit t) : (zTok t).length ≤ 32 := by
 unfold zTok
 rcases h with ⟨h1, h2, h3, _⟩ | ⟨h1, _⟩
 ·rw [if_pos h1]; simp; omega
 ·rw [if_neg (by omega)]; simp
theorem ibytes_any (v : Value) (l : List (Nat × Nat × List UInt8)) (B : Nat) (w : World) (hl : l.length ≤ 64) (hf : ∀ t ∈ l, Fit t) (ha : w.ownsRow B 190 3 v l.length (tcells l)) :
 Calls Tryz.prog 135 #[v] w fun e w' => e = .returned (.string ⟨(l.flatMap zTok).toArray⟩) ∧ Below w.heap.size w w' := by
 obtain ⟨i0, hi, hz0, hz1, hz2⟩ := info_parts infoByte
 rw [tcells_g] at ha
 obtain ⟨ad, capa, rfl, a1, a2, a3⟩ := row_form3 ha
 unfold maxLen at a2
 have A3 := hide a3
 have HA := hide ha
 have HF := hide hf
 clear a3 ha hf
 go_enter Tryz.func135, Tryz.ntmps135
 go_wp2
 go_loopw [3, 8] (fun pv iv wr => ∃ (k : Nat) (o : List UInt8), k ≤ l.length ∧ o.length ≤ 32 * k ∧ iv = .int .i64 k ∧ Hid (wr.ownsRow w.heap.size 5 1 pv o.length (bcells o)) ∧ Hid (o = (l.take k).flatMap zTok) ∧ Hid (Below w.heap.size w wr)) (fun _ iv _ => l.length - (intOf iv).toNat)
 case atStart => exact ⟨0, [], Nat.zero_le _, by simp, rfl, World.ownsRow_nil _ _ _ _, rfl, Below.refl _ _⟩
 case round =>
  obtain ⟨k, o, hk, ho, rfl, HO, HG, HW⟩ := hrel
  have hsz := HW.out.size
  by_cases hlt : (k : Int) < l.length
  ·obtain ⟨ga, rfl, _, hga⟩ := A3.out (by omega)
   have hkl : k < l.length := by omega
   obtain ⟨b, z, x, ht⟩ : ∃ b z x, l[k]? = some (b, z, x) := ⟨l[k].1, l[k].2.1, l[k].2.2, List.getElem?_eq_getElem hkl⟩
   have htg : (l.map gtok)[k]? = some (gtok (b, z, x)) := by rw [List.getElem?_map, ht]; rfl
   obtain ⟨c1, c2, c3⟩ := gown_cells (own_below HA.out HW.out) htg
   simp only [gtok] at c1 c2 c3
   have hfit := HF.out _ (List.mem_of_getElem? ht)
   have hstep : (l.take (k + 1)).flatMap zTok = o ++ zTok (b, z, x) := by
    obtain ⟨e1, e2⟩ := List.getElem?_eq_some_iff.1 ht
    rw [List.take_succ_eq_append_getElem e1, e2, List.flatMap_append, ← HG.out]
    simp
   have k0 : (0 : Int) ≤ k := by omega
   obtain ⟨ap, capp, rfl, -⟩ := row_form3 HO.out
   have CT := hide (tok_new wr (b : Int) (z : Int) ⟨x.toArray⟩)
   obtain ⟨t, hxt⟩ : ∃ t : ByteArray, t = ⟨x.toArray⟩ := ⟨_, rfl⟩
   have hts : t.size = x.length := by rw [hxt]; show x.toArray.size = _; simp
   have htl : t.data.toList = x := by rw [hxt]
   rw [← hxt] at c3 CT
   have HST := hide hstep
   have HO5 := hide (HO.out.alloc (.cells #[.int .i64 (b : Int), .int .i64 (z : Int), .string t] 190))
   have HW5 := hide (HW.out.alloc hsz (.cells #[.int .i64 (b : Int), .int .i64 (z : Int), .string t] 190))
   have HTL := hide htl
   clear ht htg hstep HG hxt htl
   by_cases hb : (0 : Int) < b
   ·have hz31 : z ≤ 31 := by rcases hfit with ⟨h1, _⟩ | ⟨_, _, _, h, _⟩ <;> simp only at * <;> omega
    have hb64 : b ≤ 64 := by rcases hfit with ⟨h1, _⟩ | ⟨_, h, _⟩ <;> simp only at * <;> omega
    have HZ : Hid (zTok (b, z, x) = [UInt8.ofNat (128 + z), UInt8.ofNat b]) := by show _ = _; unfold zTok; rw [if_neg (by simp only; omega)]
    clear hfit
    obtain ⟨w5, hw5⟩ : ∃ w5, w5 = wr.alloc (.cells #[.int .i64 (b : Int), .int .i64 (z : Int), .string t] 190) := ⟨_, rfl⟩
    have hs5 : w5.heap.size = wr.heap.size + 1 := by rw [hw5]; simp
    have h2c := hide (two_cell w5 (.int .u8 (128 + (z : Int))) (.int .u8 (b : Int)) 5)
    rw [hs5, hw5] at h2c
    clear hw5 hs5 w5
    go_wp2_with (at_builtin; refine wpList_append_own _ rfl _ _ 191 rfl w.heap.size 5 i0 (.int .u8 0) 1 1 Tryz.underlying191 hi hz0 hz1 hz2 rfl (by decide) _ _ _ rfl (by exact HO5.out.alloc _) ⟨wr.heap.size + 1, 0, none⟩ 2 2 [Value.int .u8 (128 + (z : Int)), Value.int .u8 (b : Int)] rfl rfl (by exact h2c.out) (two_u8 _ _) (by unfold maxLen; omega) (by omega) (by simp; omega) ?_)
    intro v6 w6 ho6 hg6 _
    have HW6 := hide (own_grown HW5.out (by simp; omega) HO5.out hg6)
    have e2 : bcells o ++ [Value.int .u8 (128 + (z : Int)), Value.int .u8 (b : Int)] = bcells (o ++ zTok (b, z, x)) := by
     rw [HZ.out]
     simp [bcells]
     omega
    rw [e2] at ho6
    have hl6 : (o ++ zTok (b, z, x)).length = o.length + 2 := by rw [HZ.out]; simp
    have HO6 : Hid (w6.ownsRow w.heap.size 5 1 v6 (o ++ zTok (b, z, x)).length (bcells (o ++ zTok (b, z, x)))) := by
     show World.ownsRow _ _ _ _ _ _ _
     rw [hl6]; exact ho6
    have hle : (o ++ zTok (b, z, x)).length ≤ 32 * (k + 1) := by omega
    clear ho6 hg6 HO5 HW5 CT c1 c2 c3 h2c e2 hl6 HZ
    go_wp2
    go_roundw
    case rel => exact ⟨k + 1, o ++ zTok (b, z, x), by omega, hle, by go_num, HO6, (by show _ = _; rw [HST.out]), HW6⟩
    case measure => simp [intOf]; omega
   ·have hb0 : b = 0 := by omega
    subst hb0
    have hx31 : t.size ≤ 31 := by rcases hfit with ⟨_, _, h, _⟩ | ⟨h, _⟩ <;> simp only at * <;> omega
    have HZ : Hid (zTok (0, z, x) = UInt8.ofNat t.size :: x) := by show _ = _; unfold zTok; rw [if_pos rfl, hts]
    have HTS := hide hts
    clear hfit hts
    obtain ⟨w5, hw5⟩ : ∃ w5, w5 = wr.alloc (.cells #[.int .i64 ((0 : Nat) : Int), .int .i64 (z : Int), .string t] 190) := ⟨_, rfl⟩
    have hs5 : w5.heap.size = wr.heap.size + 1 := by rw [hw5]; simp
    have h2c := hide (one_cell w5 (.int .u8 (t.size : Int)) 5)
    rw [hs5, hw5] at h2c
    clear hw5 hs5 w5
    have hbs : Hid (((UInt8.ofNat t.size).toNat : Int) = (t.size : Int)) := by show _ = _; rw [small_byte _ (by omega)]
    simp only [Int.natCast_zero] at CT HO5 HW5 c1 h2c ⊢
    go_wp2_with (first
     | (at_builtin; refine wpList_append_own _ rfl _ _ 191 rfl w.heap.size 5 i0 (.int .u8 0) 1 1 Tryz.underlying191 hi hz0 hz1 hz2 rfl (by decide) _ _ _ rfl (by exact HO5.out.alloc _) ⟨wr.heap.size + 1, 0, none⟩ 1 1 [Value.int .u8 (t.size : Int)] rfl rfl (by exact h2c.out) (one_u8 _) (by unfold maxLen; omega) (by omega) (by simp; omega) ?_
        intro v6 w6 ho6 hg6 _
        have HW6 := hide (own_grown HW5.out (by simp; omega) HO5.out hg6)
        have HT6 := hide ((CT.out.alloc _).grown (HO5.out.alloc _) hg6)
        rw [bcells_snoc o _ _ hbs.out] at ho6
        have HO6 := hide ho6
        have hs6 := HW6.out.size
        obtain ⟨q0, q1, q2⟩ := HT6.out.cells
        clear ho6 hg6 HO5 HW5 CT c1 c2 c3 h2c)
     | (at_builtin; refine Lib.wpList_append_own_string _ rfl _ _ 191 9 rfl w.heap.size 5 i0 Tryz.underlying191 Tryz.underlying9 hi hz0 hz1 hz2 _ _ _ rfl HO6.out t rfl (by unfold maxLen; omega) (by omega) (by omega) ?_
        intro v7 w7 ho7 hg7 _
        have HW7 := hide (HW6.out.grown hg7 (by omega) (fun j hj => (HO6.out.lt j hj).1))
        have HO7 : Hid (w7.ownsRow w.heap.size 5 1 v7 (o ++ zTok (0, z, x)).length (bcells (o ++ zTok (0, z, x)))) := by
         show World.ownsRow _ _ _ _ _ _ _
         have e1 : (o ++ zTok (0, z, x)).length = o.length + 1 + t.size := by rw [HZ.out]; simp [HTS.out]; omega
         have e3 : bcells (o ++ zTok (0, z, x)) = bcells (o ++ [UInt8.ofNat t.size]) ++ bcells t.data.toList := by rw [HZ.out, HTL.out]; simp [bcells]
         rw [e1, e3, ← strCells_b]
         exact ho7
        clear ho7 hg7 HO6 HW6)
     | go_in)
    have hle : (o ++ zTok (0, z, x)).length ≤ 32 * (k + 1) := by rw [HZ.out]; have := HTS.out; simp; omega
    go_roundw
    case rel => exact ⟨k + 1, o ++ zTok (0, z, x), by omega, hle, by go_num, HO7, (by show _ = _; rw [HST.out]), HW7⟩
    case measure => simp [intOf]; omega
  ·have hke : k = l.length := by omega
   have HX : Hid (l.flatMap zTok = o) := by show _ = _; rw [HG.out, hke, List.take_length]
   have hcv := conv_own wr _ o HO.out
   clear HG hke
   go_wp2
   go_ret
   exact ⟨by rw [HX.out]; rfl, HW.out⟩
theorem cons_str (c : UInt8) (s : ByteArray) : (⟨#[c]⟩ ++ s : ByteArray) = ⟨(c :: s.data.toList).toArray⟩ := by
 apply ByteArray.ext
 rw [ByteArray.data_append]
 apply Array.ext'
 simp
theorem toks_fit (s : List UInt8) (hs : s.length ≤ 64) : ∀ t ∈ toks s, Fit t := fit_of [] s (toks s) (by simp) (plain_toks s hs).1
theorem itoks_len (s : List UInt8) : (toks s).length ≤ s.length := by
 have h1 : ∀ m, (stepsT m s).2.length ≤ m := by
  intro m
  induction m with
  | zero => exact Nat.le_refl _
  | succ m ih =>
   by_cases hk : (stepsT m s).1 < s.length
   ·obtain ⟨k, l, h⟩ : ∃ k l, stepsT m s = (k, l) := ⟨_, _, rfl⟩
    rw [h] at ih hk
    rw [steps_one s m k l h hk]
    simp only at ih hk
    have hd : l.dropLast.length ≤ l.length := by rw [List.length_dropLast]; omega
    unfold Pack.stepT
    simp only
    split
    ·rw [List.length_append]
     exact Nat.add_le_add ih (Nat.le_refl 1)
    ·split
     ·split
      ·rw [List.length_append]
       exact Nat.add_le_add (Nat.le_trans hd ih) (Nat.le_refl 1)
      ·rw [List.length_append]
       exact Nat.add_le_add ih (Nat.le_refl 1)
     ·rw [List.length_append]
      exact Nat.add_le_add ih (Nat.le_refl 1)
   ·rw [steps_stay s m 1 (by omega)]
    omega
 exact h1 s.length
theorem flat_le (l : List (Nat × Nat × List UInt8)) (hf : ∀ t ∈ l, Fit t) : (l.flatMap zTok).length ≤ 32 * l.length := by
 induction l with
 | nil => simp
 | cons t r ih =>
  have h1 := zTok_le t (hf t (by simp))
  have h2 := ih (fun u hu => hf u (by simp [hu]))
  simp only [List.flatMap_cons, List.length_append, List.length_cons]
  omega
theorem ipack_any (s : ByteArray) (w : World) :
 Calls Tryz.prog 104 #[.string s] w fun e w' => e = .returned (plainV (packL s.data.toList)) ∧ Below w.heap.size w w' := by
 have hl : s.data.toList.length = s.size := by simp
 by_cases hs : (64 : Int) < s.size
 ·have HX : Hid (packL s.data.toList = none) := by show _ = _; unfold packL; rw [if_pos (by omega)]
  go_enter Tryz.func104, Tryz.ntmps104
  go_wp2
  exact bodyPost_ret (results_tmp2 rfl _ _ _) rfl ⟨by rw [HX.out]; rfl, Below.refl _ _⟩
 ·have hfit := toks_fit s.data.toList (by omega)
  have hlen := itoks_len s.data.toList
  have hfl := flat_le (toks s.data.toList) hfit
  obtain ⟨z, hz⟩ : ∃ z : ByteArray, z = ⟨((toks s.data.toList).flatMap zTok).toArray⟩ := ⟨_, rfl⟩
  have hzs : z.size = ((toks s.data.toList).flatMap zTok).length := by rw [hz]; show Array.size _ = _; simp
  have HP : Hid (packL s.data.toList = some (if s.size ≤ z.size then 114 :: s.data.toList else 122 :: z.data.toList)) := by
   show _ = _
   have hzl : z.data.toList = (toks s.data.toList).flatMap zTok := by rw [hz]
   unfold packL zOf
   by_cases hc : s.size ≤ z.size
   ·rw [if_neg (by omega), if_pos hc, if_pos (by rw [List.length_cons]; omega)]
   ·rw [if_neg (by omega), if_neg hc, if_neg (by rw [List.length_cons]; omega), hzl]
  have hz64 : z.size ≤ 2048 := by omega
  have HF := hide hfit
  have HL : Hid ((toks s.data.toList).length ≤ 64) := by show _ ≤ _; omega
  have HZ := hide hz
  clear hfit hlen hfl hzs hz
  go_enter Tryz.func104, Tryz.ntmps104
  go_wp2_with fail
  refine (itoks_any s _ (by omega)).mono ?_
  rintro e w1 ⟨v, rfl, ho, hb⟩
  have HO := hide ho
  have HB := hide hb
  clear ho hb
  go_wp2_with fail
  refine (ibytes_any v _ _ _ HL.out HF.out HO.out).mono ?_
  rintro e w2 ⟨rfl, hb⟩
  rw [← HZ.out]
  have HB2 := hide (HB.out.trans (hb.mono HB.out.size))
  clear hb HO HB HZ
  by_cases hle : (s.size : Int) ≤ z.size
  ·have HX : Hid (packL s.data.toList = some (114 :: s.data.toList)) := by show _ = _; rw [HP.out, if_pos (by omega)]
   clear HP
   go_wp2
   exact bodyPost_ret (results_tmp2 rfl _ _ _) rfl ⟨by rw [HX.out]; show _ = Ending.returned (.tuple #[.string _, .bool true]); rw [← cons_str]; rfl, HB2.out⟩
  ·have HX : Hid (packL s.data.toList = some (122 :: z.data.toList)) := by show _ = _; rw [HP.out, if_neg (by omega)]
   clear HP
   go_wp2
   exact bodyPost_ret (results_tmp2 rfl _ _ _) rfl ⟨by rw [HX.out]; show _ = Ending.returned (.tuple #[.string _, .bool true]); rw [← cons_str]; rfl, HB2.out⟩
end Go.Proofs.YtcjgjkejhkhknabGreatDoor
