/-
  SPlain; SMatch; STok
-/
import Derived.Test.YtcjgjkejhkhknacGreatDoorPk29
import Derived.Test.YtcjgjkejhkhknacGreatDoorPk30
set_option maxHeartbeats 2000000
set_option maxRecDepth 100000
namespace Go.Proofs.YtcjgjkejhkhknacGreatDoor
open Go.RowKit
open Pack
theorem in_b (x lo hi : Int) (b : Bool) (w : World) (h : (lo ≤ x ∧ x ≤ hi ∧ b = true) ∨ ((x < lo ∨ lo ≤ x ∧ ¬ x ≤ hi) ∧ b = false)) :
 Calls Tryz.prog 21 #[.int .i64 x, .int .i64 lo, .int .i64 hi] w fun e w' => e = .returned (.bool b) ∧ w' = w := by
 rcases h with ⟨h1, h2, rfl⟩ | ⟨h1 | ⟨h1, h2⟩, rfl⟩
 all_goals
  go_enter Tryz.func21, Tryz.ntmps21
  go_wp2
  go_ret
  exact ⟨rfl, rfl⟩
theorem in_any (x lo hi : Int) (w : World) :
 Calls Tryz.prog 21 #[.int .i64 x, .int .i64 lo, .int .i64 hi] w fun e w' => e = .returned (.bool (decide (lo ≤ x ∧ x ≤ hi))) ∧ w' = w := by
 apply in_b
 by_cases h : lo ≤ x ∧ x ≤ hi
 ·exact .inl ⟨h.1, h.2, decide_eq_true h⟩
 ·exact .inr ⟨by omega, decide_eq_false h⟩
theorem bytes_news {w : World} {g : Nat} {l : List UInt8} (h : BytesAt w g l) : ∀ (j : Nat) (u : Value), (bcells l)[j]? = some u → w.cell? ((⟨g, 0, none⟩ : Addr).add j) = some u := by
 intro j u hj
 rw [addr_at]
 have := bytes_range h j u hj
 rwa [Nat.zero_add] at this
theorem splain_any (v : Value) (ls : List (Int × Int × ByteArray)) (B : Nat) (w : World) (hl : ls.length ≤ 1048576) (ha : w.ownsRow B 106 3 v ls.length (gcells ls)) :
 Calls Tryz.prog 115 #[v] w fun e w' => e = .returned (plainV (gplain ls)) ∧ Below w.heap.size w w' := by
 obtain ⟨i0, hi, hz0, hz1, hz2⟩ := info_parts infoByte
 obtain ⟨ad, capa, rfl, a1, a2, a3⟩ := row_form3 ha
 unfold maxLen at a2
 have A3 := hide a3
 have HA := hide ha
 clear a3 ha
 have EI := hide in_any
 go_enter Tryz.func115, Tryz.ntmps115
 go_wp2
 go_loopw [4, 5] (fun pv iv wr => ∃ (k : Nat) (o : List UInt8), k ≤ ls.length ∧ o.length ≤ 64 ∧ iv = .int .i64 k ∧ Hid (wr.ownsRow w.heap.size 5 1 pv o.length (bcells o)) ∧ Hid (gplain ls = gplainFrom o (ls.drop k)) ∧ Hid (Below w.heap.size w wr)) (fun _ iv _ => ls.length - (intOf iv).toNat)
 case atStart => exact ⟨0, [], Nat.zero_le _, by simp, rfl, World.ownsRow_made w #[] 0 (Nat.le_refl _) (by unfold maxLen; omega) (by simp), rfl, (Below.refl _ _).alloc (Nat.le_refl _) _⟩
 case round =>
  obtain ⟨k, o, hk, ho, rfl, HO, HG, HW⟩ := hrel
  have hsz := HW.out.size
  by_cases hlt : (k : Int) < ls.length
  ·obtain ⟨ga, rfl, _, hga⟩ := A3.out (by omega)
   have hkl : k < ls.length := by omega
   obtain ⟨x, y, t, ht⟩ : ∃ x y t, ls[k]? = some (x, y, t) := ⟨ls[k].1, ls[k].2.1, ls[k].2.2, List.getElem?_eq_getElem hkl⟩
   obtain ⟨c1, c2, c3⟩ := gown_cells (own_below HA.out HW.out) ht
   simp only at c1 c2 c3
   have hst := gplain_step o ls k _ ht
   simp only at hst
   rw [← HG.out] at hst
   have HST := hide hst
   have k0 : (0 : Int) ≤ k := by omega
   obtain ⟨ap, capp, rfl, -⟩ := row_form3 HO.out
   have CT := hide (tok_new wr x y t)
   have HO5 := hide (HO.out.alloc (.cells #[.int .i64 x, .int .i64 y, .string t] 106))
   have HW5 := hide (HW.out.alloc hsz (.cells #[.int .i64 x, .int .i64 y, .string t] 106))
   have HBad : Hid (¬ (GOk o.length (x, y, t) ∧ o.length + t.size + y.toNat ≤ 64) → gplain ls = none) := fun h => by rw [HST.out, if_neg h]
   clear ht hst HG
   by_cases hx0 : (x == 0) = true
   ·obtain rfl : x = 0 := by simpa using hx0
    by_cases hin : 1 ≤ (t.size : Int) ∧ (t.size : Int) ≤ 31
    ·by_cases hy0 : (y != 0) = false
     ·obtain rfl : y = 0 := by simpa using hy0
      obtain ⟨w5, hw5⟩ : ∃ w5, w5 = wr.alloc (.cells #[.int .i64 0, .int .i64 0, .string t] 106) := ⟨_, rfl⟩
      obtain ⟨C, w6, hcv, hb6, hby⟩ := bytes_new w5 t
      have hs5 : w5.heap.size = wr.heap.size + 1 := by rw [hw5]; simp
      rw [hs5] at hcv hby hb6
      rw [← hw5] at HO5 HW5
      have HO6 := hide (own_below HO5.out (by rw [hs5]; exact hb6))
      have HW6 := hide (HW5.out.trans (hb6.mono (by omega)))
      have HNW := hide (bytes_news hby)
      have hs6 : w.heap.size ≤ w6.heap.size := by have := hb6.size; omega
      rw [hw5] at hcv
      have hbl : (bcells t.data.toList).length = t.size * 1 := by simp [bcells]
      have hgt : Hid (gtell o (0, 0, t) = o ++ t.data.toList) := rfl
      have HOK : Hid (o.length + t.size ≤ 64 → gplain ls = gplainFrom (o ++ t.data.toList) (ls.drop (k + 1))) := fun h => by
       rw [HST.out, if_pos ⟨Or.inl ⟨rfl, (by show 1 ≤ t.size; omega), (by show t.size ≤ 31; omega), rfl⟩, by simpa using h⟩, hgt.out]
      have hbad2 : Hid (¬ o.length + t.size ≤ 64 → gplain ls = none) := fun h => HBad.out (fun h2 => h (by omega))
      clear hb6 hby hw5 hs5 HST HBad hgt
      go_wp2_with fail
      refine (EI.out _ _ _ _).mono ?_
      rintro e w7 ⟨rfl, rfl⟩
      rw [decide_eq_true hin]
      go_wp2_with (at_builtin; refine wpList_append_own _ rfl _ _ 107 rfl w.heap.size 5 i0 (.int .u8 0) 1 1 Tryz.underlying107 hi hz0 hz1 hz2 rfl (by decide) _ _ _ rfl (by exact HO6.out) ⟨wr.heap.size + 1, 0, none⟩ t.size C (bcells t.data.toList) rfl hbl (by exact HNW.out) (bcells_one _) (by unfold maxLen; omega) (by omega) (by omega) ?_)
      intro v8 w8 ho8 hg8 _
      have HW8 := hide (HW6.out.grown hg8 (by omega) (fun j hj => (HO6.out.lt j hj).1))
      have HO8 : Hid (w8.ownsRow w.heap.size 5 1 v8 (o ++ t.data.toList).length (bcells (o ++ t.data.toList))) := by
       show World.ownsRow _ _ _ _ _ _ _
       have e1 : (o ++ t.data.toList).length = o.length + t.size := by simp
       have e2 : bcells (o ++ t.data.toList) = bcells o ++ bcells t.data.toList := by simp [bcells]
       rw [e1, e2]
       exact ho8
      obtain ⟨ap8, cp8, rfl, -⟩ := row_form3 HO8.out
      have hlen8 : (o ++ t.data.toList).length = o.length + t.size := by simp
      obtain ⟨q, hq⟩ : ∃ q, o ++ t.data.toList = q := ⟨_, rfl⟩
      rw [hq] at HO8 HOK hlen8 ⊢
      have HL := hide hlen8
      clear ho8 hg8 HO6 HW6 hq hlen8 HNW
      by_cases h64 : (64 : Int) < q.length
      ·have HX := hide (hbad2.out (by have := HL.out; omega))
       go_wp2
       exact bodyPost_ret (results_tmp2 rfl _ _ _) rfl ⟨by rw [HX.out]; rfl, HW8.out⟩
      ·have HG2 := hide (HOK.out (by have := HL.out; omega))
       have hq64 : q.length ≤ 64 := by omega
       clear HOK hbad2 HL
       go_wp2
       go_roundw
       case rel => exact ⟨k + 1, q, by omega, hq64, by go_num, HO8, HG2, HW8⟩
       case measure => simp [intOf]; omega
     ·have hy1 : (y != 0) = true := by simpa using hy0
      have HX := hide (HBad.out (fun h => by have := h.1; unfold GOk at this; simp at this hy1; omega))
      go_wp2_with fail
      refine (EI.out _ _ _ _).mono ?_
      rintro e w7 ⟨rfl, rfl⟩
      rw [decide_eq_true hin]
      go_wp2
      exact bodyPost_ret (results_tmp2 rfl _ _ _) rfl ⟨by rw [HX.out]; rfl, HW5.out⟩
    ·have HX := hide (HBad.out (fun h => by have := h.1; unfold GOk at this; simp only at this; omega))
     go_wp2_with fail
     refine (EI.out _ _ _ _).mono ?_
     rintro e w7 ⟨rfl, rfl⟩
     rw [decide_eq_false hin]
     go_wp2
     exact bodyPost_ret (results_tmp2 rfl _ _ _) rfl ⟨by rw [HX.out]; rfl, HW5.out⟩
   ·have hx1 : (x == 0) = false := by simpa using hx0
    have ex : ¬ x = 0 := by simpa using hx0
    by_cases hin : 1 ≤ x ∧ x ≤ (o.length : Int)
    ·by_cases hin2 : 1 ≤ y ∧ y ≤ 31
     ·by_cases ht0 : t = ⟨#[]⟩
      ·subst ht0
       obtain ⟨A, rfl⟩ : ∃ A : Nat, x = A := ⟨x.toNat, by omega⟩
       obtain ⟨N, rfl⟩ : ∃ N : Nat, y = N := ⟨y.toNat, by omega⟩
       have hA1 : 1 ≤ A := by omega
       have hA2 : A ≤ o.length := by omega
       have hN1 : N ≤ 31 := by omega
       have hN2 : 1 ≤ N := by omega
       have HOK : Hid (o.length + N ≤ 64 → gplain ls = gplainFrom (gtell o ((A : Int), (N : Int), ⟨#[]⟩)) (ls.drop (k + 1))) := fun h => by
        rw [HST.out, if_pos ⟨Or.inr ⟨by show (1 : Int) ≤ A; omega, by show (A : Int) ≤ o.length; omega, by show (1 : Int) ≤ N; omega, by show (N : Int) ≤ 31; omega, rfl⟩, by rw [Int.toNat_natCast]; exact h⟩]
       have hbad2 : Hid (¬ o.length + N ≤ 64 → gplain ls = none) := fun h => HBad.out (fun h2 => h (by have := h2.2; rw [Int.toNat_natCast] at this; exact this))
       have hg5 : wr.heap.size < (wr.alloc (.cells #[.int .i64 (A : Int), .int .i64 (N : Int), .string ⟨#[]⟩] 106)).heap.size := CT.out.lt
       obtain ⟨q0, q1, q2⟩ := CT.out.cells
       clear HST HBad ex
       go_wp2_with fail
       refine (EI.out _ _ _ _).mono ?_
       rintro e w7 ⟨rfl, rfl⟩
       rw [decide_eq_true hin]
       go_wp2_with fail
       refine (EI.out _ _ _ _).mono ?_
       rintro e w7 ⟨rfl, rfl⟩
       rw [decide_eq_true hin2]
       clear hin hin2
       generalize hw5 : wr.alloc (.cells #[.int .i64 (A : Int), .int .i64 (N : Int), .string ⟨#[]⟩] 106) = w5 at CT HO5 HW5 q0 q1 q2 hg5 ⊢
       generalize wr.heap.size = g at CT q0 q1 q2 hg5 hsz hw5 ⊢
       clear hw5 c1 c2 c3
       go_wp2
       go_loopw [4, 7] (fun pv jv w8 => ∃ (j : Nat) (q : List UInt8), j ≤ N ∧ jv = .int .i64 j ∧ o.length ≤ q.length ∧ q.length ≤ 95 ∧ Hid (q.length = o.length + j) ∧ Hid (w8.ownsRow w.heap.size 5 1 pv q.length (bcells q)) ∧ Hid (gtell o ((A : Int), (N : Int), ⟨#[]⟩) = again (N - j) A q) ∧ Hid (TokAt w8 g A N ⟨#[]⟩) ∧ Hid (Below w.heap.size w w8)) (fun _ jv _ => N - (intOf jv).toNat)
       case atStart => exact ⟨0, o, Nat.zero_le _, rfl, Nat.le_refl _, by omega, rfl, HO5, (by show _ = _; unfold gtell; simp), CT, HW5⟩
       case round =>
        obtain ⟨j, q, hj, rfl, hq1, hq2, HQL, HO8, HG8, HT8, HW8⟩ := hrel
        obtain ⟨q0, q1, q2⟩ := HT8.out.cells
        by_cases hjn : (j : Int) < N
        ·obtain ⟨ap8, cp8, rfl, -, hcp8, h8⟩ := row_form3 HO8.out
         obtain ⟨gp, rfl, _, _⟩ := h8 (by omega)
         obtain ⟨d, hd⟩ : ∃ d : Nat, d = q.length - A := ⟨_, rfl⟩
         have hd2 : (q.length : Int) - A = (d : Int) := by omega
         have hdl : d < q.length := by omega
         have cb : _ := HO8.out.cells (g := gp) rfl d _ (bcells_getD q d hdl)
         rw [addr_at] at cb
         have HG9 : Hid (gtell o ((A : Int), (N : Int), ⟨#[]⟩) = again (N - (j + 1)) A (q ++ [q.getD d 0])) := by
          show _ = _
          rw [HG8.out, show N - j = (N - (j + 1)) + 1 by omega, again_next, ← hd]
         have hs8 := HW8.out.size
         have hq95 : q.length + 1 ≤ 95 := by have := HQL.out; omega
         obtain ⟨c, hc⟩ : ∃ c : UInt8, q.getD d 0 = c := ⟨_, rfl⟩
         rw [hc] at cb HG9
         obtain ⟨z, hz⟩ : ∃ z : Int, (c.toNat : Int) = z := ⟨_, rfl⟩
         rw [hz] at cb
         have HZ := hide hz
         clear hc hd HG8 hz
         have d0 : (0 : Int) ≤ d := by omega
         go_wp2_with (at_builtin; refine wpList_append_own _ rfl _ _ 107 rfl w.heap.size 5 i0 (.int .u8 0) 1 1 Tryz.underlying107 hi hz0 hz1 hz2 rfl (by decide) _ _ _ rfl (by exact HO8.out.alloc _) ⟨_, 0, none⟩ 1 1 [Value.int .u8 z] rfl rfl (by exact one_cell _ _ _) (one_u8 _) (by unfold maxLen; omega) (by omega) (by simp; omega) ?_)
         intro v9 w9 ho9 hg9 _
         rw [bcells_snoc q c z HZ.out] at ho9
         have hql9 : (q ++ [c]).length = q.length + 1 := by simp
         have HO9 : Hid (w9.ownsRow w.heap.size 5 1 v9 (q ++ [c]).length (bcells (q ++ [c]))) := by
          show World.ownsRow _ _ _ _ _ _ _
          rw [hql9]; exact ho9
         have HT9 := hide ((HT8.out.alloc _).grown (HO8.out.alloc _) hg9)
         have HW9 := hide (own_grown HW8.out (by omega) HO8.out hg9)
         clear ho9 hg9 HO8 HT8 HW8 cb q0 q1 q2
         go_wp2
         go_roundw
         case rel => exact ⟨j + 1, q ++ [c], by omega, by go_num, by omega, by omega, (by show _ = _; have := HQL.out; omega), HO9, HG9, HT9, HW9⟩
         case measure => simp [intOf]; omega
        ·have hje : j = N := by omega
         have HX : Hid (gtell o ((A : Int), (N : Int), ⟨#[]⟩) = q) := by show _ = _; rw [HG8.out, hje, Nat.sub_self]; rfl
         rw [HX.out] at HOK
         have HQ2 : Hid (q.length = o.length + N) := by show _ = _; rw [HQL.out, hje]
         obtain ⟨ap8, cp8, rfl, -⟩ := row_form3 HO8.out
         clear hje HG8 HX HQL
         by_cases h64 : (64 : Int) < q.length
         ·have HX := hide (hbad2.out (by have := HQ2.out; omega))
          go_wp2
          exact bodyPost_ret (results_tmp2 rfl _ _ _) rfl ⟨by rw [HX.out]; rfl, HW8.out⟩
         ·have HG2 := hide (HOK.out (by have := HQ2.out; omega))
          have hq64 : q.length ≤ 64 := by omega
          clear HOK hbad2 HQ2
          go_wp2
          go_roundw
          case rel => exact ⟨k + 1, q, by omega, hq64, by go_num, HO8, HG2, HW8⟩
          case measure => simp [intOf]; omega
      ·have hsz0 : ¬ t.size = 0 := fun h => ht0 (by
        apply ByteArray.ext
        exact Array.eq_empty_of_size_eq_zero h)
       have HX := hide (HBad.out (fun h => by have := h.1; unfold GOk at this; simp only at this; omega))
       have hne : t.toList.isEmpty = false := by
        rw [Lib.toList_data, List.isEmpty_eq_false_iff]
        intro h
        exact hsz0 (by have e : t.data.toList.length = t.size := by simp
                       rw [← e, h]; rfl)
       go_wp2_with fail
       refine (EI.out _ _ _ _).mono ?_
       rintro e w7 ⟨rfl, rfl⟩
       rw [decide_eq_true hin]
       go_wp2_with fail
       refine (EI.out _ _ _ _).mono ?_
       rintro e w7 ⟨rfl, rfl⟩
       rw [decide_eq_true hin2]
       go_wp2
       exact bodyPost_ret (results_tmp2 rfl _ _ _) rfl ⟨by rw [HX.out]; rfl, HW5.out⟩
     ·have HX := hide (HBad.out (fun h => by have := h.1; unfold GOk at this; simp only at this; omega))
      go_wp2_with fail
      refine (EI.out _ _ _ _).mono ?_
      rintro e w7 ⟨rfl, rfl⟩
      rw [decide_eq_true hin]
      go_wp2_with fail
      refine (EI.out _ _ _ _).mono ?_
      rintro e w7 ⟨rfl, rfl⟩
      rw [decide_eq_false hin2]
      go_wp2
      exact bodyPost_ret (results_tmp2 rfl _ _ _) rfl ⟨by rw [HX.out]; rfl, HW5.out⟩
    ·have HX := hide (HBad.out (fun h => by have := h.1; unfold GOk at this; simp only at this; omega))
     go_wp2_with fail
     refine (EI.out _ _ _ _).mono ?_
     rintro e w7 ⟨rfl, rfl⟩
     rw [decide_eq_false hin]
     go_wp2
     exact bodyPost_ret (results_tmp2 rfl _ _ _) rfl ⟨by rw [HX.out]; rfl, HW5.out⟩
  ·have hke : k = ls.length := by omega
   have HX : Hid (gplain ls = some o) := by show _ = _; rw [HG.out, hke, List.drop_length]; rfl
   have hcv := conv_own wr _ o HO.out
   clear HG hke
   go_wp2
   exact bodyPost_ret (results_tmp2 rfl _ _ _) rfl ⟨by rw [HX.out]; rfl, HW.out⟩
theorem match_any (s : ByteArray) (i j : Nat) (w : World) (hs : s.size ≤ 64) (hij : i < j) (hj : j ≤ s.size) :
 Calls Tryz.prog 78 #[.string s, .int .i64 i, .int .i64 j] w fun e w' => e = .returned (.int .i64 (mlen 31 (s.data.toList.drop i) (s.data.toList.drop j) : Nat)) ∧ Below w.heap.size w w' := by
 have hl : s.data.toList.length = s.size := by simp
 go_enter Tryz.func78, Tryz.ntmps78
 go_wp2
 go_loopw [7] (fun nv wr => ∃ n : Nat, n ≤ 31 ∧ j + n ≤ s.size ∧ nv = .int .i64 n ∧ Hid (mlen 31 (s.data.toList.drop i) (s.data.toList.drop j) = n + mlen (31 - n) (s.data.toList.drop (i + n)) (s.data.toList.drop (j + n))) ∧ Below w.heap.size w wr) (fun nv _ => 31 - (intOf nv).toNat)
 case atStart => exact ⟨0, by omega, by omega, rfl, (by show _ = 0 + _; simp), Below.refl _ _⟩
 case round =>
  obtain ⟨n, hn, hjn, rfl, HM, hbel⟩ := hrel
  have w1 : IntKind.i64.wrap ((j : Int) + n) = (j : Int) + n := by rw [IntKind.wrap_i64]; omega
  have w2 : IntKind.i64.wrap ((i : Int) + n) = (i : Int) + n := by rw [IntKind.wrap_i64]; omega
  have HB := hide hbel
  clear hbel
  by_cases h31 : n < 31
  ·have d1 : decide ((n : Int) < 31) = true := decide_eq_true (by omega)
   by_cases hlt : j + n < s.size
   ·have d2 : decide ((j : Int) + n < s.size) = true := decide_eq_true (by omega)
    have f1 := byte_ofT s (i + n) ((i : Int) + n) (by omega) (by omega)
    have f2 := byte_ofT s (j + n) ((j : Int) + n) (by omega) (by omega)
    by_cases heq : s.data.toList.getD (i + n) 0 = s.data.toList.getD (j + n) 0
    ·have HM2 : Hid (mlen 31 (s.data.toList.drop i) (s.data.toList.drop j) = (n + 1) + mlen (31 - (n + 1)) (s.data.toList.drop (i + (n + 1))) (s.data.toList.drop (j + (n + 1)))) := by
      show _ = _
      rw [HM.out, show 31 - n = (31 - (n + 1)) + 1 by omega, mlen_yes _ _ _ _ (by omega) (by omega) heq, show i + n + 1 = i + (n + 1) by omega, show j + n + 1 = j + (n + 1) by omega]
      omega
     rw [heq] at f1
     generalize (s.data.toList.getD (j + n) 0).toNat = c at f1 f2
     have e1 : ((c : Int) == (c : Int)) = true := by simp
     clear HM heq hl
     go_wp2
     go_quiet (fail)
     go_wp2
     go_roundw
     case rel => exact ⟨n + 1, by omega, by omega, by go_num, HM2, below_drewN HB.out _⟩
     case measure => simp [intOf]; omega
    ·have HM2 : Hid (mlen 31 (s.data.toList.drop i) (s.data.toList.drop j) = n) := by
      show _ = _
      rw [HM.out, mlen_no _ _ _ _ (by omega) (by omega) heq]; rfl
     have hne : ((((s.data.toList.getD (i + n) 0).toNat : Nat) : Int) == (((s.data.toList.getD (j + n) 0).toNat : Nat) : Int)) = false := by
      rw [beq_eq_false_iff_ne]
      intro h
      exact heq (UInt8.toNat_inj.1 (by omega))
     generalize (s.data.toList.getD (i + n) 0).toNat = c1 at f1 hne
     generalize (s.data.toList.getD (j + n) 0).toNat = c2 at f2 hne
     clear HM heq hl
     go_wp2
     go_quiet (fail)
     go_wp2
     go_ret
     exact ⟨by rw [HM2.out]; rfl, below_drewN HB.out _⟩
   ·have d2 : decide ((j : Int) + n < s.size) = false := decide_eq_false (by omega)
    have HM2 : Hid (mlen 31 (s.data.toList.drop i) (s.data.toList.drop j) = n) := by
     show _ = _
     rw [HM.out, mlen_end _ _ _ _ (by omega)]; rfl
    clear HM hl
    go_wp2
    go_quiet (fail)
    go_wp2
    go_ret
    exact ⟨by rw [HM2.out]; rfl, below_drewN HB.out _⟩
  ·have d1 : decide ((n : Int) < 31) = false := decide_eq_false (by omega)
   have e31 : n = 31 := by omega
   have HM2 : Hid (mlen 31 (s.data.toList.drop i) (s.data.toList.drop j) = n) := by
    show _ = _
    rw [HM.out, e31]; rfl
   clear HM hl e31
   go_wp2
   go_quiet (fail)
   go_wp2
   go_ret
   exact ⟨by rw [HM2.out]; rfl, below_drewN HB.out _⟩
theorem match_int (s : ByteArray) (z : Int) (i j : Nat) (hz : z = i) (w : World) (hs : s.size ≤ 64) (hij : i < j) (hj : j ≤ s.size) :
 Calls Tryz.prog 78 #[.string s, .int .i64 z, .int .i64 j] w fun e w' => e = .returned (.int .i64 (mlen 31 (s.data.toList.drop i) (s.data.toList.drop j) : Nat)) ∧ Below w.heap.size w w' := by
 subst hz
 exact match_any s i j w hs hij hj
theorem toks_any (s : ByteArray) (w : World) (hs : s.size ≤ 64) :
 Calls Tryz.prog 49 #[.string s] w fun e w' => TRow w e w' (toks s.data.toList) := by
 obtain ⟨i0, hi, hz0, hz1, hz2⟩ := info_parts infoTok
 have hl : s.data.toList.length = s.size := by simp
 go_enter Tryz.func49, Tryz.ntmps49
 go_wp2
 go_loopw [3, 4] (fun out av wr => ∃ (m k : Nat) (l : List (Nat × Nat × List UInt8)), k ≤ s.size ∧ l.length ≤ m ∧ m ≤ k ∧ av = .int .i64 k ∧ Hid (stepsT m s.data.toList = (k, l)) ∧ Hid (wr.ownsRow w.heap.size 106 3 out l.length (tcells l)) ∧ Below w.heap.size w wr) (fun _ av _ => 64 - (intOf av).toNat)
 case atStart => exact ⟨0, 0, [], by omega, by simp, by omega, rfl, rfl, World.ownsRow_made w #[] 0 (Nat.le_refl _) (by unfold maxLen; omega) (by simp), (Below.refl _ _).alloc (Nat.le_refl _) _⟩
 case round =>
  obtain ⟨m, k, l, hk, hll, hmk, rfl, HS, HO, hbel⟩ := hrel
  have hsz := hbel.size
  by_cases hlt : (k : Int) < s.size
  ·obtain ⟨wz, hwz⟩ : ∃ wz, wz = wr := ⟨_, rfl⟩
   subst hwz
   go_wp2
   go_loopw [5, 6, 7] (fun bv kv fv w6 => ∃ (c b1 b2 : Nat), c ≤ k ∧ fv = .int .i64 ((k : Int) - 1 - c) ∧ bv = .int .i64 b1 ∧ kv = .int .i64 b2 ∧ b1 ≤ 31 ∧ b2 ≤ 64 ∧ Hid (best s.data.toList k c = (b1, b2)) ∧ Below wz.heap.size wz w6) (fun _ _ fv _ => (intOf fv + 1).toNat)
   case atStart => exact ⟨0, 0, 0, by omega, by go_num, rfl, rfl, by omega, by omega, rfl, Below.refl _ _⟩
   case round =>
    obtain ⟨c, b1, b2, hc, rfl, rfl, rfl, hb1, hb2, HB, hb6⟩ := hrel
    have hs6 := hb6.size
    by_cases hck : c < k
    ·have hge : (0 : Int) ≤ (k : Int) - 1 - c := by omega
     have hm31 := (mlen_le 31 (s.data.toList.drop (k - (c + 1))) (s.data.toList.drop k)).1
     go_wp2_with fail
     refine (match_int s _ (k - (c + 1)) k (by omega) _ hs (by omega) (by omega)).mono ?_
     rintro e w7 ⟨rfl, hb7⟩
     have hbb : Below wz.heap.size wz w7 := hb6.trans (hb7.mono hs6)
     have HB2 : Hid (∀ n, mlen 31 (s.data.toList.drop (k - (c + 1))) (s.data.toList.drop k) = n → (4 ≤ n ∧ b1 < n → best s.data.toList k (c + 1) = (n, c + 1)) ∧ (¬ (4 ≤ n ∧ b1 < n) → best s.data.toList k (c + 1) = (b1, b2))) := by
      intro n hn
      subst hn
      have e1 : (best s.data.toList k c).1 = b1 := by rw [HB.out]
      refine ⟨fun h => best_yes _ _ _ h.1 (by rw [e1]; exact h.2), fun h => ?_⟩
      rw [best_no _ _ _ (by rw [e1]; exact h), HB.out]
     obtain ⟨n, hn⟩ : ∃ n, mlen 31 (s.data.toList.drop (k - (c + 1))) (s.data.toList.drop k) = n := ⟨_, rfl⟩
     have HB3 := hide (HB2.out n hn)
     rw [hn] at hm31 ⊢
     clear hn HB2 HB hb6 hb7
     by_cases h4 : (4 : Int) ≤ n
     ·by_cases hbn : (b1 : Int) < n
      ·have HB4 : Hid (best s.data.toList k (c + 1) = (n, c + 1)) := HB3.out.1 ⟨by omega, by omega⟩
       clear HB3
       go_wp2
       go_roundw
       case rel => exact ⟨c + 1, n, c + 1, by omega, by go_num, rfl, by go_num, by omega, by omega, HB4, hbb⟩
       case measure => simp [intOf]; omega
      ·have HB4 : Hid (best s.data.toList k (c + 1) = (b1, b2)) := HB3.out.2 (by omega)
       clear HB3
       go_wp2
       go_roundw
       case rel => exact ⟨c + 1, b1, b2, by omega, by go_num, rfl, rfl, hb1, hb2, HB4, hbb⟩
       case measure => simp [intOf]; omega
     ·have HB4 : Hid (best s.data.toList k (c + 1) = (b1, b2)) := HB3.out.2 (by omega)
      clear HB3
      go_wp2
      go_roundw
      case rel => exact ⟨c + 1, b1, b2, by omega, by go_num, rfl, rfl, hb1, hb2, HB4, hbb⟩
      case measure => simp [intOf]; omega
    ·have eck : c = k := by omega
     subst eck
     have hge : ¬ (0 : Int) ≤ (c : Int) - 1 - c := by omega
     have HO6 := hide (own_below HO.out hb6)
     have hB6 : Below w.heap.size w wr := hbel.trans (hb6.mono hsz)
     by_cases h0 : (0 : Int) < b1
     ·obtain ⟨hst, hle⟩ := steps_match s.data.toList m c b1 b2 l (by omega) HS.out (by omega) HB.out (by omega)
      have HS2 := hide hst
      clear HS HB hst hbel hb6 HO
      go_wp2_with (at_builtin; refine wpList_append_own _ rfl _ _ 103 rfl w.heap.size 106 i0 (.agg #[.int .i64 0, .int .i64 0, .string ⟨#[]⟩]) 3 32 Tryz.underlying103 hi hz0 hz1 hz2 rfl (by decide) _ _ _ rfl (by exact HO6.out.alloc _) ⟨wr.heap.size, 0, none⟩ 1 1 [Value.int .i64 _, Value.int .i64 _, Value.string _] rfl rfl (by exact three_new _ _ _ _ _) (tok3_one _ _ _) (by unfold maxLen; omega) (by omega) (by simp; omega) ?_)
      intro v' w2 hown2 hgrow _
      have hb2 : Below w.heap.size w w2 := own_grown3 hB6 (by omega) HO6.out hgrow
      have HO2 : Hid (w2.ownsRow w.heap.size 106 3 v' (l ++ [(b2, b1, [])]).length (tcells (l ++ [(b2, b1, [])]))) := by
       show World.ownsRow _ _ _ _ _ _ _
       rw [← tcells_snoc, List.length_append]
       exact hown2
      clear hown2 hgrow HO6 hB6
      go_wp2
      go_roundw
      case rel => exact ⟨m + 1, c + b1, l ++ [(b2, b1, [])], by omega, (by simp only [List.length_append, List.length_cons, List.length_nil] at *; omega), by omega, by go_num, HS2, HO2, hb2⟩
      case measure => simp [intOf]; omega
     ·have hb0 : (best s.data.toList c c).1 = 0 := by rw [HB.out]; show b1 = 0; omega
      have hbyte : s.data.toList.getD c 0 = s[c] := by
       rw [List.getD_eq_getElem?_getD, List.getElem?_eq_getElem (by omega)]
       rfl
      obtain ⟨u, hu⟩ : ∃ u : ByteArray, u = s.extract c (c + 1) := ⟨_, rfl⟩
      have hu1 : u = ⟨[s.data.toList.getD c 0].toArray⟩ := by
       rw [hu]
       apply ByteArray.ext
       apply Array.ext'
       rw [Lib.extract_data]
       simp only [Nat.add_sub_cancel_left]
       rw [List.drop_eq_getElem_cons (by omega)]
       simp [List.getD_eq_getElem?_getD, List.getElem?_eq_getElem (show c < s.data.toList.length by omega)]
      have hsl : ∀ W, (Instr.slice 9 (.string s) (some (.int .i64 (c : Int))) (some (.int .i64 ((c : Int) + 1))) none).run Tryz.prog W = .ok (.string u) W := by
       intro W
       rw [run_slice_string_if W 9 s .i64 .i64 _ _ Tryz.underlying9, if_pos (by omega), if_pos (by omega), hu]
       rfl
      have HU := hide hu1
      clear hu hu1 hbyte
      by_cases hn : ∃ (l' : List (Nat × Nat × List UInt8)) (z : Nat) (t : List UInt8), l = l' ++ [(0, z, t)] ∧ t.length < 31
      ·obtain ⟨l', z, t, rfl, ht⟩ := hn
       have HS2 := hide (steps_more s.data.toList m c z l' t HS.out (by omega) hb0 ht)
       have hlen : (l' ++ [((0 : Nat), z, t)]).length = l'.length + 1 := by simp
       obtain ⟨gq, capq, rfl⟩ := own_slice3 HO6.out (by omega)
       have hat : (l' ++ [((0 : Nat), z, t)])[l'.length]? = some (0, z, t) := by simp
       obtain ⟨k1, k2, k3⟩ := tcells_at _ l'.length (0, z, t) hat
       have c1 := HO6.out.cells (g := gq) rfl _ _ k1
       have c3 := HO6.out.cells (g := gq) rfl _ _ k3
       rw [addr_at, Nat.mul_comm] at c1 c3
       have f3 := HO6.out.frozenAt (l'.length * 3 + 2)
       have hgq := (HO6.out.lt gq rfl).1
       obtain ⟨x, hx⟩ : ∃ x : ByteArray, x = ⟨(t ++ [s.data.toList.getD c 0]).toArray⟩ := ⟨_, rfl⟩
       have HO8 := own_set HO6.out rfl (l'.length * 3 + 2) (.string x)
       rw [hx, show l'.length * 3 + 2 = 3 * l'.length + 2 by omega, tcells_text, ← hx] at HO8
       rw [show 3 * l'.length + 2 = l'.length * 3 + 2 by omega] at HO8
       obtain ⟨tt, htt⟩ : ∃ tt : ByteArray, tt = ⟨t.toArray⟩ := ⟨_, rfl⟩
       have hts : (tt.size : Int) < 31 := by rw [htt]; show ((t.toArray.size : Nat) : Int) < 31; simp; omega
       rw [← htt] at c3
       have hxx : tt ++ u = x := by
        rw [htt, HU.out, hx]
        apply ByteArray.ext
        simp [ByteArray.data_append]
       have hus : u.size = 1 := by rw [HU.out]; rfl
       have hadd : ∀ W, (Go.Op.stringOp .add tt u).run Tryz.prog W = .ok (.string x) W := by
        intro W
        unfold Go.Op.stringOp
        simp only []
        rw [if_neg (by show ¬ _ > (9223372036854775807 : Int); omega), hxx]
        rfl
       rw [hlen] at HO8 hll ⊢
       have hB8 := hB6.setCell (p := ⟨gq, l'.length * 3 + 2, none⟩) hgq (.string x)
       have H8 := hide HO8
       have HB8 := hide hB8
       obtain ⟨N, hN⟩ : ∃ N, N = l'.length := ⟨_, rfl⟩
       rw [← hN] at c1 c3 f3 H8 HB8 hll ⊢
       simp only at c1
       have HN := hide hN
       have n0 : (0 : Int) ≤ N := by omega
       clear hat k1 k2 k3 HO6 hlen HO8 hB8 hx htt hxx hN HS HB hbel hb6 HO hB6 hgq
       go_wp2
       go_region
       have H9 : Hid ((wr.setCell ⟨gq, N * 3 + 2, none⟩ (.string x)).drew.ownsRow w.heap.size 106 3 (.slice (some ⟨gq, 0, none⟩) (N + 1) capq) (N + 1) (tcells (l' ++ [(0, z, t ++ [s.data.toList.getD c 0])]))) := H8
       have HB9 := hide HB8.out.drew
       generalize (wr.setCell ⟨gq, N * 3 + 2, none⟩ (.string x)).drew = w9 at H9 HB9 ⊢
       have hl9 : (l' ++ [((0 : Nat), z, t ++ [s.data.toList.getD c 0])]).length = N + 1 := by rw [List.length_append, HN.out]; rfl
       have H10 : Hid (w9.ownsRow w.heap.size 106 3 (.slice (some ⟨gq, 0, none⟩) (N + 1) capq) (l' ++ [((0 : Nat), z, t ++ [s.data.toList.getD c 0])]).length (tcells (l' ++ [(0, z, t ++ [s.data.toList.getD c 0])]))) := by
        show World.ownsRow _ _ _ _ _ _ _
        rw [hl9]; exact H9.out
       have hl10 : (l' ++ [((0 : Nat), z, t ++ [s.data.toList.getD c 0])]).length ≤ m + 1 := by omega
       clear H8 HB8 H9 c1 c3 f3 hadd hsl hl9
       go_wp2
       go_roundw
       case rel => exact ⟨m + 1, c + 1, l' ++ [(0, z, t ++ [s.data.toList.getD c 0])], by omega, hl10, by omega, by go_num, HS2, H10, HB9.out⟩
       case measure => simp [intOf]; omega
      ·have HS2 := hide (steps_new s.data.toList m c l HS.out (by omega) hb0 (fun a z t e h => hn ⟨a, z, t, e, h⟩))
       clear HS HB hbel hb6 HO
       rcases List.eq_nil_or_concat l with hl0 | ⟨l', ⟨b, z, t⟩, hl0⟩
       ·subst hl0
        rcases HO6.out.2 with ⟨rfl, -⟩ | ⟨gq, capq, curq, rfl, -⟩
        ·clear hn
         go_wp2_with (at_builtin; refine wpList_append_own _ rfl _ _ 103 rfl w.heap.size 106 i0 (.agg #[.int .i64 0, .int .i64 0, .string ⟨#[]⟩]) 3 32 Tryz.underlying103 hi hz0 hz1 hz2 rfl (by decide) _ _ _ rfl (by exact HO6.out.alloc _) ⟨wr.heap.size, 0, none⟩ 1 1 [Value.int .i64 _, Value.int .i64 _, Value.string _] rfl rfl (by exact three_new _ _ _ _ _) (tok3_one _ _ _) (by unfold maxLen; omega) (by omega) (by simp; omega) ?_)
         intro v' w2 hown2 hgrow _
         have hb2 : Below w.heap.size w w2 := own_grown3 hB6 (by omega) HO6.out hgrow
         have HO2 : Hid (w2.ownsRow w.heap.size 106 3 v' (([] : List (Nat × Nat × List UInt8)) ++ [(0, 0, [s.data.toList.getD c 0])]).length (tcells (([] : List (Nat × Nat × List UInt8)) ++ [(0, 0, [s.data.toList.getD c 0])]))) := by
          show World.ownsRow _ _ _ _ _ _ _
          rw [← tcells_snoc, List.length_append]
          have := hown2
          rw [HU.out] at this
          exact this
         clear hown2 hgrow HO6 hB6
         go_wp2
         go_roundw
         case rel => exact ⟨m + 1, c + 1, ([] : List (Nat × Nat × List UInt8)) ++ [(0, 0, [s.data.toList.getD c 0])], by omega, (by simp only [List.length_append, List.length_cons, List.length_nil] at *; omega), by omega, by go_num, HS2, HO2, hb2⟩
         case measure => simp [intOf]; omega
        ·clear hn
         go_wp2_with (at_builtin; refine wpList_append_own _ rfl _ _ 103 rfl w.heap.size 106 i0 (.agg #[.int .i64 0, .int .i64 0, .string ⟨#[]⟩]) 3 32 Tryz.underlying103 hi hz0 hz1 hz2 rfl (by decide) _ _ _ rfl (by exact HO6.out.alloc _) ⟨wr.heap.size, 0, none⟩ 1 1 [Value.int .i64 _, Value.int .i64 _, Value.string _] rfl rfl (by exact three_new _ _ _ _ _) (tok3_one _ _ _) (by unfold maxLen; omega) (by omega) (by simp; omega) ?_)
         intro v' w2 hown2 hgrow _
         have hb2 : Below w.heap.size w w2 := own_grown3 hB6 (by omega) HO6.out hgrow
         have HO2 : Hid (w2.ownsRow w.heap.size 106 3 v' (([] : List (Nat × Nat × List UInt8)) ++ [(0, 0, [s.data.toList.getD c 0])]).length (tcells (([] : List (Nat × Nat × List UInt8)) ++ [(0, 0, [s.data.toList.getD c 0])]))) := by
          show World.ownsRow _ _ _ _ _ _ _
          rw [← tcells_snoc, List.length_append]
          have := hown2
          rw [HU.out] at this
          exact this
         clear hown2 hgrow HO6 hB6
         go_wp2
         go_roundw
         case rel => exact ⟨m + 1, c + 1, ([] : List (Nat × Nat × List UInt8)) ++ [(0, 0, [s.data.toList.getD c 0])], by omega, (by simp only [List.length_append, List.length_cons, List.length_nil] at *; omega), by omega, by go_num, HS2, HO2, hb2⟩
         case measure => simp [intOf]; omega
       ·have hl0' : l = l' ++ [(b, z, t)] := by rw [hl0]; simp
        have hlen : l.length = l'.length + 1 := by rw [hl0']; simp
        obtain ⟨gq, capq, rfl⟩ := own_slice3 HO6.out (by omega)
        have hat : l[l'.length]? = some (b, z, t) := by rw [hl0']; simp
        obtain ⟨k1, k2, k3⟩ := tcells_at l l'.length (b, z, t) hat
        have c1 := HO6.out.cells (g := gq) rfl _ _ k1
        have c3 := HO6.out.cells (g := gq) rfl _ _ k3
        rw [addr_at, Nat.mul_comm] at c1 c3
        obtain ⟨N, hN⟩ : ∃ N, N = l'.length := ⟨_, rfl⟩
        rw [← hN] at c1 c3 hlen
        have HN := hide hlen
        have hNm : N + 1 ≤ m := by omega
        have HO7 : Hid (wr.ownsRow w.heap.size 106 3 (.slice (some ⟨gq, 0, none⟩) (N + 1) capq) (N + 1) (tcells l)) := by
         show World.ownsRow _ _ _ _ _ _ _
         have := HO6.out
         rw [hlen] at this
         exact this
        rw [hlen]
        obtain ⟨tt, htt⟩ : ∃ tt : ByteArray, tt = ⟨t.toArray⟩ := ⟨_, rfl⟩
        have hts : tt.size = t.length := by rw [htt]; show t.toArray.size = _; simp
        rw [← htt] at c3
        simp only at c1
        clear hat k1 k2 k3 HO6 hll
        by_cases hb : b = 0
        ·have ht31 : ¬ (tt.size : Int) < 31 := fun h => hn ⟨l', z, t, by rw [hl0', hb], by omega⟩
         subst hb
         clear hn hN hl0 hl0' hlen htt hts
         go_wp2_with (at_builtin; refine wpList_append_own _ rfl _ _ 103 rfl w.heap.size 106 i0 (.agg #[.int .i64 0, .int .i64 0, .string ⟨#[]⟩]) 3 32 Tryz.underlying103 hi hz0 hz1 hz2 rfl (by decide) _ (N + 1) (tcells l) rfl (by exact HO7.out.alloc _) ⟨wr.heap.size, 0, none⟩ 1 1 [Value.int .i64 _, Value.int .i64 _, Value.string _] rfl rfl (by exact three_new _ _ _ _ _) (tok3_one _ _ _) (by unfold maxLen; omega) (by omega) (by simp; omega) ?_)
         intro v' w2 hown2 hgrow _
         have hb2 : Below w.heap.size w w2 := own_grown3 hB6 (by omega) HO7.out hgrow
         have HO2 : Hid (w2.ownsRow w.heap.size 106 3 v' (l ++ [(0, 0, [s.data.toList.getD c 0])]).length (tcells (l ++ [(0, 0, [s.data.toList.getD c 0])]))) := by
          show World.ownsRow _ _ _ _ _ _ _
          rw [← tcells_snoc, List.length_append, HN.out]
          have := hown2
          rw [HU.out] at this
          exact this
         have hl2 : (l ++ [(0, 0, [s.data.toList.getD c 0])]).length ≤ m + 1 := by rw [List.length_append, HN.out]; simp only [List.length_cons, List.length_nil]; omega
         clear hown2 hgrow HO7 hB6
         go_wp2
         go_roundw
         case rel => exact ⟨m + 1, c + 1, l ++ [(0, 0, [s.data.toList.getD c 0])], by omega, hl2, by omega, by go_num, HS2, HO2, hb2⟩
         case measure => simp [intOf]; omega
        ·have tb : ((b : Int) == 0) = false := by rw [beq_eq_false_iff_ne]; omega
         clear hn hN hl0 hl0' hlen htt hts c3
         go_wp2_with (at_builtin; refine wpList_append_own _ rfl _ _ 103 rfl w.heap.size 106 i0 (.agg #[.int .i64 0, .int .i64 0, .string ⟨#[]⟩]) 3 32 Tryz.underlying103 hi hz0 hz1 hz2 rfl (by decide) _ (N + 1) (tcells l) rfl (by exact HO7.out.alloc _) ⟨wr.heap.size, 0, none⟩ 1 1 [Value.int .i64 _, Value.int .i64 _, Value.string _] rfl rfl (by exact three_new _ _ _ _ _) (tok3_one _ _ _) (by unfold maxLen; omega) (by omega) (by simp; omega) ?_)
         intro v' w2 hown2 hgrow _
         have hb2 : Below w.heap.size w w2 := own_grown3 hB6 (by omega) HO7.out hgrow
         have HO2 : Hid (w2.ownsRow w.heap.size 106 3 v' (l ++ [(0, 0, [s.data.toList.getD c 0])]).length (tcells (l ++ [(0, 0, [s.data.toList.getD c 0])]))) := by
          show World.ownsRow _ _ _ _ _ _ _
          rw [← tcells_snoc, List.length_append, HN.out]
          have := hown2
          rw [HU.out] at this
          exact this
         have hl2 : (l ++ [(0, 0, [s.data.toList.getD c 0])]).length ≤ m + 1 := by rw [List.length_append, HN.out]; simp only [List.length_cons, List.length_nil]; omega
         clear hown2 hgrow HO7 hB6
         go_wp2
         go_roundw
         case rel => exact ⟨m + 1, c + 1, l ++ [(0, 0, [s.data.toList.getD c 0])], by omega, hl2, by omega, by go_num, HS2, HO2, hb2⟩
         case measure => simp [intOf]; omega
  ·have ek : k = s.size := by omega
   have ET : Hid (toks s.data.toList = l) := steps_end _ m l (by rw [HS.out, ek, hl]) (by omega)
   go_wp2
   go_ret
   rw [ET.out]
   exact ⟨_, rfl, HO.out, hbel⟩
end Go.Proofs.YtcjgjkejhkhknacGreatDoor
