/-
  The walk of the law on tokens.
-/
import Derived.Test.YtaolinlginloaaaDrawT
import Derived.Test.YtaolinlginloaaaBig
import Derived.Test.YtaolinlginloaaaITok
import Derived.Test.YtaolinlginloaaaIPlain
import Derived.Test.YtaolinlginloaaaSPlain
namespace Go.Proofs.Ytaolinlginloaaa
open Go.RowKit
open Pack

theorem tok_at (l : List (Nat × Nat × List UInt8)) (s : List UInt8) (h : plain l = some s) (k : Nat) (t : Nat × Nat × List UInt8) (ht : l[k]? = some t) : TokOk (sizes (l.take k)) t := by
  obtain ⟨h1, h2⟩ := List.getElem?_eq_some_iff.1 ht
  have e1 : l = l.take k ++ l.drop k := (List.take_append_drop k l).symm
  unfold plain at h
  rw [e1, plainFrom_append] at h
  cases hp : plainFrom [] (l.take k) with
  | none => rw [hp] at h; cases h
  | some o =>
    rw [hp, Option.bind_some, List.drop_eq_getElem_cons h1, h2] at h
    have hs := sizes_of [] o _ hp
    simp at hs
    unfold plainFrom at h
    split at h
    · rename_i hk
      rw [← hs]
      exact hk
    · cases h
theorem sizes_take (l : List (Nat × Nat × List UInt8)) (k : Nat) (b z : Nat) (x : List UInt8) (ht : l[k]? = some (b, z, x)) : sizes (l.take (k + 1)) = sizes (l.take k) + z + x.length := by
  obtain ⟨h1, h2⟩ := List.getElem?_eq_some_iff.1 ht
  rw [List.take_succ_eq_append_getElem h1, h2]
  simp [sizes]
  omega
theorem sizes_le (l : List (Nat × Nat × List UInt8)) (k : Nat) : sizes (l.take k) ≤ sizes l := by
  have e0 : ∀ a b : List (Nat × Nat × List UInt8), sizes (a ++ b) = sizes a + sizes b := fun a b => by simp [sizes]
  have e1 := e0 (l.take k) (l.drop k)
  rw [List.take_append_drop] at e1
  omega
theorem plainV_op (r : Option (List UInt8)) : ∃ p q, plainV r = .tuple #[.string p, .bool q] := by
  cases r with
  | none => exact ⟨_, _, rfl⟩
  | some o => exact ⟨_, _, rfl⟩
theorem code_on {w w' : World} {ad : Option Addr} {len : Nat} (h : CodeIn w ad len w.heap.size) (hb : Below w.heap.size w w') : CodeIn w' ad len w'.heap.size := by
  intro j hj
  obtain ⟨b, off, h1, h2, c⟩ := h.on hb (Nat.le_refl _) j hj
  exact ⟨b, off, h1, Nat.lt_of_lt_of_le h2 hb.size, c⟩

set_option maxHeartbeats 2000000 in
set_option maxRecDepth 100000 in
theorem lawTs (ad : Option Addr) (len cap : Nat) (w : World) (hd : CodeIn w ad len w.heap.size) :
    Calls Try.prog 4 #[.slice ad len cap] w fun e w' => e = .returned (.bool true) ∧ Below w.heap.size w w' := by
  have HD := hide hd
  clear hd
  by_cases hbig : (1048576 : Int) < len
  · go_enter Try.func4, Try.ntmps4
    go_wp2_with fail
    refine (big_any ad len cap _).mono ?_
    rintro e w1 ⟨rfl, rfl⟩
    rw [decide_eq_true hbig]
    go_wp2
    go_ret
    exact ⟨rfl, Below.refl _ _⟩
  · have hl : len ≤ 1048576 := by omega
    go_enter Try.func4, Try.ntmps4
    go_wp2_with fail
    refine (big_any ad len cap _).mono ?_
    rintro e w1 ⟨rfl, rfl⟩
    rw [decide_eq_false (show ¬ (1048576 : Int) < len by omega)]
    go_wp2_with fail
    refine (drawPack_any ad len cap _ hl HD.out).mono ?_
    rintro e w2 ⟨t, rfl, ht, hb⟩
    have HB2 := hide hb
    clear hb
    by_cases h64 : (64 : Int) < t.size
    · go_wp2_with fail
      refine (itoks_long t _ (by omega)).mono ?_
      rintro e w3 ⟨v, rfl, ho, hb⟩
      have HB3 := hide (HB2.out.trans (hb.mono HB2.out.size))
      obtain ⟨ao, cq, rfl, q1, q2, q3⟩ := row_form3 ho
      have e0 : ((([] : List (Nat × Nat × List UInt8)).length : Int) == 0) = true := rfl
      clear ho hb q3
      go_wp2
      go_ret
      exact ⟨rfl, HB3.out⟩
    · obtain ⟨s, hs⟩ : ∃ s, t.data.toList = s := ⟨_, rfl⟩
      have hsl : s.length = t.size := by rw [← hs]; simp
      have hst : t = ⟨s.toArray⟩ := by rw [← hs]
      obtain ⟨hp1, hp2⟩ := plain_toks s (by omega)
      have HT := hide (itoks_any t)
      rw [hs] at HT
      obtain ⟨l, hll⟩ : ∃ l, toks s = l := ⟨_, rfl⟩
      rw [hll] at hp1 hp2 HT
      have hln : l.length ≤ 64 := by rw [← hll]; exact dtoks_len s (by omega)
      have HP1 := hide hp1
      have HP2 := hide hp2
      have HSZ : Hid (sizes l = t.size) := by
        have := sizes_of [] s l hp1
        show _ = _
        simp at this
        omega
      have HG : Hid (plainV (gplain (l.map gtok)) = .tuple #[.string t, .bool true]) := by
        show _ = _
        rw [show gplain (l.map gtok) = plain l from gplain_tok l [], hp1, hst]
        rfl
      have HTS := hide hst
      clear hp1 hp2 hll hs hsl hst
      go_wp2_with fail
      refine (HT.out _ (by omega)).mono ?_
      rintro e w3 ⟨v, rfl, ho, hb⟩
      have HB3 := hide (HB2.out.trans (hb.mono HB2.out.size))
      have hlm : (l.map gtok).length = l.length := by simp
      rw [tcells_g, ← hlm] at ho
      have HO := hide ho
      clear ho hb HB2 HT
      go_wp2_with fail
      refine (iplain_any v _ _ _ (by omega) HO.out).mono ?_
      rintro e w4 ⟨rfl, hb⟩
      have HB4 := hide (HB3.out.trans (hb.mono HB3.out.size))
      have HO4 := hide (own_below HO.out hb)
      rw [HG.out]
      rw [hlm] at HO4
      obtain ⟨ao, cq, rfl, q1, q2, q3⟩ := row_form3 HO4.out
      unfold maxLen at q2
      have Q3 := hide q3
      clear hb HB3 HO HG q3
      go_wp2
      go_loopw [7, 8] (fun nv iv wr => ∃ (k n : Nat), k ≤ l.length ∧ n ≤ 64 ∧ Hid (n = sizes (l.take k)) ∧ nv = .int .i64 n ∧ iv = .int .i64 k ∧ Hid (Below w4.heap.size w4 wr)) (fun _ iv _ => l.length - (intOf iv).toNat)
      case atStart => exact ⟨0, 0, Nat.zero_le _, by omega, rfl, rfl, rfl, Below.refl _ _⟩
      case round =>
        obtain ⟨k, n, hk, hn, HN, rfl, rfl, HW⟩ := hrel
        have hsz := HW.out.size
        by_cases hlt : (k : Int) < l.length
        · obtain ⟨ga, rfl, _, hga⟩ := Q3.out (by omega)
          have hkl : k < l.length := by omega
          obtain ⟨b, z, x, htk⟩ : ∃ b z x, l[k]? = some (b, z, x) := ⟨l[k].1, l[k].2.1, l[k].2.2, List.getElem?_eq_getElem hkl⟩
          have htg : (l.map gtok)[k]? = some (gtok (b, z, x)) := by rw [List.getElem?_map, htk]; rfl
          obtain ⟨c1, c2, c3⟩ := gown_cells (own_below HO4.out HW.out) htg
          simp only [gtok] at c1 c2 c3
          have hok := tok_at l s HP1.out k _ htk
          have h4 := HP2.out _ (List.mem_of_getElem? htk)
          have hnx := sizes_take l k b z x htk
          have hle := sizes_le l (k + 1)
          rw [← HN.out] at hok hnx
          have HN2 : Hid (n + z + x.length = sizes (l.take (k + 1))) := hnx.symm
          have hn64 : n + z + x.length ≤ 64 := by have := HSZ.out; omega
          obtain ⟨u, hu⟩ : ∃ u : ByteArray, u = ⟨x.toArray⟩ := ⟨_, rfl⟩
          have hus : u.size = x.length := by rw [hu]; show x.toArray.size = _; simp
          rw [← hu] at c3
          rw [← hus] at HN2 hn64
          have k0 : (0 : Int) ≤ k := by omega
          have HW5 := hide (HW.out.alloc hsz (.cells #[.int .i64 (b : Int), .int .i64 (z : Int), .string u] 31))
          unfold TokOk at hok
          simp only at hok h4
          by_cases hb0 : (0 : Int) < b
          · rw [if_neg (by omega)] at hok
            obtain ⟨o1, o2, o3, o4⟩ := hok
            subst o4
            have hu0 : u = ⟨#[]⟩ := hu
            subst hu0
            have t1 : ¬ (n : Int) < b := by omega
            have t2 : ¬ (z : Int) < 4 := by omega
            have t3 : ¬ (31 : Int) < z := by omega
            clear htk htg hnx hle h4 hu hus HN
            go_wp2
            go_roundw
            case rel => exact ⟨k + 1, n + z + (⟨#[]⟩ : ByteArray).size, by omega, hn64, HN2, by go_num, by go_num, HW5⟩
            case measure => simp [intOf]; omega
          · clear htk htg hnx hle h4 hu hus HN hok
            go_wp2
            go_roundw
            case rel => exact ⟨k + 1, n + z + u.size, by omega, hn64, HN2, by go_num, by go_num, HW5⟩
            case measure => simp [intOf]; omega
        · have hke : k = l.length := by omega
          have en : n = t.size := by rw [HN.out, hke, List.take_length]; exact HSZ.out
          subst en
          have HB5 := hide (HB4.out.trans (HW.out.mono HB4.out.size))
          have HDW := hide (drawPl_any ad len cap _ hl (code_on HD.out HB5.out))
          have e1 : (t.toList == t.toList) = true := by simp
          have e2 : ((t.size : Int) == (t.size : Int)) = true := by simp
          clear HN hke HW
          go_wp2_with fail
          refine HDW.out.mono ?_
          rintro e w6 ⟨v6, ls6, rfl, hl6, ho6, hb⟩
          have HO6 := hide ho6
          have HB6 := hide (HB5.out.trans (hb.mono HB5.out.size))
          obtain ⟨p, q, hpq⟩ := plainV_op (gplain ls6)
          have HPQ := hide hpq
          have e3 : (p.toList == p.toList) = true := by simp
          have e4 : (q == q) = true := by simp
          clear ho6 hb hpq HDW
          go_wp2_with fail
          refine (iplain_any v6 ls6 _ _ (by omega) HO6.out).mono ?_
          rintro e w7 ⟨rfl, hb⟩
          have HO7 := hide (own_below HO6.out hb)
          have HB7 := hide (HB6.out.trans (hb.mono HB6.out.size))
          rw [HPQ.out]
          clear hb
          go_wp2_with fail
          refine (splain_any v6 ls6 _ _ (by omega) HO7.out).mono ?_
          rintro e w8 ⟨rfl, hb⟩
          have HB8 := hide (HB7.out.trans (hb.mono HB7.out.size))
          rw [HPQ.out]
          clear hb
          go_wp2
          go_ret
          exact ⟨rfl, HB8.out⟩
end Go.Proofs.Ytaolinlginloaaa
