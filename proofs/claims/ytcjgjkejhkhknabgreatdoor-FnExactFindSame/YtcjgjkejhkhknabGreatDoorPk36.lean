/-
  IUnp; SMatch
-/
import Derived.Test.YtcjgjkejhkhknabGreatDoorPk15
import Derived.Test.YtcjgjkejhkhknabGreatDoorIPack
import Derived.Test.YtcjgjkejhkhknabGreatDoorPk9
import Derived.Test.YtcjgjkejhkhknabGreatDoorPk11
set_option maxHeartbeats 1000000
set_option maxRecDepth 100000
namespace Go.Proofs.YtcjgjkejhkhknabGreatDoor
open Go.RowKit
open Pack
def strLen : Value → Nat
 | .string s => s.size
 | _ => 0
def TRead (lim : Nat) (w : World) (r : List UInt8) (e : Ending) (w' : World) : Prop :=
 ∃ (v : Value) (l : List (Nat × Nat × List UInt8)) (ok : Bool), e = .returned (.tuple #[v, .bool ok]) ∧ l.length ≤ r.length ∧ w'.ownsRow w.heap.size 190 3 v l.length (tcells l) ∧ (ok = true → RG lim r = some l) ∧ (ok = false → RG lim r = none) ∧ Below w.heap.size w w'
theorem map_more (o : Option (List (Nat × Nat × List UInt8))) (l : List (Nat × Nat × List UInt8)) (t : Nat × Nat × List UInt8) : (o.map fun x => t :: x).map (fun x => l ++ x) = o.map fun x => (l ++ [t]) ++ x := by
 cases o <;> simp
theorem iread_anyU (r : List UInt8) (w : World) (hr : r.length ≤ 1000) :
 Calls Tryz.prog 133 #[.string (BA r)] w fun e w' => TRead 128 w r e w' := by
 obtain ⟨i0, hi, hz0, hz1, hz2⟩ := info_parts infoTok
 go_enter Tryz.func133, Tryz.ntmps133
 go_wp2
 go_loopw [0, 4] (fun sv tv wr => ∃ (s : List UInt8) (l : List (Nat × Nat × List UInt8)), l.length + s.length ≤ r.length ∧ sv = .string (BA s) ∧ Hid (RG 128 r = (RG 128 s).map fun x => l ++ x) ∧ Hid (wr.ownsRow w.heap.size 190 3 tv l.length (tcells l)) ∧ Hid (Below w.heap.size w wr)) (fun sv _ _ => strLen sv)
 case atStart => exact ⟨r, [], by simp, rfl, (by show _ = _; simp), World.ownsRow_nil _ _ _ _, Below.refl _ _⟩
 case round =>
  obtain ⟨s, l, hls, rfl, HG, HO, HW⟩ := hrel
  have hsz := HW.out.size
  cases s with
  | nil =>
   have he := BA_emp
   have HX : Hid (RG 128 r = some l) := by show _ = _; rw [HG.out, RG_nil]; simp
   have hll : l.length ≤ r.length := by simp at hls; omega
   clear HG
   go_wp2
   exact bodyPost_ret (results_tmp2 rfl _ _ _) rfl ⟨_, l, true, rfl, hll, HO.out, (fun _ => HX.out), (fun h => by cases h), HW.out⟩
  | cons n s =>
   have he := BA_ful n s
   have hls2 : l.length + 1 + s.length ≤ r.length := by simp at hls; omega
   go_wp2_with fail
   refine (cut_any n s _ (by omega)).mono ?_
   rintro e w5 ⟨⟨a, b, t, s', ok, rfl, hs', h1, h2⟩, hb5⟩
   have HO5 := hide (own_below HO.out hb5)
   have HW5 := hide (HW.out.trans (hb5.mono hsz))
   have hs5 := HW5.out.size
   have H1 := hide h1
   have H2 := hide h2
   clear h1 h2 hb5 HO HW
   cases ok with
   | true =>
    have HG2 : Hid (RG 128 r = (RG 128 s').map fun x => (l ++ [(a, b, t)]) ++ x) := by
     show _ = _
     rw [HG.out, H1.out rfl, map_more]
    have HO6 := hide (HO5.out.alloc (.cells #[.int .i64 (a : Int), .int .i64 (b : Int), .string (BA t)] 190))
    have HW6 := hide (HW5.out.alloc hs5 (.cells #[.int .i64 (a : Int), .int .i64 (b : Int), .string (BA t)] 190))
    obtain ⟨w6, hw6⟩ : ∃ w6, w6 = w5.alloc (.cells #[.int .i64 (a : Int), .int .i64 (b : Int), .string (BA t)] 190) := ⟨_, rfl⟩
    have hs6 : w6.heap.size = w5.heap.size + 1 := by rw [hw6]; simp
    have h3c := hide (three_new w6 (.int .i64 (a : Int)) (.int .i64 (b : Int)) (.string (BA t)) 190)
    rw [hs6, hw6] at h3c
    clear HG H1 H2 hw6 hs6 w6
    go_wp2_with (at_builtin; refine wpList_append_own _ rfl _ _ 152 rfl w.heap.size 190 i0 (.agg #[.int .i64 0, .int .i64 0, .string ⟨#[]⟩]) 3 32 Tryz.underlying152 hi hz0 hz1 hz2 rfl (by decide) _ _ _ rfl (by exact HO6.out.alloc _) ⟨w5.heap.size + 1, 0, none⟩ 1 1 [Value.int .i64 (a : Int), Value.int .i64 (b : Int), Value.string (BA t)] rfl rfl (by exact h3c.out) (tok3_one _ _ _) (by unfold maxLen; omega) (by omega) (by simp; omega) ?_)
    intro v7 w7 ho7 hg7 _
    have HW7 := hide (own_grown3 HW6.out (by simp; omega) HO6.out hg7)
    have HO7 : Hid (w7.ownsRow w.heap.size 190 3 v7 (l ++ [(a, b, t)]).length (tcells (l ++ [(a, b, t)]))) := by
     show World.ownsRow _ _ _ _ _ _ _
     rw [← tcells_snoc, List.length_append]
     exact ho7
    have hl7 : (l ++ [(a, b, t)]).length + s'.length ≤ r.length := by simp; omega
    have hbs := BA_size s'
    have hbn := BA_size (n :: s)
    clear ho7 hg7 HO5 HO6 HW5 HW6 h3c
    go_wp2
    go_roundw
    case rel => exact ⟨s', l ++ [(a, b, t)], hl7, rfl, HG2, HO7, HW7⟩
    case measure => simp only [strLen] at *; simp [hbs, hbn]; omega
   | false =>
    have HX : Hid (RG 128 r = none) := by show _ = _; rw [HG.out, H2.out rfl]; rfl
    have HW6 := hide (HW5.out.alloc hs5 (.cells #[.int .i64 (a : Int), .int .i64 (b : Int), .string (BA t)] 190))
    clear HG H1 H2
    go_wp2
    exact bodyPost_ret (results_tmp2 rfl _ _ _) rfl ⟨_, [], false, rfl, by simp, World.ownsRow_nil _ _ _ _, (fun h => by cases h), (fun _ => HX.out), HW6.out⟩
theorem cutp_yes (c : UInt8) (r : List UInt8) (w : World) :
 Calls Tryz.prog 132 #[.string (BA (c :: r)), .string ⟨#[c]⟩] w fun e w' => e = .returned (.tuple #[.string (BA r), .bool true]) ∧ w' = w := by
 refine (Tryz.strings_CutPrefix (BA (c :: r)) ⟨#[c]⟩ w).mono ?_
 rintro e w' ⟨rfl, rfl⟩
 have h1 : Lib.hasPrefix (BA (c :: r)).data.toList (⟨#[c]⟩ : ByteArray).data.toList = true := by
  rw [BA_list]
  show List.isPrefixOf [c] (c :: r) = true
  simp [List.isPrefixOf]
 have h2 : Lib.trimPrefix (BA (c :: r)).data.toList (⟨#[c]⟩ : ByteArray).data.toList = r := by
  unfold Lib.trimPrefix
  rw [if_pos h1]
  rfl
 rw [h1, h2]
 exact ⟨rfl, rfl⟩
theorem cutp_no (t : List UInt8) (c : UInt8) (h : ∀ r, t ≠ c :: r) (w : World) :
 Calls Tryz.prog 132 #[.string (BA t), .string ⟨#[c]⟩] w fun e w' => e = .returned (.tuple #[.string (BA t), .bool false]) ∧ w' = w := by
 refine (Tryz.strings_CutPrefix (BA t) ⟨#[c]⟩ w).mono ?_
 rintro e w' ⟨rfl, rfl⟩
 have h1 : Lib.hasPrefix (BA t).data.toList (⟨#[c]⟩ : ByteArray).data.toList = false := by
  rw [BA_list]
  show List.isPrefixOf [c] t = false
  cases t with
  | nil => rfl
  | cons d r =>
   have hd : c ≠ d := fun e => h r (by rw [e])
   simp [List.isPrefixOf, hd]
 have h2 : Lib.trimPrefix (BA t).data.toList (⟨#[c]⟩ : ByteArray).data.toList = t := by
  unfold Lib.trimPrefix
  rw [if_neg (by rw [h1]; simp)]
  rfl
 rw [h1, h2]
 exact ⟨rfl, rfl⟩
theorem plainV_some (o : List UInt8) : plainV (some o) = .tuple #[.string (BA o), .bool true] := rfl
theorem plainV_none : plainV none = .tuple #[.string ⟨#[]⟩, .bool false] := rfl
theorem iplainOf_any (t : List UInt8) (w : World) (ht : t.length ≤ 65) :
 Calls Tryz.prog 103 #[.string (BA t)] w fun e w' => e = .returned (plainV (plainI t)) ∧ Below w.heap.size w w' := by
 by_cases h1 : ∃ r, t = 114 :: r
 ·obtain ⟨r, rfl⟩ := h1
  have HX : Hid (plainI (114 :: r) = some r) := by show _ = _; unfold plainI; simp
  have hbs := BA_size r
  simp at ht
  go_enter Tryz.func103, Tryz.ntmps103
  go_wp2_with fail
  refine (cutp_yes 114 r _).mono ?_
  rintro e w1 ⟨rfl, rfl⟩
  go_wp2_with fail
  refine (clone_anyW (BA r) _ (by omega)).mono ?_
  rintro e w2 ⟨rfl, hb⟩
  go_wp2
  exact bodyPost_ret (results_tmp2 rfl _ _ _) rfl ⟨by rw [HX.out]; rfl, hb⟩
 ·have hn1 : ∀ r, t ≠ 114 :: r := fun r e => h1 ⟨r, e⟩
  by_cases h2 : ∃ r, t = 122 :: r
  ·obtain ⟨r, rfl⟩ := h2
   have HX : Hid (plainI (122 :: r) = (RG 128 r).bind plain) := by show _ = _; unfold plainI; simp
   simp at ht
   go_enter Tryz.func103, Tryz.ntmps103
   go_wp2_with fail
   refine (cutp_no _ 114 hn1 _).mono ?_
   rintro e w1 ⟨rfl, rfl⟩
   go_wp2_with fail
   refine (cutp_yes 122 r _).mono ?_
   rintro e w1 ⟨rfl, rfl⟩
   go_wp2_with fail
   refine (iread_anyU r _ (by omega)).mono ?_
   rintro e w2 ⟨v, l, ok, rfl, hl, ho, k1, k2, hb⟩
   have HB := hide hb
   have K1 := hide k1
   have K2 := hide k2
   have HO := hide ho
   clear hb k1 k2 ho
   cases ok with
   | true =>
    have HY : Hid (plainI (122 :: r) = gplain (l.map gtok)) := by
     show _ = _
     rw [HX.out, K1.out rfl]
     exact (gplain_tok l []).symm
    have hlm : (l.map gtok).length = l.length := by simp
    have HO2 : Hid (w2.ownsRow w1.heap.size 190 3 v (l.map gtok).length (gcells (l.map gtok))) := by
     show World.ownsRow _ _ _ _ _ _ _
     rw [hlm, ← tcells_g]
     exact HO.out
    obtain ⟨p, q, hpq⟩ : ∃ p q, plainV (gplain (l.map gtok)) = .tuple #[.string p, .bool q] := by
     cases gplain (l.map gtok) with
     | none => exact ⟨_, _, rfl⟩
     | some o => exact ⟨_, _, rfl⟩
    have HPQ := hide hpq
    have hl5 : (l.map gtok).length ≤ 1048576 := by omega
    clear HX K1 K2 HO hpq hlm
    go_wp2_with fail
    refine (iplain_any v _ _ _ hl5 HO2.out).mono ?_
    rintro e w3 ⟨rfl, hb⟩
    have HB3 := hide (HB.out.trans (hb.mono HB.out.size))
    rw [HPQ.out]
    clear hb HB
    go_wp2
    exact bodyPost_ret (results_tmp2 rfl _ _ _) rfl ⟨by rw [HY.out, HPQ.out]; rfl, HB3.out⟩
   | false =>
    have HY : Hid (plainI (122 :: r) = none) := by
     show _ = _
     rw [HX.out, K2.out rfl]
     rfl
    clear HX K1 K2 HO
    go_wp2
    exact bodyPost_ret (results_tmp2 rfl _ _ _) rfl ⟨by rw [HY.out]; rfl, HB.out⟩
  ·have hn2 : ∀ r, t ≠ 122 :: r := fun r e => h2 ⟨r, e⟩
   have HX : Hid (plainI t = none) := by
    show _ = _
    unfold plainI
    cases t with
    | nil => rfl
    | cons c r =>
     simp only
     rw [if_neg (fun e => hn1 r (by rw [e])), if_neg (fun e => hn2 r (by rw [e]))]
   go_enter Tryz.func103, Tryz.ntmps103
   go_wp2_with fail
   refine (cutp_no _ 114 hn1 _).mono ?_
   rintro e w1 ⟨rfl, rfl⟩
   go_wp2_with fail
   refine (cutp_no _ 122 hn2 _).mono ?_
   rintro e w1 ⟨rfl, rfl⟩
   go_wp2
   exact bodyPost_ret (results_tmp2 rfl _ _ _) rfl ⟨by rw [HX.out]; rfl, Below.refl _ _⟩
theorem BA_ne (a b : List UInt8) (h : a ≠ b) : ((BA a).toList == (BA b).toList) = false := by
 rw [Lib.toList_data, Lib.toList_data, BA_list, BA_list, beq_eq_false_iff_ne]
 exact h
theorem iunp_any (t : List UInt8) (w : World) (ht0 : t.length ≤ 9223372036854775807) :
 Calls Tryz.prog 72 #[.string (BA t)] w fun e w' => e = .returned (plainV (unpackL t)) ∧ Below w.heap.size w w' := by
 have hbs := BA_size t
 by_cases h65 : (65 : Int) < t.length
 ·have HX : Hid (unpackL t = none) := by show _ = _; rw [← unpackI_eq]; unfold unpackI; rw [if_pos (by omega)]
  go_enter Tryz.func72, Tryz.ntmps72
  go_wp2
  exact bodyPost_ret (results_tmp2 rfl _ _ _) rfl ⟨by rw [HX.out]; rfl, Below.refl _ _⟩
 ·have HU : Hid (unpackL t = (plainI t).bind fun s => if packL s = some t then some s else none) := by show _ = _; rw [← unpackI_eq]; unfold unpackI; rw [if_neg (by omega)]
  have HC := hide (iplainOf_any t)
  obtain ⟨o, ho⟩ : ∃ o, plainI t = o := ⟨_, rfl⟩
  rw [ho] at HU HC
  clear ho
  go_enter Tryz.func72, Tryz.ntmps72
  go_wp2_with fail
  refine (HC.out _ (by omega)).mono ?_
  rintro e w1 ⟨rfl, hb⟩
  have HB1 := hide hb
  clear hb HC
  cases o with
  | none =>
   have HX : Hid (unpackL t = none) := HU
   rw [plainV_none]
   clear HU
   go_wp2
   exact bodyPost_ret (results_tmp2 rfl _ _ _) rfl ⟨by rw [HX.out]; rfl, HB1.out⟩
  | some s =>
   have HU2 : Hid (unpackL t = if packL s = some t then some s else none) := HU
   have HC := hide (ipack_any (BA s))
   rw [BA_list] at HC
   obtain ⟨o, ho⟩ : ∃ o, packL s = o := ⟨_, rfl⟩
   rw [ho] at HU2 HC
   rw [plainV_some]
   clear ho HU
   go_wp2_with fail
   refine (HC.out _).mono ?_
   rintro e w2 ⟨rfl, hb⟩
   have HB2 := hide (HB1.out.trans (hb.mono HB1.out.size))
   clear hb HC HB1
   cases o with
   | none =>
    have HX : Hid (unpackL t = none) := by show _ = _; rw [HU2.out, if_neg (by simp)]
    rw [plainV_none]
    clear HU2
    go_wp2
    exact bodyPost_ret (results_tmp2 rfl _ _ _) rfl ⟨by rw [HX.out]; rfl, HB2.out⟩
   | some p =>
    rw [plainV_some]
    by_cases hpt : p = t
    ·subst hpt
     have HX : Hid (unpackL p = some s) := by show _ = _; rw [HU2.out, if_pos rfl]
     have hne : ((BA p).toList != (BA p).toList) = false := by simp
     clear HU2
     go_wp2
     exact bodyPost_ret (results_tmp2 rfl _ _ _) rfl ⟨by rw [HX.out]; rfl, HB2.out⟩
    ·have HX : Hid (unpackL t = none) := by show _ = _; rw [HU2.out, if_neg (fun e => hpt (by simpa using e))]
     have hne := BA_ne p t hpt
     clear HU2
     go_wp2
     exact bodyPost_ret (results_tmp2 rfl _ _ _) rfl ⟨by rw [HX.out]; rfl, HB2.out⟩
theorem match_any (s : ByteArray) (i j : Nat) (w : World) (hs : s.size ≤ 64) (hij : i < j) (hj : j ≤ s.size) :
 Calls Tryz.prog 150 #[.string s, .int .i64 i, .int .i64 j] w fun e w' => e = .returned (.int .i64 (mlen 31 (s.data.toList.drop i) (s.data.toList.drop j) : Nat)) ∧ Below w.heap.size w w' := by
 have hl : s.data.toList.length = s.size := by simp
 go_enter Tryz.func150, Tryz.ntmps150
 go_wp2
 go_loopw [7] (fun nv wr => ∃ n : Nat, n ≤ 31 ∧ j + n ≤ s.size ∧ nv = .int .i64 n ∧ Hid (mlen 31 (s.data.toList.drop i) (s.data.toList.drop j) = n + mlen (31 - n) (s.data.toList.drop (i + n)) (s.data.toList.drop (j + n))) ∧ Below w.heap.size w wr) (fun nv _ => 31 - (intOf nv).toNat)
 case atStart => exact ⟨0, by omega, by omega, rfl, (by show _ = 0 + _; simp), Below.refl _ _⟩
 case round =>
  obtain ⟨n, hn, hjn, rfl, HM, hbel⟩ := hrel
  have w1 : IntKind.i64.wrap ((j : Int) + n) = (j : Int) + n := by rw [IntKind.wrap_i64]; omega
  have w2 : IntKind.i64.wrap ((i : Int) + n) = (i : Int) + n := by rw [IntKind.wrap_i64]; omega
  have HB := hide hbel
  clear hbel
  by_cases h31 : n < 31
  ·have d1 : decide ((n : Int) < 31) = true := decide_eq_true (by omega)
   by_cases hlt : j + n < s.size
   ·have d2 : decide ((j : Int) + n < s.size) = true := decide_eq_true (by omega)
    have f1 := byte_ofT s (i + n) ((i : Int) + n) (by omega) (by omega)
    have f2 := byte_ofT s (j + n) ((j : Int) + n) (by omega) (by omega)
    by_cases heq : s.data.toList.getD (i + n) 0 = s.data.toList.getD (j + n) 0
    ·have HM2 : Hid (mlen 31 (s.data.toList.drop i) (s.data.toList.drop j) = (n + 1) + mlen (31 - (n + 1)) (s.data.toList.drop (i + (n + 1))) (s.data.toList.drop (j + (n + 1)))) := by
      show _ = _
      rw [HM.out, show 31 - n = (31 - (n + 1)) + 1 by omega, mlen_yes _ _ _ _ (by omega) (by omega) heq, show i + n + 1 = i + (n + 1) by omega, show j + n + 1 = j + (n + 1) by omega]
      omega
     rw [heq] at f1
     generalize (s.data.toList.getD (j + n) 0).toNat = c at f1 f2
     have e1 : ((c : Int) == (c : Int)) = true := by simp
     clear HM heq hl
     go_wp2
     go_quiet (fail)
     go_wp2
     go_roundw
     case rel => exact ⟨n + 1, by omega, by omega, by go_num, HM2, below_drewN HB.out _⟩
     case measure => simp [intOf]; omega
    ·have HM2 : Hid (mlen 31 (s.data.toList.drop i) (s.data.toList.drop j) = n) := by
      show _ = _
      rw [HM.out, mlen_no _ _ _ _ (by omega) (by omega) heq]; rfl
     have hne : ((((s.data.toList.getD (i + n) 0).toNat : Nat) : Int) == (((s.data.toList.getD (j + n) 0).toNat : Nat) : Int)) = false := by
      rw [beq_eq_false_iff_ne]
      intro h
      exact heq (UInt8.toNat_inj.1 (by omega))
     generalize (s.data.toList.getD (i + n) 0).toNat = c1 at f1 hne
     generalize (s.data.toList.getD (j + n) 0).toNat = c2 at f2 hne
     clear HM heq hl
     go_wp2
     go_quiet (fail)
     go_wp2
     go_ret
     exact ⟨by rw [HM2.out]; rfl, below_drewN HB.out _⟩
   ·have d2 : decide ((j : Int) + n < s.size) = false := decide_eq_false (by omega)
    have HM2 : Hid (mlen 31 (s.data.toList.drop i) (s.data.toList.drop j) = n) := by
     show _ = _
     rw [HM.out, mlen_end _ _ _ _ (by omega)]; rfl
    clear HM hl
    go_wp2
    go_quiet (fail)
    go_wp2
    go_ret
    exact ⟨by rw [HM2.out]; rfl, below_drewN HB.out _⟩
  ·have d1 : decide ((n : Int) < 31) = false := decide_eq_false (by omega)
   have e31 : n = 31 := by omega
   have HM2 : Hid (mlen 31 (s.data.toList.drop i) (s.data.toList.drop j) = n) := by
    show _ = _
    rw [HM.out, e31]; rfl
   clear HM hl e31
   go_wp2
   go_quiet (fail)
   go_wp2
   go_ret
   exact ⟨by rw [HM2.out]; rfl, below_drewN HB.out _⟩
end Go.Proofs.YtcjgjkejhkhknabGreatDoor
