/-
  SDo; SOpen; SFree
-/
import Derived.Test.YtfmnaidhfgmemaaGreatDoorPk24
import Derived.Test.YtfmnaidhfgmemaaGreatDoorPk7
import Derived.Test.YtfmnaidhfgmemaaGreatDoorPk13
import Derived.Test.YtfmnaidhfgmemaaGreatDoorPk15
namespace Go.Proofs.YtfmnaidhfgmemaaGreatDoor
open Go.RowKit
set_option maxHeartbeats 800000 in
set_option maxRecDepth 100000 in
theorem sdo_b (v : Value) (bs : List Bk) (s : Stp) (w : World) (hs : Sml bs) (ha : RdB w v bs) :
    Calls Tryz.prog 67 #[.agg #[v], stV s] w fun e w' => ∃ u, e = .returned (.tuple #[.agg #[u], .bool (doF bs s).2]) ∧ FlashOf w' w.heap.size u (doF bs s).1 ∧ Below w.heap.size w w' := by
  obtain ⟨vd, vc, rfl⟩ := ha.form
  obtain ⟨k, b, lf, t⟩ := s
  unfold stV
  simp only
  have T0 := hide (Tk.three w #[.slice vd bs.length vc] #[.int .i64 k, .int .i64 b, .int .i64 lf, .string t] #[.slice none 0 0] 39 67 39)
  have F0 := hide (ha.below T0.out.1)
  have HS := hide hs
  obtain ⟨R1, R2, hR⟩ : ∃ R1 R2, doF bs (k, b, lf, t) = (R1, R2) := ⟨_, _, rfl⟩
  have HR := hide hR
  rw [hR]
  clear ha hs hR
  have hn : w.heap.size ≤ w.heap.size + 1 + 1 := by omega
  by_cases h1 : k = 1
  · subst h1
    have HP : Hid (programF bs b lf t = (R1, R2)) := by show _ = _; rw [← HR.out]; simp [doF]
    go_enter Tryz.func67, Tryz.ntmps67
    go_wp2_with fail
    generalize ((w.alloc (.cells #[.slice vd bs.length vc] 39)).alloc (.cells #[.int .i64 1, .int .i64 b, .int .i64 lf, .string t] 67)).alloc (.cells #[.slice none 0 0] 39) = w0 at T0 F0 ⊢
    refine (sprog_b _ bs b lf t w0 HS.out F0.out).mono ?_
    rintro e w1 ⟨u, rfl, fo, b1⟩
    rw [HP.out] at fo ⊢
    simp only at fo ⊢
    obtain ⟨ud, uc, rfl⟩ := fo.form
    have T1 := hide (T0.out.fla b1 fo)
    have z0 : w.heap.size + 1 + 1 + 1 ≤ w0.heap.size := T0.out.hi 0 rfl
    have n1 : w1.cell? ⟨w.heap.size + 1 + 1, 0, none⟩ = some (.slice none 0 0) := T1.out.at 1 0 rfl rfl
    have f1 := T1.out.fr 1 0 rfl
    have T2 := hide (T1.out.write (hs' := [(w0.heap.size, w1.heap.size, Fla w0.heap.size w1.heap.size (.slice ud R1.length uc) R1)]) 1 rfl hn (.slice ud R1.length uc) (fun x hx => by rw [List.mem_singleton] at hx; subst hx; exact ⟨List.mem_cons_self .., Or.inr z0⟩))
    clear b1 fo T0 T1
    go_wp2
    exact bodyPost_ret (results_flash2 rfl _ _ (w.heap.size + 1 + 1) _ rfl (T2.out.get 0 rfl)) rfl ⟨_, rfl, (T2.out.get 1 rfl).of (T2.out.hi 1 rfl) (by omega), T2.out.1⟩
  · have e1 : (k == 1) = false := by simpa using h1
    by_cases h2 : k = 2
    · subst h2
      have HP : Hid (wipeF bs b = (R1, R2)) := by show _ = _; rw [← HR.out]; simp [doF]
      go_enter Tryz.func67, Tryz.ntmps67
      go_wp2_with fail
      generalize ((w.alloc (.cells #[.slice vd bs.length vc] 39)).alloc (.cells #[.int .i64 2, .int .i64 b, .int .i64 lf, .string t] 67)).alloc (.cells #[.slice none 0 0] 39) = w0 at T0 F0 ⊢
      refine (swipe_b _ bs b w0 HS.out F0.out).mono ?_
      rintro e w1 ⟨u, rfl, fo, b1⟩
      rw [HP.out] at fo ⊢
      simp only at fo ⊢
      obtain ⟨ud, uc, rfl⟩ := fo.form
      have T1 := hide (T0.out.fla b1 fo)
      have z0 : w.heap.size + 1 + 1 + 1 ≤ w0.heap.size := T0.out.hi 0 rfl
      have n1 : w1.cell? ⟨w.heap.size + 1 + 1, 0, none⟩ = some (.slice none 0 0) := T1.out.at 1 0 rfl rfl
      have f1 := T1.out.fr 1 0 rfl
      have T2 := hide (T1.out.write (hs' := [(w0.heap.size, w1.heap.size, Fla w0.heap.size w1.heap.size (.slice ud R1.length uc) R1)]) 1 rfl hn (.slice ud R1.length uc) (fun x hx => by rw [List.mem_singleton] at hx; subst hx; exact ⟨List.mem_cons_self .., Or.inr z0⟩))
      clear b1 fo T0 T1
      go_wp2
      exact bodyPost_ret (results_flash2 rfl _ _ (w.heap.size + 1 + 1) _ rfl (T2.out.get 0 rfl)) rfl ⟨_, rfl, (T2.out.get 1 rfl).of (T2.out.hi 1 rfl) (by omega), T2.out.1⟩
    · have e2 : (k == 2) = false := by simpa using h2
      have HP : Hid ((bs, false) = (R1, R2)) := by show _ = _; rw [← HR.out]; simp [doF, h1, h2]
      obtain ⟨rfl, rfl⟩ := Prod.mk.inj HP.out
      clear h1 h2
      go_enter Tryz.func67, Tryz.ntmps67
      go_wp2_with fail
      generalize ((w.alloc (.cells #[.slice vd bs.length vc] 39)).alloc (.cells #[.int .i64 k, .int .i64 b, .int .i64 lf, .string t] 67)).alloc (.cells #[.slice none 0 0] 39) = w0 at T0 F0 ⊢
      refine (scopy_b _ bs w0 HS.out F0.out).mono ?_
      rintro e w1 ⟨u, rfl, fo, b1⟩
      obtain ⟨ud, uc, rfl⟩ := fo.form
      have T1 := hide (T0.out.fla b1 fo)
      have z0 : w.heap.size + 1 + 1 + 1 ≤ w0.heap.size := T0.out.hi 0 rfl
      have n1 : w1.cell? ⟨w.heap.size + 1 + 1, 0, none⟩ = some (.slice none 0 0) := T1.out.at 1 0 rfl rfl
      have f1 := T1.out.fr 1 0 rfl
      have T2 := hide (T1.out.write (hs' := [(w0.heap.size, w1.heap.size, Fla w0.heap.size w1.heap.size (.slice ud bs.length uc) bs)]) 1 rfl hn (.slice ud bs.length uc) (fun x hx => by rw [List.mem_singleton] at hx; subst hx; exact ⟨List.mem_cons_self .., Or.inr z0⟩))
      clear b1 fo T0 T1
      go_wp2
      exact bodyPost_ret (results_flash2 rfl _ _ (w.heap.size + 1 + 1) _ rfl (T2.out.get 0 rfl)) rfl ⟨_, rfl, (T2.out.get 1 rfl).of (T2.out.hi 1 rfl) (by omega), T2.out.1⟩
end Go.Proofs.YtfmnaidhfgmemaaGreatDoor

namespace Go.Proofs.YtfmnaidhfgmemaaGreatDoor
open Go.RowKit
set_option maxHeartbeats 400000 in
set_option maxRecDepth 100000 in
theorem sopen_rd (v : Value) (rs : List Rw) (w : World) (hl : rs.length ≤ 1048576) (hll : ∀ r ∈ rs, r.2.2.2.length ≤ 1048576) (ha : FlashRd w v rs) :
    Calls Tryz.prog 95 #[.agg #[v]] w fun e w' => e = .returned (.int .i64 (openF (rs.map tellOf))) ∧ Below w.heap.size w w' := by
  have ha1 := ha
  obtain ⟨vd, vcap, rfl, -, -⟩ := ha1
  have HLL := hide hll
  obtain ⟨n, hn⟩ : ∃ n, rs.length = n := ⟨_, rfl⟩
  have HN := hide hn
  have HB := hide ((Below.refl w.heap.size w).alloc (Nat.le_refl _) (.cells #[.slice vd n vcap] 39))
  have HF2 := hide ha
  rw [hn] at hl HF2 ⊢
  have R0 := hide (heap_alloc_new w (.cells #[.slice vd n vcap] 39))
  clear ha hll hn
  go_enter Tryz.func95, Tryz.ntmps95
  go_wp2
  have HF := hide (HF2.out.below HB.out)
  clear HF2
  generalize w.alloc (.cells #[.slice vd n vcap] 39) = wA at HB HF R0 ⊢
  have cf : wA.cell? ⟨w.heap.size, 0, none⟩ = some (.slice vd n vcap) := cell_of_row _ _ 0 _ _ _ R0.out
  go_loop [3] (fun bv => ∃ b : Nat, bv = .int .i64 b ∧ b ≤ n ∧ Hid (∀ (j : Nat) (c : Bk), j < b → (rs.map tellOf)[j]? = some c → openB c = false)) (fun bv => n - (intOf bv).toNat)
  case atStart => exact ⟨0, rfl, Nat.zero_le _, (show ∀ (j : Nat) (c : Bk), j < 0 → (rs.map tellOf)[j]? = some c → openB c = false from fun j c hj => by omega)⟩
  case round =>
    obtain ⟨b, rfl, r1, HNo⟩ := hrel
    by_cases hlt : (b : Int) < n
    · have hbl : b < rs.length := by have := HN.out; omega
      obtain ⟨r, hr⟩ : ∃ r, rs[b]? = some r := ⟨_, List.getElem?_eq_getElem hbl⟩
      have hrt : (rs.map tellOf)[b]? = some (tellOf r) := by rw [List.getElem?_map, hr]; rfl
      obtain ⟨gv, e, ⟨c1, c2, c3⟩, hlf⟩ := HF.out.at hr
      subst e
      have hml := HLL.out r (List.mem_of_getElem? hr)
      obtain ⟨x, y, u, ls⟩ := r
      simp only at c1 c2 c3
      simp only at hlf hml
      have b0 : (0 : Int) ≤ b := by omega
      have hlf2 := hlf
      obtain ⟨ld, lc, rfl, -, -⟩ := hlf2
      have HLf := hide hlf
      have HRT := hide hrt
      obtain ⟨m, hm⟩ : ∃ m, ls.length = m := ⟨_, rfl⟩
      have HM := hide hm
      rw [hm] at c3 hml
      clear hrt hlf hr hbl hm
      go_wp2
      go_loop [4, 5, 6] (fun nv mv kv => ∃ (k p q : Nat), kv = .int .i64 k ∧ k ≤ m ∧ nv = .int .i64 p ∧ mv = .int .i64 q ∧ p ≤ k ∧ q ≤ k ∧ Hid (blanks (ls.take k) = p ∧ p + q = k)) (fun _ _ kv => m - (intOf kv).toNat)
      case atStart => exact ⟨0, 0, 0, rfl, Nat.zero_le _, rfl, rfl, Nat.le_refl _, Nat.le_refl _, ⟨rfl, rfl⟩⟩
      case round =>
        obtain ⟨k, p, q, rfl, hk, rfl, rfl, hp, hq, HA⟩ := hrel
        by_cases hlk : (k : Int) < m
        · have hkl : k < ls.length := by have := HM.out; omega
          obtain ⟨z, t, ht⟩ : ∃ z t, ls[k]? = some (z, t) := ⟨ls[k].1, ls[k].2, List.getElem?_eq_getElem hkl⟩
          obtain ⟨gl, lo, e⟩ := HLf.out.head (by have := HM.out; omega)
          subst e
          obtain ⟨d1, -⟩ := HLf.out.two ht
          simp only at d1
          have k0 : (0 : Int) ≤ k := by omega
          have hbt := blanks_take ht
          simp only at hbt
          by_cases hz : z = 0
          · have AN : Hid (blanks (ls.take (k + 1)) = p + 1 ∧ p + 1 + q = k + 1) := by
              rw [if_pos hz, HA.out.1] at hbt
              exact ⟨hbt, by have := HA.out.2; omega⟩
            subst hz
            clear ht hkl HA hbt
            go_wp2
            go_round
            case rel => exact ⟨k + 1, p + 1, q, by go_num, by omega, by go_num, rfl, by omega, by omega, AN⟩
            case measure => simp [intOf]; omega
          · have AN : Hid (blanks (ls.take (k + 1)) = p ∧ p + (q + 1) = k + 1) := by
              rw [if_neg hz, HA.out.1] at hbt
              exact ⟨hbt, by have := HA.out.2; omega⟩
            have hz2 : (z == 0) = false := by simpa using hz
            clear ht hkl HA hbt
            go_wp2
            go_round
            case rel => exact ⟨k + 1, p, q + 1, by go_num, by omega, rfl, by go_num, by omega, by omega, AN⟩
            case measure => simp [intOf]; omega
        · have hkm : k = ls.length := by have := HM.out; omega
          have hbl : blanks ls = p := by rw [← HA.out.1, hkm, List.take_of_length_le (Nat.le_refl _)]
          have hop : openB (x, y, ls) = (!x && decide (0 < p ∧ 0 < q)) := by
            unfold openB
            simp only [hbl]
            congr 2
            apply propext
            have := HA.out.2
            omega
          have HNext : openB (x, y, ls) = false → Hid (∀ (j : Nat) (c : Bk), j < b + 1 → (rs.map tellOf)[j]? = some c → openB c = false) := by
            intro hf j c hj hc
            by_cases e : j = b
            · subst e
              rw [HRT.out] at hc
              cases hc
              exact hf
            · exact HNo.out j c (by omega) hc
          clear hkm hbl
          cases x with
          | true =>
            have NL := HNext (by rw [hop]; rfl)
            clear hop HNext HA
            go_wp2
            go_round
            case rel => exact ⟨b + 1, by go_num, by omega, NL⟩
            case measure => simp [intOf]; omega
          | false =>
            by_cases hp0 : (0 : Int) < p
            · by_cases hq0 : (0 : Int) < q
              · have PF : Hid (openF (rs.map tellOf) = b) := openF_at HRT.out (show openB (false, y, ls) = true by rw [hop]; simp; omega) HNo.out
                clear hop HNext HA
                go_wp2
                go_ret
                exact ⟨by rw [PF.out]; rfl, HB.out⟩
              · have NL := HNext (by rw [hop]; simp; omega)
                clear hop HNext HA
                go_wp2
                go_round
                case rel => exact ⟨b + 1, by go_num, by omega, NL⟩
                case measure => simp [intOf]; omega
            · have NL := HNext (by rw [hop]; simp; omega)
              clear hop HNext HA
              go_wp2
              go_round
              case rel => exact ⟨b + 1, by go_num, by omega, NL⟩
              case measure => simp [intOf]; omega
    · have PF : Hid (openF (rs.map tellOf) = -1) := openF_none (fun j c hc => HNo.out j c (by have := (List.getElem?_eq_some_iff.1 hc).1; rw [List.length_map] at this; have := HN.out; omega) hc)
      clear HNo
      go_wp2
      go_ret
      exact ⟨by rw [PF.out]; rfl, HB.out⟩
end Go.Proofs.YtfmnaidhfgmemaaGreatDoor

namespace Go.Proofs.YtfmnaidhfgmemaaGreatDoor
open Go.RowKit
def allB (x : Bool) (ls : List (Int × ByteArray)) (k : Nat) : Bool := !x && decide (blanks (ls.take k) = k)
theorem allB_step {x : Bool} {ls : List (Int × ByteArray)} {k : Nat} {t : Int × ByteArray} (ht : ls[k]? = some t) : allB x ls (k + 1) = (allB x ls k && (t.1 == 0)) := by
  have h1 := blanks_take ht
  have h2 : blanks (ls.take k) ≤ k := Nat.le_trans (blanks_le _) (List.length_take_le _ _)
  unfold allB
  rw [h1]
  by_cases h : t.1 = 0
  · simp [h]
  · have e1 : decide (blanks (ls.take k) + (if t.1 = 0 then 1 else 0) = k + 1) = false := decide_eq_false (by rw [if_neg h]; omega)
    have e2 : (t.1 == 0) = false := by simpa using h
    rw [e1, e2]
    simp
theorem allB_end (x : Bool) (y : Int) (ls : List (Int × ByteArray)) : allB x ls ls.length = freeB (x, y, ls) := by
  unfold allB freeB
  rw [List.take_of_length_le (Nat.le_refl _)]
set_option maxHeartbeats 400000 in
set_option maxRecDepth 100000 in
theorem sfree_rd (v : Value) (rs : List Rw) (w : World) (hl : rs.length ≤ 1048576) (hll : ∀ r ∈ rs, r.2.2.2.length ≤ 1048576) (ha : FlashRd w v rs) :
    Calls Tryz.prog 97 #[.agg #[v]] w fun e w' => ∃ u, e = .returned u ∧ IntsOf w' w.heap.size u (freeL (rs.map tellOf)) ∧ Below w.heap.size w w' := by
  obtain ⟨i0, hi0, hz0, hz1, hz2⟩ := info_parts infoInt
  have ha1 := ha
  obtain ⟨vd, vcap, rfl, -, -⟩ := ha1
  have HLL := hide hll
  obtain ⟨n, hn⟩ : ∃ n, rs.length = n := ⟨_, rfl⟩
  have HN := hide hn
  have HF2 := hide ha
  rw [hn] at hl HF2 ⊢
  have b0 : Below w.heap.size w (w.alloc (.cells #[.slice vd n vcap] 39)) := (Below.refl _ _).alloc (Nat.le_refl _) _
  have S0 : Hid (Frs w (w.alloc (.cells #[.slice vd n vcap] 39)) (.slice vd n vcap) (.slice none 0 0) []) := ⟨b0, heap_alloc_new _ _, World.ownsRow_nil _ _ _ _⟩
  clear ha hll hn b0
  go_enter Tryz.func97, Tryz.ntmps97
  go_wp2
  go_loopw [3, 4] (fun out bv wr => ∃ (b : Nat) (l : List Int), bv = .int .i64 b ∧ b ≤ n ∧ l.length ≤ b ∧ Hid (l = freeTo (rs.map tellOf) b) ∧ Hid (Frs w wr (.slice vd n vcap) out l)) (fun _ bv _ => n - (intOf bv).toNat)
  case atStart =>
    refine ⟨0, [], rfl, Nat.zero_le _, Nat.zero_le _, rfl, ?_⟩
    have s1 := S0.out.below ((Below.refl _ _).alloc (Nat.le_refl _) (.cells #[] 3))
    refine ⟨s1.1, s1.2.1, ?_⟩
    have := World.ownsRow_made (e := 3) (size := 1) (w.alloc (.cells #[.slice vd n vcap] 39)) #[] 0 (Nat.le_refl _) (by unfold maxLen; omega) (by simp)
    unfold IntsOf icells
    simpa using this
  case round =>
    obtain ⟨b, l, rfl, r1, rlen, HLd, HS⟩ := hrel
    clear S0
    have cf : wr.cell? ⟨w.heap.size, 0, none⟩ = some (.slice vd n vcap) := cell_of_row _ _ 0 _ _ _ HS.out.2.1
    by_cases hlt : (b : Int) < n
    · have hbl : b < rs.length := by have := HN.out; omega
      obtain ⟨r, hr⟩ : ∃ r, rs[b]? = some r := ⟨_, List.getElem?_eq_getElem hbl⟩
      have hrt : (rs.map tellOf)[b]? = some (tellOf r) := by rw [List.getElem?_map, hr]; rfl
      obtain ⟨gv, e, ⟨c1, c2, c3⟩, hlf⟩ := (HF2.out.below HS.out.1).at hr
      subst e
      have hml := HLL.out r (List.mem_of_getElem? hr)
      obtain ⟨x, y, u, ls⟩ := r
      simp only at c1 c2 c3
      simp only at hlf hml
      have b0 : (0 : Int) ≤ b := by omega
      have hlf2 := hlf
      obtain ⟨ld, lc, rfl, -, -⟩ := hlf2
      have HLf := hide hlf
      have HRT := hide hrt
      obtain ⟨m, hm⟩ : ∃ m, ls.length = m := ⟨_, rfl⟩
      have HM := hide hm
      rw [hm] at c3 hml
      clear hrt hlf hr hbl hm
      have ST : Hid (allB x ls 0 = !x) := by show _ = _; simp [allB, blanks]
      go_wp2
      go_loop [5, 6] (fun fv kv => ∃ (k : Nat) (f : Bool), kv = .int .i64 k ∧ k ≤ m ∧ fv = .bool f ∧ Hid (allB x ls k = f)) (fun _ kv => m - (intOf kv).toNat)
      case atStart => exact ⟨0, !x, rfl, Nat.zero_le _, rfl, ST⟩
      case round =>
        obtain ⟨k, f, rfl, hk, rfl, HA⟩ := hrel
        clear ST
        by_cases hlk : (k : Int) < m
        · have hkl : k < ls.length := by have := HM.out; omega
          obtain ⟨z, t, ht⟩ : ∃ z t, ls[k]? = some (z, t) := ⟨ls[k].1, ls[k].2, List.getElem?_eq_getElem hkl⟩
          obtain ⟨gl, lo, e⟩ := HLf.out.head (by have := HM.out; omega)
          subst e
          obtain ⟨d1, -⟩ := HLf.out.two ht
          simp only at d1
          have AN : Hid (allB x ls (k + 1) = (f && (z == 0))) := by show _ = _; rw [allB_step ht, HA.out]
          have k0 : (0 : Int) ≤ k := by omega
          clear ht hkl HA
          cases f with
          | false =>
            go_wp2
            go_round
            case rel => exact ⟨k + 1, false, by go_num, by omega, rfl, AN⟩
            case measure => simp [intOf]; omega
          | true =>
            go_wp2
            go_round
            case rel => exact ⟨k + 1, (z == 0), by go_num, by omega, rfl, AN⟩
            case measure => simp [intOf]; omega
        · have hkm : k = ls.length := by have := HM.out; omega
          have hf : freeB (x, y, ls) = f := by rw [← allB_end x y ls, ← HA.out, hkm]
          clear hkm HA
          cases f with
          | false =>
            have NL : Hid (l = freeTo (rs.map tellOf) (b + 1)) := by show _ = _; rw [freeTo_no HRT.out hf]; exact HLd.out
            clear hf
            go_wp2
            go_roundw
            case rel => exact ⟨b + 1, l, by go_num, by omega, by omega, NL, HS⟩
            case measure => simp [intOf]; omega
          | true =>
            have NL : Hid (l ++ [(b : Int)] = freeTo (rs.map tellOf) (b + 1)) := by show _ = _; rw [freeTo_yes HRT.out hf, HLd.out]
            clear hf
            go_wp2_with (at_builtin; refine wpList_append_own _ rfl _ _ 54 rfl (w.heap.size + 1) 3 i0 (.int .i64 0) 1 8 Tryz.underlying54 hi0 hz0 hz1 hz2 rfl (by decide) _ l.length (icells l) rfl (HS.out.2.2.alloc _) ⟨wr.heap.size, 0, none⟩ 1 1 [Value.int .i64 _] rfl rfl (by exact one_cell _ _ _) (one_i64 _) ?g1 ?g2 ?g3 ?_)
            case g1 => unfold maxLen; omega
            case g2 => omega
            case g3 => have := (Array.getElem?_eq_some_iff.1 HS.out.2.1).1; simp; omega
            intro v' w4 hown hgrow _
            have NS := hide (HS.out.snoc hown hgrow)
            have NN : (l ++ [(b : Int)]).length = l.length + 1 := by simp
            generalize l ++ [(b : Int)] = l3 at NL NS NN
            clear hown hgrow HS
            go_wp2
            go_roundw
            case rel => exact ⟨b + 1, l3, by go_num, by omega, by omega, NL, NS⟩
            case measure => simp [intOf]; omega
    · have PF : Hid (freeL (rs.map tellOf) = l) := by
        show _ = _
        unfold freeL
        rw [List.length_map, HLd.out]
        congr 1
        have := HN.out
        omega
      clear HLd
      go_wp2
      go_ret
      refine ⟨_, rfl, ?_, HS.out.1⟩
      rw [PF.out]
      exact own_lower HS.out.2.2 (by omega)
end Go.Proofs.YtfmnaidhfgmemaaGreatDoor
