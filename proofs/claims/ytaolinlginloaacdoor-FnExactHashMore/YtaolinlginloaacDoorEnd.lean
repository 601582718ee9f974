/-
  The walk of the specification's HashEnd.
-/
import Derived.Test.YtaolinlginloaacDoorMore2
import Derived.Test.YtaolinlginloaacDoorBRow
namespace Go.Proofs.YtaolinlginloaacDoor
open Go.RowKit
open Dig

/-- The bytes of a number, the greatest first: m of the eight. -/
def lbN : Nat → Nat → List UInt8
  | 0, _ => []
  | m + 1, b => lbN m b ++ [UInt8.ofNat (b / 256 ^ (7 - m) % 256)]
theorem lbN_len (m b : Nat) : (lbN m b).length = m := by
  induction m with
  | zero => rfl
  | succ m ih => simp [lbN, ih]
def padN (r : List UInt8) (k : Nat) : List UInt8 := r ++ [128] ++ List.replicate k 0
theorem padN_len (r : List UInt8) (k : Nat) : (padN r k).length = r.length + 1 + k := by simp [padN]; omega
theorem padN_succ (r : List UInt8) (k : Nat) : padN r (k + 1) = padN r k ++ [0] := by simp [padN, List.replicate_succ']
/-- A text's rest, a byte 128, noughts, and eight bytes of its length in bits. -/
def padL (r : List UInt8) (n : Nat) : List UInt8 := padN r ((119 - r.length) % 64) ++ lbN 8 (8 * n)
theorem padL_len (r : List UInt8) (n : Nat) (hr : r.length < 64) : (padL r n).length % 64 = 0 ∧ (padL r n).length ≤ 128 := by
  unfold padL
  rw [List.length_append, padN_len, lbN_len]
  omega
theorem div_step (b j : Nat) : b / 256 ^ j / 256 = b / 256 ^ (j + 1) := by rw [Nat.div_div_eq_div_mul, Nat.pow_succ]
/-- The digest that a right hasher gives. -/
def endL (s r : List UInt8) (n : Nat) : List UInt8 := bytesOf (mixes ((padL r n).length / 64) (words s) (padL r n))

theorem addr_off' (b off j : Nat) : (⟨b, off, none⟩ : Addr).add j = ⟨b, off + j, none⟩ := by
  simp only [Addr.add]
  split <;> simp_all
def lenOf : Value → Nat
  | .slice _ n _ => n
  | _ => 0
theorem BRow.open {w : World} {base : Nat} {v : Value} {l : List UInt8} (h : BRow w base v l) : ∃ g cap, v = .slice (some ⟨g, 0, none⟩) l.length cap := by
  obtain ⟨g, cap, h, -⟩ := h
  exact ⟨g, cap, h⟩

set_option maxHeartbeats 400000 in
theorem specEnd_no (s r : ByteArray) (c : Int) (w : World) (hr : r.size ≤ maxLen) (hn : ¬ HRight s r c) :
    Calls Tryd.prog 10 #[.agg #[.string s, .string r, .int .i64 c]] w fun e w' => e = .returned (.string ⟨#[]⟩) ∧ Below w.heap.size w w' := by
  have d : @decide (HRight s r c) (decH s r c) = false := dcN hn
  clear hn
  go_enter Tryd.func10, Tryd.ntmps10
  go_wp2_with fail
  refine (specOk_any s r c _ hr).mono ?_
  rintro e w1 ⟨rfl, hb⟩
  rw [d]
  have hb1 : Below w.heap.size w w1 := ((Below.refl _ _).alloc (Nat.le_refl _) _).trans (hb.mono (by simp))
  clear hb
  go_wp2
  go_ret
  exact ⟨rfl, hb1⟩
set_option maxHeartbeats 1000000 in
set_option maxRecDepth 100000 in
theorem specEnd_yes (s r : ByteArray) (n : Nat) (w : World) (hR : HRight s r n) :
    Calls Tryd.prog 10 #[.agg #[.string s, .string r, .int .i64 n]] w fun e w' => e = .returned (.string ⟨(endL s.data.toList r.data.toList n).toArray⟩) ∧ Below w.heap.size w w' := by
  have d : @decide (HRight s r n) (decH s r n) = true := dcY hR
  obtain ⟨hs32, hr64, -, hn9, -⟩ := hR
  have hst := hide (words_st s.data.toList (by simpa using hs32))
  have hrl : r.data.toList.length = r.size := by simp
  go_enter Tryd.func10, Tryd.ntmps10
  go_wp2_with fail
  refine (specOk_any s r n _ (by unfold maxLen; omega)).mono ?_
  rintro e w1 ⟨rfl, hb⟩
  rw [d]
  have hb0 : Below (w.heap.size + 1) (w.alloc (.cells #[.string s, .string r, .int .i64 n] 26)) w1 := by simpa using hb
  have hb1 : Below w.heap.size w w1 := ((Below.refl _ _).alloc (Nat.le_refl _) _).trans (hb0.mono (by omega))
  have hs1 := hb0.size
  simp only [World.size_alloc] at hs1
  have c0 : w1.cell? ⟨w.heap.size, 0, none⟩ = some (.string s) := by rw [hb0.cell (show w.heap.size < w.heap.size + 1 by omega)]; simp
  have c1 : w1.cell? ⟨w.heap.size, 1, none⟩ = some (.string r) := by rw [hb0.cell (show w.heap.size < w.heap.size + 1 by omega)]; simp
  have c2 : w1.cell? ⟨w.heap.size, 2, none⟩ = some (.int .i64 n) := by rw [hb0.cell (show w.heap.size < w.heap.size + 1 by omega)]; simp
  obtain ⟨v2, w2, hcv, hb2, hrow⟩ := brow_new w1 r
  have HB1 := hide hb1
  have HR2 := hide hrow
  have HB2 := hide hb2
  clear hb hb0 hb1 hrow hb2 d
  go_wp2_with (at_builtin; refine wpList_append_byte _ rfl _ _ rfl w1.heap.size v2 r.data.toList rfl (HR2.out.below ((Below.refl _ _).alloc (Nat.le_refl _) _)) (by omega) ⟨w2.heap.size, 0, none⟩ 128 128 rfl rfl (by simp) (by have := HB2.out.size; simp; omega) ?_)
  intro v3 w3 hrow3 hb3
  have HR3 : Hid (BRow w3 w1.heap.size v3 (padN r.data.toList 0)) := by
    show BRow _ _ _ _
    simpa [padN] using hrow3
  have HB3 : Hid (Below w1.heap.size w1 w3) := (HB2.out.alloc (by have := HB2.out.size; omega) _).trans hb3
  clear hrow3 hb3 HR2 HB2 hcv c1
  obtain ⟨R, hRR⟩ : ∃ R, R = r.data.toList := ⟨_, rfl⟩
  rw [← hRR] at HR3 hrl
  have ER := hide hRR
  clear hRR
  have hR64 : R.length < 64 := by omega
  obtain ⟨pc, hpc⟩ : ∃ pc, pc = (119 - R.length) % 64 := ⟨_, rfl⟩
  have EP := hide hpc
  have hp1 : (R.length + 1 + pc) % 64 = 56 := by omega
  have hp2 : ∀ k, k < pc → (R.length + 1 + k) % 64 ≠ 56 := by intro k hk; omega
  have hp3 : pc < 64 := by omega
  clear hpc
  go_wp2
  go_loopw [3] (fun tv wr => ∃ k : Nat, k ≤ pc ∧ Hid (BRow wr w1.heap.size tv (padN R k)) ∧ Hid (Below w1.heap.size w1 wr)) (fun tv _ => 200 - lenOf tv)
  case atStart => exact ⟨0, by omega, HR3, HB3⟩
  case round =>
    obtain ⟨k, hk, HR, HB⟩ := hrel
    obtain ⟨g, cap, hv⟩ := HR.out.open
    rw [padN_len] at hv
    obtain ⟨m, hm⟩ : ∃ m, m = R.length + 1 + k := ⟨_, rfl⟩
    rw [← hm] at hv
    by_cases hkp : k < pc
    · have t56 : ((m : Int) % 64 != 56) = true := by
        rw [bne_iff_ne]
        have := hp2 k hkp
        omega
      have hm200 : m < 199 := by omega
      have EM := hide hm
      have hszr := HB.out.size
      subst hv
      clear hm
      go_wp2_with (at_builtin; refine wpList_append_byte _ rfl _ _ rfl w1.heap.size _ (padN R k) rfl (HR.out.below ((Below.refl _ _).alloc (Nat.le_refl _) _)) (by rw [padN_len]; omega) ⟨wr.heap.size, 0, none⟩ 0 0 rfl rfl (by simp) (by simp; omega) ?_)
      intro v5 w5 hrow5 hb5
      rw [← padN_succ] at hrow5
      have HR5 := hide hrow5
      have HB5 : Hid (Below w1.heap.size w1 w5) := (HB.out.alloc hszr _).trans hb5
      obtain ⟨g5, cap5, hv5⟩ := hrow5.open
      rw [padN_len] at hv5
      have hl5 : Hid (200 - lenOf v5 < 200 - m) := by
        show _ < _
        rw [hv5]
        have := EM.out
        simp [lenOf]; omega
      clear hrow5 hb5 hv5 HR HB
      go_wp2
      go_roundw
      case rel => exact ⟨k + 1, by omega, HR5, HB5⟩
      case measure => simpa [lenOf] using hl5.out
    · have ek : k = pc := by omega
      subst ek
      have t56 : ((m : Int) % 64 != 56) = false := by
        rw [bne_eq_false_iff_eq]
        omega
      subst hv
      have c0r : wr.cell? ⟨w.heap.size, 0, none⟩ = some (.string s) := by rw [HB.out.cell (show w.heap.size < w1.heap.size by omega)]; exact c0
      have c2r : wr.cell? ⟨w.heap.size, 2, none⟩ = some (.int .i64 n) := by rw [HB.out.cell (show w.heap.size < w1.heap.size by omega)]; exact c2
      have C0 := hide c0
      obtain ⟨T1, hT1⟩ : ∃ T1, T1 = padN R k := ⟨_, rfl⟩
      have hT1l : T1.length = m := by rw [hT1, padN_len, hm]
      rw [← hT1] at HR
      have ET := hide hT1
      have hm128 : m ≤ 120 := by omega
      have EMm := hide hm
      clear hT1 c0 c2 hp2 hm c0r
      go_wp2
      obtain ⟨B, hBB⟩ : ∃ B : Nat, B = 8 * n := ⟨_, rfl⟩
      have hB2 : (8 : Int) * (n : Int) = B := by omega
      have hBn : B ≤ 8000000000 := by omega
      have EB := hide hBB
      rw [hB2]
      clear hBB hB2 c2r
      go_loopw [3, 5] (fun tv iv wr => ∃ m i : Nat, Hid (m + i = 8) ∧ i ≤ 8 ∧ iv = .int .i64 ((i : Int) - 1) ∧ Hid (BRow wr w1.heap.size tv (T1 ++ lbN m B)) ∧ Hid (Below w1.heap.size w1 wr)) (fun _ iv _ => (intOf iv + 1).toNat)
      case atStart => exact ⟨0, 8, rfl, by omega, rfl, by simpa [lbN, hT1l] using HR, HB⟩
      case round =>
        obtain ⟨m', i1, hmi, hi8, rfl, HR2, HB2⟩ := hrel
        by_cases hi0 : i1 = 0
        · subst hi0
          have em8 : m' = 8 := by have := hmi.out; omega
          subst em8
          have en1 : ((0 : Nat) : Int) - 1 = -1 := rfl
          rw [en1]
          obtain ⟨TL, hTL⟩ : ∃ TL, TL = T1 ++ lbN 8 B := ⟨_, rfl⟩
          rw [← hTL] at HR2
          have ETL : Hid (TL = padL r.data.toList n) := by
            show _ = _
            rw [hTL, ET.out, EB.out, EP.out, ER.out]; rfl
          have hTLl : TL.length = m + 8 := by rw [hTL, List.length_append, lbN_len, hT1l]
          obtain ⟨gt, capt, hvt, ht1, ht2, ht3, ht4, -⟩ := HR2.out
          have T4 := hide ht4
          rw [hTLl] at hvt ht3
          subst hvt
          have hm64 : (m + 8) % 64 = 0 := by have := EMm.out; omega
          have hszr := HB2.out.size
          have c0r : wr.cell? ⟨w.heap.size, 0, none⟩ = some (.string s) := by rw [HB2.out.cell (show w.heap.size < w1.heap.size by omega)]; exact C0.out
          have BW : Hid (Below w.heap.size w wr) := HB1.out.trans (HB2.out.mono (by omega))
          have hbw := BW.out.size
          clear hTL ht4 HR2 HB2 en1 hmi
          go_wp2_with fail
          refine (words_any s _ (by omega)).mono ?_
          rintro e w8 ⟨v8, rfl, hown8, hb8⟩
          have hl8 := hst.out.1
          obtain ⟨g8, cap8, rfl, hg8, hW8, -⟩ := own_open hown8 (by omega)
          rw [hl8]
          clear hown8 c0r
          have hs8 := hb8.size
          go_wp2_with fail
          refine (ks_any _).mono ?_
          rintro e w9 ⟨gk, ck, rfl, hgk, hK, hb9⟩
          have hs9 := hb9.size
          have hb89 := hb8.trans (hb9.mono hs8)
          have W9 : Hid (WordsAt w9 g8 (words s.data.toList)) := hW8.below hb9 hW8.1
          have K9 := hide hK
          have hgk9 := hK.1
          have T9 : Hid (∀ j (hj : j < TL.length), w9.cell? ⟨gt, j, none⟩ = some (.int .u8 (TL[j].toNat : Int))) := fun j hj => by rw [hb89.cell (show gt < wr.heap.size from ht2)]; exact T4.out j hj
          have B9 : Hid (Below w.heap.size w w9) := BW.out.trans (hb89.mono hbw)
          have hgt9 : gt < w9.heap.size := by omega
          clear hW8 hK hb8 hb9 hb89 T4 BW
          obtain ⟨S0, hS0⟩ : ∃ S0, S0 = words s.data.toList := ⟨_, rfl⟩
          rw [← hS0] at hst W9
          have ES := hide hS0
          have hkl : ks.length = 64 := rfl
          rw [hkl]
          clear hS0 hl8
          go_wp2
          go_loopw [8, 10] (fun sv av wr => ∃ k g cap q : Nat, Hid (q = 64 * k) ∧ q ≤ m + 8 ∧ av = .int .i64 q ∧ sv = .slice (some ⟨g, 0, none⟩) 8 cap ∧ Hid (WordsAt wr g (mixes k S0 TL)) ∧ Hid (Below w9.heap.size w9 wr)) (fun _ av _ => m + 8 - (intOf av).toNat)
          case atStart => exact ⟨0, g8, cap8, 0, rfl, by omega, rfl, rfl, W9, Below.refl _ _⟩
          case round =>
            obtain ⟨k1, g, cap, q, hq, hqm, rfl, rfl, HW, HB⟩ := hrel
            have hszr := HB.out.size
            by_cases hlt : (q : Int) < (m : Int) + 8
            · have hq64 : q + 64 ≤ m + 8 := by have := hq.out; omega
              have q1 : (q : Int) + 64 ≤ ((m + 8 : Nat) : Int) := by omega
              have q2 : (q : Int) + 64 ≤ (capt : Int) := by omega
              have q3 : (0 : Int) ≤ q := by omega
              obtain ⟨L6, hL6⟩ : ∃ L6, L6 = (TL.drop q).take 64 := ⟨_, rfl⟩
              have hL6l : L6.length = 64 := by rw [hL6, List.length_take, List.length_drop]; omega
              have hL6c : ∀ j (hj : j < L6.length), wr.cell? ((⟨gt, q, none⟩ : Addr).add j) = some (.int .u8 (L6[j].toNat : Int)) := by
                intro j hj
                rw [addr_off', HB.out.cell (show gt < w9.heap.size from hgt9), T9.out (q + j) (by omega)]
                simp [hL6]
              have hcv := run_convert_bytes_back (P := Tryd.prog) wr 32 9 5 ⟨gt, q, none⟩ (capt - q) L6 Tryd.underlying32 Tryd.underlying5 Tryd.underlying9 hL6c
              rw [hL6l] at hcv
              have F : Hid (mixes (k1 + 1) S0 TL = mix (mixes k1 S0 TL) L6) := by
                show _ = _
                rw [mixes_step, hL6, hq.out]
              have hSt := hide (mixes_st hst.out k1 TL)
              have KR := hide (K9.out.below HB.out hgk9)
              obtain ⟨b, hbb⟩ : ∃ b : ByteArray, b = ⟨L6.toArray⟩ := ⟨_, rfl⟩
              have hb64 : b.size = 64 := by rw [hbb]; show L6.toArray.size = 64; simpa using hL6l
              have EBL : Hid (b.data.toList = L6) := by show _ = _; rw [hbb]
              rw [← hbb] at hcv
              obtain ⟨M, hM⟩ : ∃ M, M = mixes k1 S0 TL := ⟨_, rfl⟩
              rw [← hM] at hSt HW F
              clear hM hbb hL6 hL6c hL6l
              go_wp2_with fail
              refine (round_any M g gk cap ck b _ hb64 hSt.out HW.out KR.out).mono ?_
              rintro e w5 ⟨v5, rfl, hown5, hb5⟩
              have hS5 := mix_st hSt.out b.data.toList
              obtain ⟨g5, cap5, rfl, hg5, hW5, -⟩ := own_open hown5 (by rw [hS5.1]; omega)
              rw [hS5.1]
              rw [EBL.out, ← F.out] at hW5
              have HW5 := hide hW5
              have HB5 : Hid (Below w9.heap.size w9 w5) := HB.out.trans (hb5.mono hszr)
              have hq5 : Hid (q + 64 = 64 * (k1 + 1)) := by show _ = _; rw [hq.out]; omega
              clear hown5 hb5 hW5 hS5 HW HB KR F EBL hSt hcv
              go_wp2
              go_roundw
              case rel => exact ⟨k1 + 1, g5, cap5, q + 64, hq5, hq64, by go_num, rfl, HW5, HB5⟩
              case measure => simp [intOf]; omega
            · have eq8 : q = m + 8 := by omega
              have ek : k1 = TL.length / 64 := by have := hq.out; omega
              subst ek
              have hSt := hide (mixes_st hst.out (TL.length / 64) TL)
              have EL : Hid (endL s.data.toList r.data.toList n = bytesOf (mixes (TL.length / 64) S0 TL)) := by
                show _ = _
                unfold endL
                rw [← ETL.out, ES.out]
              generalize mixes (TL.length / 64) S0 TL = M at hSt HW EL
              clear hq
              go_wp2_with fail
              refine (bytes8 M g cap _ hSt.out HW.out).mono ?_
              rintro e w6 ⟨rfl, hb6⟩
              have hbE : Hid (Below w.heap.size w w6) := (B9.out.trans (HB.out.mono (by have := B9.out.size; omega))).trans (hb6.mono (by have := B9.out.size; omega))
              clear hb6
              generalize bytesOf M = rr at EL
              go_wp2
              go_ret
              exact ⟨by rw [EL.out]; rfl, hbE.out⟩
        · obtain ⟨i, rfl⟩ : ∃ i, i1 = i + 1 := ⟨i1 - 1, by omega⟩
          have ei : ((i + 1 : Nat) : Int) - 1 = i := by omega
          rw [ei]
          have F : Hid (lbN (m' + 1) B = lbN m' B ++ [UInt8.ofNat (B / 256 ^ i % 256)]) := by
            have : 7 - m' = i := by have := hmi.out; omega
            show lbN m' B ++ [UInt8.ofNat (B / 256 ^ (7 - m') % 256)] = _
            rw [this]
          have i0' : (0 : Int) ≤ i := by omega
          clear ei hi0
          go_wp2
          go_loopw [6, 7] (fun xv kv w6 => ∃ j x : Nat, j ≤ i ∧ kv = .int .i64 j ∧ xv = .int .i64 x ∧ Hid (x = B / 256 ^ j) ∧ x ≤ 8000000000 ∧ w6 = wr) (fun _ kv _ => i - (intOf kv).toNat)
          case atStart => exact ⟨0, B, by omega, rfl, rfl, (by show B = B / 256 ^ 0; simp), hBn, rfl⟩
          case round =>
            obtain ⟨j, x, hj, rfl, rfl, hx, hx8, rfl⟩ := hrel
            by_cases hji : (j : Int) < i
            · have hx2 : Hid (x / 256 = B / 256 ^ (j + 1)) := by
                show _ = _
                rw [hx.out, div_step]
              clear hx
              go_wp2
              go_roundw
              case rel => exact ⟨j + 1, x / 256, by omega, by go_num, by go_num, hx2, by omega, trivial⟩
              case measure => simp [intOf]; omega
            · have ej : j = i := by omega
              subst ej
              have hszr := HB2.out.size
              obtain ⟨g6, cap6, hv6⟩ := HR2.out.open
              have hby : ((UInt8.ofNat (x % 256)).toNat : Int) = (x : Int) % 256 := by rw [UInt8.toNat_ofNat']; omega
              rw [← hx.out] at F
              have HY := hide hby
              have hl6 : (T1 ++ lbN m' B).length ≤ 1000000 := by
                rw [List.length_append, lbN_len]
                have := hmi.out
                omega
              clear hby hx hv6
              go_wp2_with (at_builtin; refine wpList_append_byte _ rfl _ _ rfl w1.heap.size _ (T1 ++ lbN m' B) rfl (HR2.out.below ((Below.refl _ _).alloc (Nat.le_refl _) _)) hl6 ⟨wr.heap.size, 0, none⟩ _ (UInt8.ofNat (x % 256)) HY.out rfl (by simp) (by simp; omega) ?_)
              intro v7 w7 hrow7 hb7
              try rw [List.append_assoc] at hrow7
              rw [← F.out] at hrow7
              have HR7 := hide hrow7
              have HB7 : Hid (Below w1.heap.size w1 w7) := (HB2.out.alloc hszr _).trans hb7
              have hmi2 : Hid (m' + 1 + j = 8) := by show _ = _; have := hmi.out; omega
              clear hrow7 hb7 HR2 HB2 F HY
              go_wp2
              go_roundw
              case rel => exact ⟨m' + 1, j, hmi2, by omega, by go_num, HR7, HB7⟩
              case measure => simp [intOf]
end Go.Proofs.YtaolinlginloaacDoor
