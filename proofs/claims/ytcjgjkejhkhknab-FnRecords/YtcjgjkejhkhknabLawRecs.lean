/-
  FnRecords, of what impl.RecOk, impl.RecText and impl.ReadRecs answer.
-/
import Derived.Test.YtcjgjkejhkhknabDrRR
import Derived.Test.YtcjgjkejhkhknabDrAny
import Derived.Test.YtcjgjkejhkhknabSameRc
import Derived.Test.YtcjgjkejhkhknabBig
import Derived.Test.YtcjgjkejhkhknabFlt
import Derived.Deep.RegionWith
namespace Go.Proofs.Ytcjgjkejhkhknab
open Go.RowKit
open Words

theorem code_up {w : World} {ad : Option Addr} {len B C : Nat} (h : CodeIn w ad len B) (hB : B ≤ C) : CodeIn w ad len C := by
  intro j hj
  obtain ⟨b, off, h1, h2, c⟩ := h j hj
  exact ⟨b, off, h1, by omega, c⟩
theorem rtRes_form (r : Rc) : ∃ q, rtRes r = .tuple #[.string q, .bool (@decide r.Right r.decR)] := by
  unfold rtRes
  by_cases h : r.Right
  · exact ⟨_, by rw [if_pos h, dcY h]⟩
  · exact ⟨_, by rw [if_neg h, dcN h]⟩
theorem recs_all (l : List Rc) (h : ∀ r ∈ l, r.Right) : recs (recsA l).data.toList 0 = some l := recs_of l _ 0 h rfl

set_option maxHeartbeats 4000000 in
set_option maxRecDepth 100000 in
theorem lawRecs_of (ad : Option Addr) (len cap : Nat) (w : World) (hd : CodeIn w ad len w.heap.size)
    (HK : Hid (∀ r w, Calls Try.prog 7 #[rcVal r] w fun e w' => e = .returned (.bool (@decide r.Right r.decR)) ∧ Below w.heap.size w w'))
    (HX : Hid (∀ r w, Calls Try.prog 10 #[rcVal r] w fun e w' => e = .returned (rtRes r) ∧ Below w.heap.size w w'))
    (HI : Hid (∀ t w, t.size ≤ 1048576 → Calls Try.prog 11 #[.string t] w (RcOut w t))) :
    Calls Try.prog 4 #[.slice ad len cap] w fun e w' => e = .returned (.bool true) ∧ Below w.heap.size w w' := by
  have HD := hide hd
  clear hd
  by_cases hbig : (1048576 : Int) < len
  · go_enter Try.func4, Try.ntmps4
    go_wp2_with fail
    refine (big_any ad len cap _).mono ?_
    rintro e w1 ⟨rfl, rfl⟩
    rw [dcY hbig]
    go_wp2
    go_ret
    exact ⟨rfl, Below.refl _ _⟩
  · have hl2 : len ≤ 1048576 := by omega
    have hbd : decide ((1048576 : Int) < len) = false := dcN hbig
    clear hbig
    go_enter Try.func4, Try.ntmps4
    go_wp2_with fail
    refine (big_any ad len cap _).mono ?_
    rintro e w0 ⟨rfl, hw0⟩
    subst hw0
    rw [hbd]
    clear hbd
    go_wp2_with fail
    refine (drawRecords ad len cap w0 hl2 HD.out).mono ?_
    rintro e w1 ⟨g, c, l, rfl, h8, hr, ho, b1⟩
    have HO := hide ho
    have HR := hide hr
    have B1 := hide b1
    obtain ⟨n, hn⟩ : ∃ n, l.length = n := ⟨_, rfl⟩
    rw [hn] at h8 ⊢
    have HN := hide hn
    clear ho hr b1 hn
    go_wp2
    go_loopw [4, 5] (fun sv iv wr => ∃ k : Nat, k ≤ n ∧ iv = .int .i64 k ∧ (∃ s : ByteArray, sv = .string s ∧ s.size ≤ 19 * k ∧ Hid (s = recsA (l.take k))) ∧ Hid (Below w1.heap.size w1 wr)) (fun _ iv _ => n - (intOf iv).toNat)
    case atStart => exact ⟨0, Nat.zero_le _, rfl, ⟨_, rfl, by simp [ByteArray.size], rfl⟩, Below.refl _ _⟩
    case round =>
      obtain ⟨k, hk, rfl, ⟨s, rfl, hs, E⟩, HW⟩ := hrel
      by_cases hlt : (k : Int) < n
      · have hkl : k < l.length := by have := HN.out; omega
        obtain ⟨r, hx⟩ : ∃ r, l[k]? = some r := ⟨l[k], List.getElem?_eq_getElem hkl⟩
        have OW := own_below HO.out HW.out
        have c0 : wr.cell? ⟨g, k * 4, none⟩ = some (.int .i64 r.kind) := rc_at OW hx 0 _ rfl
        have c1 : wr.cell? ⟨g, k * 4 + 1, none⟩ = some (.int .i64 r.vol) := rc_at OW hx 1 _ rfl
        have c2 : wr.cell? ⟨g, k * 4 + 2, none⟩ = some (.int .i64 r.arg) := rc_at OW hx 2 _ rfl
        have c3 : wr.cell? ⟨g, k * 4 + 3, none⟩ = some (.int .i64 r.chunk) := rc_at OW hx 3 _ rfl
        have hrr := HR.out r (List.mem_of_getElem? hx)
        have C := hide (HX.out r wr)
        unfold rtRes rcVal at C
        rw [if_pos hrr] at C
        have CK := hide (HK.out r)
        unfold rcVal at CK
        rw [dcY hrr] at CK
        have hz := recA_size r hrr
        have E' : Hid (s ++ recA r = recsA (l.take (k + 1))) := by
          show _ = _
          rw [E.out, recsA_snoc, List.take_add_one, hx]
          rfl
        generalize recA r = b at C hz E'
        have HX1 := hide hx
        clear hx OW hkl hrr E
        obtain ⟨u, U⟩ : ∃ u, s ++ b = u := ⟨_, rfl⟩
        rw [U] at E'
        have z := congrArg ByteArray.size U
        rw [ByteArray.size_append] at z
        have Y : ¬ (9223372036854775807 < s.size + b.size) := by omega
        have k0 : (0 : Int) ≤ k := by omega
        go_wp2_with fail
        refine C.out.mono ?_
        rintro e w2 ⟨rfl, b2⟩
        have HW2 := hide (HW.out.trans (b2.mono HW.out.size))
        clear b2 HW C c0 c1 c2 c3
        have OW := own_below HO.out HW2.out
        have c0 : w2.cell? ⟨g, k * 4, none⟩ = some (.int .i64 r.kind) := rc_at OW HX1.out 0 _ rfl
        have c1 : w2.cell? ⟨g, k * 4 + 1, none⟩ = some (.int .i64 r.vol) := rc_at OW HX1.out 1 _ rfl
        have c2 : w2.cell? ⟨g, k * 4 + 2, none⟩ = some (.int .i64 r.arg) := rc_at OW HX1.out 2 _ rfl
        have c3 : w2.cell? ⟨g, k * 4 + 3, none⟩ = some (.int .i64 r.chunk) := rc_at OW HX1.out 3 _ rfl
        clear OW
        go_wp2_with fail
        refine (CK.out _).mono ?_
        rintro e w3 ⟨rfl, b3⟩
        have HW3 := hide (HW2.out.trans (b3.mono HW2.out.size))
        clear b3 HW2 CK c0 c1 c2 c3
        go_wp2
        go_roundw
        case rel => exact ⟨k + 1, by omega, by go_num, ⟨u, by first | rfl | rw [← U], by omega, E'⟩, HW3⟩
        case measure => simp [intOf]; omega
      · have hkn : k = l.length := by have := HN.out; omega
        have E' : Hid (s = recsA l) := by show _ = _; rw [E.out, hkn, List.take_length]
        have hs152 : s.size ≤ 152 := by omega
        clear E
        have RB : Hid (recs s.data.toList 0 = some l) := by show _ = _; rw [E'.out]; exact recs_all l HR.out
        have C1 := hide (HI.out s wr (by omega))
        go_wp2_with fail
        refine C1.out.mono ?_
        rintro e w3 ⟨bv, bl, bok, rfl, bo, bb, bx⟩
        obtain ⟨rfl, rfl⟩ : bok = true ∧ bl = l := by
          rcases bx with ⟨h, -, -⟩ | ⟨h, rfl⟩
          · rw [RB.out] at h; cases h
          · rw [RB.out] at h; cases h; exact ⟨rfl, rfl⟩
        have HW3 := hide (HW.out.trans (bb.mono HW.out.size))
        have BO := hide (own_lower bo HW.out.size)
        clear bo bb bx C1 HW
        have KD : Hid (∀ W, Below w1.heap.size w1 W → CodeIn W ad len W.heap.size) := fun W hW => code_up (HD.out.on (B1.out.trans (hW.mono B1.out.size)) (Nat.le_refl _)) (B1.out.trans (hW.mono B1.out.size)).size
        obtain ⟨bd, bc, rfl, -⟩ := (Sli.of BO.out).form
        go_wp2_with fail
        refine (drawReadRecs ad len cap w3 hl2 (KD.out w3 HW3.out)).mono ?_
        rintro e w4 ⟨t, rfl, ht, b4⟩
        have HW4 := hide (HW3.out.trans (b4.mono HW3.out.size))
        have BO4 := hide (own_below BO.out b4)
        clear b4 BO
        have C5 := hide (HI.out t w4 (by omega))
        go_wp2_with fail
        refine C5.out.mono ?_
        rintro e w5 ⟨xv, xl, xok, rfl, xo, xb, xx⟩
        have HW5 := hide (HW4.out.trans (xb.mono HW4.out.size))
        have BO5 := hide (own_below BO4.out xb)
        have XO := hide xo
        have XX := hide xx
        clear xo xb xx C5 BO4
        obtain ⟨xd, xc, rfl, x3⟩ := (Sli.of XO.out).form
        have X3 := hide x3
        clear x3
        go_wp2_with fail
        refine (sreadRecs t w5 (by omega)).mono ?_
        rintro e w6 ⟨yv, yl, yok, rfl, -, yb, yx⟩
        obtain rfl : yok = xok := by
          rcases XX.out with ⟨h, rfl, -⟩ | ⟨h, rfl⟩ <;> rcases yx with ⟨h2, rfl, -⟩ | ⟨h2, rfl⟩ <;> first | rfl | (rw [h] at h2; cases h2)
        have HW6 := hide (HW5.out.trans (yb.mono HW5.out.size))
        have BO6 := hide (own_below BO5.out yb)
        have XO6 := hide (own_below XO.out yb)
        clear yb yx BO5 XO
        have XR : Hid ((∀ r ∈ xl, r.Right) ∧ (yok = true → recsA xl = t) ∧ 3 * xl.length ≤ t.size) := by
          rcases XX.out with ⟨-, rfl, rfl⟩ | ⟨h, rfl⟩
          · exact ⟨by simp, by simp, by simp⟩
          · obtain ⟨h1, h2⟩ := recs_back xl _ 0 h
            refine ⟨h1, fun _ => ?_, ?_⟩
            · apply ba_ext
              show (recsL xl).toArray.toList = _
              rw [← h2]; simp
            · have := (recsL_len xl h1).1
              rw [← h2] at this
              simpa using this
        obtain ⟨m, hm⟩ : ∃ m, xl.length = m := ⟨_, rfl⟩
        have HM := hide hm
        have hm9 : m ≤ 1000 := by have := XR.out.2.2; omega
        rw [hm] at X3 ⊢
        clear hm XX
        go_wp2
        go_loopw [15, 16] (fun sv iv wr => ∃ k : Nat, k ≤ m ∧ iv = .int .i64 k ∧ (∃ s : ByteArray, sv = .string s ∧ s.size ≤ 19 * k ∧ Hid (s = recsA (xl.take k))) ∧ Hid (Below w6.heap.size w6 wr)) (fun _ iv _ => m - (intOf iv).toNat)
        case atStart => exact ⟨0, Nat.zero_le _, rfl, ⟨_, rfl, by simp [ByteArray.size], rfl⟩, Below.refl _ _⟩
        case round =>
          obtain ⟨i, hi, rfl, ⟨v, rfl, hv, F⟩, HV⟩ := hrel
          by_cases hlt2 : (i : Int) < m
          · have hil : i < xl.length := by have := HM.out; omega
            obtain ⟨gx, e, _, _⟩ := X3.out (by omega)
            subst e
            obtain ⟨r, hx⟩ : ∃ r, xl[i]? = some r := ⟨xl[i], List.getElem?_eq_getElem hil⟩
            have OW := own_below XO6.out HV.out
            have c0 := rc_at OW hx 0 _ rfl
            have c1 := rc_at OW hx 1 _ rfl
            have c2 := rc_at OW hx 2 _ rfl
            have c3 := rc_at OW hx 3 _ rfl
            simp only [Nat.add_zero] at c0
            have hrr := XR.out.1 r (List.mem_of_getElem? hx)
            have C := hide (HX.out r wr)
            unfold rtRes rcVal at C
            rw [if_pos hrr] at C
            have hz := recA_size r hrr
            have F' : Hid (v ++ recA r = recsA (xl.take (i + 1))) := by
              show _ = _
              rw [F.out, recsA_snoc, List.take_add_one, hx]
              rfl
            generalize recA r = b at C hz F'
            clear hx OW hil hrr F
            obtain ⟨u, U⟩ : ∃ u, v ++ b = u := ⟨_, rfl⟩
            rw [U] at F'
            have z := congrArg ByteArray.size U
            rw [ByteArray.size_append] at z
            have Y : ¬ (9223372036854775807 < v.size + b.size) := by omega
            have i0 : (0 : Int) ≤ i := by omega
            go_wp2_with fail
            refine C.out.mono ?_
            rintro e w7 ⟨rfl, b7⟩
            have HV7 := hide (HV.out.trans (b7.mono HV.out.size))
            clear b7 HV C c0 c1 c2 c3
            go_wp2
            go_roundw
            case rel => exact ⟨i + 1, by omega, by go_num, ⟨u, by first | rfl | rw [← U], by omega, F'⟩, HV7⟩
            case measure => simp [intOf]; omega
          · have hin : i = xl.length := by have := HM.out; omega
            have F' : Hid (yok = true → v = t) := by intro h; rw [F.out, hin, List.take_length]; exact XR.out.2.1 h
            clear F
            have HW7 := hide (HW6.out.trans (HV.out.mono HW6.out.size))
            have BO7 := hide (own_below BO6.out HV.out)
            clear BO6 XO6
            go_wp2_with fail
            refine (drawRecText ad len cap wr hl2 (KD.out wr HW7.out)).mono ?_
            rintro e w8 ⟨r, rfl, b8⟩
            have HW8 := hide (HW7.out.trans (b8.mono HW7.out.size))
            have BO8 := hide (own_below BO7.out b8)
            clear b8 BO7
            unfold rcVal
            have ba : Below w8.heap.size w8 (w8.alloc (.cells #[.int .i64 r.kind, .int .i64 r.vol, .int .i64 r.arg, .int .i64 r.chunk] 25)) := (Below.refl _ _).alloc (Nat.le_refl _) _
            have ZA := hide (heap_alloc_new w8 (.cells #[.int .i64 r.kind, .int .i64 r.vol, .int .i64 r.arg, .int .i64 r.chunk] 25))
            have HWA := hide (HW8.out.trans (ba.mono HW8.out.size))
            have BOA := hide (own_below BO8.out ba)
            obtain ⟨q, hq⟩ := rtRes_form r
            have C9 := hide (HX.out r)
            rw [hq] at C9
            unfold rcVal at C9
            have CR := hide (srecOk r)
            unfold rcVal at CR
            obtain ⟨d, hd⟩ : ∃ d, @decide r.Right r.decR = d := ⟨_, rfl⟩
            rw [hd] at C9 CR
            clear ba BO8 HW8 HW7 hq hd
            obtain ⟨sc, hsc⟩ : ∃ sc, w8.heap.size = sc := ⟨_, rfl⟩
            rw [hsc] at ZA
            go_wp2_with fail
            try rw [hsc]
            generalize w8.alloc (.cells #[.int .i64 r.kind, .int .i64 r.vol, .int .i64 r.arg, .int .i64 r.chunk] 25) = wA at ZA HWA BOA ⊢
            clear hsc
            refine (C9.out _).mono ?_
            rintro e w9 ⟨rfl, b9⟩
            have HW9 := hide (HWA.out.trans (b9.mono HWA.out.size))
            have BO9 := hide (own_below BOA.out b9)
            have Z9 := hide ((b9.block _ (Array.getElem?_eq_some_iff.1 ZA.out).1).trans ZA.out)
            have LO := hide (own_below HO.out HW9.out)
            clear b9 ZA HWA BOA C9
            have hml : (bl.map Rc.tu).length = n := by rw [List.length_map]; exact HN.out
            have CS : Hid (Calls Try.prog 15 #[.slice bd bl.length bc, .slice (some ⟨g, 0, none⟩) n c] w9 fun e w' => e = .returned (.bool true) ∧ Below w9.heap.size w9 w') := by
              have s1 := Sli.of BO9.out
              have s2 := Sli.of LO.out
              have e1 : bl.length = (bl.map Rc.tu).length := by simp
              rw [HN.out] at s1 s2 ⊢
              rw [← hml] at s1 s2 ⊢
              exact sameRcs _ _ (bl.map Rc.tu) _ _ _ _ w9 (by omega) s1 s2
            clear hml LO BO9
            go_wp2_with fail
            refine CS.out.mono ?_
            rintro e w10 ⟨rfl, b10⟩
            have HW10 := hide (HW9.out.trans (b10.mono HW9.out.size))
            have Z10 := (b10.block _ (Array.getElem?_eq_some_iff.1 Z9.out).1).trans Z9.out
            have k0 := cell_of_row _ _ 0 _ _ _ Z10
            have k1 := cell_of_row _ _ 1 _ _ _ Z10
            have k2 := cell_of_row _ _ 2 _ _ _ Z10
            have k3 := cell_of_row _ _ 3 _ _ _ Z10
            clear b10 CS Z9 Z10
            have dd : (d == d) = true := by simp
            cases yok with
            | true =>
              have vt := F'.out rfl
              subst vt
              go_wp2_with fail
              refine (CR.out _).mono ?_
              rintro e w11 ⟨rfl, b11⟩
              have HW11 := hide (HW10.out.trans (b11.mono HW10.out.size))
              clear b11
              go_wp2
              go_ret
              exact ⟨rfl, B1.out.trans (HW11.out.mono B1.out.size)⟩
            | false =>
              go_wp2_with fail
              refine (CR.out _).mono ?_
              rintro e w11 ⟨rfl, b11⟩
              have HW11 := hide (HW10.out.trans (b11.mono HW10.out.size))
              clear b11
              go_wp2
              go_ret
              exact ⟨rfl, B1.out.trans (HW11.out.mono B1.out.size)⟩
end Go.Proofs.Ytcjgjkejhkhknab
