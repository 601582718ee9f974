/-
  SPack; INewest; SRead
-/
import Derived.Test.YtcjgjkejhkhknabGreatDoorIPack
import Derived.Test.YtcjgjkejhkhknabGreatDoorSTok
import Derived.Test.YtcjgjkejhkhknabGreatDoorPk33
import Derived.Test.YtcjgjkejhkhknabGreatDoorMapG
import Derived.Test.YtcjgjkejhkhknabGreatDoorPk36
import Derived.WalkLawsBesides
import Derived.Test.YtcjgjkejhkhknabGreatDoorPk22
import Derived.Test.YtcjgjkejhkhknabGreatDoorPk2
import Derived.Test.YtcjgjkejhkhknabGreatDoorPk16
import Derived.Deep.RegionHeld3
set_option maxHeartbeats 2000000
set_option maxRecDepth 100000
namespace Go.Proofs.YtcjgjkejhkhknabGreatDoor
open Go.RowKit
open Pack
theorem two_conv (w : World) (c d : UInt8) (x y : Int) (hc : (c.toNat : Int) = x) (hd : (d.toNat : Int) = y) :
 (convert 191 9 (.slice (some ⟨w.heap.size, 0, none⟩) 2 2)).run Tryz.prog (w.alloc (.cells #[.int .u8 x, .int .u8 y] 5)) = .ok (.string ⟨#[c, d]⟩) (w.alloc (.cells #[.int .u8 x, .int .u8 y] 5)) := by
 subst hc hd
 exact run_convert_bytes_back (P := Tryz.prog) (w.alloc (.cells #[.int .u8 c.toNat, .int .u8 d.toNat] 5)) 191 9 5 ⟨w.heap.size, 0, none⟩ 2 [c, d] Tryz.underlying191 Tryz.underlying5 Tryz.underlying9
  (fun j hj => two_cell w _ _ 5 j _ (by
   match j, hj with
   | 0, _ => rfl
   | 1, _ => rfl))
theorem str_two (o : List UInt8) (c d : UInt8) : Value.string (⟨o.toArray⟩ ++ ⟨#[c, d]⟩) = .string ⟨(o ++ [c, d]).toArray⟩ := by
 rw [show (#[c, d] : Array UInt8) = [c, d].toArray from rfl, ByteArray.mk_append_mk]
theorem str_more (o : List UInt8) (c : UInt8) (t : ByteArray) : Value.string (⟨o.toArray⟩ ++ ⟨#[c]⟩ ++ t) = .string ⟨(o ++ c :: t.data.toList).toArray⟩ := by
 congr 1
 apply ByteArray.ext
 rw [ByteArray.data_append, ByteArray.data_append]
 apply Array.ext'
 simp
theorem spack_any (s : ByteArray) (w : World) :
 Calls Tryz.prog 88 #[.string s] w fun e w' => e = .returned (plainV (packL s.data.toList)) ∧ Below w.heap.size w w' := by
 have hl : s.data.toList.length = s.size := by simp
 by_cases hs : (64 : Int) < s.size
 ·have HX : Hid (packL s.data.toList = none) := by show _ = _; unfold packL; rw [if_pos (by omega)]
  go_enter Tryz.func88, Tryz.ntmps88
  go_wp2
  exact bodyPost_ret (results_tmp2 rfl _ _ _) rfl ⟨by rw [HX.out]; rfl, Below.refl _ _⟩
 ·have HF := hide (toks_fit s.data.toList (by omega))
  have hlen := itoks_len s.data.toList
  obtain ⟨l, hll⟩ : ∃ l, toks s.data.toList = l := ⟨_, rfl⟩
  have HP : Hid (packL s.data.toList = some (if s.size + 1 ≤ (122 :: l.flatMap zTok).length then 114 :: s.data.toList else 122 :: l.flatMap zTok)) := by
   show _ = _
   unfold packL zOf
   rw [if_neg (by omega), hll, hl]
  have HT := hide (toks_any s)
  rw [hll] at HF hlen
  have HT2 : Hid (∀ w, Calls Tryz.prog 126 #[.string s] w fun e w' => TRow w e w' l) := fun w => by
   have := HT.out w (by omega)
   rw [hll] at this
   exact this
  have hl64 : l.length ≤ 64 := by omega
  clear hlen hll HT
  go_enter Tryz.func88, Tryz.ntmps88
  go_wp2_with fail
  refine (HT2.out _).mono ?_
  rintro e w1 ⟨v, rfl, ho, hb⟩
  rw [tcells_g] at ho
  obtain ⟨ad, capa, rfl, a1, a2, a3⟩ := row_form3 ho
  unfold maxLen at a2
  have A3 := hide a3
  have HA := hide ho
  have HB := hide hb
  have hsz1 := hb.size
  clear a3 ho hb HT2
  go_wp2
  go_loopw [5, 6] (fun zv iv wr => ∃ (k : Nat) (o : List UInt8), k ≤ l.length ∧ o.length ≤ 32 * k + 1 ∧ iv = .int .i64 k ∧ zv = .string ⟨o.toArray⟩ ∧ Hid (o = 122 :: (l.take k).flatMap zTok) ∧ Hid (Below w1.heap.size w1 wr)) (fun _ iv _ => l.length - (intOf iv).toNat)
  case atStart => exact ⟨0, [122], Nat.zero_le _, by simp, rfl, rfl, rfl, Below.refl _ _⟩
  case round =>
   obtain ⟨k, o, hk, hol, rfl, rfl, HG, HW⟩ := hrel
   have hsz := HW.out.size
   by_cases hlt : (k : Int) < l.length
   ·obtain ⟨ga, rfl, _, hga⟩ := A3.out (by omega)
    have hkl : k < l.length := by omega
    obtain ⟨b, z, x, ht⟩ : ∃ b z x, l[k]? = some (b, z, x) := ⟨l[k].1, l[k].2.1, l[k].2.2, List.getElem?_eq_getElem hkl⟩
    have htg : (l.map gtok)[k]? = some (gtok (b, z, x)) := by rw [List.getElem?_map, ht]; rfl
    obtain ⟨c1, c2, c3⟩ := gown_cells (own_below HA.out HW.out) htg
    simp only [gtok] at c1 c2 c3
    have hfit := HF.out _ (List.mem_of_getElem? ht)
    have hstep : 122 :: (l.take (k + 1)).flatMap zTok = o ++ zTok (b, z, x) := by
     obtain ⟨e1, e2⟩ := List.getElem?_eq_some_iff.1 ht
     rw [List.take_succ_eq_append_getElem e1, e2, List.flatMap_append, HG.out]
     simp
    have k0 : (0 : Int) ≤ k := by omega
    obtain ⟨t, hxt⟩ : ∃ t : ByteArray, t = ⟨x.toArray⟩ := ⟨_, rfl⟩
    have hts : t.size = x.length := by rw [hxt]; show x.toArray.size = _; simp
    have htl : t.data.toList = x := by rw [hxt]
    rw [← hxt] at c3
    have HST := hide hstep
    have HTL := hide htl
    clear ht htg hstep HG hxt htl
    obtain ⟨w5, hw5⟩ : ∃ w5, w5 = wr.alloc (.cells #[.int .i64 (b : Int), .int .i64 (z : Int), .string t] 190) := ⟨_, rfl⟩
    have hs5 : w5.heap.size = wr.heap.size + 1 := by rw [hw5]; simp
    have HW6 : Hid (∀ o, Below w1.heap.size w1 (w5.alloc o)) := fun o => by rw [hw5]; exact (HW.out.alloc hsz _).alloc (by simp; omega) _
    by_cases hb : b = 0
    ·have hx31 : t.size ≤ 31 := by rcases hfit with ⟨_, _, h, _⟩ | ⟨h, _⟩ <;> simp only at * <;> omega
     have HZ : Hid (zTok (b, z, x) = UInt8.ofNat t.size :: t.data.toList) := by show _ = _; unfold zTok; rw [if_pos hb, hts, HTL.out]
     have hcv := mt_conv w5 (UInt8.ofNat t.size) (t.size : Int) (by rw [small_byte _ (by omega)])
     have tb : ((b : Int) == 0) = true := by rw [beq_iff_eq]; omega
     have hlz : (o ++ zTok (b, z, x)).length ≤ 32 * (k + 1) + 1 := by rw [List.length_append, HZ.out, List.length_cons]; simp; omega
     rw [hs5, hw5] at hcv
     rw [hw5] at HW6
     clear hfit hts hw5 hs5 hb w5
     go_wp2
     go_roundw
     case rel => exact ⟨k + 1, o ++ zTok (b, z, x), by omega, hlz, by go_num, (by rw [HZ.out]; exact str_more _ _ _), (by show _ = _; rw [HST.out]), HW6.out _⟩
     case measure => simp [intOf]; omega
    ·have hz31 : z ≤ 31 := by rcases hfit with ⟨h1, _⟩ | ⟨_, _, _, h, _⟩ <;> simp only at * <;> omega
     have hb64 : b ≤ 64 := by rcases hfit with ⟨h1, _⟩ | ⟨_, h, _⟩ <;> simp only at * <;> omega
     have HZ : Hid (zTok (b, z, x) = [UInt8.ofNat (128 + z), UInt8.ofNat b]) := by show _ = _; unfold zTok; rw [if_neg hb]
     have hcv := two_conv w5 (UInt8.ofNat (128 + z)) (UInt8.ofNat b) (128 + (z : Int)) (b : Int) (by rw [small_byte _ (by omega)]; omega) (by rw [small_byte _ (by omega)])
     have tb : ((b : Int) == 0) = false := by rw [beq_eq_false_iff_ne]; omega
     obtain ⟨c, hc⟩ : ∃ c : UInt8, c = UInt8.ofNat (128 + z) := ⟨_, rfl⟩
     rw [← hc] at hcv HZ
     clear hc
     have hlz : (o ++ zTok (b, z, x)).length ≤ 32 * (k + 1) + 1 := by rw [List.length_append, HZ.out]; simp; omega
     rw [hs5, hw5] at hcv
     rw [hw5] at HW6
     clear hfit hts hw5 hs5 w5
     go_wp2
     go_roundw
     case rel => exact ⟨k + 1, o ++ zTok (b, z, x), by omega, hlz, by go_num, (by rw [HZ.out]; exact str_two _ _ _), (by show _ = _; rw [HST.out]), HW6.out _⟩
     case measure => simp [intOf]; omega
   ·have hke : k = l.length := by omega
    have HX : Hid (o = 122 :: l.flatMap zTok) := by show _ = _; rw [HG.out, hke, List.take_length]
    rw [← HX.out] at HP
    have HWW := hide (HB.out.trans (HW.out.mono hsz1))
    clear HG hke HX
    by_cases hle : (s.size : Int) + 1 ≤ o.length
    ·have HX : Hid (packL s.data.toList = some (114 :: s.data.toList)) := by show _ = _; rw [HP.out, if_pos (by omega)]
     clear HP
     go_wp2
     exact bodyPost_ret (results_tmp2 rfl _ _ _) rfl ⟨by rw [HX.out]; show _ = Ending.returned (.tuple #[.string _, .bool true]); rw [← cons_str]; rfl, HWW.out⟩
    ·have HX : Hid (packL s.data.toList = some o) := by show _ = _; rw [HP.out, if_neg (by omega)]
     clear HP
     go_wp2
     exact bodyPost_ret (results_tmp2 rfl _ _ _) rfl ⟨by rw [HX.out]; rfl, HWW.out⟩
theorem plainV_open (r : Option (List UInt8)) : ∃ p q, plainV r = .tuple #[.string p, .bool q] := by
 cases r with
 | none => exact ⟨_, _, rfl⟩
 | some o => exact ⟨_, _, rfl⟩
end Go.Proofs.YtcjgjkejhkhknabGreatDoor
namespace Go.Proofs.YtcjgjkejhkhknabGreatDoor
open Go.RowKit
open Words Pack
def NewL (M : List Fnd) (l : List (Int × Value)) : Prop := ∀ c, atG l c = (newP M c).map fdVal
theorem tyNP : Tryz.prog.underlying 59 = some (.map 3 77) := Tryz.underlying59
theorem zeroFd (w : World) : (zeroValue 77).run Tryz.prog w = .ok (.agg #[.int .i64 0, .int .i64 0, .int .i64 0, .int .i64 0, .int .i64 0, .int .i64 0, .int .i64 0, .string ⟨#[]⟩]) w := by kernel_rfl
def NM (W : World) (B : Nat) (M : List Fnd) : Prop := ∃ l, MapG enI W B l ∧ NewL M l
theorem NM.below {W W' : World} {B : Nat} {M : List Fnd} (h : NM W B M) (b : Below W.heap.size W W') : NM W' B M := by
 obtain ⟨l, h1, h2⟩ := h
 exact ⟨l, h1.below b, h2⟩
theorem NM.look {W : World} {B : Nat} {M : List Fnd} (h : NM W B M) (x : Int) (c : Bool) :
 (Instr.lookup 59 (.map (some B)) (.int .i64 x) c).run Tryz.prog W = .ok (if c then .tuple #[fdVal (fdOr (newP M x)), .bool (newP M x).isSome] else fdVal (fdOr (newP M x))) W := by
 obtain ⟨l, h1, h2⟩ := h
 have := h1.look tyNP keysI (zeroFd W) x c
 rw [h2 x] at this
 rw [show (Value.int .i64 x) = enI x from rfl, this]
 cases newP M x <;> rfl
theorem NM.put {W : World} {B : Nat} {M : List Fnd} (h : NM W B M) {x : Fnd} (hx : x.page.kind = 1) :
 ∃ W', (Instr.mapUpdate 59 (.map (some B)) (.int .i64 x.page.tx) (fdVal x)).run Tryz.prog W = .ok () W' ∧ NM W' B (M ++ [x]) ∧ W.grownBy W' (some B) := by
 obtain ⟨l, h1, h2⟩ := h
 obtain ⟨W', e1, e2, e3, -⟩ := h1.new tyNP keysI x.page.tx (fdVal x)
 refine ⟨W', e1, ⟨_, e2, fun c => ?_⟩, e3⟩
 rw [atG_new, newP_snoc, h2 c]
 unfold isData
 rw [hx]
 by_cases e : c = x.page.tx
 ·subst e; simp
 ·have : ¬ x.page.tx = c := fun q => e q.symm
  simp [e, this]
theorem NM.skip {W : World} {B : Nat} {M : List Fnd} (h : NM W B M) {x : Fnd} (hx : x.page.kind ≠ 1) : NM W B (M ++ [x]) := by
 obtain ⟨l, h1, h2⟩ := h
 refine ⟨l, h1, fun c => ?_⟩
 rw [newP_snoc, h2 c]
 unfold isData
 simp [hx]
theorem take_snoc {M : List Fnd} {k : Nat} {x : Fnd} (h : M[k]? = some x) : M.take (k + 1) = M.take k ++ [x] := by rw [List.take_add_one, h]; rfl
theorem inewestOf (ad : Option Addr) (len cap : Nat) (M : List Fnd) (w : World) (hl : len ≤ 1099511627776) (h : FdRd w ad len M) :
 Calls Tryz.prog 21 #[.slice ad len cap] w fun e w' => ∃ B, e = .returned (.map (some B)) ∧ w.heap.size ≤ B ∧ NM w' B M ∧ Below w.heap.size w w' := by
 have HN := hide (show M.length = len from h.1)
 have HR := hide h
 have hmm := @run_makeMap Tryz.prog
 have b0 : Below w.heap.size w (w.alloc (.map #[] 0)) := (Below.refl _ _).alloc (Nat.le_refl _) _
 have N0 : Hid (NM (w.alloc (.map #[] 0)) w.heap.size (M.take 0)) := ⟨[], MapG.made w, fun c => rfl⟩
 have B0 := hide b0
 clear h b0
 go_enter Tryz.func21, Tryz.ntmps21
 go_wp2
 go_loopw [9] (fun iv wr => ∃ k : Nat, iv = .int .i64 k ∧ k ≤ len ∧ Hid (NM wr w.heap.size (M.take k)) ∧ Hid (Below w.heap.size w wr)) (fun iv _ => len - (intOf iv).toNat)
 case atStart => exact ⟨0, rfl, Nat.zero_le _, N0, B0⟩
 case round =>
  rename World => wr
  obtain ⟨k, rfl, hk, N1, B1⟩ := hrel
  clear N0 B0
  have hk0 : (0 : Int) ≤ k := by omega
  by_cases hlt : (k : Int) < len
  ·obtain ⟨x, hx⟩ : ∃ x, M[k]? = some x := ⟨_, List.getElem?_eq_getElem (by have := HN.out; omega)⟩
   obtain ⟨rb, ro, rfl, -, c0, c1, c2, c3, c4, c5, c6, c7, d4⟩ := (HR.out.below B1.out).all hx
   have hT := take_snoc hx
   obtain ⟨xb, xl, pk, pq, px, pp, pc, pt⟩ := x
   simp only at c0 c1 c2 c3 c4 c5 c6 c7 d4
   have ba : Below wr.heap.size wr (wr.alloc (.cells #[.int .i64 xb, .int .i64 xl, .int .i64 pk, .int .i64 pq, .int .i64 px, .int .i64 pp, .int .i64 pc, .string pt] 77)) := (Below.refl _ _).alloc (Nat.le_refl _) _
   have N2 := hide (N1.out.below ba)
   have B2 := hide (B1.out.trans (ba.mono B1.out.size))
   have FA : Hid (FdAt (wr.alloc (.cells #[.int .i64 xb, .int .i64 xl, .int .i64 pk, .int .i64 pq, .int .i64 px, .int .i64 pp, .int .i64 pc, .string pt] 77)) wr.heap.size ⟨xb, xl, pk, pq, px, pp, pc, pt⟩) := heap_alloc_new _ _
   obtain ⟨y0, y1, y2, y3, y4, y5, y6, y7⟩ := FA.out.cells
   simp only at y0 y1 y2 y3 y4 y5 y6 y7
   by_cases q1 : (pk == 1) = true
   ·obtain ⟨W3, e3, n3, g3⟩ := N2.out.put (x := ⟨xb, xl, pk, pq, px, pp, pc, pt⟩) (by simpa using q1)
    unfold fdVal at e3
    simp only at e3
    have N3 : Hid (NM W3 w.heap.size (M.take (k + 1))) := by rw [hT]; exact n3
    have B3 := hide (B2.out.grown g3 B2.out.size (fun j hj => by cases hj; exact Nat.le_refl _))
    clear hx hT n3 g3 N1 B1 N2 B2 ba FA
    go_wp2
    go_roundw
    case rel => exact ⟨k + 1, by go_num, by omega, N3, B3⟩
    case measure => simp [intOf]; omega
   ·have N3 : Hid (NM (wr.alloc (.cells #[.int .i64 xb, .int .i64 xl, .int .i64 pk, .int .i64 pq, .int .i64 px, .int .i64 pp, .int .i64 pc, .string pt] 77)) w.heap.size (M.take (k + 1))) := by rw [hT]; exact N2.out.skip (by simpa using q1)
    have q1 : (pk == 1) = false := by simpa using q1
    clear hx hT N1 B1 N2 ba FA
    go_wp2
    go_roundw
    case rel => exact ⟨k + 1, by go_num, by omega, N3, B2⟩
    case measure => simp [intOf]; omega
  ·have N2 : Hid (NM wr w.heap.size M) := by
    have := N1.out
    rw [List.take_of_length_le (by have := HN.out; omega)] at this
    exact this
   clear N1
   go_wp2
   go_ret
   exact ⟨w.heap.size, rfl, Nat.le_refl _, N2.out, B1.out⟩
theorem itextOf (B : Nat) (M : List Fnd) (c : Int) (w : World) (ht : ∀ x ∈ M, x.page.text.size ≤ 1048576) (h : NM w B M) :
 Calls Tryz.prog 46 #[.map (some B), .int .i64 c] w fun e w' => e = .returned (plainV (textP M c)) ∧ Below w.heap.size w w' := by
 have hlk := h.look c true
 simp only [if_true] at hlk
 cases hn : newP M c with
 | none =>
  have HO : Hid (textP M c = none) := by show _ = _; unfold textP; rw [hn]; rfl
  rw [hn] at hlk
  unfold fdOr fd0 fdVal at hlk
  simp only [Option.getD_none, Option.isSome_none] at hlk
  have B1 := hide ((Below.refl w.heap.size w).alloc (Nat.le_refl _) (.cells #[.int .i64 0, .int .i64 0, .int .i64 0, .int .i64 0, .int .i64 0, .int .i64 0, .int .i64 0, .string ⟨#[]⟩] 77))
  clear h ht hn
  go_enter Tryz.func46, Tryz.ntmps46
  go_wp2
  refine bodyPost_ret (results_tmp2 rfl _ _ _) rfl ?_
  rw [HO.out]
  exact ⟨rfl, B1.out⟩
 | some x =>
  have HO : Hid (textP M c = unpackL x.page.text.data.toList) := by show _ = _; unfold textP; rw [hn]; rfl
  have hsz := ht x (newP_mem hn).1
  rw [hn] at hlk
  obtain ⟨xb, xl, pk, pq, px, pp, pc, pt⟩ := x
  unfold fdOr fdVal at hlk
  simp only [Option.getD_some, Option.isSome_some] at hlk
  have CU := hide (fun W => iunp_any pt.data.toList W (Nat.le_trans hsz (by decide)))
  rw [show BA pt.data.toList = pt from by unfold BA; simp] at CU
  simp only at HO
  obtain ⟨p, q, hpq⟩ := plainV_open (unpackL pt.data.toList)
  rw [hpq] at CU
  have HPQ := hide hpq
  have b2 : Below w.heap.size w (w.alloc (.cells #[.int .i64 xb, .int .i64 xl, .int .i64 pk, .int .i64 pq, .int .i64 px, .int .i64 pp, .int .i64 pc, .string pt] 77)) := (Below.refl _ _).alloc (Nat.le_refl _) _
  have B1 := hide b2
  have FA : Hid (FdAt (w.alloc (.cells #[.int .i64 xb, .int .i64 xl, .int .i64 pk, .int .i64 pq, .int .i64 px, .int .i64 pp, .int .i64 pc, .string pt] 77)) w.heap.size ⟨xb, xl, pk, pq, px, pp, pc, pt⟩) := heap_alloc_new _ _
  obtain ⟨-, -, -, -, -, -, -, k7⟩ := FA.out.cells
  simp only at k7
  clear h ht hn hpq b2 FA
  go_enter Tryz.func46, Tryz.ntmps46
  go_wp2_with fail
  refine (CU.out _).mono ?_
  rintro e w2 ⟨rfl, b3⟩
  have B2 := hide (B1.out.trans (b3.mono B1.out.size))
  clear b3 B1
  go_wp2
  refine bodyPost_ret (results_tmp2 rfl _ _ _) rfl ?_
  rw [HO.out, HPQ.out]
  exact ⟨rfl, B2.out⟩
end Go.Proofs.YtcjgjkejhkhknabGreatDoor
namespace Go.Proofs.YtcjgjkejhkhknabGreatDoor
open Go.RowKit
theorem sread_rd (v : Value) (rs : List Rw) (b leaf : Int) (w : World) (hl : rs.length ≤ 1048576) (hll : ∀ r ∈ rs, r.2.2.2.length ≤ 1048576) (ha : FlashRd w v rs) :
 Calls Tryz.prog 39 #[.agg #[v], .int .i64 b, .int .i64 leaf] w fun e w' => e = .returned (.tuple #[.string (readF (rs.map tellOf) b leaf).1, .bool (readF (rs.map tellOf) b leaf).2]) ∧ Below w.heap.size w w' := by
 have h1 := ha
 obtain ⟨vd, vcap, rfl, -⟩ := h1
 have HLL := hide hll
 have HB0 := hide ((Below.refl w.heap.size w).alloc (Nat.le_refl _) (.cells #[.slice vd rs.length vcap] 30))
 have HA := hide (ha.below HB0.out)
 have r0 := heap_alloc_new w (.cells #[.slice vd rs.length vcap] 30)
 have k0 : (w.alloc (.cells #[.slice vd rs.length vcap] 30)).cell? ⟨w.heap.size, 0, none⟩ = some (.slice vd rs.length vcap) := cell_of_row _ _ 0 _ _ _ r0
 have K0 := hide k0
 have hw1 : IntKind.i64.wrap ((rs.length : Int) - 1) = (rs.length : Int) - 1 := by rw [IntKind.wrap_i64]; omega
 clear ha hll r0 k0
 go_enter Tryz.func39, Tryz.ntmps39
 go_wp2_with fail
 refine (sin_any b 0 ((rs.length : Int) - 1) _).mono ?_
 rintro e w2 ⟨rfl, rfl⟩
 generalize w.alloc (.cells #[.slice vd rs.length vcap] 30) = w2 at HB0 HA K0 ⊢
 have k0 := K0.out
 by_cases hb : 0 ≤ b ∧ b ≤ (rs.length : Int) - 1
 ·rw [decide_eq_true hb]
  obtain ⟨k, rfl⟩ : ∃ k : Nat, b = k := ⟨b.toNat, by omega⟩
  have hkl : k < rs.length := by omega
  have hr : rs[k]? = some rs[k] := List.getElem?_eq_getElem hkl
  generalize rs[k] = r at hr
  have hmem := List.mem_of_getElem? hr
  have hrl := HLL.out r hmem
  obtain ⟨g, eg, ⟨c1, c2, c3⟩, hlf⟩ := HA.out.at hr
  subst eg
  have HBR : Hid ((rs.map tellOf)[k]? = some (tellOf r)) := by show _ = _; rw [List.getElem?_map, hr]; rfl
  obtain ⟨x, y, u, ls⟩ := r
  simp only at c1 c2 c3
  simp only at hlf hrl
  obtain ⟨ld, capl, rfl, -, l3⟩ := hlf
  have L3 := hide l3
  have kk0 : (0 : Int) ≤ k := by omega
  have kk1 : (k : Int) < rs.length := by omega
  have hw2 : IntKind.i64.wrap ((ls.length : Int) - 1) = (ls.length : Int) - 1 := by rw [IntKind.wrap_i64]; omega
  clear hr hmem l3 c1 c2 hb
  go_wp2_with fail
  refine (sin_any leaf 0 ((ls.length : Int) - 1) _).mono ?_
  rintro e w3 ⟨rfl, rfl⟩
  by_cases hf : 0 ≤ leaf ∧ leaf ≤ (ls.length : Int) - 1
  ·rw [decide_eq_true hf]
   obtain ⟨j, rfl⟩ : ∃ j : Nat, leaf = j := ⟨leaf.toNat, by omega⟩
   have hjl : j < ls.length := by omega
   obtain ⟨z, t, ht⟩ : ∃ z t, ls[j]? = some (z, t) := ⟨ls[j].1, ls[j].2, List.getElem?_eq_getElem hjl⟩
   obtain ⟨gl, lo, el, d1, d2⟩ := L3.out j (z, t) ht
   subst el
   simp only at d1 d2
   have RI := hide (read_in (t := (z, t)) HBR.out ht)
   have j0 : (0 : Int) ≤ j := by omega
   have j1 : (j : Int) < ls.length := by omega
   clear ht hf
   by_cases hz : z = 1
   ·have HP : Hid (readF (rs.map tellOf) (k : Int) (j : Int) = (t, true)) := RI.out.1 hz
    have e1 : (z != 1) = false := by simp [hz]
    clear hz
    go_wp2
    go_ret2
    exact ⟨by rw [HP.out]; rfl, HB0.out⟩
   ·have HP : Hid (readF (rs.map tellOf) (k : Int) (j : Int) = (⟨#[]⟩, false)) := RI.out.2 hz
    have e1 : (z != 1) = true := by simp [hz]
    clear hz
    go_wp2
    go_ret2
    exact ⟨by rw [HP.out]; rfl, HB0.out⟩
  ·rw [decide_eq_false hf]
   have HP : Hid (readF (rs.map tellOf) (k : Int) leaf = (⟨#[]⟩, false)) := read_leaf_out HBR.out hf
   clear hf
   go_wp2
   go_ret2
   exact ⟨by rw [HP.out]; rfl, HB0.out⟩
 ·rw [decide_eq_false hb]
  have HP : Hid (readF (rs.map tellOf) b leaf = (⟨#[]⟩, false)) := read_out (by rw [List.length_map]; exact hb)
  clear hb
  go_wp2
  go_ret2
  exact ⟨by rw [HP.out]; rfl, HB0.out⟩
end Go.Proofs.YtcjgjkejhkhknabGreatDoor
