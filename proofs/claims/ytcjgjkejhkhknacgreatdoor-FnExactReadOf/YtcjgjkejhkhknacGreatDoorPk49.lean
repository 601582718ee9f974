/-
  INewest; ISpot; IRdOf; LawRdO
-/
import Derived.Test.YtcjgjkejhkhknacGreatDoorPk34
import Derived.Test.YtcjgjkejhkhknacGreatDoorPk48
import Derived.Test.YtcjgjkejhkhknacGreatDoorPk40
import Derived.Test.YtcjgjkejhkhknacGreatDoorPk43
import Derived.WalkLawsBesides
import Derived.Test.YtcjgjkejhkhknacGreatDoorPk46
import Derived.Deep.QuietTactic
import Derived.BigQuiet
import Derived.Test.YtcjgjkejhkhknacGreatDoorPk18
import Derived.Deep.RegionHeld3
namespace Go.Proofs.YtcjgjkejhkhknacGreatDoor
open Go.RowKit
open Words Pack
def NewL (M : List Fnd) (l : List (Int × Value)) : Prop := ∀ c, atG l c = (newP M c).map fdVal
theorem tyNP : Tryz.prog.underlying 132 = some (.map 3 127) := Tryz.underlying132
theorem zeroFd (w : World) : (zeroValue 127).run Tryz.prog w = .ok (.agg #[.int .i64 0, .int .i64 0, .int .i64 0, .int .i64 0, .int .i64 0, .int .i64 0, .int .i64 0, .string ⟨#[]⟩]) w := by kernel_rfl
def NM (W : World) (B : Nat) (M : List Fnd) : Prop := ∃ l, MapG enI W B l ∧ NewL M l
theorem NM.below {W W' : World} {B : Nat} {M : List Fnd} (h : NM W B M) (b : Below W.heap.size W W') : NM W' B M := by
  obtain ⟨l, h1, h2⟩ := h
  exact ⟨l, h1.below b, h2⟩
theorem NM.look {W : World} {B : Nat} {M : List Fnd} (h : NM W B M) (x : Int) (c : Bool) :
    (Instr.lookup 132 (.map (some B)) (.int .i64 x) c).run Tryz.prog W = .ok (if c then .tuple #[fdVal (fdOr (newP M x)), .bool (newP M x).isSome] else fdVal (fdOr (newP M x))) W := by
  obtain ⟨l, h1, h2⟩ := h
  have := h1.look tyNP keysI (zeroFd W) x c
  rw [h2 x] at this
  rw [show (Value.int .i64 x) = enI x from rfl, this]
  cases newP M x <;> rfl
theorem NM.put {W : World} {B : Nat} {M : List Fnd} (h : NM W B M) {x : Fnd} (hx : x.page.kind = 1) :
    ∃ W', (Instr.mapUpdate 132 (.map (some B)) (.int .i64 x.page.tx) (fdVal x)).run Tryz.prog W = .ok () W' ∧ NM W' B (M ++ [x]) ∧ W.grownBy W' (some B) := by
  obtain ⟨l, h1, h2⟩ := h
  obtain ⟨W', e1, e2, e3, -⟩ := h1.new tyNP keysI x.page.tx (fdVal x)
  refine ⟨W', e1, ⟨_, e2, fun c => ?_⟩, e3⟩
  rw [atG_new, newP_snoc, h2 c]
  unfold isData
  rw [hx]
  by_cases e : c = x.page.tx
  · subst e; simp
  · have : ¬ x.page.tx = c := fun q => e q.symm
    simp [e, this]
theorem NM.skip {W : World} {B : Nat} {M : List Fnd} (h : NM W B M) {x : Fnd} (hx : x.page.kind ≠ 1) : NM W B (M ++ [x]) := by
  obtain ⟨l, h1, h2⟩ := h
  refine ⟨l, h1, fun c => ?_⟩
  rw [newP_snoc, h2 c]
  unfold isData
  simp [hx]
theorem take_snoc {M : List Fnd} {k : Nat} {x : Fnd} (h : M[k]? = some x) : M.take (k + 1) = M.take k ++ [x] := by rw [List.take_add_one, h]; rfl
set_option maxHeartbeats 2000000 in
set_option maxRecDepth 100000 in
theorem inewestOf (ad : Option Addr) (len cap : Nat) (M : List Fnd) (w : World) (hl : len ≤ 1099511627776) (h : FdRd w ad len M) :
    Calls Tryz.prog 65 #[.slice ad len cap] w fun e w' => ∃ B, e = .returned (.map (some B)) ∧ w.heap.size ≤ B ∧ NM w' B M ∧ Below w.heap.size w w' := by
  have HN := hide (show M.length = len from h.1)
  have HR := hide h
  have hmm := @run_makeMap Tryz.prog
  have b0 : Below w.heap.size w (w.alloc (.map #[] 0)) := (Below.refl _ _).alloc (Nat.le_refl _) _
  have N0 : Hid (NM (w.alloc (.map #[] 0)) w.heap.size (M.take 0)) := ⟨[], MapG.made w, fun c => rfl⟩
  have B0 := hide b0
  clear h b0
  go_enter Tryz.func65, Tryz.ntmps65
  go_wp2
  go_loopw [9] (fun iv wr => ∃ k : Nat, iv = .int .i64 k ∧ k ≤ len ∧ Hid (NM wr w.heap.size (M.take k)) ∧ Hid (Below w.heap.size w wr)) (fun iv _ => len - (intOf iv).toNat)
  case atStart => exact ⟨0, rfl, Nat.zero_le _, N0, B0⟩
  case round =>
    rename World => wr
    obtain ⟨k, rfl, hk, N1, B1⟩ := hrel
    clear N0 B0
    have hk0 : (0 : Int) ≤ k := by omega
    by_cases hlt : (k : Int) < len
    · obtain ⟨x, hx⟩ : ∃ x, M[k]? = some x := ⟨_, List.getElem?_eq_getElem (by have := HN.out; omega)⟩
      obtain ⟨rb, ro, rfl, -, c0, c1, c2, c3, c4, c5, c6, c7, d4⟩ := (HR.out.below B1.out).all hx
      have hT := take_snoc hx
      obtain ⟨xb, xl, pk, pq, px, pp, pc, pt⟩ := x
      simp only at c0 c1 c2 c3 c4 c5 c6 c7 d4
      have ba : Below wr.heap.size wr (wr.alloc (.cells #[.int .i64 xb, .int .i64 xl, .int .i64 pk, .int .i64 pq, .int .i64 px, .int .i64 pp, .int .i64 pc, .string pt] 127)) := (Below.refl _ _).alloc (Nat.le_refl _) _
      have N2 := hide (N1.out.below ba)
      have B2 := hide (B1.out.trans (ba.mono B1.out.size))
      have FA : Hid (FdAt (wr.alloc (.cells #[.int .i64 xb, .int .i64 xl, .int .i64 pk, .int .i64 pq, .int .i64 px, .int .i64 pp, .int .i64 pc, .string pt] 127)) wr.heap.size ⟨xb, xl, pk, pq, px, pp, pc, pt⟩) := heap_alloc_new _ _
      obtain ⟨y0, y1, y2, y3, y4, y5, y6, y7⟩ := FA.out.cells
      simp only at y0 y1 y2 y3 y4 y5 y6 y7
      by_cases q1 : (pk == 1) = true
      · obtain ⟨W3, e3, n3, g3⟩ := N2.out.put (x := ⟨xb, xl, pk, pq, px, pp, pc, pt⟩) (by simpa using q1)
        unfold fdVal at e3
        simp only at e3
        have N3 : Hid (NM W3 w.heap.size (M.take (k + 1))) := by rw [hT]; exact n3
        have B3 := hide (B2.out.grown g3 B2.out.size (fun j hj => by cases hj; exact Nat.le_refl _))
        clear hx hT n3 g3 N1 B1 N2 B2 ba FA
        go_wp2
        go_roundw
        case rel => exact ⟨k + 1, by go_num, by omega, N3, B3⟩
        case measure => simp [intOf]; omega
      · have N3 : Hid (NM (wr.alloc (.cells #[.int .i64 xb, .int .i64 xl, .int .i64 pk, .int .i64 pq, .int .i64 px, .int .i64 pp, .int .i64 pc, .string pt] 127)) w.heap.size (M.take (k + 1))) := by rw [hT]; exact N2.out.skip (by simpa using q1)
        have q1 : (pk == 1) = false := by simpa using q1
        clear hx hT N1 B1 N2 ba FA
        go_wp2
        go_roundw
        case rel => exact ⟨k + 1, by go_num, by omega, N3, B2⟩
        case measure => simp [intOf]; omega
    · have N2 : Hid (NM wr w.heap.size M) := by
        have := N1.out
        rw [List.take_of_length_le (by have := HN.out; omega)] at this
        exact this
      clear N1
      go_wp2
      go_ret
      exact ⟨w.heap.size, rfl, Nat.le_refl _, N2.out, B1.out⟩
set_option maxHeartbeats 1000000 in
set_option maxRecDepth 100000 in
theorem itextOf (B : Nat) (M : List Fnd) (c : Int) (w : World) (ht : ∀ x ∈ M, x.page.text.size ≤ 1048576) (h : NM w B M) :
    Calls Tryz.prog 67 #[.map (some B), .int .i64 c] w fun e w' => e = .returned (plainV (textP M c)) ∧ Below w.heap.size w w' := by
  have hlk := h.look c true
  simp only [if_true] at hlk
  cases hn : newP M c with
  | none =>
    have HO : Hid (textP M c = none) := by show _ = _; unfold textP; rw [hn]; rfl
    rw [hn] at hlk
    unfold fdOr fd0 fdVal at hlk
    simp only [Option.getD_none, Option.isSome_none] at hlk
    have B1 := hide ((Below.refl w.heap.size w).alloc (Nat.le_refl _) (.cells #[.int .i64 0, .int .i64 0, .int .i64 0, .int .i64 0, .int .i64 0, .int .i64 0, .int .i64 0, .string ⟨#[]⟩] 127))
    clear h ht hn
    go_enter Tryz.func67, Tryz.ntmps67
    go_wp2
    refine bodyPost_ret (results_tmp2 rfl _ _ _) rfl ?_
    rw [HO.out]
    exact ⟨rfl, B1.out⟩
  | some x =>
    have HO : Hid (textP M c = unpackL x.page.text.data.toList) := by show _ = _; unfold textP; rw [hn]; rfl
    have hsz := ht x (newP_mem hn).1
    rw [hn] at hlk
    obtain ⟨xb, xl, pk, pq, px, pp, pc, pt⟩ := x
    unfold fdOr fdVal at hlk
    simp only [Option.getD_some, Option.isSome_some] at hlk
    have CU := hide (fun W => iunp_any pt.data.toList W (Nat.le_trans hsz (by decide)))
    rw [show BA pt.data.toList = pt from by unfold BA; simp] at CU
    simp only at HO
    obtain ⟨p, q, hpq⟩ := plainV_open (unpackL pt.data.toList)
    rw [hpq] at CU
    have HPQ := hide hpq
    have b2 : Below w.heap.size w (w.alloc (.cells #[.int .i64 xb, .int .i64 xl, .int .i64 pk, .int .i64 pq, .int .i64 px, .int .i64 pp, .int .i64 pc, .string pt] 127)) := (Below.refl _ _).alloc (Nat.le_refl _) _
    have B1 := hide b2
    have FA : Hid (FdAt (w.alloc (.cells #[.int .i64 xb, .int .i64 xl, .int .i64 pk, .int .i64 pq, .int .i64 px, .int .i64 pp, .int .i64 pc, .string pt] 127)) w.heap.size ⟨xb, xl, pk, pq, px, pp, pc, pt⟩) := heap_alloc_new _ _
    obtain ⟨-, -, -, -, -, -, -, k7⟩ := FA.out.cells
    simp only at k7
    clear h ht hn hpq b2 FA
    go_enter Tryz.func67, Tryz.ntmps67
    go_wp2_with fail
    refine (CU.out _).mono ?_
    rintro e w2 ⟨rfl, b3⟩
    have B2 := hide (B1.out.trans (b3.mono B1.out.size))
    clear b3 B1
    go_wp2
    refine bodyPost_ret (results_tmp2 rfl _ _ _) rfl ?_
    rw [HO.out, HPQ.out]
    exact ⟨rfl, B2.out⟩
end Go.Proofs.YtcjgjkejhkhknacGreatDoor

namespace Go.Proofs.YtcjgjkejhkhknacGreatDoor
open Go.RowKit
open Words Sums Pack
set_option maxHeartbeats 1000000 in
set_option maxRecDepth 100000 in
theorem ichunkText (v : Value) (rs : List Rw) (c : Int) (w : World) (hl : rs.length ≤ 1048576) (hll : ∀ r ∈ rs, r.2.2.2.length ≤ 1048576) (htx : TxB rs) (ha : FlashRd w v rs) (hH : HalvIn w) :
    Calls Tryz.prog 40 #[.agg #[v], .int .i64 c] w fun e w' => e = .returned (plainV (textP (scanF (rs.map tellOf)) c)) ∧ Below w.heap.size w w' := by
  have b0 : Below w.heap.size w (w.alloc (.cells #[v] 46)) := (Below.refl _ _).alloc (Nat.le_refl _) _
  have k0 : (w.alloc (.cells #[v] 46)).cell? ⟨w.heap.size, 0, none⟩ = some v := cell_of_row _ _ 0 _ _ _ (heap_alloc_new w (.cells #[v] 46))
  have C := hide (iscanO v rs _ hl hll htx (ha.below b0) (hH.on b0))
  have B0 := hide b0
  obtain ⟨M, hM⟩ : ∃ M, scanF (rs.map tellOf) = M := ⟨_, rfl⟩
  have HT : Hid (∀ x ∈ M, x.page.text.size ≤ 1048576) := by rw [← hM]; exact scan_text
  unfold ScOut at C
  rw [hM] at C ⊢
  obtain ⟨p, q, hpq⟩ := plainV_open (textP M c)
  have HPQ := hide hpq
  clear hl hll htx ha b0 hM hpq hH
  go_enter Tryz.func40, Tryz.ntmps40
  go_wp2_with fail
  refine C.out.mono ?_
  rintro e w1 ⟨ad, cap, rfl, h1, h2, h3⟩
  have CN := hide (inewestOf ad M.length cap M w1 h2 h1)
  have B1 := hide (B0.out.trans (h3.mono B0.out.size))
  clear C h1 h2 h3 B0 k0
  go_wp2_with fail
  refine CN.out.mono ?_
  rintro e w2 ⟨BN, rfl, -, hN, b2⟩
  have CT := hide (itextOf BN M c w2 HT.out hN)
  have B2 := hide (B1.out.trans (b2.mono B1.out.size))
  rw [HPQ.out] at CT
  clear CN b2 hN B1
  go_wp2_with fail
  refine CT.out.mono ?_
  rintro e w3 ⟨rfl, b3⟩
  have B3 := hide (B2.out.trans (b3.mono B2.out.size))
  clear b3 CT
  go_wp2
  refine bodyPost_ret (results_tmp2 rfl _ _ _) rfl ?_
  rw [HPQ.out]
  exact ⟨rfl, B3.out⟩
end Go.Proofs.YtcjgjkejhkhknacGreatDoor

namespace Go.Proofs.YtcjgjkejhkhknacGreatDoor
open Go.RowKit
open Words Sums Pack
theorem stin_vols {W : World} {va : Option Addr} {vl vc : Nat} {ad : Option Addr} {ln cap : Nat} {n : Int} {s : Sto} (h : StIn W (.agg #[.slice va vl vc, .slice ad ln cap, .int .i64 n]) s) : vl ≤ 1048576 ∧ VlRow W va vl s.vols := by
  obtain ⟨va', vl', vc', ad', ln', cap', rs', e, -, e3, -, -, -, e4, -⟩ := h
  unfold SBox at e
  injection e with e
  injection e with e
  simp only [List.cons.injEq, Value.slice.injEq, and_true] at e
  obtain ⟨⟨e0, e1, -⟩, -⟩ := e
  subst e0 e1
  exact ⟨e3, e4⟩
set_option maxHeartbeats 400000 in
set_option maxRecDepth 100000 in
theorem ihasVol (x : Value) (d : Dv) (id : Int) (w : World) (h : DvIn w x d) : Calls Tryz.prog 38 #[x, .int .i64 id] w fun e w' => e = .returned (.bool (atV d.store.vols id).isSome) ∧ Below w.heap.size w w' := by
  obtain ⟨fd, fc, va, vl, vc, ad, ln, cap, rfl, h1, h2, h3⟩ := h.form
  have bA : Below w.heap.size w (w.alloc (.cells #[.slice fd d.flash.length fc, .slice va vl vc, .slice ad ln cap, .int .i64 d.store.next, .int .i64 d.seq, .int .i64 d.tx, .int .i64 d.base] 54)) := (Below.refl _ _).alloc (Nat.le_refl _) _
  have gA : DAt (w.alloc (.cells #[.slice fd d.flash.length fc, .slice va vl vc, .slice ad ln cap, .int .i64 d.store.next, .int .i64 d.seq, .int .i64 d.tx, .int .i64 d.base] 54)) w.heap.size (.slice fd d.flash.length fc) (.slice va vl vc) (.slice ad ln cap) d.store.next d.seq d.tx d.base := heap_alloc_new _ _
  generalize hwa : w.alloc (.cells #[.slice fd d.flash.length fc, .slice va vl vc, .slice ad ln cap, .int .i64 d.store.next, .int .i64 d.seq, .int .i64 d.tx, .int .i64 d.base] 54) = wa at bA gA
  obtain ⟨hvl, hv⟩ := stin_vols (h3.below bA)
  have c1 := gA.cells.2.1
  have HV := hide hv
  have CV := hide (ivolAt va vl vc d.store.vols id wa hvl hv)
  have HB := hide bA
  clear bA gA h h1 h2 h3 hv
  go_enter Tryz.func38, Tryz.ntmps38
  go_wp2_with fail
  clear hwa
  refine CV.out.mono ?_
  rintro e w1 ⟨rfl, rfl⟩
  cases ha : atV d.store.vols id with
  | none =>
    have ev : volP va none = .pointer none := rfl
    have HE : Hid ((atV d.store.vols id).isSome = false) := by show _ = _; rw [ha]; rfl
    rw [ev]
    clear ev ha CV
    go_wp2
    go_ret
    exact ⟨by rw [HE.out]; rfl, HB.out⟩
  | some k =>
    obtain ⟨v, hv, -⟩ := atV_some ha
    obtain ⟨b, off, e, -⟩ := HV.out.at hv
    subst e
    have ev : volP (some ⟨b, off, none⟩) (some k) = .pointer (some ⟨b, off + k * 2, none⟩) := rfl
    have HE : Hid ((atV d.store.vols id).isSome = true) := by show _ = _; rw [ha]; rfl
    rw [ev]
    clear ev ha CV hv
    go_wp2
    go_ret
    exact ⟨by rw [HE.out]; rfl, HB.out⟩
set_option maxHeartbeats 1000000 in
set_option maxRecDepth 100000 in
theorem ireadOf (x : Value) (d : Dv) (vol sec : Int) (w : World) (h : DvIn w x d) (hH : HalvIn w) : Calls Tryz.prog 20 #[x, .int .i64 vol, .int .i64 sec] w fun e w' => e = .returned (.tuple #[.string (readP d vol sec).1, .bool (readP d vol sec).2]) ∧ Below w.heap.size w w' := by
  have h0 := h
  obtain ⟨fd, fc, va, vl, vc, ad, ln, cap, rfl, h1, h2, h3⟩ := h.form
  have bA : Below w.heap.size w (w.alloc (.cells #[.slice fd d.flash.length fc, .slice va vl vc, .slice ad ln cap, .int .i64 d.store.next, .int .i64 d.seq, .int .i64 d.tx, .int .i64 d.base] 54)) := (Below.refl _ _).alloc (Nat.le_refl _) _
  have gA : DAt (w.alloc (.cells #[.slice fd d.flash.length fc, .slice va vl vc, .slice ad ln cap, .int .i64 d.store.next, .int .i64 d.seq, .int .i64 d.tx, .int .i64 d.base] 54)) w.heap.size (.slice fd d.flash.length fc) (.slice va vl vc) (.slice ad ln cap) d.store.next d.seq d.tx d.base := heap_alloc_new _ _
  generalize hwa : w.alloc (.cells #[.slice fd d.flash.length fc, .slice va vl vc, .slice ad ln cap, .int .i64 d.store.next, .int .i64 d.seq, .int .i64 d.tx, .int .i64 d.base] 54) = wa at bA gA
  have CV := hide (ihasVol _ d vol wa (h0.below bA))
  have HR := hide (readL_is d vol sec)
  unfold readL at HR
  obtain ⟨P, hP⟩ : ∃ P, readP d vol sec = P := ⟨_, rfl⟩
  rw [hP] at HR ⊢
  have HB := hide bA
  have HG := hide gA
  have H1 := hide h1
  have H2 := hide h2
  have H3 := hide h3
  have HH := hide hH
  obtain ⟨c0, c1, c2, c3, c4, c5, c6⟩ := gA.cells
  clear bA gA h h0 h1 h2 h3 hH hP
  go_enter Tryz.func20, Tryz.ntmps20
  go_wp2_with fail
  clear hwa
  refine CV.out.mono ?_
  rintro e w1 ⟨rfl, b1⟩
  have B1 := hide (HB.out.trans (b1.mono HB.out.size))
  have G1 := hide (HG.out.below b1)
  clear CV b1 HB HG c0 c1 c2 c3 c4 c5 c6
  by_cases ha : (atV d.store.vols vol).isSome = true
  · have HR2 : Hid ((if chunkS d.store vol sec = 0 then .tuple #[.string ⟨#[]⟩, .bool true] else plainV (textP (scanF d.flash) (chunkS d.store vol sec))) = Value.tuple #[.string P.1, .bool P.2]) := by show _ = _; rw [← HR.out, if_pos ha]
    have CC := hide (ichunk _ d.store vol sec w1 (H3.out.below B1.out))
    obtain ⟨c, hc⟩ : ∃ c, chunkS d.store vol sec = c := ⟨_, rfl⟩
    rw [hc] at CC HR2
    obtain ⟨-, c1, c2, c3, -⟩ := G1.out.cells
    rw [ha]
    clear HR hc
    go_wp2_with fail
    refine CC.out.mono ?_
    rintro e w2 ⟨rfl, b2⟩
    have B2 := hide (B1.out.trans (b2.mono B1.out.size))
    have G2 := hide (G1.out.below b2)
    clear CC b2 B1 G1 c1 c2 c3
    by_cases c0 : (c == 0) = true
    · have HE : Hid (Value.tuple #[.string ⟨#[]⟩, .bool true] = Value.tuple #[.string P.1, .bool P.2]) := by show _ = _; rw [← HR2.out, if_pos (by simpa using c0)]
      clear HR2
      go_wp2
      refine bodyPost_ret (results_tmp2 rfl _ _ _) rfl ?_
      rw [← HE.out]
      exact ⟨rfl, B2.out⟩
    · have HE : Hid (plainV (textP (scanF d.flash) c) = Value.tuple #[.string P.1, .bool P.2]) := by show _ = _; rw [← HR2.out, if_neg (by simpa using c0)]
      have c0 : (c == 0) = false := by simpa using c0
      obtain ⟨rs, e1, i1, l1, ll1, tb1⟩ := (H1.out.below B2.out).lens H2.out
      have CT := hide (ichunkText (.slice fd d.flash.length fc) rs c w2 l1 ll1 tb1 i1 (HH.out.on B2.out))
      rw [e1, HE.out] at CT
      have k0 := G2.out.cells.1
      clear HR2 HE e1 i1 l1 ll1 tb1
      go_wp2_with fail
      refine CT.out.mono ?_
      rintro e w3 ⟨rfl, b3⟩
      have B3 := hide (B2.out.trans (b3.mono B2.out.size))
      clear b3 CT
      go_wp2
      refine bodyPost_ret (results_tmp2 rfl _ _ _) rfl ?_
      exact ⟨rfl, B3.out⟩
  · have HE : Hid (Value.tuple #[.string ⟨#[]⟩, .bool false] = Value.tuple #[.string P.1, .bool P.2]) := by show _ = _; rw [← HR.out, if_neg ha]
    have ha : (atV d.store.vols vol).isSome = false := by simpa using ha
    rw [ha]
    clear HR
    go_wp2
    refine bodyPost_ret (results_tmp2 rfl _ _ _) rfl ?_
    rw [← HE.out]
    exact ⟨rfl, B1.out⟩
end Go.Proofs.YtcjgjkejhkhknacGreatDoor

namespace Go.Proofs.YtcjgjkejhkhknacGreatDoor
open Go.RowKit
open Words Sums Pack
theorem srd_tk {w wi : World} {hs : List Hold} {v : Value} {d : Dv} {l h : Nat} (vol sec : Int) (T : Tk w wi hs) (n : Nat) (ho : OkD d) (e1 : hs[n]? = some (l, h, Dvs l h v d)) :
    Calls Tryz.prog 19 #[v, .int .i64 vol, .int .i64 sec] wi fun e w' => e = .returned (.tuple #[.string (readP d vol sec).1, .bool (readP d vol sec).2]) ∧ Tk w w' hs ∧ wi.heap.size ≤ w'.heap.size := by
  refine (sreadOf v d vol sec wi ((T.get n e1).rd (T.hi n e1) ho.fit)).mono ?_
  rintro e w' ⟨rfl, hb⟩
  exact ⟨rfl, T.below hb, hb.size⟩
theorem ird_tk {w wi : World} {hs : List Hold} {v : Value} {d : Dv} {l h : Nat} (vol sec : Int) (T : Tk w wi hs) (n : Nat) (ho : OkD d) (e1 : hs[n]? = some (l, h, Dvs l h v d)) (hv : HalvIn wi) :
    Calls Tryz.prog 20 #[v, .int .i64 vol, .int .i64 sec] wi fun e w' => e = .returned (.tuple #[.string (readP d vol sec).1, .bool (readP d vol sec).2]) ∧ Tk w w' hs ∧ wi.heap.size ≤ w'.heap.size := by
  refine (ireadOf v d vol sec wi ((T.get n e1).rd (T.hi n e1) ho.fit) hv).mono ?_
  rintro e w' ⟨rfl, hb⟩
  exact ⟨rfl, T.below hb, hb.size⟩
set_option maxHeartbeats 2000000 in
set_option maxRecDepth 100000 in
theorem lawRdO_any (fa : Option Addr) (n fc : Nat) (rs : List Rw) (va : Option Addr) (vl vc : Nat) (vs : List (Int × Int)) (ad : Option Addr) (len cap : Nat) (kr : List Kw) (nx sq tx bs vol sec : Int) (w : World) (hv : HalvIn w) (hb : BkRow w fa n rs) (hvl : VlRow w va vl vs) (hk : KnRd w ad len kr) :
    Calls Tryz.prog 5 #[.agg #[.slice fa n fc, .slice va vl vc, .slice ad len cap, .int .i64 nx, .int .i64 sq, .int .i64 tx, .int .i64 bs], .int .i64 vol, .int .i64 sec] w fun e w' => e = .returned (.bool true) ∧ Below w.heap.size w w' := by
  have T0 := hide ((Tk.start w).cell #[.slice fa n fc, .slice va vl vc, .slice ad len cap, .int .i64 nx, .int .i64 sq, .int .i64 tx, .int .i64 bs] 39)
  have H := hide hb
  have HV := hide hv
  have HVL := hide hvl
  have HK := hide hk
  have HN := hide hb.1
  clear hb hv hvl hk
  go_enter Tryz.func5, Tryz.ntmps5
  go_wp2_with fail
  refine (szd_any fa n fc rs va vl vc vs ad len cap kr nx sq tx bs 1048576 _ (Nat.le_refl _) (H.out.below T0.out.1) (HVL.out.below T0.out.1) (HK.out.below T0.out.1)).mono ?_
  rintro e w1 ⟨⟨r, rfl, r1, r2, r3⟩, b1⟩
  have T1 := hide (T0.out.below b1)
  obtain ⟨k0, k1, k2, k3, k4, k5, k6⟩ : w1.cell? ⟨w.heap.size, 0, none⟩ = some (.slice fa n fc) ∧ w1.cell? ⟨w.heap.size, 1, none⟩ = some (.slice va vl vc) ∧ w1.cell? ⟨w.heap.size, 2, none⟩ = some (.slice ad len cap) ∧ w1.cell? ⟨w.heap.size, 3, none⟩ = some (.int .i64 nx) ∧ w1.cell? ⟨w.heap.size, 4, none⟩ = some (.int .i64 sq) ∧ w1.cell? ⟨w.heap.size, 5, none⟩ = some (.int .i64 tx) ∧ w1.cell? ⟨w.heap.size, 6, none⟩ = some (.int .i64 bs) := ⟨T1.out.at 0 0 rfl rfl, T1.out.at 0 1 rfl rfl, T1.out.at 0 2 rfl rfl, T1.out.at 0 3 rfl rfl, T1.out.at 0 4 rfl rfl, T1.out.at 0 5 rfl rfl, T1.out.at 0 6 rfl rfl⟩
  clear b1 T0
  by_cases hr : r < 0
  · clear r2 r3
    go_wp2
    go_ret
    exact ⟨rfl, T1.out.1⟩
  · have ho := r3 (by omega)
    have HO := hide ho
    obtain ⟨d, hd⟩ : ∃ d : Dv, d = ⟨rs.map tellOf, ⟨vs, kr.map ktell, nx⟩, sq, tx, bs⟩ := ⟨_, rfl⟩
    have HOD : Hid (OkD d) := by rw [hd]; exact ho.okd
    have HD := hide hd
    have hn : n ≤ 1048576 := by have e1 := ho.1; have e2 := HN.out; omega
    have HLE := hide hn
    clear r2 r3 ho hd hn
    go_wp2_with fail
    refine (tod_tk (fc := fc) (vc := vc) (cap := cap) T1.out HO.out HLE.out H.out HVL.out HK.out HD.out).mono ?_
    rintro e w2 ⟨f1, g1, v1, y1, a1, p1, rfl, t2, -⟩
    have T2 := hide t2
    clear t2 T1 k0 k1 k2 k3 k4 k5 k6
    go_wp2_with fail
    refine (srd_tk vol sec T2.out 0 HOD.out rfl).mono ?_
    rintro e w3 ⟨rfl, t3, -⟩
    have T3 := hide (t3.drop (hs' := [(w.heap.size, w.heap.size + 1, Cel w.heap.size #[.slice fa n fc, .slice va vl vc, .slice ad len cap, .int .i64 nx, .int .i64 sq, .int .i64 tx, .int .i64 bs] 39)]) (by intro x hx; exact List.mem_cons_of_mem _ hx))
    obtain ⟨k0, k1, k2, k3, k4, k5, k6⟩ : w3.cell? ⟨w.heap.size, 0, none⟩ = some (.slice fa n fc) ∧ w3.cell? ⟨w.heap.size, 1, none⟩ = some (.slice va vl vc) ∧ w3.cell? ⟨w.heap.size, 2, none⟩ = some (.slice ad len cap) ∧ w3.cell? ⟨w.heap.size, 3, none⟩ = some (.int .i64 nx) ∧ w3.cell? ⟨w.heap.size, 4, none⟩ = some (.int .i64 sq) ∧ w3.cell? ⟨w.heap.size, 5, none⟩ = some (.int .i64 tx) ∧ w3.cell? ⟨w.heap.size, 6, none⟩ = some (.int .i64 bs) := ⟨T3.out.at 0 0 rfl rfl, T3.out.at 0 1 rfl rfl, T3.out.at 0 2 rfl rfl, T3.out.at 0 3 rfl rfl, T3.out.at 0 4 rfl rfl, T3.out.at 0 5 rfl rfl, T3.out.at 0 6 rfl rfl⟩
    clear t3 T2
    obtain ⟨P, hP⟩ : ∃ P, readP d vol sec = P := ⟨_, rfl⟩
    rw [hP]
    have HP := hide hP
    clear hP
    obtain ⟨P1, P2⟩ := P
    simp only
    go_wp2_with fail
    refine (tod_tk (fc := fc) (vc := vc) (cap := cap) T3.out HO.out HLE.out H.out HVL.out HK.out HD.out).mono ?_
    rintro e w4 ⟨f2, g2, v2, y2, a2, p2, rfl, t4, -⟩
    have T4 := hide (t4.cell #[.slice f2 d.flash.length g2, .slice v2 d.store.vols.length y2, .slice a2 d.store.kns.length p2, .int .i64 d.store.next, .int .i64 d.seq, .int .i64 d.tx, .int .i64 d.base] 54)
    clear t4 T3 k0 k1 k2 k3 k4 k5 k6
    go_upto_region 7 with fail
    generalize w4.alloc (.cells #[.slice f2 d.flash.length g2, .slice v2 d.store.vols.length y2, .slice a2 d.store.kns.length p2, .int .i64 d.store.next, .int .i64 d.seq, .int .i64 d.tx, .int .i64 d.base] 54) = w5 at T4 ⊢
    obtain ⟨x0, x1, x2, x3, x4, x5, x6⟩ : w5.cell? ⟨w4.heap.size, 0, none⟩ = some (.slice f2 d.flash.length g2) ∧ w5.cell? ⟨w4.heap.size, 1, none⟩ = some (.slice v2 d.store.vols.length y2) ∧ w5.cell? ⟨w4.heap.size, 2, none⟩ = some (.slice a2 d.store.kns.length p2) ∧ w5.cell? ⟨w4.heap.size, 3, none⟩ = some (.int .i64 d.store.next) ∧ w5.cell? ⟨w4.heap.size, 4, none⟩ = some (.int .i64 d.seq) ∧ w5.cell? ⟨w4.heap.size, 5, none⟩ = some (.int .i64 d.tx) ∧ w5.cell? ⟨w4.heap.size, 6, none⟩ = some (.int .i64 d.base) := ⟨T4.out.at 0 0 rfl rfl, T4.out.at 0 1 rfl rfl, T4.out.at 0 2 rfl rfl, T4.out.at 0 3 rfl rfl, T4.out.at 0 4 rfl rfl, T4.out.at 0 5 rfl rfl, T4.out.at 0 6 rfl rfl⟩
    go_wp2_with fail
    refine (ird_tk vol sec T4.out 1 HOD.out rfl (HV.out.on T4.out.1)).mono ?_
    rintro e w6 ⟨rfl, t6, -⟩
    have T6 := hide t6
    rw [HP.out]
    simp only
    clear t6 T4 x0 x1 x2 x3 x4 x5 x6
    have hne : (P2 != P2) = false := by simp
    go_upto_region 10 with fail
    have T6d := hide T6.out.drew
    have S0 : w6.cell? ⟨w4.heap.size, 0, none⟩ = some (.slice f2 d.flash.length g2) ∧ w6.cell? ⟨w4.heap.size, 1, none⟩ = some (.slice v2 d.store.vols.length y2) ∧ w6.cell? ⟨w4.heap.size, 2, none⟩ = some (.slice a2 d.store.kns.length p2) ∧ w6.cell? ⟨w4.heap.size, 3, none⟩ = some (.int .i64 d.store.next) ∧ w6.cell? ⟨w4.heap.size, 4, none⟩ = some (.int .i64 d.seq) ∧ w6.cell? ⟨w4.heap.size, 5, none⟩ = some (.int .i64 d.tx) ∧ w6.cell? ⟨w4.heap.size, 6, none⟩ = some (.int .i64 d.base) ∧ w6.cell? ⟨w.heap.size, 0, none⟩ = some (.slice fa n fc) ∧ w6.cell? ⟨w.heap.size, 1, none⟩ = some (.slice va vl vc) ∧ w6.cell? ⟨w.heap.size, 2, none⟩ = some (.slice ad len cap) ∧ w6.cell? ⟨w.heap.size, 3, none⟩ = some (.int .i64 nx) ∧ w6.cell? ⟨w.heap.size, 4, none⟩ = some (.int .i64 sq) ∧ w6.cell? ⟨w.heap.size, 5, none⟩ = some (.int .i64 tx) ∧ w6.cell? ⟨w.heap.size, 6, none⟩ = some (.int .i64 bs) := ⟨T6.out.at 0 0 rfl rfl, T6.out.at 0 1 rfl rfl, T6.out.at 0 2 rfl rfl, T6.out.at 0 3 rfl rfl, T6.out.at 0 4 rfl rfl, T6.out.at 0 5 rfl rfl, T6.out.at 0 6 rfl rfl, T6.out.at 2 0 rfl rfl, T6.out.at 2 1 rfl rfl, T6.out.at 2 2 rfl rfl, T6.out.at 2 3 rfl rfl, T6.out.at 2 4 rfl rfl, T6.out.at 2 5 rfl rfl, T6.out.at 2 6 rfl rfl⟩
    obtain ⟨x0, x1, x2, x3, x4, x5, x6, k0, k1, k2, k3, k4, k5, k6⟩ := S0
    go_region_held3 (fun w' => w'.cell? ⟨w4.heap.size, 0, none⟩ = some (.slice f2 d.flash.length g2) ∧ w'.cell? ⟨w4.heap.size, 1, none⟩ = some (.slice v2 d.store.vols.length y2) ∧ w'.cell? ⟨w4.heap.size, 2, none⟩ = some (.slice a2 d.store.kns.length p2) ∧ w'.cell? ⟨w4.heap.size, 3, none⟩ = some (.int .i64 d.store.next) ∧ w'.cell? ⟨w4.heap.size, 4, none⟩ = some (.int .i64 d.seq) ∧ w'.cell? ⟨w4.heap.size, 5, none⟩ = some (.int .i64 d.tx) ∧ w'.cell? ⟨w4.heap.size, 6, none⟩ = some (.int .i64 d.base) ∧ w'.cell? ⟨w.heap.size, 0, none⟩ = some (.slice fa n fc) ∧ w'.cell? ⟨w.heap.size, 1, none⟩ = some (.slice va vl vc) ∧ w'.cell? ⟨w.heap.size, 2, none⟩ = some (.slice ad len cap) ∧ w'.cell? ⟨w.heap.size, 3, none⟩ = some (.int .i64 nx) ∧ w'.cell? ⟨w.heap.size, 4, none⟩ = some (.int .i64 sq) ∧ w'.cell? ⟨w.heap.size, 5, none⟩ = some (.int .i64 tx) ∧ w'.cell? ⟨w.heap.size, 6, none⟩ = some (.int .i64 bs)) (first | go_keep | exact ⟨T7.out.at 1 0 rfl rfl, T7.out.at 1 1 rfl rfl, T7.out.at 1 2 rfl rfl, T7.out.at 1 3 rfl rfl, T7.out.at 1 4 rfl rfl, T7.out.at 1 5 rfl rfl, T7.out.at 1 6 rfl rfl, T7.out.at 3 0 rfl rfl, T7.out.at 3 1 rfl rfl, T7.out.at 3 2 rfl rfl, T7.out.at 3 3 rfl rfl, T7.out.at 3 4 rfl rfl, T7.out.at 3 5 rfl rfl, T7.out.at 3 6 rfl rfl⟩ | exact ⟨T8.out.at 1 0 rfl rfl, T8.out.at 1 1 rfl rfl, T8.out.at 1 2 rfl rfl, T8.out.at 1 3 rfl rfl, T8.out.at 1 4 rfl rfl, T8.out.at 1 5 rfl rfl, T8.out.at 1 6 rfl rfl, T8.out.at 3 0 rfl rfl, T8.out.at 3 1 rfl rfl, T8.out.at 3 2 rfl rfl, T8.out.at 3 3 rfl rfl, T8.out.at 3 4 rfl rfl, T8.out.at 3 5 rfl rfl, T8.out.at 3 6 rfl rfl⟩) (first
      | (go_at_call 12; with_reducible refine Calls.mono (tod_tk (fc := fc) (vc := vc) (cap := cap) T6d.out HO.out HLE.out H.out HVL.out HK.out HD.out) ?_; rintro en w7 ⟨f3, g3, v3, y3, a3, p3, rfl, t7, -⟩; have T7 := hide t7; clear t7)
      | (go_at_call 15; with_reducible refine Calls.mono (eqd_tk T7.out 2 0 HOD.out rfl rfl) ?_; rintro en w8 ⟨rfl, t8, -⟩; have T8 := hide t8; clear t8))
    all_goals
      go_wp2
      go_ret
      exact ⟨rfl, T8.out.1⟩
theorem lawRdO_card (fa : Option Addr) (n fc : Nat) (va : Option Addr) (vl vc : Nat) (ad : Option Addr) (len cap : Nat) (nx sq tx bs : Int) (rs : List Rw) (vs : List (Int × Int)) (kr : List Kw) (vol sec : Int) {w : World} (hb : BkRow w fa n rs) (hvl : VlRow w va vl vs) (hk : KnRd w ad len kr) (_ : World) (hv : HalvIn w) :
    Calls Tryz.prog 5 #[.agg #[.slice fa n fc, .slice va vl vc, .slice ad len cap, .int .i64 nx, .int .i64 sq, .int .i64 tx, .int .i64 bs], .int .i64 vol, .int .i64 sec] w fun e w' => e = .returned (.bool true) ∧ Below w.heap.size w w' := lawRdO_any fa n fc rs va vl vc vs ad len cap kr nx sq tx bs vol sec w hv hb hvl hk
end Go.Proofs.YtcjgjkejhkhknacGreatDoor
