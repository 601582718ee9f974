/-
  ScC; SRdOf
-/
import Derived.Test.YtcjgjkejhkhknacGreatDoorPk34
import Derived.Test.YtcjgjkejhkhknacGreatDoorSScan
import Derived.Test.YtcjgjkejhkhknacGreatDoorPk18
import Derived.Test.YtcjgjkejhkhknacGreatDoorPk11
import Derived.Test.YtcjgjkejhkhknacGreatDoorPk44
import Derived.Deep.RegionHeld3
import Derived.Deep.QuietTactic
import Derived.BigQuiet
namespace Go.Proofs.YtcjgjkejhkhknacGreatDoor
open Go.RowKit
open Words Sums
def ScOut (w : World) (bs : List Bk) (e : Ending) (w' : World) : Prop :=
  ∃ (ad : Option Addr) (cap : Nat), e = .returned (.slice ad (scanF bs).length cap) ∧ FdRd w' ad (scanF bs).length (scanF bs) ∧ (scanF bs).length ≤ 1099511627776 ∧ Below w.heap.size w w'
theorem scOut {w w' : World} {rs : List Rw} {e : Ending} (hl : rs.length ≤ 1048576) (hll : ∀ r ∈ rs, r.2.2.2.length ≤ 1048576) (h : ∃ u M, e = .returned u ∧ Asc M ∧ Akin (founds (rs.map tellOf) rs.length) M ∧ FRes w' w.heap.size u M ∧ Below w.heap.size w w') : ScOut w (rs.map tellOf) e w' := by
  obtain ⟨u, M, rfl, h1, h2, h3, h4⟩ := h
  have e1 : M = scanF (rs.map tellOf) := scanF_is h1 (by rw [List.length_map]; exact h2)
  obtain ⟨ad, cap, rfl, h5, -⟩ := h3.rd
  subst e1
  refine ⟨ad, cap, rfl, h5, ?_, h4⟩
  refine Nat.le_trans (scan_count (rs.map tellOf) 1048576 (fun b hb => ?_)) ?_
  · obtain ⟨r, hr, rfl⟩ := List.mem_map.1 hb
    exact hll r hr
  · rw [List.length_map]
    exact Nat.le_trans (Nat.mul_le_mul_right _ hl) (by decide)
theorem sscanO (v : Value) (rs : List Rw) (w : World) (hl : rs.length ≤ 1048576) (hll : ∀ r ∈ rs, r.2.2.2.length ≤ 1048576) (htx : TxB rs) (ha : FlashRd w v rs) : Calls Tryz.prog 37 #[.agg #[v]] w (ScOut w (rs.map tellOf)) :=
  (sscan_rd v rs w hl hll htx ha).mono (fun _ _ h => scOut hl hll h)
theorem iscanO (v : Value) (rs : List Rw) (w : World) (hl : rs.length ≤ 1048576) (hll : ∀ r ∈ rs, r.2.2.2.length ≤ 1048576) (htx : TxB rs) (ha : FlashRd w v rs) (ht : HalvIn w) : Calls Tryz.prog 66 #[.agg #[v]] w (ScOut w (rs.map tellOf)) :=
  (iscan_rd v rs w hl hll htx ha ht).mono (fun _ _ h => scOut hl hll h)
theorem scan_text {bs : List Bk} : ∀ x ∈ scanF bs, x.page.text.size ≤ 1048576 := fun x hx => by
  have := (scan_right hx).2.2.2.2.2
  omega
end Go.Proofs.YtcjgjkejhkhknacGreatDoor

namespace Go.Proofs.YtcjgjkejhkhknacGreatDoor
open Go.RowKit
open Words Sums Pack
theorem sat_in {v : Value} {s : Sto} {w : World} (id : Int) (h : StIn w v s) : Calls Tryz.prog 25 #[v, .int .i64 id] w fun e w' => e = .returned (.int .i64 (atI (atV s.vols id))) ∧ Below w.heap.size w w' := by
  obtain ⟨va, vl, vc, ad, len, cap, rs, rfl, hks, hvl, hl, hll, hvc, h, hk⟩ := h
  exact satV va vl vc ad len cap s.next s.vols id w (by omega) h
theorem schunk_in {v : Value} {s : Sto} {w : World} (vol sec : Int) (h : StIn w v s) : Calls Tryz.prog 59 #[v, .int .i64 vol, .int .i64 sec] w fun e w' => e = .returned (.int .i64 (chunkS s vol sec)) ∧ Below w.heap.size w w' := by
  obtain ⟨va, vl, vc, ad, len, cap, rs, rfl, hks, hvl, hl, hll, hvc, h, hk⟩ := h
  have := schunk va vl vc ad len cap s.next s.vols rs vol sec w (by omega) (by omega) h hk
  rw [← hks] at this
  exact this
def readL (M : List Fnd) (s : Sto) (vol sector : Int) : Value :=
  if (atV s.vols vol).isSome then
    if chunkS s vol sector = 0 then .tuple #[.string ⟨#[]⟩, .bool true]
    else plainV (textP M (chunkS s vol sector))
  else .tuple #[.string ⟨#[]⟩, .bool false]
theorem readL_is (d : Dv) (vol sec : Int) : readL (scanF d.flash) d.store vol sec = .tuple #[.string (readP d vol sec).1, .bool (readP d vol sec).2] := by
  unfold readL readP
  split
  · split
    · rfl
    · cases textP (scanF d.flash) (chunkS d.store vol sec) <;> rfl
  · rfl
set_option maxHeartbeats 1000000 in
set_option maxRecDepth 100000 in
theorem sl15Read (fa : Option Addr) (fl fc : Nat) (M : List Fnd) (v : Value) (s : Sto) (vol sec : Int) (w : World) (hl : fl ≤ 1000000000000000000) (ht : ∀ x ∈ M, x.page.text.size ≤ 1048576) (hM : FdRd w fa fl M) (h : StIn w v s) :
    Calls Tryz.prog 36 #[.slice fa fl fc, v, .int .i64 vol, .int .i64 sec] w fun e w' => e = .returned (readL M s vol sec) ∧ Below w.heap.size w w' := by
  have h0 := h
  obtain ⟨va, vl, vc, ad, ln, cap, -, hv, -⟩ := h0
  subst hv
  unfold SBox at *
  have bA : Below w.heap.size w (w.alloc (.cells #[.slice va vl vc, .slice ad ln cap, .int .i64 s.next] 52)) := (Below.refl _ _).alloc (Nat.le_refl _) _
  have kA : (w.alloc (.cells #[.slice va vl vc, .slice ad ln cap, .int .i64 s.next] 52)).heap[w.heap.size]? = some (.cells #[.slice va vl vc, .slice ad ln cap, .int .i64 s.next] 52 (0, 0)) := heap_alloc_new _ _
  generalize hwa : w.alloc (.cells #[.slice va vl vc, .slice ad ln cap, .int .i64 s.next] 52) = wa at bA kA
  have CA := hide (sat_in vol (h.below bA))
  have HI := hide (h.below bA)
  have HM := hide (hM.below bA)
  have HT := hide ht
  have HB := hide bA
  have KA := hide kA
  have c0 := cell_of_row _ _ 0 _ _ _ kA
  have c1 := cell_of_row _ _ 1 _ _ _ kA
  have c2 := cell_of_row _ _ 2 _ _ _ kA
  obtain ⟨R, hR⟩ : ∃ R, readL M s vol sec = R := ⟨_, rfl⟩
  have HR : Hid (R = if (atV s.vols vol).isSome then if chunkS s vol sec = 0 then .tuple #[.string ⟨#[]⟩, .bool true] else plainV (textP M (chunkS s vol sec)) else .tuple #[.string ⟨#[]⟩, .bool false]) := hR.symm
  rw [hR]
  clear hR bA kA ht hM h
  go_enter Tryz.func36, Tryz.ntmps36
  go_wp2_with fail
  clear hwa
  refine CA.out.mono ?_
  rintro e w1 ⟨rfl, b1⟩
  have B1 := hide (HB.out.trans (b1.mono HB.out.size))
  have I1 := hide (HI.out.below b1)
  have M1 := hide (HM.out.below b1)
  have k1 := (b1.block _ (Array.getElem?_eq_some_iff.1 KA.out).1).trans KA.out
  have K1 := hide k1
  clear CA HB HI HM KA b1 c0 c1 c2
  cases ha : atV s.vols vol with
  | none =>
    have HE : Hid (R = .tuple #[.string ⟨#[]⟩, .bool false]) := by show _ = _; rw [HR.out, ha]; rfl
    have ea : (atI none : Int) = -1 := rfl
    clear HR
    go_wp2
    refine bodyPost_ret (results_tmp2 rfl _ _ _) rfl ?_
    rw [HE.out]
    exact ⟨rfl, B1.out⟩
  | some k =>
    have ea : atI (some k) = (k : Int) := rfl
    have hk0 : ¬ ((k : Int) < 0) := by omega
    have HR2 : Hid (R = if chunkS s vol sec = 0 then .tuple #[.string ⟨#[]⟩, .bool true] else plainV (textP M (chunkS s vol sec))) := by show _ = _; rw [HR.out, ha]; rfl
    have CC := hide (schunk_in vol sec I1.out)
    have c0 := cell_of_row _ _ 0 _ _ _ k1
    have c1 := cell_of_row _ _ 1 _ _ _ k1
    have c2 := cell_of_row _ _ 2 _ _ _ k1
    obtain ⟨c, hc⟩ : ∃ c, chunkS s vol sec = c := ⟨_, rfl⟩
    rw [hc] at CC HR2
    rw [ea]
    clear HR ha k1 hc ea
    go_wp2_with fail
    refine CC.out.mono ?_
    rintro e w2 ⟨rfl, b2⟩
    have B2 := hide (B1.out.trans (b2.mono B1.out.size))
    have M2 := hide (M1.out.below b2)
    clear CC b2 B1 M1 I1 K1 c0 c1 c2
    by_cases c0 : (c == 0) = true
    · have HE : Hid (R = .tuple #[.string ⟨#[]⟩, .bool true]) := by show _ = _; rw [HR2.out, if_pos (by simpa using c0)]
      clear HR2
      go_wp2
      refine bodyPost_ret (results_tmp2 rfl _ _ _) rfl ?_
      rw [HE.out]
      exact ⟨rfl, B2.out⟩
    · have HE : Hid (R = plainV (textP M c)) := by show _ = _; rw [HR2.out, if_neg (by simpa using c0)]
      have c0 : (c == 0) = false := by simpa using c0
      have CT := hide (stextL fa fl fc M c w2 hl HT.out M2.out)
      obtain ⟨p, q, hpq⟩ := plainV_open (textP M c)
      rw [hpq] at CT HE
      clear HR2 hpq
      go_wp2_with fail
      refine CT.out.mono ?_
      rintro e w3 ⟨rfl, b3⟩
      have B3 := hide (B2.out.trans (b3.mono B2.out.size))
      clear b3 CT
      go_wp2
      refine bodyPost_ret (results_tmp2 rfl _ _ _) rfl ?_
      rw [HE.out]
      exact ⟨rfl, B3.out⟩
set_option maxHeartbeats 1000000 in
set_option maxRecDepth 100000 in
theorem sreadOf (v : Value) (d : Dv) (vol sec : Int) (w : World) (h : DvIn w v d) : Calls Tryz.prog 19 #[v, .int .i64 vol, .int .i64 sec] w fun e w' => e = .returned (.tuple #[.string (readP d vol sec).1, .bool (readP d vol sec).2]) ∧ Below w.heap.size w w' := by
  obtain ⟨fd, fc, va, vl, vc, ad, ln, cap, rfl, h1, h2, h3⟩ := h.form
  have bA : Below w.heap.size w (w.alloc (.cells #[.slice fd d.flash.length fc, .slice va vl vc, .slice ad ln cap, .int .i64 d.store.next, .int .i64 d.seq, .int .i64 d.tx, .int .i64 d.base] 54)) := (Below.refl _ _).alloc (Nat.le_refl _) _
  have gA : DAt (w.alloc (.cells #[.slice fd d.flash.length fc, .slice va vl vc, .slice ad ln cap, .int .i64 d.store.next, .int .i64 d.seq, .int .i64 d.tx, .int .i64 d.base] 54)) w.heap.size (.slice fd d.flash.length fc) (.slice va vl vc) (.slice ad ln cap) d.store.next d.seq d.tx d.base := heap_alloc_new _ _
  generalize hwa : w.alloc (.cells #[.slice fd d.flash.length fc, .slice va vl vc, .slice ad ln cap, .int .i64 d.store.next, .int .i64 d.seq, .int .i64 d.tx, .int .i64 d.base] 54) = wa at bA gA
  have bD : Below w.heap.size w wa.drew := bA.drew
  have gD := gA.below (w' := wa.drew) (Below.refl _ _).drew
  obtain ⟨rs, e1, i1, l1, ll1, tb1⟩ := (h1.below bD).lens h2
  have CS := hide (sscanO (.slice fd d.flash.length fc) rs wa.drew l1 ll1 tb1 i1)
  rw [e1] at CS
  unfold ScOut at CS
  have HR := hide (readL_is d vol sec)
  have HT : Hid (∀ x ∈ scanF d.flash, x.page.text.size ≤ 1048576) := scan_text
  obtain ⟨M, hM⟩ : ∃ M, scanF d.flash = M := ⟨_, rfl⟩
  rw [hM] at CS HR HT
  obtain ⟨P, hP⟩ : ∃ P, readP d vol sec = P := ⟨_, rfl⟩
  rw [hP] at HR ⊢
  have HD := hide bD
  have HG := hide gD
  have HI := hide h3
  have SD : wa.drew.cell? ⟨w.heap.size, 0, none⟩ = some (.slice fd d.flash.length fc) ∧ wa.drew.cell? ⟨w.heap.size, 1, none⟩ = some (.slice va vl vc) ∧ wa.drew.cell? ⟨w.heap.size, 2, none⟩ = some (.slice ad ln cap) ∧ wa.drew.cell? ⟨w.heap.size, 3, none⟩ = some (.int .i64 d.store.next) := ⟨gD.cells.1, gD.cells.2.1, gD.cells.2.2.1, gD.cells.2.2.2.1⟩
  clear bA gA bD gD h1 h2 h3 h rs e1 i1 l1 ll1 tb1 hM hP
  go_enter Tryz.func19, Tryz.ntmps19
  go_wp2_with fail
  go_region_held3 (fun w' => w'.cell? ⟨w.heap.size, 0, none⟩ = some (.slice fd d.flash.length fc) ∧ w'.cell? ⟨w.heap.size, 1, none⟩ = some (.slice va vl vc) ∧ w'.cell? ⟨w.heap.size, 2, none⟩ = some (.slice ad ln cap) ∧ w'.cell? ⟨w.heap.size, 3, none⟩ = some (.int .i64 d.store.next)) (first | (with_reducible exact SD) | (with_reducible exact SE) | (with_reducible exact SF) | go_keep) (first
    | (go_at_call 37; refine CS.out.mono ?_; rintro e w1 ⟨la, lc, rfl, f1, f2, f3⟩; have SE := (⟨(f3.cell (World.block_lt_of_cell? _ _ SD.1)).trans SD.1, (f3.cell (World.block_lt_of_cell? _ _ SD.2.1)).trans SD.2.1, (f3.cell (World.block_lt_of_cell? _ _ SD.2.2.1)).trans SD.2.2.1, (f3.cell (World.block_lt_of_cell? _ _ SD.2.2.2)).trans SD.2.2.2⟩ : w1.cell? ⟨w.heap.size, 0, none⟩ = some (.slice fd d.flash.length fc) ∧ w1.cell? ⟨w.heap.size, 1, none⟩ = some (.slice va vl vc) ∧ w1.cell? ⟨w.heap.size, 2, none⟩ = some (.slice ad ln cap) ∧ w1.cell? ⟨w.heap.size, 3, none⟩ = some (.int .i64 d.store.next)); have D1 := hide (HD.out.trans (f3.mono HD.out.size)); have CR := hide (sl15Read la M.length lc M (.agg #[.slice va vl vc, .slice ad ln cap, .int .i64 d.store.next]) d.store vol sec w1 (by omega) HT.out f1 (HI.out.below D1.out)); rw [HR.out] at CR; clear f1 f2 f3)
    | (go_at_call 36; refine CR.out.mono ?_; rintro e w2 ⟨rfl, g3⟩; have D2 := hide (D1.out.trans (g3.mono D1.out.size)); have SF := (⟨(g3.cell (World.block_lt_of_cell? _ _ SE.1)).trans SE.1, (g3.cell (World.block_lt_of_cell? _ _ SE.2.1)).trans SE.2.1, (g3.cell (World.block_lt_of_cell? _ _ SE.2.2.1)).trans SE.2.2.1, (g3.cell (World.block_lt_of_cell? _ _ SE.2.2.2)).trans SE.2.2.2⟩ : w2.cell? ⟨w.heap.size, 0, none⟩ = some (.slice fd d.flash.length fc) ∧ w2.cell? ⟨w.heap.size, 1, none⟩ = some (.slice va vl vc) ∧ w2.cell? ⟨w.heap.size, 2, none⟩ = some (.slice ad ln cap) ∧ w2.cell? ⟨w.heap.size, 3, none⟩ = some (.int .i64 d.store.next)); clear g3))
  all_goals
    go_wp2
    refine bodyPost_ret (results_tmp2 rfl _ _ _) rfl ?_
    exact ⟨rfl, D2.out⟩
end Go.Proofs.YtcjgjkejhkhknacGreatDoor
