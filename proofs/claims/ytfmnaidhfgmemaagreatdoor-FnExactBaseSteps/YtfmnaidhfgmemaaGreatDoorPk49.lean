/-
  SBaSt; LawBaO
-/
import Derived.Test.YtfmnaidhfgmemaaGreatDoorSWrite
import Derived.Test.YtfmnaidhfgmemaaGreatDoorSBase
import Derived.Test.YtfmnaidhfgmemaaGreatDoorPk45
import Derived.Deep.RegionHeld3
import Derived.Test.YtfmnaidhfgmemaaGreatDoorPk44
namespace Go.Proofs.YtfmnaidhfgmemaaGreatDoor
open Go.RowKit
open Words Sums
set_option maxHeartbeats 2000000 in
set_option maxRecDepth 100000 in
theorem sbaseSteps (x : Value) (d : Dv) (w : World) (h : DvIn w x d) (hv : d.store.vols.length ≤ 1048576) : Calls Tryz.prog 6 #[x] w (WsOut w (writeP d (baseS d.store) noT)) := by
  have hx := h
  obtain ⟨fd, fc, va, vl, vc, ad, ln, cap, rfl, h1, h2, h3⟩ := h.form
  have bA : Below w.heap.size w (w.alloc (.cells #[.slice fd d.flash.length fc, .slice va vl vc, .slice ad ln cap, .int .i64 d.store.next, .int .i64 d.seq, .int .i64 d.tx, .int .i64 d.base] 47)) := (Below.refl _ _).alloc (Nat.le_refl _) _
  have gA : DAt (w.alloc (.cells #[.slice fd d.flash.length fc, .slice va vl vc, .slice ad ln cap, .int .i64 d.store.next, .int .i64 d.seq, .int .i64 d.tx, .int .i64 d.base] 47)) w.heap.size (.slice fd d.flash.length fc) (.slice va vl vc) (.slice ad ln cap) d.store.next d.seq d.tx d.base := heap_alloc_new _ _
  generalize hwa : w.alloc (.cells #[.slice fd d.flash.length fc, .slice va vl vc, .slice ad ln cap, .int .i64 d.store.next, .int .i64 d.seq, .int .i64 d.tx, .int .i64 d.base] 47) = wa at bA gA
  have bD : Below w.heap.size w wa.drew := bA.drew
  have gD := gA.below (w' := wa.drew) (Below.refl _ _).drew
  have CB := hide (sbaseRecs _ d.store wa.drew (h3.below bD))
  have HLB : Hid ((baseS d.store).length ≤ 33554432) := by
    have := base_bound d.store
    show _ ≤ _
    omega
  have HI := hide hx
  have HD := hide bD
  have SD : (wa.drew.cell? ⟨w.heap.size, 0, none⟩ = some (.slice fd d.flash.length fc) ∧ wa.drew.cell? ⟨w.heap.size, 1, none⟩ = some (.slice va vl vc) ∧ wa.drew.cell? ⟨w.heap.size, 2, none⟩ = some (.slice ad ln cap) ∧ wa.drew.cell? ⟨w.heap.size, 3, none⟩ = some (.int .i64 d.store.next) ∧ wa.drew.cell? ⟨w.heap.size, 4, none⟩ = some (.int .i64 d.seq) ∧ wa.drew.cell? ⟨w.heap.size, 5, none⟩ = some (.int .i64 d.tx) ∧ wa.drew.cell? ⟨w.heap.size, 6, none⟩ = some (.int .i64 d.base)) := gD.cells
  have GD := hide gD
  obtain ⟨L, hL⟩ : ∃ L, baseS d.store = L := ⟨_, rfl⟩
  rw [hL] at CB HLB ⊢
  clear hL bA gA bD gD h h1 h2 h3 hx hv
  go_enter Tryz.func6, Tryz.ntmps6
  go_wp2_with fail
  go_region_held3 (fun w' => (w'.cell? ⟨w.heap.size, 0, none⟩ = some (.slice fd d.flash.length fc) ∧ w'.cell? ⟨w.heap.size, 1, none⟩ = some (.slice va vl vc) ∧ w'.cell? ⟨w.heap.size, 2, none⟩ = some (.slice ad ln cap) ∧ w'.cell? ⟨w.heap.size, 3, none⟩ = some (.int .i64 d.store.next) ∧ w'.cell? ⟨w.heap.size, 4, none⟩ = some (.int .i64 d.seq) ∧ w'.cell? ⟨w.heap.size, 5, none⟩ = some (.int .i64 d.tx) ∧ w'.cell? ⟨w.heap.size, 6, none⟩ = some (.int .i64 d.base))) (first | (with_reducible exact SD) | (with_reducible exact SE) | (with_reducible exact SF) | go_keep) (first
    | (go_at_call 22; refine CB.out.mono ?_; rintro e w1 ⟨rv, rfl, ro, b1⟩; obtain ⟨ra, rc, rfl, rr⟩ := RcRow.of_own (by rw [List.length_map]) ro; have D1 := hide (HD.out.trans (b1.mono HD.out.size)); have SE : (w1.cell? ⟨w.heap.size, 0, none⟩ = some (.slice fd d.flash.length fc) ∧ w1.cell? ⟨w.heap.size, 1, none⟩ = some (.slice va vl vc) ∧ w1.cell? ⟨w.heap.size, 2, none⟩ = some (.slice ad ln cap) ∧ w1.cell? ⟨w.heap.size, 3, none⟩ = some (.int .i64 d.store.next) ∧ w1.cell? ⟨w.heap.size, 4, none⟩ = some (.int .i64 d.seq) ∧ w1.cell? ⟨w.heap.size, 5, none⟩ = some (.int .i64 d.tx) ∧ w1.cell? ⟨w.heap.size, 6, none⟩ = some (.int .i64 d.base)) := (GD.out.below b1).cells; have G1 := hide (GD.out.below b1); have CW := hide (swrite _ d ra L.length rc L noT w1 (HI.out.below D1.out) HLB.out rr); clear ro rr b1)
    | (go_at_call 21; refine CW.out.mono ?_; rintro e w2 ⟨uv, rfl, uo, b2⟩; have D2 := hide (D1.out.trans (b2.mono D1.out.size)); have SF : (w2.cell? ⟨w.heap.size, 0, none⟩ = some (.slice fd d.flash.length fc) ∧ w2.cell? ⟨w.heap.size, 1, none⟩ = some (.slice va vl vc) ∧ w2.cell? ⟨w.heap.size, 2, none⟩ = some (.slice ad ln cap) ∧ w2.cell? ⟨w.heap.size, 3, none⟩ = some (.int .i64 d.store.next) ∧ w2.cell? ⟨w.heap.size, 4, none⟩ = some (.int .i64 d.seq) ∧ w2.cell? ⟨w.heap.size, 5, none⟩ = some (.int .i64 d.tx) ∧ w2.cell? ⟨w.heap.size, 6, none⟩ = some (.int .i64 d.base)) := (G1.out.below b2).cells; have UO := hide uo; clear uo b2))
  all_goals
    have FN : Hid (WsOut w (writeP d L noT) (.returned (.tuple #[uv, .bool (writeP d L noT).2])) w2) := ⟨_, rfl, own_down16 UO.out D1.out.size, D2.out⟩
    go_wp2
    refine bodyPost_ret (results_tmp2 rfl _ _ _) rfl ?_
    exact FN.out
end Go.Proofs.YtfmnaidhfgmemaaGreatDoor

namespace Go.Proofs.YtfmnaidhfgmemaaGreatDoor
open Go.RowKit
open Words Sums Pack
def lawBaOC (f : Nat) : Prop := ∀ (x : Value) (d : Dv) (lo hi : Nat) (w : World), Dvs lo hi x d w → hi ≤ w.heap.size → OkD d → HalvIn w → Calls Tryz.prog f #[x] w (WsOut w (writeP d (baseS d.store) noT))
theorem slawBaOC : lawBaOC 6 := fun x d _ _ w h hh ho _ => sbaseSteps x d w (h.rd hh ho.fit) ho.fit.2.1
theorem lawBaO_tk {f : Nat} (HC : lawBaOC f) {w wi : World} {hs : List Hold} {v : Value} {d : Dv} {l1 h1 : Nat} {L : List Stp} {ok : Bool} {m : Nat} (hp : writeP d (baseS d.store) noT = (L, ok)) (hL : L.length = m) (T : Tk w wi hs) (k1 : Nat) (ho : OkD d) (e1 : hs[k1]? = some (l1, h1, Dvs l1 h1 v d)) (hv : HalvIn wi) :
    Calls Tryz.prog f #[v] wi fun e w' => ∃ ad c, e = .returned (.tuple #[.slice ad m c, .bool ok]) ∧ Tk w w' ((wi.heap.size, w'.heap.size, SpH wi.heap.size w'.heap.size (.slice ad m c) m L) :: hs) ∧ wi.heap.size ≤ w'.heap.size := by
  refine (HC v d l1 h1 wi (T.get k1 e1) (T.hi k1 e1) ho hv).mono ?_
  rintro e w' ⟨x, rfl, ho, hb⟩
  rw [hp] at ho ⊢
  have hS := Sli.of ho
  rw [hL] at hS
  obtain ⟨ad, c, rfl, -⟩ := hS.form
  exact ⟨ad, c, rfl, T.add hb (SpH.loc _ _ _ _ _) hS, hb.size⟩
set_option maxHeartbeats 4000000 in
set_option maxRecDepth 100000 in
theorem lawBaO_of (fa : Option Addr) (n fc : Nat) (rs : List Rw) (va : Option Addr) (vl vc : Nat) (vs : List (Int × Int)) (ad : Option Addr) (len cap : Nat) (kr : List Kw) (nx sq tx bs : Int) (w : World) (hv : HalvIn w) (hb : BkRow w fa n rs) (hvl : VlRow w va vl vs) (hk : KnRd w ad len kr) (HI : lawBaOC 8) :
    Calls Tryz.prog 3 #[.agg #[.slice fa n fc, .slice va vl vc, .slice ad len cap, .int .i64 nx, .int .i64 sq, .int .i64 tx, .int .i64 bs]] w fun e w' => e = .returned (.bool true) ∧ Below w.heap.size w w' := by
  have T0 := hide ((Tk.start w).cell #[.slice fa n fc, .slice va vl vc, .slice ad len cap, .int .i64 nx, .int .i64 sq, .int .i64 tx, .int .i64 bs] 32)
  have H := hide hb
  have HV := hide hv
  have HVL := hide hvl
  have HK := hide hk
  have HN := hide hb.1
  have HIH := hide HI
  clear hb hv hvl hk HI
  go_enter Tryz.func3, Tryz.ntmps3
  go_wp2_with fail
  refine (szd_any fa n fc rs va vl vc vs ad len cap kr nx sq tx bs 1048576 _ (Nat.le_refl _) (H.out.below T0.out.1) (HVL.out.below T0.out.1) (HK.out.below T0.out.1)).mono ?_
  rintro e w1 ⟨⟨r, rfl, r1, r2, r3⟩, b1⟩
  have T1 := hide (T0.out.below b1)
  have HX1 := hide (show w.heap.size + 1 ≤ w1.heap.size from T1.out.hi 0 rfl)
  clear b1 T0
  by_cases hr : r < 0
  · clear r2 r3
    go_wp2
    go_ret
    exact ⟨rfl, T1.out.1⟩
  have ho := r3 (by omega)
  have HO := hide ho
  obtain ⟨d, hd⟩ : ∃ d : Dv, d = ⟨rs.map tellOf, ⟨vs, kr.map ktell, nx⟩, sq, tx, bs⟩ := ⟨_, rfl⟩
  have HOD : Hid (OkD d) := by rw [hd]; exact ho.okd
  have HD := hide hd
  have HZ1 : Hid (endK 1 d.flash ≤ 10000000) := by rw [hd]; exact ho.2.2.2.2.2.2.2.2.1
  have HZ2 : Hid (endK 1 d.flash + d.store.vols.length * 2 + d.store.kns.length + kkids d.store.kns ≤ 1000000000) := by
    have e1 := HZ1.out
    have e2 := HOD.out.2.1.1
    have e3 := HOD.out.2.1.2.2.1
    have e4 : kkids d.store.kns ≤ 1048576 := by rw [hd]; exact ho.2.2.2.2.2.2.2.2.2
    show _ ≤ _
    omega
  have hn : n ≤ 1048576 := by have e1 := ho.1; have e2 := HN.out; omega
  have HLE := hide hn
  clear r1 r2 r3 ho hd hn
  obtain ⟨⟨L, ok⟩, hP⟩ : ∃ P, writeP d (baseS d.store) noT = P := ⟨_, rfl⟩
  obtain ⟨m, hm⟩ : ∃ m, L.length = m := ⟨_, rfl⟩
  have HP := hide hP
  have HM := hide hm
  have HNB : Hid (m ≤ 100000000) := by
    have e1 := write_len d (baseS d.store) noT
    rw [hP] at e1
    simp only at e1
    have e2 := HZ1.out
    have e3 := endK_len d.flash
    show _ ≤ _
    omega
  have hmb : m ≤ 100000000 := HNB.out
  obtain ⟨mm, hmm⟩ : ∃ mm : Nat, 1 + m * 4 = mm := ⟨_, rfl⟩
  have HMM := hide hmm
  have m0 : ¬ ((mm : Int) < 0) := by omega
  have m1 : ((mm : Int) != mm) = false := by simp
  clear hm hmm
  have hne : (ok != ok) = false := by simp
  clear hP
  obtain ⟨k0, k1, k2, k3, k4, k5, k6⟩ : w1.cell? ⟨w.heap.size, 0, none⟩ = some (.slice fa n fc) ∧ w1.cell? ⟨w.heap.size, 1, none⟩ = some (.slice va vl vc) ∧ w1.cell? ⟨w.heap.size, 2, none⟩ = some (.slice ad len cap) ∧ w1.cell? ⟨w.heap.size, 3, none⟩ = some (.int .i64 nx) ∧ w1.cell? ⟨w.heap.size, 4, none⟩ = some (.int .i64 sq) ∧ w1.cell? ⟨w.heap.size, 5, none⟩ = some (.int .i64 tx) ∧ w1.cell? ⟨w.heap.size, 6, none⟩ = some (.int .i64 bs) := ⟨T1.out.at 0 0 rfl rfl, T1.out.at 0 1 rfl rfl, T1.out.at 0 2 rfl rfl, T1.out.at 0 3 rfl rfl, T1.out.at 0 4 rfl rfl, T1.out.at 0 5 rfl rfl, T1.out.at 0 6 rfl rfl⟩
  go_wp2_with fail
  refine (tod_tk (fc := fc) (vc := vc) (cap := cap) T1.out HO.out HLE.out H.out HVL.out HK.out HD.out).mono ?_
  rintro e w2 ⟨f1, g1, v1, y1, a1, p1, rfl, qT2, sT2⟩
  have T2 := hide qT2
  clear qT2 T1 k0 k1 k2 k3 k4 k5 k6
  go_wp2_with fail
  refine (lawBaO_tk slawBaOC HP.out HM.out T2.out 0 HOD.out rfl (HV.out.on T2.out.1)).mono ?_
  rintro e w3 ⟨ra2, rc2, rfl, qT3, sT3⟩
  have T3 := hide qT3
  clear qT3 T2
  have T3b := hide (T3.out.drop (hs' := [(w2.heap.size, w3.heap.size, SpH w2.heap.size w3.heap.size (.slice ra2 m rc2) m L), (w.heap.size, w.heap.size + 1, Cel w.heap.size #[.slice fa n fc, .slice va vl vc, .slice ad len cap, .int .i64 nx, .int .i64 sq, .int .i64 tx, .int .i64 bs] 32)]) (by
    intro x hx
    simp only [List.mem_cons, List.not_mem_nil, or_false] at hx ⊢
    rcases hx with rfl | rfl
    · exact .inl rfl
    · exact .inr (.inr rfl)))
  clear T3
  obtain ⟨k0, k1, k2, k3, k4, k5, k6⟩ : w3.cell? ⟨w.heap.size, 0, none⟩ = some (.slice fa n fc) ∧ w3.cell? ⟨w.heap.size, 1, none⟩ = some (.slice va vl vc) ∧ w3.cell? ⟨w.heap.size, 2, none⟩ = some (.slice ad len cap) ∧ w3.cell? ⟨w.heap.size, 3, none⟩ = some (.int .i64 nx) ∧ w3.cell? ⟨w.heap.size, 4, none⟩ = some (.int .i64 sq) ∧ w3.cell? ⟨w.heap.size, 5, none⟩ = some (.int .i64 tx) ∧ w3.cell? ⟨w.heap.size, 6, none⟩ = some (.int .i64 bs) := ⟨T3b.out.at 1 0 rfl rfl, T3b.out.at 1 1 rfl rfl, T3b.out.at 1 2 rfl rfl, T3b.out.at 1 3 rfl rfl, T3b.out.at 1 4 rfl rfl, T3b.out.at 1 5 rfl rfl, T3b.out.at 1 6 rfl rfl⟩
  go_wp2_with fail
  refine (tod_tk (fc := fc) (vc := vc) (cap := cap) T3b.out HO.out HLE.out H.out HVL.out HK.out HD.out).mono ?_
  rintro e w4 ⟨f3, g3, v3, y3, a3, p3, rfl, qT4, sT4⟩
  have T4 := hide qT4
  clear qT4 T3b k0 k1 k2 k3 k4 k5 k6
  have TX := hide (T4.out.cell #[.slice f3 d.flash.length g3, .slice v3 d.store.vols.length y3, .slice a3 d.store.kns.length p3, .int .i64 d.store.next, .int .i64 d.seq, .int .i64 d.tx, .int .i64 d.base] 47)
  have ZX : Hid ((w4.alloc (.cells #[.slice f3 d.flash.length g3, .slice v3 d.store.vols.length y3, .slice a3 d.store.kns.length p3, .int .i64 d.store.next, .int .i64 d.seq, .int .i64 d.tx, .int .i64 d.base] 47)).heap.size = w4.heap.size + 1) := by show _ = _; simp
  clear T4
  go_upto_region 7 with fail
  generalize w4.alloc (.cells #[.slice f3 d.flash.length g3, .slice v3 d.store.vols.length y3, .slice a3 d.store.kns.length p3, .int .i64 d.store.next, .int .i64 d.seq, .int .i64 d.tx, .int .i64 d.base] 47) = wx at TX ZX ⊢
  obtain ⟨x0, x1, x2, x3, x4, x5, x6⟩ : wx.cell? ⟨w4.heap.size, 0, none⟩ = some (.slice f3 d.flash.length g3) ∧ wx.cell? ⟨w4.heap.size, 1, none⟩ = some (.slice v3 d.store.vols.length y3) ∧ wx.cell? ⟨w4.heap.size, 2, none⟩ = some (.slice a3 d.store.kns.length p3) ∧ wx.cell? ⟨w4.heap.size, 3, none⟩ = some (.int .i64 d.store.next) ∧ wx.cell? ⟨w4.heap.size, 4, none⟩ = some (.int .i64 d.seq) ∧ wx.cell? ⟨w4.heap.size, 5, none⟩ = some (.int .i64 d.tx) ∧ wx.cell? ⟨w4.heap.size, 6, none⟩ = some (.int .i64 d.base) := ⟨TX.out.at 0 0 rfl rfl, TX.out.at 0 1 rfl rfl, TX.out.at 0 2 rfl rfl, TX.out.at 0 3 rfl rfl, TX.out.at 0 4 rfl rfl, TX.out.at 0 5 rfl rfl, TX.out.at 0 6 rfl rfl⟩
  go_wp2_with fail
  refine (lawBaO_tk HIH.out HP.out HM.out TX.out 1 HOD.out rfl (HV.out.on TX.out.1)).mono ?_
  rintro e w5 ⟨ra4, rc4, rfl, qT5, sT5⟩
  have T5 := hide qT5
  clear qT5 TX
  clear x0 x1 x2 x3 x4 x5 x6
  go_wp2_with fail
  refine (eqsw_tk T5.out 0 3 HM.out HNB.out rfl rfl).mono ?_
  rintro e w6 ⟨rfl, qT6, sT6⟩
  have T6 := hide qT6
  clear qT6 T5
  go_upto_region 10 with fail
  have TD := hide T6.out.drew
  obtain ⟨x0, x1, x2, x3, x4, x5, x6, k0, k1, k2, k3, k4, k5, k6⟩ : w6.cell? ⟨w4.heap.size, 0, none⟩ = some (.slice f3 d.flash.length g3) ∧ w6.cell? ⟨w4.heap.size, 1, none⟩ = some (.slice v3 d.store.vols.length y3) ∧ w6.cell? ⟨w4.heap.size, 2, none⟩ = some (.slice a3 d.store.kns.length p3) ∧ w6.cell? ⟨w4.heap.size, 3, none⟩ = some (.int .i64 d.store.next) ∧ w6.cell? ⟨w4.heap.size, 4, none⟩ = some (.int .i64 d.seq) ∧ w6.cell? ⟨w4.heap.size, 5, none⟩ = some (.int .i64 d.tx) ∧ w6.cell? ⟨w4.heap.size, 6, none⟩ = some (.int .i64 d.base) ∧ w6.cell? ⟨w.heap.size, 0, none⟩ = some (.slice fa n fc) ∧ w6.cell? ⟨w.heap.size, 1, none⟩ = some (.slice va vl vc) ∧ w6.cell? ⟨w.heap.size, 2, none⟩ = some (.slice ad len cap) ∧ w6.cell? ⟨w.heap.size, 3, none⟩ = some (.int .i64 nx) ∧ w6.cell? ⟨w.heap.size, 4, none⟩ = some (.int .i64 sq) ∧ w6.cell? ⟨w.heap.size, 5, none⟩ = some (.int .i64 tx) ∧ w6.cell? ⟨w.heap.size, 6, none⟩ = some (.int .i64 bs) := ⟨T6.out.at 1 0 rfl rfl, T6.out.at 1 1 rfl rfl, T6.out.at 1 2 rfl rfl, T6.out.at 1 3 rfl rfl, T6.out.at 1 4 rfl rfl, T6.out.at 1 5 rfl rfl, T6.out.at 1 6 rfl rfl, T6.out.at 4 0 rfl rfl, T6.out.at 4 1 rfl rfl, T6.out.at 4 2 rfl rfl, T6.out.at 4 3 rfl rfl, T6.out.at 4 4 rfl rfl, T6.out.at 4 5 rfl rfl, T6.out.at 4 6 rfl rfl⟩
  go_region_held3 (fun w' => w'.cell? ⟨w4.heap.size, 0, none⟩ = some (.slice f3 d.flash.length g3) ∧ w'.cell? ⟨w4.heap.size, 1, none⟩ = some (.slice v3 d.store.vols.length y3) ∧ w'.cell? ⟨w4.heap.size, 2, none⟩ = some (.slice a3 d.store.kns.length p3) ∧ w'.cell? ⟨w4.heap.size, 3, none⟩ = some (.int .i64 d.store.next) ∧ w'.cell? ⟨w4.heap.size, 4, none⟩ = some (.int .i64 d.seq) ∧ w'.cell? ⟨w4.heap.size, 5, none⟩ = some (.int .i64 d.tx) ∧ w'.cell? ⟨w4.heap.size, 6, none⟩ = some (.int .i64 d.base) ∧ w'.cell? ⟨w.heap.size, 0, none⟩ = some (.slice fa n fc) ∧ w'.cell? ⟨w.heap.size, 1, none⟩ = some (.slice va vl vc) ∧ w'.cell? ⟨w.heap.size, 2, none⟩ = some (.slice ad len cap) ∧ w'.cell? ⟨w.heap.size, 3, none⟩ = some (.int .i64 nx) ∧ w'.cell? ⟨w.heap.size, 4, none⟩ = some (.int .i64 sq) ∧ w'.cell? ⟨w.heap.size, 5, none⟩ = some (.int .i64 tx) ∧ w'.cell? ⟨w.heap.size, 6, none⟩ = some (.int .i64 bs)) (first | go_keep | exact ⟨TE.out.at 2 0 rfl rfl, TE.out.at 2 1 rfl rfl, TE.out.at 2 2 rfl rfl, TE.out.at 2 3 rfl rfl, TE.out.at 2 4 rfl rfl, TE.out.at 2 5 rfl rfl, TE.out.at 2 6 rfl rfl, TE.out.at 5 0 rfl rfl, TE.out.at 5 1 rfl rfl, TE.out.at 5 2 rfl rfl, TE.out.at 5 3 rfl rfl, TE.out.at 5 4 rfl rfl, TE.out.at 5 5 rfl rfl, TE.out.at 5 6 rfl rfl⟩ | exact ⟨TF.out.at 2 0 rfl rfl, TF.out.at 2 1 rfl rfl, TF.out.at 2 2 rfl rfl, TF.out.at 2 3 rfl rfl, TF.out.at 2 4 rfl rfl, TF.out.at 2 5 rfl rfl, TF.out.at 2 6 rfl rfl, TF.out.at 5 0 rfl rfl, TF.out.at 5 1 rfl rfl, TF.out.at 5 2 rfl rfl, TF.out.at 5 3 rfl rfl, TF.out.at 5 4 rfl rfl, TF.out.at 5 5 rfl rfl, TF.out.at 5 6 rfl rfl⟩) (first
    | (go_at_call 7; (with_reducible refine Calls.mono (tod_tk (fc := fc) (vc := vc) (cap := cap) TD.out HO.out HLE.out H.out HVL.out HK.out HD.out) ?_); rintro en w7 ⟨f5, g5, v5, y5, a5, p5, rfl, tE, sE⟩; have TE := hide tE; clear tE)
    | (go_at_call 10; (with_reducible refine Calls.mono (eqd_tk TE.out 3 0 HOD.out rfl rfl) ?_); rintro en w8 ⟨rfl, tF, sF⟩; have TF := hide tF; clear tF))
  all_goals
    clear TD TE x0 x1 x2 x3 x4 x5 x6 k0 k1 k2 k3 k4 k5 k6
    have zx := ZX.out
    obtain ⟨x0, x1, x2, x3, x4, x5, x6⟩ : w8.cell? ⟨w4.heap.size, 0, none⟩ = some (.slice f3 d.flash.length g3) ∧ w8.cell? ⟨w4.heap.size, 1, none⟩ = some (.slice v3 d.store.vols.length y3) ∧ w8.cell? ⟨w4.heap.size, 2, none⟩ = some (.slice a3 d.store.kns.length p3) ∧ w8.cell? ⟨w4.heap.size, 3, none⟩ = some (.int .i64 d.store.next) ∧ w8.cell? ⟨w4.heap.size, 4, none⟩ = some (.int .i64 d.seq) ∧ w8.cell? ⟨w4.heap.size, 5, none⟩ = some (.int .i64 d.tx) ∧ w8.cell? ⟨w4.heap.size, 6, none⟩ = some (.int .i64 d.base) := ⟨TF.out.at 2 0 rfl rfl, TF.out.at 2 1 rfl rfl, TF.out.at 2 2 rfl rfl, TF.out.at 2 3 rfl rfl, TF.out.at 2 4 rfl rfl, TF.out.at 2 5 rfl rfl, TF.out.at 2 6 rfl rfl⟩
    have hx1 : w.heap.size + 1 ≤ w1.heap.size := HX1.out
    go_wp2_with fail
    refine (markd_sp (hs' := [(wx.heap.size, w5.heap.size, SpH wx.heap.size w5.heap.size (.slice ra4 m rc4) m L), (w2.heap.size, w3.heap.size, SpH w2.heap.size w3.heap.size (.slice ra2 m rc2) m L), (w.heap.size, w.heap.size + 1, Cel w.heap.size #[.slice fa n fc, .slice va vl vc, .slice ad len cap, .int .i64 nx, .int .i64 sq, .int .i64 tx, .int .i64 bs] 32)]) TF.out 3 HOD.out HZ1.out HZ2.out (by omega) rfl (by
      intro x hx
      simp only [List.mem_cons, List.not_mem_nil, or_false] at hx ⊢
      rcases hx with rfl | rfl | rfl
      · exact ⟨.inr (.inl rfl), by simp only; omega⟩
      · exact ⟨.inr (.inr (.inr (.inr (.inl rfl)))), by simp only; omega⟩
      · exact ⟨.inr (.inr (.inr (.inr (.inr rfl)))), by simp only; omega⟩)).mono ?_
    rintro e w9 ⟨⟨rk, rfl, hrk, hrk2⟩, qT9, sT9⟩
    have T9 := hide qT9
    clear qT9 TF
    clear x0 x1 x2 x3 x4 x5 x6
    have nrk : ¬ ((rk : Int) < 0) := by omega
    go_wp2_with fail
    refine (eqsw_tk T9.out 0 1 HM.out HNB.out rfl rfl).mono ?_
    rintro e w10 ⟨rfl, qT10, sT10⟩
    have T10 := hide qT10
    clear qT10 T9
    go_wp2_with fail
    refine (marksw_tk (hs' := [(w2.heap.size, w3.heap.size, SpH w2.heap.size w3.heap.size (.slice ra2 m rc2) m L), (w.heap.size, w.heap.size + 1, Cel w.heap.size #[.slice fa n fc, .slice va vl vc, .slice ad len cap, .int .i64 nx, .int .i64 sq, .int .i64 tx, .int .i64 bs] 32)]) T10.out 0 HM.out HNB.out HMM.out (by omega) rfl (by
      intro x hx
      simp only [List.mem_cons, List.not_mem_nil, or_false] at hx ⊢
      rcases hx with rfl | rfl
      · exact ⟨.inr (.inl rfl), by simp only; omega⟩
      · exact ⟨.inr (.inr rfl), by simp only; omega⟩)).mono ?_
    rintro e w11 ⟨rfl, qT11, sT11⟩
    have T11 := hide qT11
    clear qT11 T10
    go_wp2_with fail
    refine (heldsw_tk T11.out 0 HNB.out HMM.out rfl).mono ?_
    rintro e w12 ⟨rfl, qT12, sT12⟩
    have T12 := hide qT12
    clear qT12 T11
    obtain ⟨k0, k1, k2, k3, k4, k5, k6⟩ : w12.cell? ⟨w.heap.size, 0, none⟩ = some (.slice fa n fc) ∧ w12.cell? ⟨w.heap.size, 1, none⟩ = some (.slice va vl vc) ∧ w12.cell? ⟨w.heap.size, 2, none⟩ = some (.slice ad len cap) ∧ w12.cell? ⟨w.heap.size, 3, none⟩ = some (.int .i64 nx) ∧ w12.cell? ⟨w.heap.size, 4, none⟩ = some (.int .i64 sq) ∧ w12.cell? ⟨w.heap.size, 5, none⟩ = some (.int .i64 tx) ∧ w12.cell? ⟨w.heap.size, 6, none⟩ = some (.int .i64 bs) := ⟨T12.out.at 2 0 rfl rfl, T12.out.at 2 1 rfl rfl, T12.out.at 2 2 rfl rfl, T12.out.at 2 3 rfl rfl, T12.out.at 2 4 rfl rfl, T12.out.at 2 5 rfl rfl, T12.out.at 2 6 rfl rfl⟩
    go_wp2_with fail
    refine (tod_tk (fc := fc) (vc := vc) (cap := cap) T12.out HO.out HLE.out H.out HVL.out HK.out HD.out).mono ?_
    rintro e w13 ⟨f6, g6, v6, y6, a6, p6, rfl, qT13, sT13⟩
    have T13 := hide qT13
    clear qT13 T12 k0 k1 k2 k3 k4 k5 k6
    go_wp2_with fail
    refine (lawBaO_tk HIH.out HP.out HM.out T13.out 0 HOD.out rfl (HV.out.on T13.out.1)).mono ?_
    rintro e w14 ⟨ra7, rc7, rfl, qT14, sT14⟩
    have T14 := hide qT14
    clear qT14 T13
    go_wp2_with fail
    refine (eqsw_tk T14.out 0 3 HM.out HNB.out rfl rfl).mono ?_
    rintro e w15 ⟨rfl, qT15, sT15⟩
    have T15 := hide qT15
    clear qT15 T14
    go_wp2_with fail
    refine (heldsw_tk T15.out 2 HNB.out HMM.out rfl).mono ?_
    rintro e w16 ⟨rfl, qT16, sT16⟩
    have T16 := hide qT16
    clear qT16 T15
    go_wp2
    go_ret
    exact ⟨rfl, T16.out.1⟩
end Go.Proofs.YtfmnaidhfgmemaaGreatDoor
