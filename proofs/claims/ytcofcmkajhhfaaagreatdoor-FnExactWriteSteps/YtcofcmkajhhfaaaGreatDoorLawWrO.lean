import Derived.Test.YtcofcmkajhhfaaaGreatDoorPk44
import Derived.Test.YtcofcmkajhhfaaaGreatDoorPk46
import Derived.Test.YtcofcmkajhhfaaaGreatDoorPk47
import Derived.Test.YtcofcmkajhhfaaaGreatDoorSWrite
import Derived.Deep.RegionHeld3
namespace Go.Proofs.YtcofcmkajhhfaaaGreatDoor
open Go.RowKit
open Words Sums Pack
def lawWrOC (f : Nat) : Prop := ∀ (x : Value) (d : Dv) (lo hi : Nat) (ra : Option Addr) (n rc : Nat) (l : List Rc) (t : ByteArray) (w : World), Dvs lo hi x d w → hi ≤ w.heap.size → OkD d → n ≤ 1048576 → RcRow w ra n (l.map Rc.tu) → t.size ≤ 1048576 → HalvIn w → Calls Tryz.prog f #[x, .slice ra n rc, .string t] w (WsOut w (writeP d l t))
theorem slawWrOC : lawWrOC 6 := fun x d lo hi ra n rc l t w h hh ho hn hr _ _ => swrite x d ra n rc l t w (h.rd hh ho.fit) (by omega) hr
theorem lawWrO_tk {f : Nat} (HC : lawWrOC f) {w wi : World} {hs : List Hold} {v : Value} {d : Dv} {l1 h1 : Nat} {g2 n2 l2 h2 : Nat} {l : List Rc} {t : ByteArray} {L : List Stp} {ok : Bool} {m : Nat} (hp : writeP d l t = (L, ok)) (hL : L.length = m) (T : Tk w wi hs) (k1 : Nat) (ho : OkD d) (e1 : hs[k1]? = some (l1, h1, Dvs l1 h1 v d)) (hv : HalvIn wi) (k2 : Nat) (hn : l.length = n2) (hm : n2 ≤ 1048576) (e2 : hs[k2]? = some (l2, h2, RcH l2 h2 (.slice (some ⟨g2, 0, none⟩) n2 n2) n2 l)) (ht : t.size ≤ 1048576) :
    Calls Tryz.prog f #[v, .slice (some ⟨g2, 0, none⟩) n2 n2, .string t] wi fun e w' => ∃ ad c, e = .returned (.tuple #[.slice ad m c, .bool ok]) ∧ Tk w w' ((wi.heap.size, w'.heap.size, SpH wi.heap.size w'.heap.size (.slice ad m c) m L) :: hs) ∧ wi.heap.size ≤ w'.heap.size := by
  refine (HC v d l1 h1 (some ⟨g2, 0, none⟩) n2 n2 l t wi (T.get k1 e1) (T.hi k1 e1) ho hm ((T.get k2 e2).row hn hm (T.hi k2 e2)) ht hv).mono ?_
  rintro e w' ⟨x, rfl, ho, hb⟩
  rw [hp] at ho ⊢
  have hS := Sli.of ho
  rw [hL] at hS
  obtain ⟨ad, c, rfl, -⟩ := hS.form
  exact ⟨ad, c, rfl, T.add hb (SpH.loc _ _ _ _ _) hS, hb.size⟩
set_option maxHeartbeats 4000000 in
set_option maxRecDepth 100000 in
theorem lawWrO_of (fa : Option Addr) (n fc : Nat) (rs : List Rw) (va : Option Addr) (vl vc : Nat) (vs : List (Int × Int)) (ad : Option Addr) (len cap : Nat) (kr : List Kw) (nx sq tx bs : Int) (ra : Option Addr) (rl rc : Nat) (lr : List Rc) (t : ByteArray) (w : World) (hv : HalvIn w) (hb : BkRow w fa n rs) (hvl : VlRow w va vl vs) (hk : KnRd w ad len kr) (hrr : RcRow w ra rl (lr.map Rc.tu)) (ht : t.size ≤ maxLen) (HI : lawWrOC 9) :
    Calls Tryz.prog 3 #[.agg #[.slice fa n fc, .slice va vl vc, .slice ad len cap, .int .i64 nx, .int .i64 sq, .int .i64 tx, .int .i64 bs], .slice ra rl rc, .string t] w fun e w' => e = .returned (.bool true) ∧ Below w.heap.size w w' := by
  have T0 := hide ((Tk.start w).cell #[.slice fa n fc, .slice va vl vc, .slice ad len cap, .int .i64 nx, .int .i64 sq, .int .i64 tx, .int .i64 bs] 32)
  have H := hide hb
  have HV := hide hv
  have HVL := hide hvl
  have HK := hide hk
  have HN := hide hb.1
  have HIH := hide HI
  have HRR := hide hrr
  have hrm := hrr.2.1
  have HRN : Hid (lr.length = rl) := by have := hrr.1; rw [List.length_map] at this; exact this
  clear hrr
  clear hb hv hvl hk HI
  unfold maxLen at ht
  by_cases hbig : (1048576 : Int) < t.size
  · go_enter Tryz.func3, Tryz.ntmps3
    go_wp2
    go_ret
    exact ⟨rfl, T0.out.1⟩
  have htt : t.size ≤ 1048576 := by omega
  have HTT := hide htt
  clear htt
  go_enter Tryz.func3, Tryz.ntmps3
  go_wp2_with fail
  refine (szd_any fa n fc rs va vl vc vs ad len cap kr nx sq tx bs 1048576 _ (Nat.le_refl _) (H.out.below T0.out.1) (HVL.out.below T0.out.1) (HK.out.below T0.out.1)).mono ?_
  rintro e w1 ⟨⟨r, rfl, r1, r2, r3⟩, b1⟩
  have T1 := hide (T0.out.below b1)
  have HX1 := hide (show w.heap.size + 1 ≤ w1.heap.size from T1.out.hi 0 rfl)
  clear b1 T0
  by_cases hr : r < 0
  · clear r2 r3
    go_wp2
    go_ret
    exact ⟨rfl, T1.out.1⟩
  have ho := r3 (by omega)
  have HO := hide ho
  obtain ⟨d, hd⟩ : ∃ d : Dv, d = ⟨rs.map tellOf, ⟨vs, kr.map ktell, nx⟩, sq, tx, bs⟩ := ⟨_, rfl⟩
  have HOD : Hid (OkD d) := by rw [hd]; exact ho.okd
  have HD := hide hd
  have HZ1 : Hid (endK 1 d.flash ≤ 10000000) := by rw [hd]; exact ho.2.2.2.2.2.2.2.2.1
  have HZ2 : Hid (endK 1 d.flash + d.store.vols.length * 2 + d.store.kns.length + kkids d.store.kns ≤ 1000000000) := by
    have e1 := HZ1.out
    have e2 := HOD.out.2.1.1
    have e3 := HOD.out.2.1.2.2.1
    have e4 : kkids d.store.kns ≤ 1048576 := by rw [hd]; exact ho.2.2.2.2.2.2.2.2.2
    show _ ≤ _
    omega
  have hn : n ≤ 1048576 := by have e1 := ho.1; have e2 := HN.out; omega
  have HLE := hide hn
  obtain ⟨z, rfl⟩ : ∃ z : Nat, r = z := ⟨r.toNat, by omega⟩
  clear r1 r3 ho hd hn
  go_wp2_with fail
  refine (szRcs_any ra rl rc z w1 (by omega) hrm).mono ?_
  rintro e w1' ⟨⟨r5, rfl, r6, r7, r8⟩, hw1⟩
  have hw2 := hw1.symm
  clear hw1
  subst hw2
  by_cases hr2 : r5 < 0
  · clear r8
    go_wp2
    go_ret
    exact ⟨rfl, T1.out.1⟩
  have hrl : rl ≤ 1048576 := by have := r8 (by omega); omega
  have HRL := hide hrl
  clear r6 r7 r8 r2
  obtain ⟨⟨L, ok⟩, hP⟩ : ∃ P, writeP d lr t = P := ⟨_, rfl⟩
  obtain ⟨m, hm⟩ : ∃ m, L.length = m := ⟨_, rfl⟩
  have HP := hide hP
  have HM := hide hm
  have HNB : Hid (m ≤ 100000000) := by
    have e1 := write_len d lr t
    rw [hP] at e1
    simp only at e1
    have e2 := HZ1.out
    have e3 := endK_len d.flash
    show _ ≤ _
    omega
  have hmb : m ≤ 100000000 := HNB.out
  obtain ⟨mm, hmm⟩ : ∃ mm : Nat, 1 + m * 4 = mm := ⟨_, rfl⟩
  have HMM := hide hmm
  have m0 : ¬ ((mm : Int) < 0) := by omega
  have m1 : ((mm : Int) != mm) = false := by simp
  clear hm hmm
  have hne : (ok != ok) = false := by simp
  clear hP
  obtain ⟨k0, k1, k2, k3, k4, k5, k6⟩ : w1.cell? ⟨w.heap.size, 0, none⟩ = some (.slice fa n fc) ∧ w1.cell? ⟨w.heap.size, 1, none⟩ = some (.slice va vl vc) ∧ w1.cell? ⟨w.heap.size, 2, none⟩ = some (.slice ad len cap) ∧ w1.cell? ⟨w.heap.size, 3, none⟩ = some (.int .i64 nx) ∧ w1.cell? ⟨w.heap.size, 4, none⟩ = some (.int .i64 sq) ∧ w1.cell? ⟨w.heap.size, 5, none⟩ = some (.int .i64 tx) ∧ w1.cell? ⟨w.heap.size, 6, none⟩ = some (.int .i64 bs) := ⟨T1.out.at 0 0 rfl rfl, T1.out.at 0 1 rfl rfl, T1.out.at 0 2 rfl rfl, T1.out.at 0 3 rfl rfl, T1.out.at 0 4 rfl rfl, T1.out.at 0 5 rfl rfl, T1.out.at 0 6 rfl rfl⟩
  go_wp2_with fail
  refine (tod_tk (fc := fc) (vc := vc) (cap := cap) T1.out HO.out HLE.out H.out HVL.out HK.out HD.out).mono ?_
  rintro e w2 ⟨f1, g1, v1, y1, a1, p1, rfl, qT2, sT2⟩
  have T2 := hide qT2
  clear qT2 T1 k0 k1 k2 k3 k4 k5 k6
  go_wp2_with fail
  refine (torw_tk (cap := rc) T2.out HRR.out HRL.out).mono ?_
  rintro e w3 ⟨rg2, rfl, qT3, sT3⟩
  have T3 := hide qT3
  clear qT3 T2
  go_wp2_with fail
  refine (lawWrO_tk slawWrOC HP.out HM.out T3.out 1 HOD.out rfl (HV.out.on T3.out.1) 0 HRN.out HRL.out rfl HTT.out).mono ?_
  rintro e w4 ⟨ra3, rc3, rfl, qT4, sT4⟩
  have T4 := hide qT4
  clear qT4 T3
  have T4b := hide (T4.out.drop (hs' := [(w3.heap.size, w4.heap.size, SpH w3.heap.size w4.heap.size (.slice ra3 m rc3) m L), (w.heap.size, w.heap.size + 1, Cel w.heap.size #[.slice fa n fc, .slice va vl vc, .slice ad len cap, .int .i64 nx, .int .i64 sq, .int .i64 tx, .int .i64 bs] 32)]) (by
    intro x hx
    simp only [List.mem_cons, List.not_mem_nil, or_false] at hx ⊢
    rcases hx with rfl | rfl
    · exact .inl rfl
    · exact .inr (.inr (.inr rfl))))
  clear T4
  obtain ⟨k0, k1, k2, k3, k4, k5, k6⟩ : w4.cell? ⟨w.heap.size, 0, none⟩ = some (.slice fa n fc) ∧ w4.cell? ⟨w.heap.size, 1, none⟩ = some (.slice va vl vc) ∧ w4.cell? ⟨w.heap.size, 2, none⟩ = some (.slice ad len cap) ∧ w4.cell? ⟨w.heap.size, 3, none⟩ = some (.int .i64 nx) ∧ w4.cell? ⟨w.heap.size, 4, none⟩ = some (.int .i64 sq) ∧ w4.cell? ⟨w.heap.size, 5, none⟩ = some (.int .i64 tx) ∧ w4.cell? ⟨w.heap.size, 6, none⟩ = some (.int .i64 bs) := ⟨T4b.out.at 1 0 rfl rfl, T4b.out.at 1 1 rfl rfl, T4b.out.at 1 2 rfl rfl, T4b.out.at 1 3 rfl rfl, T4b.out.at 1 4 rfl rfl, T4b.out.at 1 5 rfl rfl, T4b.out.at 1 6 rfl rfl⟩
  go_wp2_with fail
  refine (tod_tk (fc := fc) (vc := vc) (cap := cap) T4b.out HO.out HLE.out H.out HVL.out HK.out HD.out).mono ?_
  rintro e w5 ⟨f4, g4, v4, y4, a4, p4, rfl, qT5, sT5⟩
  have T5 := hide qT5
  clear qT5 T4b k0 k1 k2 k3 k4 k5 k6
  have TX := hide (T5.out.cell #[.slice f4 d.flash.length g4, .slice v4 d.store.vols.length y4, .slice a4 d.store.kns.length p4, .int .i64 d.store.next, .int .i64 d.seq, .int .i64 d.tx, .int .i64 d.base] 49)
  have ZX : Hid ((w5.alloc (.cells #[.slice f4 d.flash.length g4, .slice v4 d.store.vols.length y4, .slice a4 d.store.kns.length p4, .int .i64 d.store.next, .int .i64 d.seq, .int .i64 d.tx, .int .i64 d.base] 49)).heap.size = w5.heap.size + 1) := by show _ = _; simp
  clear T5
  go_upto_region 12 with fail
  generalize w5.alloc (.cells #[.slice f4 d.flash.length g4, .slice v4 d.store.vols.length y4, .slice a4 d.store.kns.length p4, .int .i64 d.store.next, .int .i64 d.seq, .int .i64 d.tx, .int .i64 d.base] 49) = wx at TX ZX ⊢
  go_wp2_with fail
  refine (torw_tk (cap := rc) TX.out HRR.out HRL.out).mono ?_
  rintro e w6 ⟨rg5, rfl, qT6, sT6⟩
  have T6 := hide qT6
  clear qT6 TX
  obtain ⟨x0, x1, x2, x3, x4, x5, x6⟩ : w6.cell? ⟨w5.heap.size, 0, none⟩ = some (.slice f4 d.flash.length g4) ∧ w6.cell? ⟨w5.heap.size, 1, none⟩ = some (.slice v4 d.store.vols.length y4) ∧ w6.cell? ⟨w5.heap.size, 2, none⟩ = some (.slice a4 d.store.kns.length p4) ∧ w6.cell? ⟨w5.heap.size, 3, none⟩ = some (.int .i64 d.store.next) ∧ w6.cell? ⟨w5.heap.size, 4, none⟩ = some (.int .i64 d.seq) ∧ w6.cell? ⟨w5.heap.size, 5, none⟩ = some (.int .i64 d.tx) ∧ w6.cell? ⟨w5.heap.size, 6, none⟩ = some (.int .i64 d.base) := ⟨T6.out.at 1 0 rfl rfl, T6.out.at 1 1 rfl rfl, T6.out.at 1 2 rfl rfl, T6.out.at 1 3 rfl rfl, T6.out.at 1 4 rfl rfl, T6.out.at 1 5 rfl rfl, T6.out.at 1 6 rfl rfl⟩
  go_wp2_with fail
  refine (lawWrO_tk HIH.out HP.out HM.out T6.out 2 HOD.out rfl (HV.out.on T6.out.1) 0 HRN.out HRL.out rfl HTT.out).mono ?_
  rintro e w7 ⟨ra6, rc6, rfl, qT7, sT7⟩
  have T7 := hide qT7
  clear qT7 T6
  clear x0 x1 x2 x3 x4 x5 x6
  go_wp2_with fail
  refine (eqsw_tk T7.out 0 4 HM.out HNB.out rfl rfl).mono ?_
  rintro e w8 ⟨rfl, qT8, sT8⟩
  have T8 := hide qT8
  clear qT8 T7
  go_upto_region 16 with fail
  have TD := hide T8.out.drew
  obtain ⟨x0, x1, x2, x3, x4, x5, x6, k0, k1, k2, k3, k4, k5, k6⟩ : w8.cell? ⟨w5.heap.size, 0, none⟩ = some (.slice f4 d.flash.length g4) ∧ w8.cell? ⟨w5.heap.size, 1, none⟩ = some (.slice v4 d.store.vols.length y4) ∧ w8.cell? ⟨w5.heap.size, 2, none⟩ = some (.slice a4 d.store.kns.length p4) ∧ w8.cell? ⟨w5.heap.size, 3, none⟩ = some (.int .i64 d.store.next) ∧ w8.cell? ⟨w5.heap.size, 4, none⟩ = some (.int .i64 d.seq) ∧ w8.cell? ⟨w5.heap.size, 5, none⟩ = some (.int .i64 d.tx) ∧ w8.cell? ⟨w5.heap.size, 6, none⟩ = some (.int .i64 d.base) ∧ w8.cell? ⟨w.heap.size, 0, none⟩ = some (.slice fa n fc) ∧ w8.cell? ⟨w.heap.size, 1, none⟩ = some (.slice va vl vc) ∧ w8.cell? ⟨w.heap.size, 2, none⟩ = some (.slice ad len cap) ∧ w8.cell? ⟨w.heap.size, 3, none⟩ = some (.int .i64 nx) ∧ w8.cell? ⟨w.heap.size, 4, none⟩ = some (.int .i64 sq) ∧ w8.cell? ⟨w.heap.size, 5, none⟩ = some (.int .i64 tx) ∧ w8.cell? ⟨w.heap.size, 6, none⟩ = some (.int .i64 bs) := ⟨T8.out.at 2 0 rfl rfl, T8.out.at 2 1 rfl rfl, T8.out.at 2 2 rfl rfl, T8.out.at 2 3 rfl rfl, T8.out.at 2 4 rfl rfl, T8.out.at 2 5 rfl rfl, T8.out.at 2 6 rfl rfl, T8.out.at 5 0 rfl rfl, T8.out.at 5 1 rfl rfl, T8.out.at 5 2 rfl rfl, T8.out.at 5 3 rfl rfl, T8.out.at 5 4 rfl rfl, T8.out.at 5 5 rfl rfl, T8.out.at 5 6 rfl rfl⟩
  go_region_held3 (fun w' => w'.cell? ⟨w5.heap.size, 0, none⟩ = some (.slice f4 d.flash.length g4) ∧ w'.cell? ⟨w5.heap.size, 1, none⟩ = some (.slice v4 d.store.vols.length y4) ∧ w'.cell? ⟨w5.heap.size, 2, none⟩ = some (.slice a4 d.store.kns.length p4) ∧ w'.cell? ⟨w5.heap.size, 3, none⟩ = some (.int .i64 d.store.next) ∧ w'.cell? ⟨w5.heap.size, 4, none⟩ = some (.int .i64 d.seq) ∧ w'.cell? ⟨w5.heap.size, 5, none⟩ = some (.int .i64 d.tx) ∧ w'.cell? ⟨w5.heap.size, 6, none⟩ = some (.int .i64 d.base) ∧ w'.cell? ⟨w.heap.size, 0, none⟩ = some (.slice fa n fc) ∧ w'.cell? ⟨w.heap.size, 1, none⟩ = some (.slice va vl vc) ∧ w'.cell? ⟨w.heap.size, 2, none⟩ = some (.slice ad len cap) ∧ w'.cell? ⟨w.heap.size, 3, none⟩ = some (.int .i64 nx) ∧ w'.cell? ⟨w.heap.size, 4, none⟩ = some (.int .i64 sq) ∧ w'.cell? ⟨w.heap.size, 5, none⟩ = some (.int .i64 tx) ∧ w'.cell? ⟨w.heap.size, 6, none⟩ = some (.int .i64 bs)) (first | go_keep | exact ⟨TE.out.at 3 0 rfl rfl, TE.out.at 3 1 rfl rfl, TE.out.at 3 2 rfl rfl, TE.out.at 3 3 rfl rfl, TE.out.at 3 4 rfl rfl, TE.out.at 3 5 rfl rfl, TE.out.at 3 6 rfl rfl, TE.out.at 6 0 rfl rfl, TE.out.at 6 1 rfl rfl, TE.out.at 6 2 rfl rfl, TE.out.at 6 3 rfl rfl, TE.out.at 6 4 rfl rfl, TE.out.at 6 5 rfl rfl, TE.out.at 6 6 rfl rfl⟩ | exact ⟨TF.out.at 3 0 rfl rfl, TF.out.at 3 1 rfl rfl, TF.out.at 3 2 rfl rfl, TF.out.at 3 3 rfl rfl, TF.out.at 3 4 rfl rfl, TF.out.at 3 5 rfl rfl, TF.out.at 3 6 rfl rfl, TF.out.at 6 0 rfl rfl, TF.out.at 6 1 rfl rfl, TF.out.at 6 2 rfl rfl, TF.out.at 6 3 rfl rfl, TF.out.at 6 4 rfl rfl, TF.out.at 6 5 rfl rfl, TF.out.at 6 6 rfl rfl⟩) (first
    | (go_at_call 7; (with_reducible refine Calls.mono (tod_tk (fc := fc) (vc := vc) (cap := cap) TD.out HO.out HLE.out H.out HVL.out HK.out HD.out) ?_); rintro en w9 ⟨f7, g7, v7, y7, a7, p7, rfl, tE, sE⟩; have TE := hide tE; clear tE)
    | (go_at_call 11; (with_reducible refine Calls.mono (eqd_tk TE.out 4 0 HOD.out rfl rfl) ?_); rintro en w10 ⟨rfl, tF, sF⟩; have TF := hide tF; clear tF))
  all_goals
    clear TD TE x0 x1 x2 x3 x4 x5 x6 k0 k1 k2 k3 k4 k5 k6
    go_wp2_with fail
    refine (torw_tk (cap := rc) TF.out HRR.out HRL.out).mono ?_
    rintro e w11 ⟨rg8, rfl, qT11, sT11⟩
    have T11 := hide qT11
    clear qT11 TF
    go_wp2_with fail
    refine (eqrw_tk T11.out 3 0 HRN.out (by have := HRL.out; omega) rfl rfl).mono ?_
    rintro e w12 ⟨rfl, qT12, sT12⟩
    have T12 := hide qT12
    clear qT12 T11
    have zx := ZX.out
    obtain ⟨x0, x1, x2, x3, x4, x5, x6⟩ : w12.cell? ⟨w5.heap.size, 0, none⟩ = some (.slice f4 d.flash.length g4) ∧ w12.cell? ⟨w5.heap.size, 1, none⟩ = some (.slice v4 d.store.vols.length y4) ∧ w12.cell? ⟨w5.heap.size, 2, none⟩ = some (.slice a4 d.store.kns.length p4) ∧ w12.cell? ⟨w5.heap.size, 3, none⟩ = some (.int .i64 d.store.next) ∧ w12.cell? ⟨w5.heap.size, 4, none⟩ = some (.int .i64 d.seq) ∧ w12.cell? ⟨w5.heap.size, 5, none⟩ = some (.int .i64 d.tx) ∧ w12.cell? ⟨w5.heap.size, 6, none⟩ = some (.int .i64 d.base) := ⟨T12.out.at 4 0 rfl rfl, T12.out.at 4 1 rfl rfl, T12.out.at 4 2 rfl rfl, T12.out.at 4 3 rfl rfl, T12.out.at 4 4 rfl rfl, T12.out.at 4 5 rfl rfl, T12.out.at 4 6 rfl rfl⟩
    have hx1 : w.heap.size + 1 ≤ w1.heap.size := HX1.out
    go_wp2_with fail
    refine (markd_sp (hs' := [(wx.heap.size, w6.heap.size, RcH wx.heap.size w6.heap.size (.slice (some ⟨rg5, 0, none⟩) rl rl) rl lr), (w6.heap.size, w7.heap.size, SpH w6.heap.size w7.heap.size (.slice ra6 m rc6) m L), (w3.heap.size, w4.heap.size, SpH w3.heap.size w4.heap.size (.slice ra3 m rc3) m L), (w.heap.size, w.heap.size + 1, Cel w.heap.size #[.slice fa n fc, .slice va vl vc, .slice ad len cap, .int .i64 nx, .int .i64 sq, .int .i64 tx, .int .i64 bs] 32)]) T12.out 5 HOD.out HZ1.out HZ2.out (by omega) rfl (by
      intro x hx
      simp only [List.mem_cons, List.not_mem_nil, or_false] at hx ⊢
      rcases hx with rfl | rfl | rfl | rfl
      · exact ⟨.inr (.inr (.inr (.inl rfl))), by simp only; omega⟩
      · exact ⟨.inr (.inr (.inl rfl)), by simp only; omega⟩
      · exact ⟨.inr (.inr (.inr (.inr (.inr (.inr (.inl rfl)))))), by simp only; omega⟩
      · exact ⟨.inr (.inr (.inr (.inr (.inr (.inr (.inr rfl)))))), by simp only; omega⟩)).mono ?_
    rintro e w13 ⟨⟨rk, rfl, hrk, hrk2⟩, qT13, sT13⟩
    have T13 := hide qT13
    clear qT13 T12
    clear x0 x1 x2 x3 x4 x5 x6
    obtain ⟨rk2, hrk3⟩ : ∃ rk2 : Nat, rk + rl * 4 = rk2 := ⟨_, rfl⟩
    have HRK := hide hrk3
    have hrl2 := HRL.out
    go_wp2_with fail
    refine (markrk_sp (hs' := [(w6.heap.size, w7.heap.size, SpH w6.heap.size w7.heap.size (.slice ra6 m rc6) m L), (w3.heap.size, w4.heap.size, SpH w3.heap.size w4.heap.size (.slice ra3 m rc3) m L), (w.heap.size, w.heap.size + 1, Cel w.heap.size #[.slice fa n fc, .slice va vl vc, .slice ad len cap, .int .i64 nx, .int .i64 sq, .int .i64 tx, .int .i64 bs] 32)]) T13.out 0 HRN.out (by omega) hrk hrk2 HRK.out (by omega) rfl (by
      intro x hx
      simp only [List.mem_cons, List.not_mem_nil, or_false] at hx ⊢
      rcases hx with rfl | rfl | rfl
      · exact ⟨.inr (.inl rfl), by simp only; omega⟩
      · exact ⟨.inr (.inr (.inl rfl)), by simp only; omega⟩
      · exact ⟨.inr (.inr (.inr rfl)), by simp only; omega⟩)).mono ?_
    rintro e w14 ⟨rfl, qT14, sT14⟩
    have T14 := hide qT14
    clear qT14 T13
    have nrk : ¬ ((rk2 : Int) < 0) := by omega
    clear hrk3
    go_wp2_with fail
    refine (eqsw_tk T14.out 0 1 HM.out HNB.out rfl rfl).mono ?_
    rintro e w15 ⟨rfl, qT15, sT15⟩
    have T15 := hide qT15
    clear qT15 T14
    go_wp2_with fail
    refine (marksw_tk (hs' := [(w3.heap.size, w4.heap.size, SpH w3.heap.size w4.heap.size (.slice ra3 m rc3) m L), (w.heap.size, w.heap.size + 1, Cel w.heap.size #[.slice fa n fc, .slice va vl vc, .slice ad len cap, .int .i64 nx, .int .i64 sq, .int .i64 tx, .int .i64 bs] 32)]) T15.out 0 HM.out HNB.out HMM.out (by omega) rfl (by
      intro x hx
      simp only [List.mem_cons, List.not_mem_nil, or_false] at hx ⊢
      rcases hx with rfl | rfl
      · exact ⟨.inr (.inl rfl), by simp only; omega⟩
      · exact ⟨.inr (.inr rfl), by simp only; omega⟩)).mono ?_
    rintro e w16 ⟨rfl, qT16, sT16⟩
    have T16 := hide qT16
    clear qT16 T15
    go_wp2_with fail
    refine (heldsw_tk T16.out 0 HNB.out HMM.out rfl).mono ?_
    rintro e w17 ⟨rfl, qT17, sT17⟩
    have T17 := hide qT17
    clear qT17 T16
    obtain ⟨k0, k1, k2, k3, k4, k5, k6⟩ : w17.cell? ⟨w.heap.size, 0, none⟩ = some (.slice fa n fc) ∧ w17.cell? ⟨w.heap.size, 1, none⟩ = some (.slice va vl vc) ∧ w17.cell? ⟨w.heap.size, 2, none⟩ = some (.slice ad len cap) ∧ w17.cell? ⟨w.heap.size, 3, none⟩ = some (.int .i64 nx) ∧ w17.cell? ⟨w.heap.size, 4, none⟩ = some (.int .i64 sq) ∧ w17.cell? ⟨w.heap.size, 5, none⟩ = some (.int .i64 tx) ∧ w17.cell? ⟨w.heap.size, 6, none⟩ = some (.int .i64 bs) := ⟨T17.out.at 2 0 rfl rfl, T17.out.at 2 1 rfl rfl, T17.out.at 2 2 rfl rfl, T17.out.at 2 3 rfl rfl, T17.out.at 2 4 rfl rfl, T17.out.at 2 5 rfl rfl, T17.out.at 2 6 rfl rfl⟩
    go_wp2_with fail
    refine (tod_tk (fc := fc) (vc := vc) (cap := cap) T17.out HO.out HLE.out H.out HVL.out HK.out HD.out).mono ?_
    rintro e w18 ⟨f9, g9, v9, y9, a9, p9, rfl, qT18, sT18⟩
    have T18 := hide qT18
    clear qT18 T17 k0 k1 k2 k3 k4 k5 k6
    go_wp2_with fail
    refine (torw_tk (cap := rc) T18.out HRR.out HRL.out).mono ?_
    rintro e w19 ⟨rg10, rfl, qT19, sT19⟩
    have T19 := hide qT19
    clear qT19 T18
    go_wp2_with fail
    refine (lawWrO_tk HIH.out HP.out HM.out T19.out 1 HOD.out rfl (HV.out.on T19.out.1) 0 HRN.out HRL.out rfl HTT.out).mono ?_
    rintro e w20 ⟨ra11, rc11, rfl, qT20, sT20⟩
    have T20 := hide qT20
    clear qT20 T19
    go_wp2_with fail
    refine (eqsw_tk T20.out 0 4 HM.out HNB.out rfl rfl).mono ?_
    rintro e w21 ⟨rfl, qT21, sT21⟩
    have T21 := hide qT21
    clear qT21 T20
    go_wp2_with fail
    refine (heldsw_tk T21.out 3 HNB.out HMM.out rfl).mono ?_
    rintro e w22 ⟨rfl, qT22, sT22⟩
    have T22 := hide qT22
    clear qT22 T21
    go_wp2
    go_ret
    exact ⟨rfl, T22.out.1⟩
end Go.Proofs.YtcofcmkajhhfaaaGreatDoor
