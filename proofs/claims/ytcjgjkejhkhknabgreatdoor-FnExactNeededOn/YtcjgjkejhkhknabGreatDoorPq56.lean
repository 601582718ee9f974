/-
  LawNO; OpVl; OpKn; OpSto
-/
import Derived.Test.YtcjgjkejhkhknabGreatDoorPq18
import Derived.Test.YtcjgjkejhkhknabGreatDoorPq54
import Derived.Test.YtcjgjkejhkhknabGreatDoorPq55
import Derived.Deep.RegionHeld3
import Derived.Test.YtcjgjkejhkhknabGreatDoorPq0
import Derived.ProofKit
import Derived.OpenShut
import Derived.ShutString
import Derived.Deep.Strs
import Derived.Deep.Slices
import Derived.Test.YtcjgjkejhkhknabGreatDoorPq1
/-
  FnExactNeededOn.
-/
namespace Go.Proofs.YtcjgjkejhkhknabGreatDoor
open Go.RowKit
open Words Sums

theorem sno_tk {w wi : World} {hs : List Hold} {v u : Value} {bs : List Bk} {s : Sto} {l1 h1 l2 h2 : Nat} (base b : Int) (T : Tk w wi hs) (n1 n2 : Nat) (ho : Okk bs) (htx : TxK bs) (hs2 : OkS s) (e1 : hs[n1]? = some (l1, h1, Fla l1 h1 v bs)) (e2 : hs[n2]? = some (l2, h2, Sts l2 h2 u s)) :
    Calls Tryz.prog 13 #[.agg #[v], u, .int .i64 base, .int .i64 b] wi fun e w' => e = .returned (.int .i64 ((neededP (scanF bs) (liveS s) base b : Nat) : Int)) ∧ Tk w w' hs ∧ wi.heap.size ≤ w'.heap.size := by
  obtain ⟨ss, e3, i1, l, ll, -⟩ := (T.get n1 e1).lens ho
  subst e3
  refine (sneededOn v ss u s base b wi l ll (by intro q hq t ht; exact htx _ (List.mem_map_of_mem (f := tellOf) hq) t ht) i1.rd ((T.get n2 e2).rd hs2.fit (T.hi n2 e2))).mono ?_
  rintro e w' ⟨rfl, hb⟩
  exact ⟨rfl, T.below hb, hb.size⟩
theorem ino_tk {w wi : World} {hs : List Hold} {v u : Value} {bs : List Bk} {s : Sto} {l1 h1 l2 h2 : Nat} (base b : Int) (T : Tk w wi hs) (n1 n2 : Nat) (ho : Okk bs) (htx : TxK bs) (hs2 : OkS s) (e1 : hs[n1]? = some (l1, h1, Fla l1 h1 v bs)) (e2 : hs[n2]? = some (l2, h2, Sts l2 h2 u s)) (hv : HalvIn wi) :
    Calls Tryz.prog 15 #[.agg #[v], u, .int .i64 base, .int .i64 b] wi fun e w' => e = .returned (.int .i64 ((neededP (scanF bs) (liveS s) base b : Nat) : Int)) ∧ Tk w w' hs ∧ wi.heap.size ≤ w'.heap.size := by
  obtain ⟨ss, e3, i1, l, ll, -⟩ := (T.get n1 e1).lens ho
  subst e3
  refine (ineededOn v ss u s base b wi l ll (by intro q hq t ht; exact htx _ (List.mem_map_of_mem (f := tellOf) hq) t ht) i1.rd ((T.get n2 e2).rd hs2.fit (T.hi n2 e2)) hv).mono ?_
  rintro e w' ⟨rfl, hb⟩
  exact ⟨rfl, T.below hb, hb.size⟩

set_option maxHeartbeats 2000000 in
set_option maxRecDepth 100000 in
theorem lawNO_any (a : Option Addr) (len cap : Nat) (rs : List Rw) (va : Option Addr) (vl vc : Nat) (ad : Option Addr) (kl kc : Nat) (nx : Int) (vs : List (Int × Int)) (ks : List Kw) (base b : Int) (w : World) (hv : HalvIn w) (h : BkRow w a len rs) (hvl : VlRow w va vl vs) (hkn : KnRd w ad kl ks) :
    Calls Tryz.prog 4 #[.agg #[.slice a len cap], .agg #[.slice va vl vc, .slice ad kl kc, .int .i64 nx], .int .i64 base, .int .i64 b] w fun e w' => e = .returned (.bool true) ∧ Below w.heap.size w w' := by
  obtain ⟨bs, hbs⟩ : ∃ bs, rs.map tellOf = bs := ⟨_, rfl⟩
  have hz0 : (w.alloc (.cells #[.slice a len cap] 24)).heap.size = w.heap.size + 1 := by simp
  have T00 := ((Tk.start w).cell #[.slice a len cap] 24).cell #[.slice va vl vc, .slice ad kl kc, .int .i64 nx] 41
  rw [hz0] at T00
  have T0 := hide T00
  have H := hide h
  have HV := hide hv
  have HVL := hide hvl
  have HKN := hide hkn
  have H1 := hide hvl.1
  have H2 := hide hvl.2.1
  have K1 := hide hkn.1
  have HBS := hide hbs
  have hlen := h.1
  clear h hbs hv hvl hkn T00
  go_enter Tryz.func4, Tryz.ntmps4
  go_wp2_with fail
  generalize (w.alloc (.cells #[.slice a len cap] 24)).alloc (.cells #[.slice va vl vc, .slice ad kl kc, .int .i64 nx] 41) = w0 at T0 ⊢
  have i0 : w0.cell? ⟨w.heap.size + 1, 0, none⟩ = some (.slice va vl vc) := T0.out.at 0 0 rfl rfl
  refine (szFlash_any a len cap rs 1048576 _ (Nat.le_refl _) (H.out.below T0.out.1)).mono ?_
  rintro e w1 ⟨⟨r, rfl, r1, r2, r3⟩, b1⟩
  have T1 := hide (T0.out.below b1)
  have k1 : w1.cell? ⟨w.heap.size, 0, none⟩ = some (.slice a len cap) := T1.out.at 1 0 rfl rfl
  have m0 : w1.cell? ⟨w.heap.size + 1, 0, none⟩ = some (.slice va vl vc) := T1.out.at 0 0 rfl rfl
  have m1 : w1.cell? ⟨w.heap.size + 1, 1, none⟩ = some (.slice ad kl kc) := T1.out.at 0 1 rfl rfl
  have m2 : w1.cell? ⟨w.heap.size + 1, 2, none⟩ = some (.int .i64 nx) := T1.out.at 0 2 rfl rfl
  clear b1 T0 i0
  by_cases hr : r < 0
  · clear r2 r3
    go_wp2
    go_ret
    exact ⟨rfl, T1.out.1⟩
  · have hzr : r ≤ 1048576 := by have := r2 (by omega); omega
    obtain ⟨hl, hll, ho⟩ := meas (by omega) (r2 (by omega))
    have htx := tx_tell (r3 (by omega))
    rw [HBS.out] at ho htx
    have HLL := hide hll
    have HO := hide ho
    have HTX := hide htx
    have hl2 : len ≤ 1048576 := by omega
    have HLE := hide hl2
    clear r2 r3 hll ho htx hl2
    obtain ⟨z0, rfl⟩ : ∃ z0 : Nat, r = (z0 : Int) := ⟨r.toNat, by omega⟩
    have hz1 : z0 ≤ 1048576 := by omega
    go_wp2_with fail
    refine (szSto_any va vl vc ad kl kc nx ks z0 _ hz1 H2.out (HKN.out.below T1.out.1)).mono ?_
    rintro e w2 ⟨⟨q0, rfl, q1, q2, q3⟩, b2⟩
    have T2 := hide (T1.out.below b2)
    have k2 : w2.cell? ⟨w.heap.size, 0, none⟩ = some (.slice a len cap) := T2.out.at 1 0 rfl rfl
    have n0 : w2.cell? ⟨w.heap.size + 1, 0, none⟩ = some (.slice va vl vc) := T2.out.at 0 0 rfl rfl
    have n1 : w2.cell? ⟨w.heap.size + 1, 1, none⟩ = some (.slice ad kl kc) := T2.out.at 0 1 rfl rfl
    have n2 : w2.cell? ⟨w.heap.size + 1, 2, none⟩ = some (.int .i64 nx) := T2.out.at 0 2 rfl rfl
    clear b2 T1 k1 m0 m1 m2
    by_cases hq : q0 < 0
    · clear q3
      go_wp2
      go_ret
      exact ⟨rfl, T2.out.1⟩
    · have h3 := q3 (by omega)
      have hvle : vl ≤ 1048576 := by omega
      have hkle : kl ≤ 1048576 := by omega
      have HKL : Hid (∀ r ∈ ks, r.2.2.length ≤ 1048576) := fun r hr2 => by have := ksum_mem hr2; omega
      obtain ⟨s, hs⟩ : ∃ s : Sto, s = ⟨vs, ks.map ktell, nx⟩ := ⟨_, rfl⟩
      have OK : Hid (OkS s) := by
        have e1 := H1.out
        have e2 := K1.out
        have e3 := ksum_kids ks
        rw [hs]
        exact OkS.of (show vs.length ≤ _ by omega) (by show (ks.map ktell).length ≤ _; rw [List.length_map]; omega) (show kkids (ks.map ktell) ≤ _ by omega)
      have HS := hide hs
      have HVE := hide hvle
      have HKE := hide hkle
      have T2d := hide T2.out.drew
      have S2 : Hid ((w2.drew.cell? ⟨w.heap.size, 0, none⟩ = some (.slice a len cap)) ∧ w2.drew.cell? ⟨w.heap.size + 1, 0, none⟩ = some (.slice va vl vc) ∧ w2.drew.cell? ⟨w.heap.size + 1, 1, none⟩ = some (.slice ad kl kc) ∧ w2.drew.cell? ⟨w.heap.size + 1, 2, none⟩ = some (.int .i64 nx)) := ⟨k2, n0, n1, n2⟩
      clear q3 h3 hs T2
      go_wp2
      go_region_held3 (fun w' => (w'.cell? ⟨w.heap.size, 0, none⟩ = some (.slice a len cap)) ∧ w'.cell? ⟨w.heap.size + 1, 0, none⟩ = some (.slice va vl vc) ∧ w'.cell? ⟨w.heap.size + 1, 1, none⟩ = some (.slice ad kl kc) ∧ w'.cell? ⟨w.heap.size + 1, 2, none⟩ = some (.int .i64 nx)) (first | go_keep | exact S2.out | exact ⟨T3.out.at 2 0 rfl rfl, T3.out.at 1 0 rfl rfl, T3.out.at 1 1 rfl rfl, T3.out.at 1 2 rfl rfl⟩ | exact ⟨T4.out.at 3 0 rfl rfl, T4.out.at 2 0 rfl rfl, T4.out.at 2 1 rfl rfl, T4.out.at 2 2 rfl rfl⟩ | exact ⟨T5.out.at 3 0 rfl rfl, T5.out.at 2 0 rfl rfl, T5.out.at 2 1 rfl rfl, T5.out.at 2 2 rfl rfl⟩) (first
        | (go_at_call 7; refine (to_tk T2d.out H.out HBS.out HLE.out HLL.out).mono ?_; rintro en w3 ⟨ad1, cap1, rfl, t3, -⟩; have T3 := hide t3; clear t3)
        | (go_at_call 14; refine (tosto_tk (vc := vc) (cap := kc) T3.out HVL.out HKN.out HVE.out HKE.out HKL.out HS.out).mono ?_; rintro en w4 ⟨g1, g2, rfl, t4, -⟩; have T4 := hide t4; clear t4)
        | (go_at_call 13; refine (sno_tk base b T4.out 1 0 HO.out HTX.out OK.out rfl rfl).mono ?_; rintro en w5 ⟨rfl, t5, -⟩; have T5 := hide t5; clear t5))
      all_goals
        have T6 := hide (T5.out.drop (hs' := [(w.heap.size + 1, w.heap.size + 1 + 1, Cel (w.heap.size + 1) #[.slice va vl vc, .slice ad kl kc, .int .i64 nx] 41), (w.heap.size, w.heap.size + 1, Cel w.heap.size #[.slice a len cap] 24)]) (by intro x hx; simp only [List.mem_cons, List.not_mem_nil, or_false] at hx ⊢; rcases hx with hx | hx <;> simp [hx]))
        clear T5 T4 T3 T2d S2 k2 n0 n1 n2
        have k5 : w5.cell? ⟨w.heap.size, 0, none⟩ = some (.slice a len cap) := T6.out.at 1 0 rfl rfl
        obtain ⟨ok, hok⟩ : ∃ ok, ((neededP (scanF bs) (liveS s) base b : Nat) : Int) = ok := ⟨_, rfl⟩
        rw [hok]
        have HOK := hide hok
        clear hok
        go_wp2_with fail
        refine (to_tk T6.out H.out HBS.out HLE.out HLL.out).mono ?_
        rintro e w7 ⟨ad2, cap2, rfl, t7, -⟩
        have T8 := hide (t7.cell #[.slice ad2 bs.length cap2] 30)
        generalize hw8 : w7.alloc (.cells #[.slice ad2 bs.length cap2] 30) = w8 at T8
        have n0 : w8.cell? ⟨w.heap.size + 1, 0, none⟩ = some (.slice va vl vc) := T8.out.at 2 0 rfl rfl
        have n1 : w8.cell? ⟨w.heap.size + 1, 1, none⟩ = some (.slice ad kl kc) := T8.out.at 2 1 rfl rfl
        have n2 : w8.cell? ⟨w.heap.size + 1, 2, none⟩ = some (.int .i64 nx) := T8.out.at 2 2 rfl rfl
        clear t7 T6 k5
        go_wp2_with fail
        clear hw8
        refine (tosto_tk (vc := vc) (cap := kc) T8.out HVL.out HKN.out HVE.out HKE.out HKL.out HS.out).mono ?_
        rintro e w9 ⟨g3, g4, rfl, t9, -⟩
        have TA := hide (t9.cell #[.slice (some ⟨g3, 0, none⟩) vl vl, .slice (some ⟨g4, 0, none⟩) kl kl, .int .i64 nx] 49)
        generalize hwA : w9.alloc (.cells #[.slice (some ⟨g3, 0, none⟩) vl vl, .slice (some ⟨g4, 0, none⟩) kl kl, .int .i64 nx] 49) = wA at TA
        have x0 : wA.cell? ⟨w7.heap.size, 0, none⟩ = some (.slice ad2 bs.length cap2) := TA.out.at 2 0 rfl rfl
        have y0 : wA.cell? ⟨w9.heap.size, 0, none⟩ = some (.slice (some ⟨g3, 0, none⟩) vl vl) := TA.out.at 0 0 rfl rfl
        have y1 : wA.cell? ⟨w9.heap.size, 1, none⟩ = some (.slice (some ⟨g4, 0, none⟩) kl kl) := TA.out.at 0 1 rfl rfl
        have y2 : wA.cell? ⟨w9.heap.size, 2, none⟩ = some (.int .i64 nx) := TA.out.at 0 2 rfl rfl
        clear t9 T8 n0 n1 n2
        go_wp2_with fail
        clear hwA
        refine (ino_tk base b TA.out 3 1 HO.out HTX.out OK.out rfl rfl (HV.out.on TA.out.1)).mono ?_
        rintro e wB ⟨rfl, tB, -⟩
        rw [HOK.out]
        have hne : (ok != ok) = false := by simp
        have TBd := hide tB.drew
        have S3 : Hid ((wB.drew.cell? ⟨w7.heap.size, 0, none⟩ = some (.slice ad2 bs.length cap2)) ∧ wB.drew.cell? ⟨w.heap.size, 0, none⟩ = some (.slice a len cap)) := ⟨TBd.out.at 2 0 rfl rfl, TBd.out.at 5 0 rfl rfl⟩
        have z0' : wB.cell? ⟨w7.heap.size, 0, none⟩ = some (.slice ad2 bs.length cap2) := tB.at 2 0 rfl rfl
        have z1' : wB.cell? ⟨w.heap.size, 0, none⟩ = some (.slice a len cap) := tB.at 5 0 rfl rfl
        clear tB TA x0 y0 y1 y2
        go_wp2
        go_region_held3 (fun w' => (w'.cell? ⟨w7.heap.size, 0, none⟩ = some (.slice ad2 bs.length cap2)) ∧ w'.cell? ⟨w.heap.size, 0, none⟩ = some (.slice a len cap)) (first | go_keep | exact S3.out | exact ⟨TC.out.at 3 0 rfl rfl, TC.out.at 6 0 rfl rfl⟩ | exact ⟨TD.out.at 3 0 rfl rfl, TD.out.at 6 0 rfl rfl⟩) (first
          | (go_at_call 7; refine (to_tk TBd.out H.out HBS.out HLE.out HLL.out).mono ?_; rintro en wC ⟨ad3, cap3, rfl, tC, -⟩; have TC := hide tC; clear tC)
          | (go_at_call 10; refine (eq_tk TC.out 4 0 HO.out rfl rfl).mono ?_; rintro en wD ⟨rfl, tD, -⟩; have TD := hide tD; clear tD))
        all_goals
          have y0 : wD.cell? ⟨w9.heap.size, 0, none⟩ = some (.slice (some ⟨g3, 0, none⟩) vl vl) := TD.out.at 1 0 rfl rfl
          have y1 : wD.cell? ⟨w9.heap.size, 1, none⟩ = some (.slice (some ⟨g4, 0, none⟩) kl kl) := TD.out.at 1 1 rfl rfl
          have y2 : wD.cell? ⟨w9.heap.size, 2, none⟩ = some (.int .i64 nx) := TD.out.at 1 2 rfl rfl
          have n0 : wD.cell? ⟨w.heap.size + 1, 0, none⟩ = some (.slice va vl vc) := TD.out.at 5 0 rfl rfl
          have n1 : wD.cell? ⟨w.heap.size + 1, 1, none⟩ = some (.slice ad kl kc) := TD.out.at 5 1 rfl rfl
          have n2 : wD.cell? ⟨w.heap.size + 1, 2, none⟩ = some (.int .i64 nx) := TD.out.at 5 2 rfl rfl
          have TDd := hide TD.out.drew
          have S4 : Hid ((wD.drew.cell? ⟨w9.heap.size, 0, none⟩ = some (.slice (some ⟨g3, 0, none⟩) vl vl) ∧ wD.drew.cell? ⟨w9.heap.size, 1, none⟩ = some (.slice (some ⟨g4, 0, none⟩) kl kl) ∧ wD.drew.cell? ⟨w9.heap.size, 2, none⟩ = some (.int .i64 nx)) ∧ wD.drew.cell? ⟨w.heap.size + 1, 0, none⟩ = some (.slice va vl vc) ∧ wD.drew.cell? ⟨w.heap.size + 1, 1, none⟩ = some (.slice ad kl kc) ∧ wD.drew.cell? ⟨w.heap.size + 1, 2, none⟩ = some (.int .i64 nx)) := ⟨⟨y0, y1, y2⟩, n0, n1, n2⟩
          clear TC TBd S3 z0' z1' TD
          go_wp2
          go_region_held3 (fun w' => (w'.cell? ⟨w9.heap.size, 0, none⟩ = some (.slice (some ⟨g3, 0, none⟩) vl vl) ∧ w'.cell? ⟨w9.heap.size, 1, none⟩ = some (.slice (some ⟨g4, 0, none⟩) kl kl) ∧ w'.cell? ⟨w9.heap.size, 2, none⟩ = some (.int .i64 nx)) ∧ w'.cell? ⟨w.heap.size + 1, 0, none⟩ = some (.slice va vl vc) ∧ w'.cell? ⟨w.heap.size + 1, 1, none⟩ = some (.slice ad kl kc) ∧ w'.cell? ⟨w.heap.size + 1, 2, none⟩ = some (.int .i64 nx)) (first | go_keep | exact S4.out | exact ⟨⟨TE.out.at 2 0 rfl rfl, TE.out.at 2 1 rfl rfl, TE.out.at 2 2 rfl rfl⟩, TE.out.at 6 0 rfl rfl, TE.out.at 6 1 rfl rfl, TE.out.at 6 2 rfl rfl⟩ | exact ⟨⟨TF.out.at 2 0 rfl rfl, TF.out.at 2 1 rfl rfl, TF.out.at 2 2 rfl rfl⟩, TF.out.at 6 0 rfl rfl, TF.out.at 6 1 rfl rfl, TF.out.at 6 2 rfl rfl⟩) (first
            | (go_at_call 14; refine (tosto_tk (vc := vc) (cap := kc) TDd.out HVL.out HKN.out HVE.out HKE.out HKL.out HS.out).mono ?_; rintro en wE ⟨g5, g6, rfl, tE, -⟩; have TE := hide tE; clear tE)
            | (go_at_call 16; refine (eqsto_tk TE.out 3 0 OK.out rfl rfl).mono ?_; rintro en wF ⟨rfl, tF, -⟩; have TF := hide tF; clear tF))
          all_goals
            go_wp2
            go_ret
            exact ⟨rfl, TF.out.1⟩
theorem lawNO_card (a : Option Addr) (len cap : Nat) (rs : List Rw) (va : Option Addr) (vl vc : Nat) (ad : Option Addr) (kl kc : Nat) (nx : Int) (vs : List (Int × Int)) (ks : List Kw) (base b : Int) {w : World} (h : BkRow w a len rs) (hvl : VlRow w va vl vs) (hkn : KnRd w ad kl ks) (_ : World) (hv : HalvIn w) :
    Calls Tryz.prog 4 #[.agg #[.slice a len cap], .agg #[.slice va vl vc, .slice ad kl kc, .int .i64 nx], .int .i64 base, .int .i64 b] w fun e w' => e = .returned (.bool true) ∧ Below w.heap.size w w' := lawNO_any a len cap rs va vl vc ad kl kc nx vs ks base b w hv h hvl hkn
end Go.Proofs.YtcjgjkejhkhknabGreatDoor

/-
  A Vol that comes in as an argument, and a row of them.
-/
namespace Go.Proofs.YtcjgjkejhkhknabGreatDoor
open Go.ChangeShapes Go.WideShapes Go.ChangeAt Go.RowKit Go.Deep
set_option maxRecDepth 100000

section
variable {H : Type} {enc : TypeId × Value → H} {w : World} {base : Nat} {sp : Nat → Bool} {held : Bool}
theorem cells9Vl : Tryz.prog.cellsOf 9 = 1 := by kernel_rfl
theorem cells3Vl : Tryz.prog.cellsOf 3 = 1 := by kernel_rfl
theorem cells4Vl : Tryz.prog.cellsOf 4 = 1 := by kernel_rfl
theorem cellsVl : Tryz.prog.cellsOf 110 = 2 := by kernel_rfl
theorem addrVl (b off j : Nat) : (⟨b, off, none⟩ : Addr).add j = ⟨b, off + j, none⟩ := by
  simp only [Addr.add]
  split <;> simp_all
theorem trodVl {P : Program} {t : TypeId} {f0 f1 : Field} {fuel : Nat} {cs : List Value} {x : DataW H × List MemPlace} (ht : P.underlying t = some (.struct #[f0, f1])) (h : DataW.trod enc P w base sp held fuel t cs = some x) :
    ∃ y0 y1 n, DataW.trod enc P w base sp held n f0.type ((cs.drop f0.offset).take (P.cellsOf f0.type)) = some y0 ∧ DataW.trod enc P w base sp held n f1.type ((cs.drop f1.offset).take (P.cellsOf f1.type)) = some y1 := by
  obtain ⟨xs, n, _, rfl, hl, hlen, hf⟩ := DataW.trod_struct ht h
  match xs, hlen with
  | [y0, y1], _ => exact ⟨y0, y1, n, by simpa using hf 0 f0 rfl, by simpa using hf 1 f1 rfl⟩

theorem open_vl {r : Reach} {b0 : Nat} {v : Value} {d : DataW H} {ps : List MemPlace} (hval : Value.okWide Tryz.prog w r b0 110 v) (hd : DataW.Trod enc Tryz.prog w base sp held 110 v d ps) :
    ∃ (x0 : Int) (x1 : Int), v = .agg #[.int .i64 x0, .int .i64 x1] ∧ True := by
  obtain ⟨cs, rfl, hcs⟩ := okWide_struct Tryz.underlying110 hval
  obtain ⟨fuel, hf⟩ := hd
  obtain ⟨y0, y1, n, h0, h1⟩ := trodVl Tryz.underlying110 hf
  rw [cellsVl] at hcs
  simp only [cells3Vl, Value.cells] at h0 h1
  match cs, hcs with
  | ⟨[u0, u1]⟩, _ =>
    obtain ⟨k0, e0, -, -⟩ := DataW.trod_int Tryz.underlying3 h0
    obtain ⟨k1, e1, -, -⟩ := DataW.trod_int Tryz.underlying3 h1
    simp at e0 e1
    subst e0 e1
    exact ⟨k0, k1, rfl, trivial⟩
theorem open_vls {a : Option Addr} {len cap : Nat} {d : DataW H} {ps : List MemPlace} (hd : DataW.Trod enc Tryz.prog w base sp held 36 (.slice a len cap) d ps) : ∃ ls, VlRow w a len ls := by
  obtain ⟨fuel, hf⟩ := hd
  rcases open_slice Tryz.underlying36 hf with ⟨hcs, _⟩ | ⟨x, l, c, m, n, D, Pl, hcs, _, hl, hm, hmm, _, hx⟩
  · simp [Value.cells] at hcs
    obtain ⟨rfl, rfl, rfl⟩ := hcs
    exact ⟨[], rfl, by omega, by simp, fun h => by omega⟩
  · simp [Value.cells] at hcs
    obtain ⟨rfl, rfl, rfl⟩ := hcs
    have hlm : len ≤ m := by rw [hmm]; split <;> omega
    have each : ∀ i, i < len → ∃ t : Int × Int, w.cell? (x.add (i * 2)) = some (.int .i64 t.1) ∧ w.cell? (x.add (i * 2 + 1)) = some (.int .i64 t.2) ∧ True := by
      intro i hi
      obtain ⟨cs, h1, h2⟩ := hx i (by omega)
      rw [cellsVl] at h1
      obtain ⟨_, hlen, hcell⟩ := World.cells?_some h1
      obtain ⟨y0, y1, k, g0, g1⟩ := trodVl Tryz.underlying110 h2
      simp only [cells3Vl] at g0 g1
      match cs, hlen with
      | [u0, u1], _ =>
        obtain ⟨k0, e0, -, -⟩ := DataW.trod_int Tryz.underlying3 g0
        obtain ⟨k1, e1, -, -⟩ := DataW.trod_int Tryz.underlying3 g1
        simp at e0 e1
        subst e0 e1
        have f0 := hcell 0 (by simp)
        have f1 := hcell 1 (by simp)
        rw [add_add] at f0 f1
        exact ⟨(k0, k1), by simpa using f0, by simpa using f1, trivial⟩
    obtain ⟨f, hq⟩ := choose_lt each
    refine ⟨(List.range len).map f, by simp, by omega, ?_, fun h0 => ?_⟩
    · intro t ht
      obtain ⟨i, hi, rfl⟩ := List.mem_map.1 ht
      exact (hq i (List.mem_range.1 hi)).2.2
    · obtain ⟨b, off, spot⟩ := x
      have hspot : spot = none := by simpa [Addr.add] using World.cell?_spot (hq 0 h0).1
      subst hspot
      refine ⟨b, off, rfl, ?_, fun i t hi => ?_⟩
      · have := World.block_lt_of_cell? w _ (hq 0 h0).1
        rw [addrVl] at this
        exact this
      · obtain ⟨hi1, hi2⟩ := List.getElem?_eq_some_iff.1 hi
        have hil : i < len := by simpa using hi1
        have ht : t = f i := by rw [← hi2]; simp
        subst ht
        have := hq i hil
        rw [addrVl, addrVl] at this
        exact ⟨this.1, this.2.1⟩
end
end Go.Proofs.YtcjgjkejhkhknabGreatDoor

/-
  An arena that comes in as an argument.
-/
namespace Go.Proofs.YtcjgjkejhkhknabGreatDoor
open Go.ChangeShapes Go.WideShapes Go.ChangeAt Go.RowKit Go.Deep
set_option maxRecDepth 100000

section
variable {H : Type} {enc : TypeId × Value → H} {w : World} {base : Nat} {sp : Nat → Bool} {held : Bool}
theorem kcells3 : Tryz.prog.cellsOf 3 = 1 := by kernel_rfl
theorem kcells4 : Tryz.prog.cellsOf 4 = 1 := by kernel_rfl
theorem kcellsIs : Tryz.prog.cellsOf 25 = 1 := by kernel_rfl
theorem kcellsKn : Tryz.prog.cellsOf 141 = 2 := by kernel_rfl
theorem kaddr (b off j : Nat) : (⟨b, off, none⟩ : Addr).add j = ⟨b, off + j, none⟩ := by
  simp only [Addr.add]
  split <;> simp_all
theorem trodKn2 {P : Program} {t : TypeId} {f0 f1 : Field} {fuel : Nat} {cs : List Value} {x : DataW H × List MemPlace} (ht : P.underlying t = some (.struct #[f0, f1])) (h : DataW.trod enc P w base sp held fuel t cs = some x) :
    ∃ y0 y1 n, DataW.trod enc P w base sp held n f0.type ((cs.drop f0.offset).take (P.cellsOf f0.type)) = some y0 ∧ DataW.trod enc P w base sp held n f1.type ((cs.drop f1.offset).take (P.cellsOf f1.type)) = some y1 := by
  obtain ⟨xs, n, _, rfl, hl, hlen, hf⟩ := DataW.trod_struct ht h
  match xs, hlen with
  | [y0, y1], _ => exact ⟨y0, y1, n, by simpa using hf 0 f0 rfl, by simpa using hf 1 f1 rfl⟩
theorem trodAr1 {P : Program} {t : TypeId} {f0 : Field} {fuel : Nat} {cs : List Value} {x : DataW H × List MemPlace} (ht : P.underlying t = some (.struct #[f0])) (h : DataW.trod enc P w base sp held fuel t cs = some x) :
    ∃ y0 n, DataW.trod enc P w base sp held n f0.type ((cs.drop f0.offset).take (P.cellsOf f0.type)) = some y0 := by
  obtain ⟨xs, n, _, rfl, hl, hlen, hf⟩ := DataW.trod_struct ht h
  match xs, hlen with
  | [y0], _ => exact ⟨y0, n, by simpa using hf 0 f0 rfl⟩
theorem open_isl {v : Value} {fuel : Nat} {y : DataW H × List MemPlace} (hf : DataW.trod enc Tryz.prog w base sp held fuel 25 [v] = some y) : ∃ ls, ISl w v ls := by
  rcases open_slice Tryz.underlying25 hf with ⟨hcs, _⟩ | ⟨x, len, c, m, n, D, Pl, hcs, h1, hl, hm, hmm, h2, hx⟩
  · simp at hcs
    subst hcs
    exact ⟨[], none, 0, rfl, fun _ => rfl, rfl, by unfold maxLen; simp, fun h => by simp at h⟩
  · simp at hcs
    subst hcs
    have hlm : len ≤ m := by rw [hmm]; split <;> omega
    have each : ∀ i, i < len → ∃ t : Int, w.cell? (x.add i) = some (.int .i64 t) := by
      intro i hi
      obtain ⟨cs, h1, h2⟩ := hx i (by omega)
      rw [kcells3] at h1
      obtain ⟨_, hlen, hcell⟩ := World.cells?_some h1
      obtain ⟨k0, e0, -, -⟩ := DataW.trod_int Tryz.underlying3 h2
      subst e0
      have f0 := hcell 0 (by simp)
      rw [add_add] at f0
      exact ⟨k0, by simpa using f0⟩
    obtain ⟨f, hq⟩ := choose_lt each
    refine ⟨(List.range len).map f, some x, c, by simp, (fun e => by cases e), by simp, by simpa using by omega, fun h0 => ?_⟩
    rw [List.length_map, List.length_range] at h0
    obtain ⟨b, off, spot⟩ := x
    have hspot : spot = none := by simpa [Addr.add] using World.cell?_spot (hq 0 h0)
    subst hspot
    refine ⟨b, off, rfl, ?_, fun i t hi => ?_⟩
    · have := World.block_lt_of_cell? w _ (hq 0 h0)
      rw [kaddr] at this
      exact this
    · obtain ⟨hi1, hi2⟩ := List.getElem?_eq_some_iff.1 hi
      have hil : i < len := by simpa using hi1
      have ht : t = f i := by rw [← hi2]; simp
      subst ht
      have := hq i hil
      rw [kaddr] at this
      exact this
theorem open_kns {v : Value} {fuel : Nat} {y : DataW H × List MemPlace} (hf : DataW.trod enc Tryz.prog w base sp held fuel 37 [v] = some y) : ∃ a len cap rs, v = .slice a len cap ∧ KnRd w a len rs := by
  rcases open_slice Tryz.underlying37 hf with ⟨hcs, _⟩ | ⟨x, len, c, m, n, D, Pl, hcs, _, hl, hm, hmm, _, hx⟩
  · simp at hcs
    subst hcs
    exact ⟨none, 0, 0, [], rfl, rfl, by omega, (fun _ h => by cases h), fun h => by omega⟩
  · simp at hcs
    subst hcs
    have hlm : len ≤ m := by rw [hmm]; split <;> omega
    have each : ∀ i, i < len → ∃ t : Kw, w.cell? (x.add (i * 2)) = some (.bool t.1) ∧ w.cell? (x.add (i * 2 + 1)) = some t.2.1 ∧ ISl w t.2.1 t.2.2 := by
      intro i hi
      obtain ⟨cs, h1, h2⟩ := hx i (by omega)
      rw [kcellsKn] at h1
      obtain ⟨_, hlen, hcell⟩ := World.cells?_some h1
      obtain ⟨y0, y1, k, g0, g1⟩ := trodKn2 Tryz.underlying141 h2
      simp only [kcells4, kcellsIs] at g0 g1
      match cs, hlen with
      | [u0, u1], _ =>
        obtain ⟨k0, e0, _⟩ := DataW.trod_bool Tryz.underlying4 g0
        simp at e0
        subst e0
        obtain ⟨ls, hls⟩ := open_isl (v := u1) (by simpa using g1)
        have f0 := hcell 0 (by simp)
        have f1 := hcell 1 (by simp)
        rw [add_add] at f0 f1
        exact ⟨(k0, u1, ls), by simpa using f0, by simpa using f1, hls⟩
    haveI : Inhabited Kw := ⟨(false, .slice none 0 0, [])⟩
    obtain ⟨f, hq⟩ := choose_lt each
    refine ⟨some x, len, c, (List.range len).map f, rfl, by simp, by omega, ?_, fun h0 => ?_⟩
    · intro t ht
      obtain ⟨i, hi, rfl⟩ := List.mem_map.1 ht
      exact (hq i (List.mem_range.1 hi)).2.2
    · obtain ⟨b, off, spot⟩ := x
      have hspot : spot = none := by simpa [Addr.add] using World.cell?_spot (hq 0 h0).1
      subst hspot
      refine ⟨b, off, rfl, ?_, fun i t hi => ?_⟩
      · have := World.block_lt_of_cell? w _ (hq 0 h0).1
        rw [kaddr] at this
        exact this
      · obtain ⟨hi1, hi2⟩ := List.getElem?_eq_some_iff.1 hi
        have hil : i < len := by simpa using hi1
        have ht : t = f i := by rw [← hi2]; simp
        subst ht
        have := hq i hil
        rw [kaddr, kaddr] at this
        exact ⟨this.1, this.2.1⟩
theorem open_arena {r : Reach} {b0 : Nat} {v : Value} {d : DataW H} {ps : List MemPlace} (hval : Value.okWide Tryz.prog w r b0 39 v) (hd : DataW.Trod enc Tryz.prog w base sp held 39 v d ps) : ∃ a len cap rs, v = .agg #[.slice a len cap] ∧ KnRd w a len rs := by
  obtain ⟨cs, rfl, hcs⟩ := okWide_struct Tryz.underlying39 hval
  obtain ⟨fuel, hf⟩ := hd
  obtain ⟨y0, k, g0⟩ := trodAr1 Tryz.underlying39 hf
  have h1 : Tryz.prog.cellsOf 39 = 1 := by kernel_rfl
  have h2 : Tryz.prog.cellsOf 37 = 1 := by kernel_rfl
  rw [h1] at hcs
  rw [h2] at g0
  match cs, hcs with
  | ⟨[u]⟩, _ =>
    obtain ⟨a, len, cap, rs, e, hr⟩ := open_kns (v := u) (by simpa [Value.cells] using g0)
    subst e
    exact ⟨a, len, cap, rs, rfl, hr⟩
end
end Go.Proofs.YtcjgjkejhkhknabGreatDoor

/-
  A Store that comes in as an argument.
-/
namespace Go.Proofs.YtcjgjkejhkhknabGreatDoor
open Go.ChangeShapes Go.WideShapes Go.ChangeAt Go.RowKit Go.Deep
set_option maxRecDepth 100000

section
variable {H : Type} {enc : TypeId × Value → H} {w : World} {base : Nat} {sp : Nat → Bool} {held : Bool}
theorem trodSt3 {P : Program} {t : TypeId} {f0 f1 f2 : Field} {fuel : Nat} {cs : List Value} {x : DataW H × List MemPlace} (ht : P.underlying t = some (.struct #[f0, f1, f2])) (h : DataW.trod enc P w base sp held fuel t cs = some x) :
    ∃ y0 y1 y2 n, DataW.trod enc P w base sp held n f0.type ((cs.drop f0.offset).take (P.cellsOf f0.type)) = some y0 ∧ DataW.trod enc P w base sp held n f1.type ((cs.drop f1.offset).take (P.cellsOf f1.type)) = some y1 ∧ DataW.trod enc P w base sp held n f2.type ((cs.drop f2.offset).take (P.cellsOf f2.type)) = some y2 := by
  obtain ⟨xs, n, _, rfl, hl, hlen, hf⟩ := DataW.trod_struct ht h
  match xs, hlen with
  | [y0, y1, y2], _ => exact ⟨y0, y1, y2, n, by simpa using hf 0 f0 rfl, by simpa using hf 1 f1 rfl, by simpa using hf 2 f2 rfl⟩
theorem open_store {r : Reach} {b0 : Nat} {v : Value} {d : DataW H} {ps : List MemPlace} (hval : Value.okWide Tryz.prog w r b0 41 v) (hd : DataW.Trod enc Tryz.prog w base sp held 41 v d ps) :
    ∃ va vl vc ad len cap nx vs rs, v = .agg #[.slice va vl vc, .slice ad len cap, .int .i64 nx] ∧ VlRow w va vl vs ∧ KnRd w ad len rs := by
  obtain ⟨cs, rfl, hcs⟩ := okWide_struct Tryz.underlying41 hval
  obtain ⟨fuel, hf⟩ := hd
  obtain ⟨y0, y1, y2, k, g0, g1, g2⟩ := trodSt3 Tryz.underlying41 hf
  have h1 : Tryz.prog.cellsOf 41 = 3 := by kernel_rfl
  have h2 : Tryz.prog.cellsOf 36 = 1 := by kernel_rfl
  have h3 : Tryz.prog.cellsOf 39 = 1 := by kernel_rfl
  have h4 : Tryz.prog.cellsOf 37 = 1 := by kernel_rfl
  rw [h1] at hcs
  simp only [h2, h3, kcells3, Value.cells] at g0 g1 g2
  match cs, hcs with
  | ⟨[u0, u1, u2]⟩, _ =>
    simp at g0 g1 g2
    obtain ⟨nx, e2, -, -⟩ := DataW.trod_int Tryz.underlying3 g2
    obtain ⟨y3, k3, g3⟩ := trodAr1 Tryz.underlying39 g1
    rw [h4] at g3
    obtain ⟨ad, len, cap, rs, e1, hr⟩ := open_kns (v := u1) (by simpa using g3)
    have e0 : ∃ a l c, u0 = .slice a l c := by
      rcases open_slice Tryz.underlying36 g0 with ⟨q, _⟩ | ⟨x, l, c, m, n, D, Pl, q, _⟩
      · exact ⟨none, 0, 0, by simpa using q⟩
      · exact ⟨some x, l, c, by simpa using q⟩
    obtain ⟨va, vl, vc, rfl⟩ := e0
    obtain ⟨vs, hv⟩ := open_vls (a := va) (len := vl) (cap := vc) ⟨k, by simpa [Value.cells] using g0⟩
    simp at e2
    subst e1 e2
    exact ⟨va, vl, vc, ad, len, cap, nx, vs, rs, rfl, hv, hr⟩
end
end Go.Proofs.YtcjgjkejhkhknabGreatDoor
