/-
  LawPlO
-/
import Derived.Test.YtcjgjkejhkhknacGreatDoorPk16
import Derived.Test.YtcjgjkejhkhknacGreatDoorIPlan
import Derived.Test.YtcjgjkejhkhknacGreatDoorPk48
import Derived.Deep.RegionHeld3
set_option maxHeartbeats 4000000
set_option maxRecDepth 100000
namespace Go.Proofs.YtcjgjkejhkhknacGreatDoor
open Go.RowKit
open Words Sums Pack
theorem plan_len (d : Dv) (q : Ak) : (planP d q).1.length ≤ 1 := by
 unfold planP
 repeat' split
 all_goals simp
theorem pl_tk {w wi w' : World} {hs : List Hold} {p : List Rc × ByteArray × Int} {L : List Rc} {P2 : ByteArray} {P3 : Int} {m : Nat} {e : Ending} (hp : p = (L, P2, P3)) (hm : L.length = m) (T : Tk w wi hs) (h : PlOut wi p e w') :
 ∃ ad c, e = .returned (.tuple #[.slice ad m c, .string P2, .int .i64 P3]) ∧ Tk w w' ((wi.heap.size, w'.heap.size, RcH wi.heap.size w'.heap.size (.slice ad m c) m L) :: hs) ∧ wi.heap.size ≤ w'.heap.size := by
 subst hp
 obtain ⟨x, rfl, ho, hb⟩ := h
 have hS := Sli.of ho
 rw [hm] at hS
 obtain ⟨ad, c, rfl, -⟩ := hS.form
 exact ⟨ad, c, rfl, T.add hb (RcH.loc _ _ _ _ _) hS, hb.size⟩
theorem spl_tk {w wi : World} {hs : List Hold} {v : Value} {d : Dv} {l h m : Nat} {q : Ak} {L : List Rc} {P2 : ByteArray} {P3 : Int} (hp : planP d q = (L, P2, P3)) (hm : L.length = m) (T : Tk w wi hs) (n : Nat) (ho : OkD d) (e1 : hs[n]? = some (l, h, Dvs l h v d)) :
 Calls Tryz.prog 11 #[v, .agg #[.int .i64 q.kind, .int .i64 q.vol, .int .i64 q.sector, .int .i64 q.of, .string q.text]] wi fun e w' => ∃ ad c, e = .returned (.tuple #[.slice ad m c, .string P2, .int .i64 P3]) ∧ Tk w w' ((wi.heap.size, w'.heap.size, RcH wi.heap.size w'.heap.size (.slice ad m c) m L) :: hs) ∧ wi.heap.size ≤ w'.heap.size :=
 (splan v d q wi ((T.get n e1).rd (T.hi n e1) ho.fit)).mono fun _ _ hx => pl_tk hp hm T hx
theorem ipl_tk {w wi : World} {hs : List Hold} {v : Value} {d : Dv} {l h m : Nat} {q : Ak} {L : List Rc} {P2 : ByteArray} {P3 : Int} (hp : planP d q = (L, P2, P3)) (hm : L.length = m) (T : Tk w wi hs) (n : Nat) (ho : OkD d) (e1 : hs[n]? = some (l, h, Dvs l h v d)) (hv : HalvIn wi) (hst : StepIn wi) :
 Calls Tryz.prog 13 #[v, .agg #[.int .i64 q.kind, .int .i64 q.vol, .int .i64 q.sector, .int .i64 q.of, .string q.text]] wi fun e w' => ∃ ad c, e = .returned (.tuple #[.slice ad m c, .string P2, .int .i64 P3]) ∧ Tk w w' ((wi.heap.size, w'.heap.size, RcH wi.heap.size w'.heap.size (.slice ad m c) m L) :: hs) ∧ wi.heap.size ≤ w'.heap.size :=
 (iplan v d q wi ((T.get n e1).rd (T.hi n e1) ho.fit) hv hst).mono fun _ _ hx => pl_tk hp hm T hx
theorem lawPlO_any (fa : Option Addr) (n fc : Nat) (rs : List Rw) (va : Option Addr) (vl vc : Nat) (vs : List (Int × Int)) (ad : Option Addr) (len cap : Nat) (kr : List Kw) (nx sq tx bs k v s o : Int) (t : ByteArray) (w : World) (ht : t.size ≤ maxLen) (hv : HalvIn w) (hst : StepIn w) (hb : BkRow w fa n rs) (hvl : VlRow w va vl vs) (hk : KnRd w ad len kr) :
 Calls Tryz.prog 4 #[.agg #[.slice fa n fc, .slice va vl vc, .slice ad len cap, .int .i64 nx, .int .i64 sq, .int .i64 tx, .int .i64 bs], .agg #[.int .i64 k, .int .i64 v, .int .i64 s, .int .i64 o, .string t]] w fun e w' => e = .returned (.bool true) ∧ Below w.heap.size w w' := by
 have T0 := hide (Tk.two w #[.slice fa n fc, .slice va vl vc, .slice ad len cap, .int .i64 nx, .int .i64 sq, .int .i64 tx, .int .i64 bs] #[.int .i64 k, .int .i64 v, .int .i64 s, .int .i64 o, .string t] 39 23)
 have H := hide hb
 have HV := hide hv
 have HST := hide hst
 have HVL := hide hvl
 have HK := hide hk
 have HN := hide hb.1
 have HT := hide ht
 clear hb hv hst hvl hk ht
 go_enter Tryz.func4, Tryz.ntmps4
 go_wp2_with fail
 generalize (w.alloc (.cells #[.slice fa n fc, .slice va vl vc, .slice ad len cap, .int .i64 nx, .int .i64 sq, .int .i64 tx, .int .i64 bs] 39)).alloc (.cells #[.int .i64 k, .int .i64 v, .int .i64 s, .int .i64 o, .string t] 23) = w0 at T0 ⊢
 refine (szd_any fa n fc rs va vl vc vs ad len cap kr nx sq tx bs 1048576 w0 (Nat.le_refl _) (H.out.below T0.out.1) (HVL.out.below T0.out.1) (HK.out.below T0.out.1)).mono ?_
 rintro e w1 ⟨⟨r, rfl, r1, r2, r3⟩, b1⟩
 have T1 := hide (T0.out.below b1)
 obtain ⟨q0, q1, q2, q3, q4⟩ : w1.cell? ⟨(w.heap.size + 1), 0, none⟩ = some (.int .i64 k) ∧ w1.cell? ⟨(w.heap.size + 1), 1, none⟩ = some (.int .i64 v) ∧ w1.cell? ⟨(w.heap.size + 1), 2, none⟩ = some (.int .i64 s) ∧ w1.cell? ⟨(w.heap.size + 1), 3, none⟩ = some (.int .i64 o) ∧ w1.cell? ⟨(w.heap.size + 1), 4, none⟩ = some (.string t) := ⟨T1.out.at 0 0 rfl rfl, T1.out.at 0 1 rfl rfl, T1.out.at 0 2 rfl rfl, T1.out.at 0 3 rfl rfl, T1.out.at 0 4 rfl rfl⟩
 clear b1 T0
 by_cases hr : r < 0
 ·clear r2 r3
  go_wp2
  go_ret
  exact ⟨rfl, T1.out.1⟩
 have ho := r3 (by omega)
 have HO := hide ho
 obtain ⟨d, hd⟩ : ∃ d : Dv, d = ⟨rs.map tellOf, ⟨vs, kr.map ktell, nx⟩, sq, tx, bs⟩ := ⟨_, rfl⟩
 have HOD : Hid (OkD d) := by rw [hd]; exact ho.okd
 have HD := hide hd
 have HZ1 : Hid (endK 1 d.flash ≤ 10000000) := by rw [hd]; exact ho.2.2.2.2.2.2.2.2.1
 have HZ2 : Hid (endK 1 d.flash + d.store.vols.length * 2 + d.store.kns.length + kkids d.store.kns ≤ 1000000000) := by
  have e1 := HZ1.out
  have e2 := HOD.out.2.1.1
  have e3 := HOD.out.2.1.2.2.1
  have e4 : kkids d.store.kns ≤ 1048576 := by rw [hd]; exact ho.2.2.2.2.2.2.2.2.2
  show _ ≤ _
  omega
 have hn : n ≤ 1048576 := by have e1 := ho.1; have e2 := HN.out; omega
 have HLE := hide hn
 obtain ⟨z, rfl⟩ : ∃ z : Nat, r = z := ⟨r.toNat, by omega⟩
 have CZ := hide (szAk_any k v s o t z w1 HT.out (by omega))
 clear r1 r2 r3 ho hd hn
 go_wp2_with fail
 refine CZ.out.mono ?_
 rintro e w2 ⟨⟨r, rfl, y1, y2, -⟩, b2⟩
 have T2 := hide (T1.out.below b2)
 clear b2 T1 CZ q0 q1 q2 q3 q4
 by_cases hr2 : r < 0
 ·go_wp2
  go_ret
  exact ⟨rfl, T2.out.1⟩
 obtain ⟨⟨L, P2, P3⟩, hP⟩ : ∃ P, planP d ⟨k, v, s, o, t⟩ = P := ⟨_, rfl⟩
 obtain ⟨m, hm⟩ : ∃ m, L.length = m := ⟨_, rfl⟩
 have HP := hide hP
 have HM := hide hm
 have HNB : Hid (m ≤ 100000000) := by
  have e1 := plan_len d ⟨k, v, s, o, t⟩
  rw [hP] at e1
  show _ ≤ _
  simp only at e1
  omega
 have hmb : m ≤ 100000000 := HNB.out
 obtain ⟨mm, hmm⟩ : ∃ mm : Nat, 1 + m * 4 = mm := ⟨_, rfl⟩
 have HMM := hide hmm
 have m0 : ¬ ((mm : Int) < 0) := by omega
 have m1 : ((mm : Int) != mm) = false := by simp
 have hne : (P3 != P3) = false := by simp
 clear y1 y2 hP hm hmm
 go_upto_region 8 with fail
 have T2d := hide T2.out.drew
 obtain ⟨k0, k1, k2, k3, k4, k5, k6, q0, q1, q2, q3, q4⟩ : w2.cell? ⟨w.heap.size, 0, none⟩ = some (.slice fa n fc) ∧ w2.cell? ⟨w.heap.size, 1, none⟩ = some (.slice va vl vc) ∧ w2.cell? ⟨w.heap.size, 2, none⟩ = some (.slice ad len cap) ∧ w2.cell? ⟨w.heap.size, 3, none⟩ = some (.int .i64 nx) ∧ w2.cell? ⟨w.heap.size, 4, none⟩ = some (.int .i64 sq) ∧ w2.cell? ⟨w.heap.size, 5, none⟩ = some (.int .i64 tx) ∧ w2.cell? ⟨w.heap.size, 6, none⟩ = some (.int .i64 bs) ∧ w2.cell? ⟨(w.heap.size + 1), 0, none⟩ = some (.int .i64 k) ∧ w2.cell? ⟨(w.heap.size + 1), 1, none⟩ = some (.int .i64 v) ∧ w2.cell? ⟨(w.heap.size + 1), 2, none⟩ = some (.int .i64 s) ∧ w2.cell? ⟨(w.heap.size + 1), 3, none⟩ = some (.int .i64 o) ∧ w2.cell? ⟨(w.heap.size + 1), 4, none⟩ = some (.string t) := ⟨T2.out.at 1 0 rfl rfl, T2.out.at 1 1 rfl rfl, T2.out.at 1 2 rfl rfl, T2.out.at 1 3 rfl rfl, T2.out.at 1 4 rfl rfl, T2.out.at 1 5 rfl rfl, T2.out.at 1 6 rfl rfl, T2.out.at 0 0 rfl rfl, T2.out.at 0 1 rfl rfl, T2.out.at 0 2 rfl rfl, T2.out.at 0 3 rfl rfl, T2.out.at 0 4 rfl rfl⟩
 go_region_held3 (fun w' => w'.cell? ⟨w.heap.size, 0, none⟩ = some (.slice fa n fc) ∧ w'.cell? ⟨w.heap.size, 1, none⟩ = some (.slice va vl vc) ∧ w'.cell? ⟨w.heap.size, 2, none⟩ = some (.slice ad len cap) ∧ w'.cell? ⟨w.heap.size, 3, none⟩ = some (.int .i64 nx) ∧ w'.cell? ⟨w.heap.size, 4, none⟩ = some (.int .i64 sq) ∧ w'.cell? ⟨w.heap.size, 5, none⟩ = some (.int .i64 tx) ∧ w'.cell? ⟨w.heap.size, 6, none⟩ = some (.int .i64 bs) ∧ w'.cell? ⟨(w.heap.size + 1), 0, none⟩ = some (.int .i64 k) ∧ w'.cell? ⟨(w.heap.size + 1), 1, none⟩ = some (.int .i64 v) ∧ w'.cell? ⟨(w.heap.size + 1), 2, none⟩ = some (.int .i64 s) ∧ w'.cell? ⟨(w.heap.size + 1), 3, none⟩ = some (.int .i64 o) ∧ w'.cell? ⟨(w.heap.size + 1), 4, none⟩ = some (.string t)) (first | go_keep | exact ⟨T3.out.at 2 0 rfl rfl, T3.out.at 2 1 rfl rfl, T3.out.at 2 2 rfl rfl, T3.out.at 2 3 rfl rfl, T3.out.at 2 4 rfl rfl, T3.out.at 2 5 rfl rfl, T3.out.at 2 6 rfl rfl, T3.out.at 1 0 rfl rfl, T3.out.at 1 1 rfl rfl, T3.out.at 1 2 rfl rfl, T3.out.at 1 3 rfl rfl, T3.out.at 1 4 rfl rfl⟩ | exact ⟨T4.out.at 2 0 rfl rfl, T4.out.at 2 1 rfl rfl, T4.out.at 2 2 rfl rfl, T4.out.at 2 3 rfl rfl, T4.out.at 2 4 rfl rfl, T4.out.at 2 5 rfl rfl, T4.out.at 2 6 rfl rfl, T4.out.at 1 0 rfl rfl, T4.out.at 1 1 rfl rfl, T4.out.at 1 2 rfl rfl, T4.out.at 1 3 rfl rfl, T4.out.at 1 4 rfl rfl⟩ | exact ⟨T5.out.at 3 0 rfl rfl, T5.out.at 3 1 rfl rfl, T5.out.at 3 2 rfl rfl, T5.out.at 3 3 rfl rfl, T5.out.at 3 4 rfl rfl, T5.out.at 3 5 rfl rfl, T5.out.at 3 6 rfl rfl, T5.out.at 2 0 rfl rfl, T5.out.at 2 1 rfl rfl, T5.out.at 2 2 rfl rfl, T5.out.at 2 3 rfl rfl, T5.out.at 2 4 rfl rfl⟩) (first
  | (go_at_call 12; (with_reducible refine Calls.mono (tod_tk (fc := fc) (vc := vc) (cap := cap) T2d.out HO.out HLE.out H.out HVL.out HK.out HD.out) ?_); rintro en w3 ⟨f1, g1, v1, y1, a1, p1, rfl, t3, -⟩; have T3 := hide t3; clear t3)
  | (go_at_call 8; (with_reducible refine Calls.mono (toAk_any k v s o t w3) ?_); rintro en w4 ⟨rfl, b4⟩; have T4 := hide (T3.out.below b4); clear b4)
  | (go_at_call 11; (with_reducible refine Calls.mono (spl_tk (q := ⟨k, v, s, o, t⟩) HP.out HM.out T4.out 0 HOD.out rfl) ?_); rintro en w5 ⟨a2, c2, rfl, t5, s5⟩; have T5 := hide t5; clear t5))
 all_goals
  have HQ4 := hide (show w.heap.size + 1 + 1 ≤ w4.heap.size from T4.out.hi 1 rfl)
  have T5b := hide (T5.out.drop (hs' := [(w4.heap.size, w5.heap.size, RcH w4.heap.size w5.heap.size (.slice a2 m c2) m L), (w.heap.size + 1, w.heap.size + 1 + 1, Cel (w.heap.size + 1) #[.int .i64 k, .int .i64 v, .int .i64 s, .int .i64 o, .string t] 23), (w.heap.size, w.heap.size + 1, Cel w.heap.size #[.slice fa n fc, .slice va vl vc, .slice ad len cap, .int .i64 nx, .int .i64 sq, .int .i64 tx, .int .i64 bs] 39)]) (by
   intro x hx
   simp only [List.mem_cons, List.not_mem_nil, or_false] at hx ⊢
   rcases hx with rfl | rfl | rfl
   ·exact .inl rfl
   ·exact .inr (.inr (.inl rfl))
   ·exact .inr (.inr (.inr rfl))))
  clear T2 T2d T3 T4 T5 k0 k1 k2 k3 k4 k5 k6 q0 q1 q2 q3 q4
  obtain ⟨k0, k1, k2, k3, k4, k5, k6⟩ : w5.cell? ⟨w.heap.size, 0, none⟩ = some (.slice fa n fc) ∧ w5.cell? ⟨w.heap.size, 1, none⟩ = some (.slice va vl vc) ∧ w5.cell? ⟨w.heap.size, 2, none⟩ = some (.slice ad len cap) ∧ w5.cell? ⟨w.heap.size, 3, none⟩ = some (.int .i64 nx) ∧ w5.cell? ⟨w.heap.size, 4, none⟩ = some (.int .i64 sq) ∧ w5.cell? ⟨w.heap.size, 5, none⟩ = some (.int .i64 tx) ∧ w5.cell? ⟨w.heap.size, 6, none⟩ = some (.int .i64 bs) := ⟨T5b.out.at 2 0 rfl rfl, T5b.out.at 2 1 rfl rfl, T5b.out.at 2 2 rfl rfl, T5b.out.at 2 3 rfl rfl, T5b.out.at 2 4 rfl rfl, T5b.out.at 2 5 rfl rfl, T5b.out.at 2 6 rfl rfl⟩
  go_wp2_with fail
  refine (tod_tk (fc := fc) (vc := vc) (cap := cap) T5b.out HO.out HLE.out H.out HVL.out HK.out HD.out).mono ?_
  rintro e w6 ⟨f3, g3, v3, y3, a3, p3, rfl, t6, s6⟩
  have T7 := hide (t6.cell #[.slice f3 d.flash.length g3, .slice v3 d.store.vols.length y3, .slice a3 d.store.kns.length p3, .int .i64 d.store.next, .int .i64 d.seq, .int .i64 d.tx, .int .i64 d.base] 54)
  have Z7 : Hid ((w6.alloc (.cells #[.slice f3 d.flash.length g3, .slice v3 d.store.vols.length y3, .slice a3 d.store.kns.length p3, .int .i64 d.store.next, .int .i64 d.seq, .int .i64 d.tx, .int .i64 d.base] 54)).heap.size = w6.heap.size + 1) := by show _ = _; simp
  clear t6 T5b k0 k1 k2 k3 k4 k5 k6
  go_upto_region 10 with fail
  generalize w6.alloc (.cells #[.slice f3 d.flash.length g3, .slice v3 d.store.vols.length y3, .slice a3 d.store.kns.length p3, .int .i64 d.store.next, .int .i64 d.seq, .int .i64 d.tx, .int .i64 d.base] 54) = w7 at T7 Z7 ⊢
  have T7d := hide T7.out.drew
  obtain ⟨x0, x1, x2, x3, x4, x5, x6, q0, q1, q2, q3, q4⟩ : w7.cell? ⟨w6.heap.size, 0, none⟩ = some (.slice f3 d.flash.length g3) ∧ w7.cell? ⟨w6.heap.size, 1, none⟩ = some (.slice v3 d.store.vols.length y3) ∧ w7.cell? ⟨w6.heap.size, 2, none⟩ = some (.slice a3 d.store.kns.length p3) ∧ w7.cell? ⟨w6.heap.size, 3, none⟩ = some (.int .i64 d.store.next) ∧ w7.cell? ⟨w6.heap.size, 4, none⟩ = some (.int .i64 d.seq) ∧ w7.cell? ⟨w6.heap.size, 5, none⟩ = some (.int .i64 d.tx) ∧ w7.cell? ⟨w6.heap.size, 6, none⟩ = some (.int .i64 d.base) ∧ w7.cell? ⟨(w.heap.size + 1), 0, none⟩ = some (.int .i64 k) ∧ w7.cell? ⟨(w.heap.size + 1), 1, none⟩ = some (.int .i64 v) ∧ w7.cell? ⟨(w.heap.size + 1), 2, none⟩ = some (.int .i64 s) ∧ w7.cell? ⟨(w.heap.size + 1), 3, none⟩ = some (.int .i64 o) ∧ w7.cell? ⟨(w.heap.size + 1), 4, none⟩ = some (.string t) := ⟨T7.out.at 0 0 rfl rfl, T7.out.at 0 1 rfl rfl, T7.out.at 0 2 rfl rfl, T7.out.at 0 3 rfl rfl, T7.out.at 0 4 rfl rfl, T7.out.at 0 5 rfl rfl, T7.out.at 0 6 rfl rfl, T7.out.at 3 0 rfl rfl, T7.out.at 3 1 rfl rfl, T7.out.at 3 2 rfl rfl, T7.out.at 3 3 rfl rfl, T7.out.at 3 4 rfl rfl⟩
  go_region_held3 (fun w' => w'.cell? ⟨w6.heap.size, 0, none⟩ = some (.slice f3 d.flash.length g3) ∧ w'.cell? ⟨w6.heap.size, 1, none⟩ = some (.slice v3 d.store.vols.length y3) ∧ w'.cell? ⟨w6.heap.size, 2, none⟩ = some (.slice a3 d.store.kns.length p3) ∧ w'.cell? ⟨w6.heap.size, 3, none⟩ = some (.int .i64 d.store.next) ∧ w'.cell? ⟨w6.heap.size, 4, none⟩ = some (.int .i64 d.seq) ∧ w'.cell? ⟨w6.heap.size, 5, none⟩ = some (.int .i64 d.tx) ∧ w'.cell? ⟨w6.heap.size, 6, none⟩ = some (.int .i64 d.base) ∧ w'.cell? ⟨(w.heap.size + 1), 0, none⟩ = some (.int .i64 k) ∧ w'.cell? ⟨(w.heap.size + 1), 1, none⟩ = some (.int .i64 v) ∧ w'.cell? ⟨(w.heap.size + 1), 2, none⟩ = some (.int .i64 s) ∧ w'.cell? ⟨(w.heap.size + 1), 3, none⟩ = some (.int .i64 o) ∧ w'.cell? ⟨(w.heap.size + 1), 4, none⟩ = some (.string t)) (first | go_keep | exact ⟨T8.out.at 0 0 rfl rfl, T8.out.at 0 1 rfl rfl, T8.out.at 0 2 rfl rfl, T8.out.at 0 3 rfl rfl, T8.out.at 0 4 rfl rfl, T8.out.at 0 5 rfl rfl, T8.out.at 0 6 rfl rfl, T8.out.at 3 0 rfl rfl, T8.out.at 3 1 rfl rfl, T8.out.at 3 2 rfl rfl, T8.out.at 3 3 rfl rfl, T8.out.at 3 4 rfl rfl⟩ | exact ⟨T9.out.at 1 0 rfl rfl, T9.out.at 1 1 rfl rfl, T9.out.at 1 2 rfl rfl, T9.out.at 1 3 rfl rfl, T9.out.at 1 4 rfl rfl, T9.out.at 1 5 rfl rfl, T9.out.at 1 6 rfl rfl, T9.out.at 4 0 rfl rfl, T9.out.at 4 1 rfl rfl, T9.out.at 4 2 rfl rfl, T9.out.at 4 3 rfl rfl, T9.out.at 4 4 rfl rfl⟩) (first
   | (go_at_call 8; (with_reducible refine Calls.mono (toAk_any k v s o t _) ?_); rintro en w8 ⟨rfl, b8⟩; have Z8 := hide (show w7.heap.size ≤ w8.heap.size from b8.size); have T8 := hide (T7d.out.below b8); have B8 := hide T8.out.1; clear b8)
   | (go_at_call 13; (with_reducible refine Calls.mono (ipl_tk (q := ⟨k, v, s, o, t⟩) HP.out HM.out T8.out 1 HOD.out rfl (HV.out.on B8.out) (HST.out.on B8.out)) ?_); rintro en w9 ⟨a9, c9, rfl, t9, s9⟩; have T9 := hide t9; clear t9))
 all_goals
  clear T7 T7d T8 x0 x1 x2 x3 x4 x5 x6 q0 q1 q2 q3 q4
  go_wp2_with fail
  refine (eqrw_tk T9.out 0 3 HM.out HNB.out rfl rfl).mono ?_
  rintro e w10 ⟨rfl, t10, s10⟩
  have T10 := hide t10
  clear t10 T9
  go_upto_region 13 with fail
  have T10d := hide T10.out.drew
  obtain ⟨x0, x1, x2, x3, x4, x5, x6, k0, k1, k2, k3, k4, k5, k6⟩ : w10.cell? ⟨w6.heap.size, 0, none⟩ = some (.slice f3 d.flash.length g3) ∧ w10.cell? ⟨w6.heap.size, 1, none⟩ = some (.slice v3 d.store.vols.length y3) ∧ w10.cell? ⟨w6.heap.size, 2, none⟩ = some (.slice a3 d.store.kns.length p3) ∧ w10.cell? ⟨w6.heap.size, 3, none⟩ = some (.int .i64 d.store.next) ∧ w10.cell? ⟨w6.heap.size, 4, none⟩ = some (.int .i64 d.seq) ∧ w10.cell? ⟨w6.heap.size, 5, none⟩ = some (.int .i64 d.tx) ∧ w10.cell? ⟨w6.heap.size, 6, none⟩ = some (.int .i64 d.base) ∧ w10.cell? ⟨w.heap.size, 0, none⟩ = some (.slice fa n fc) ∧ w10.cell? ⟨w.heap.size, 1, none⟩ = some (.slice va vl vc) ∧ w10.cell? ⟨w.heap.size, 2, none⟩ = some (.slice ad len cap) ∧ w10.cell? ⟨w.heap.size, 3, none⟩ = some (.int .i64 nx) ∧ w10.cell? ⟨w.heap.size, 4, none⟩ = some (.int .i64 sq) ∧ w10.cell? ⟨w.heap.size, 5, none⟩ = some (.int .i64 tx) ∧ w10.cell? ⟨w.heap.size, 6, none⟩ = some (.int .i64 bs) := ⟨T10.out.at 1 0 rfl rfl, T10.out.at 1 1 rfl rfl, T10.out.at 1 2 rfl rfl, T10.out.at 1 3 rfl rfl, T10.out.at 1 4 rfl rfl, T10.out.at 1 5 rfl rfl, T10.out.at 1 6 rfl rfl, T10.out.at 5 0 rfl rfl, T10.out.at 5 1 rfl rfl, T10.out.at 5 2 rfl rfl, T10.out.at 5 3 rfl rfl, T10.out.at 5 4 rfl rfl, T10.out.at 5 5 rfl rfl, T10.out.at 5 6 rfl rfl⟩
  go_region_held3 (fun w' => w'.cell? ⟨w6.heap.size, 0, none⟩ = some (.slice f3 d.flash.length g3) ∧ w'.cell? ⟨w6.heap.size, 1, none⟩ = some (.slice v3 d.store.vols.length y3) ∧ w'.cell? ⟨w6.heap.size, 2, none⟩ = some (.slice a3 d.store.kns.length p3) ∧ w'.cell? ⟨w6.heap.size, 3, none⟩ = some (.int .i64 d.store.next) ∧ w'.cell? ⟨w6.heap.size, 4, none⟩ = some (.int .i64 d.seq) ∧ w'.cell? ⟨w6.heap.size, 5, none⟩ = some (.int .i64 d.tx) ∧ w'.cell? ⟨w6.heap.size, 6, none⟩ = some (.int .i64 d.base) ∧ w'.cell? ⟨w.heap.size, 0, none⟩ = some (.slice fa n fc) ∧ w'.cell? ⟨w.heap.size, 1, none⟩ = some (.slice va vl vc) ∧ w'.cell? ⟨w.heap.size, 2, none⟩ = some (.slice ad len cap) ∧ w'.cell? ⟨w.heap.size, 3, none⟩ = some (.int .i64 nx) ∧ w'.cell? ⟨w.heap.size, 4, none⟩ = some (.int .i64 sq) ∧ w'.cell? ⟨w.heap.size, 5, none⟩ = some (.int .i64 tx) ∧ w'.cell? ⟨w.heap.size, 6, none⟩ = some (.int .i64 bs)) (first | go_keep | exact ⟨T11.out.at 2 0 rfl rfl, T11.out.at 2 1 rfl rfl, T11.out.at 2 2 rfl rfl, T11.out.at 2 3 rfl rfl, T11.out.at 2 4 rfl rfl, T11.out.at 2 5 rfl rfl, T11.out.at 2 6 rfl rfl, T11.out.at 6 0 rfl rfl, T11.out.at 6 1 rfl rfl, T11.out.at 6 2 rfl rfl, T11.out.at 6 3 rfl rfl, T11.out.at 6 4 rfl rfl, T11.out.at 6 5 rfl rfl, T11.out.at 6 6 rfl rfl⟩ | exact ⟨T12.out.at 2 0 rfl rfl, T12.out.at 2 1 rfl rfl, T12.out.at 2 2 rfl rfl, T12.out.at 2 3 rfl rfl, T12.out.at 2 4 rfl rfl, T12.out.at 2 5 rfl rfl, T12.out.at 2 6 rfl rfl, T12.out.at 6 0 rfl rfl, T12.out.at 6 1 rfl rfl, T12.out.at 6 2 rfl rfl, T12.out.at 6 3 rfl rfl, T12.out.at 6 4 rfl rfl, T12.out.at 6 5 rfl rfl, T12.out.at 6 6 rfl rfl⟩) (first
   | (go_at_call 12; (with_reducible refine Calls.mono (tod_tk (fc := fc) (vc := vc) (cap := cap) T10d.out HO.out HLE.out H.out HVL.out HK.out HD.out) ?_); rintro en w11 ⟨f4, g4, v4, y4, a4, p4, rfl, t11, s11⟩; have T11 := hide t11; clear t11)
   | (go_at_call 15; (with_reducible refine Calls.mono (eqd_tk T11.out 3 0 HOD.out rfl rfl) ?_); rintro en w12 ⟨rfl, t12, s12⟩; have T12 := hide t12; clear t12))
 all_goals
  have z7 := Z7.out
  have z8 := Z8.out
  have hq1 := HQ4.out
  obtain ⟨x0, x1, x2, x3, x4, x5, x6⟩ : w12.cell? ⟨w6.heap.size, 0, none⟩ = some (.slice f3 d.flash.length g3) ∧ w12.cell? ⟨w6.heap.size, 1, none⟩ = some (.slice v3 d.store.vols.length y3) ∧ w12.cell? ⟨w6.heap.size, 2, none⟩ = some (.slice a3 d.store.kns.length p3) ∧ w12.cell? ⟨w6.heap.size, 3, none⟩ = some (.int .i64 d.store.next) ∧ w12.cell? ⟨w6.heap.size, 4, none⟩ = some (.int .i64 d.seq) ∧ w12.cell? ⟨w6.heap.size, 5, none⟩ = some (.int .i64 d.tx) ∧ w12.cell? ⟨w6.heap.size, 6, none⟩ = some (.int .i64 d.base) := ⟨T12.out.at 2 0 rfl rfl, T12.out.at 2 1 rfl rfl, T12.out.at 2 2 rfl rfl, T12.out.at 2 3 rfl rfl, T12.out.at 2 4 rfl rfl, T12.out.at 2 5 rfl rfl, T12.out.at 2 6 rfl rfl⟩
  clear T10 T10d T11 k0 k1 k2 k3 k4 k5 k6
  go_wp2_with fail
  refine (markd_sp (hs' := [(w8.heap.size, w9.heap.size, RcH w8.heap.size w9.heap.size (.slice a9 m c9) m L), (w4.heap.size, w5.heap.size, RcH w4.heap.size w5.heap.size (.slice a2 m c2) m L), (w.heap.size + 1, w.heap.size + 1 + 1, Cel (w.heap.size + 1) #[.int .i64 k, .int .i64 v, .int .i64 s, .int .i64 o, .string t] 23), (w.heap.size, w.heap.size + 1, Cel w.heap.size #[.slice fa n fc, .slice va vl vc, .slice ad len cap, .int .i64 nx, .int .i64 sq, .int .i64 tx, .int .i64 bs] 39)]) T12.out 3 HOD.out HZ1.out HZ2.out (by omega) rfl (by
   intro x hx
   simp only [List.mem_cons, List.not_mem_nil, or_false] at hx ⊢
   rcases hx with rfl | rfl | rfl | rfl
   ·exact ⟨.inr (.inl rfl), .inr (by simp only; omega)⟩
   ·exact ⟨.inr (.inr (.inr (.inr (.inl rfl)))), .inl (by simp only; omega)⟩
   ·exact ⟨.inr (.inr (.inr (.inr (.inr (.inl rfl))))), .inl (by simp only; omega)⟩
   ·exact ⟨.inr (.inr (.inr (.inr (.inr (.inr rfl))))), .inl (by simp only; omega)⟩)).mono ?_
  rintro e w13 ⟨⟨r13, rfl, hr13, -⟩, t13, s13⟩
  have T13 := hide t13
  have nr13 : ¬ ((r13 : Int) < 0) := by omega
  clear t13 T12 x0 x1 x2 x3 x4 x5 x6
  go_wp2_with fail
  refine (eqrw_tk T13.out 0 1 HM.out HNB.out rfl rfl).mono ?_
  rintro e w14 ⟨rfl, t14, s14⟩
  have T14 := hide t14
  clear t14 T13
  go_wp2_with fail
  refine (markrw_tk (hs' := [(w4.heap.size, w5.heap.size, RcH w4.heap.size w5.heap.size (.slice a2 m c2) m L), (w.heap.size + 1, w.heap.size + 1 + 1, Cel (w.heap.size + 1) #[.int .i64 k, .int .i64 v, .int .i64 s, .int .i64 o, .string t] 23), (w.heap.size, w.heap.size + 1, Cel w.heap.size #[.slice fa n fc, .slice va vl vc, .slice ad len cap, .int .i64 nx, .int .i64 sq, .int .i64 tx, .int .i64 bs] 39)]) T14.out 0 HM.out HNB.out HMM.out (by omega) rfl (by
   intro x hx
   simp only [List.mem_cons, List.not_mem_nil, or_false] at hx ⊢
   rcases hx with rfl | rfl | rfl
   ·exact ⟨.inr (.inl rfl), .inl (by simp only; omega)⟩
   ·exact ⟨.inr (.inr (.inl rfl)), .inl (by simp only; omega)⟩
   ·exact ⟨.inr (.inr (.inr rfl)), .inl (by simp only; omega)⟩)).mono ?_
  rintro e w15 ⟨rfl, t15, s15⟩
  have T15 := hide t15
  clear t15 T14
  go_wp2_with fail
  refine (heldrw_tk T15.out 0 HNB.out HMM.out rfl).mono ?_
  rintro e w16 ⟨rfl, t16, s16⟩
  have T16 := hide t16
  clear t16 T15
  go_upto_region 27 with fail
  have T16d := hide T16.out.drew
  obtain ⟨k0, k1, k2, k3, k4, k5, k6, q0, q1, q2, q3, q4⟩ : w16.cell? ⟨w.heap.size, 0, none⟩ = some (.slice fa n fc) ∧ w16.cell? ⟨w.heap.size, 1, none⟩ = some (.slice va vl vc) ∧ w16.cell? ⟨w.heap.size, 2, none⟩ = some (.slice ad len cap) ∧ w16.cell? ⟨w.heap.size, 3, none⟩ = some (.int .i64 nx) ∧ w16.cell? ⟨w.heap.size, 4, none⟩ = some (.int .i64 sq) ∧ w16.cell? ⟨w.heap.size, 5, none⟩ = some (.int .i64 tx) ∧ w16.cell? ⟨w.heap.size, 6, none⟩ = some (.int .i64 bs) ∧ w16.cell? ⟨(w.heap.size + 1), 0, none⟩ = some (.int .i64 k) ∧ w16.cell? ⟨(w.heap.size + 1), 1, none⟩ = some (.int .i64 v) ∧ w16.cell? ⟨(w.heap.size + 1), 2, none⟩ = some (.int .i64 s) ∧ w16.cell? ⟨(w.heap.size + 1), 3, none⟩ = some (.int .i64 o) ∧ w16.cell? ⟨(w.heap.size + 1), 4, none⟩ = some (.string t) := ⟨T16.out.at 3 0 rfl rfl, T16.out.at 3 1 rfl rfl, T16.out.at 3 2 rfl rfl, T16.out.at 3 3 rfl rfl, T16.out.at 3 4 rfl rfl, T16.out.at 3 5 rfl rfl, T16.out.at 3 6 rfl rfl, T16.out.at 2 0 rfl rfl, T16.out.at 2 1 rfl rfl, T16.out.at 2 2 rfl rfl, T16.out.at 2 3 rfl rfl, T16.out.at 2 4 rfl rfl⟩
  go_region_held3 (fun w' => w'.cell? ⟨w.heap.size, 0, none⟩ = some (.slice fa n fc) ∧ w'.cell? ⟨w.heap.size, 1, none⟩ = some (.slice va vl vc) ∧ w'.cell? ⟨w.heap.size, 2, none⟩ = some (.slice ad len cap) ∧ w'.cell? ⟨w.heap.size, 3, none⟩ = some (.int .i64 nx) ∧ w'.cell? ⟨w.heap.size, 4, none⟩ = some (.int .i64 sq) ∧ w'.cell? ⟨w.heap.size, 5, none⟩ = some (.int .i64 tx) ∧ w'.cell? ⟨w.heap.size, 6, none⟩ = some (.int .i64 bs) ∧ w'.cell? ⟨(w.heap.size + 1), 0, none⟩ = some (.int .i64 k) ∧ w'.cell? ⟨(w.heap.size + 1), 1, none⟩ = some (.int .i64 v) ∧ w'.cell? ⟨(w.heap.size + 1), 2, none⟩ = some (.int .i64 s) ∧ w'.cell? ⟨(w.heap.size + 1), 3, none⟩ = some (.int .i64 o) ∧ w'.cell? ⟨(w.heap.size + 1), 4, none⟩ = some (.string t)) (first | go_keep | exact ⟨T17.out.at 4 0 rfl rfl, T17.out.at 4 1 rfl rfl, T17.out.at 4 2 rfl rfl, T17.out.at 4 3 rfl rfl, T17.out.at 4 4 rfl rfl, T17.out.at 4 5 rfl rfl, T17.out.at 4 6 rfl rfl, T17.out.at 3 0 rfl rfl, T17.out.at 3 1 rfl rfl, T17.out.at 3 2 rfl rfl, T17.out.at 3 3 rfl rfl, T17.out.at 3 4 rfl rfl⟩ | exact ⟨T18.out.at 4 0 rfl rfl, T18.out.at 4 1 rfl rfl, T18.out.at 4 2 rfl rfl, T18.out.at 4 3 rfl rfl, T18.out.at 4 4 rfl rfl, T18.out.at 4 5 rfl rfl, T18.out.at 4 6 rfl rfl, T18.out.at 3 0 rfl rfl, T18.out.at 3 1 rfl rfl, T18.out.at 3 2 rfl rfl, T18.out.at 3 3 rfl rfl, T18.out.at 3 4 rfl rfl⟩ | exact ⟨T19.out.at 5 0 rfl rfl, T19.out.at 5 1 rfl rfl, T19.out.at 5 2 rfl rfl, T19.out.at 5 3 rfl rfl, T19.out.at 5 4 rfl rfl, T19.out.at 5 5 rfl rfl, T19.out.at 5 6 rfl rfl, T19.out.at 4 0 rfl rfl, T19.out.at 4 1 rfl rfl, T19.out.at 4 2 rfl rfl, T19.out.at 4 3 rfl rfl, T19.out.at 4 4 rfl rfl⟩) (first
   | (go_at_call 12; (with_reducible refine Calls.mono (tod_tk (fc := fc) (vc := vc) (cap := cap) T16d.out HO.out HLE.out H.out HVL.out HK.out HD.out) ?_); rintro en w17 ⟨f5, g5, v5, y5, a5, p5, rfl, t17, -⟩; have T17 := hide t17; clear t17)
   | (go_at_call 8; (with_reducible refine Calls.mono (toAk_any k v s o t w17) ?_); rintro en w18 ⟨rfl, b18⟩; have T18 := hide (T17.out.below b18); have B18 := hide T18.out.1; clear b18)
   | (go_at_call 13; (with_reducible refine Calls.mono (ipl_tk (q := ⟨k, v, s, o, t⟩) HP.out HM.out T18.out 0 HOD.out rfl (HV.out.on B18.out) (HST.out.on B18.out)) ?_); rintro en w19 ⟨a19, c19, rfl, t19, s19⟩; have T19 := hide t19; clear t19))
 all_goals
  clear T16 T16d T17 T18 k0 k1 k2 k3 k4 k5 k6 q0 q1 q2 q3 q4
  go_wp2_with fail
  refine (eqrw_tk T19.out 0 3 HM.out HNB.out rfl rfl).mono ?_
  rintro e w20 ⟨rfl, t20, s20⟩
  have T20 := hide t20
  clear t20 T19
  go_wp2_with fail
  refine (heldrw_tk T20.out 2 HNB.out HMM.out rfl).mono ?_
  rintro e w21 ⟨rfl, t21, s21⟩
  have T21 := hide t21
  clear t21 T20
  go_wp2
  go_ret
  exact ⟨rfl, T21.out.1⟩
theorem lawPlO_card (fa : Option Addr) (n fc : Nat) (va : Option Addr) (vl vc : Nat) (ad : Option Addr) (len cap : Nat) (nx sq tx bs : Int) (rs : List Rw) (vs : List (Int × Int)) (kr : List Kw) (k v s o : Int) (t : ByteArray) {w : World} (hb : BkRow w fa n rs) (hvl : VlRow w va vl vs) (hk : KnRd w ad len kr) (ht : t.size ≤ maxLen) (_ : World) (hv : HalvIn w) (hst : StepIn w) :
 Calls Tryz.prog 4 #[.agg #[.slice fa n fc, .slice va vl vc, .slice ad len cap, .int .i64 nx, .int .i64 sq, .int .i64 tx, .int .i64 bs], .agg #[.int .i64 k, .int .i64 v, .int .i64 s, .int .i64 o, .string t]] w fun e w' => e = .returned (.bool true) ∧ Below w.heap.size w w' := lawPlO_any fa n fc rs va vl vc vs ad len cap kr nx sq tx bs k v s o t w ht hv hst hb hvl hk
end Go.Proofs.YtcjgjkejhkhknacGreatDoor
