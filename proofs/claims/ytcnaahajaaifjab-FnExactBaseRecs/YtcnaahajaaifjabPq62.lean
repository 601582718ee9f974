/-
  LawBas; LawBasF
-/
import Derived.Test.YtcnaahajaaifjabPq26
import Derived.Test.YtcnaahajaaifjabPq43
import Derived.Test.YtcnaahajaaifjabSBase
import Derived.Deep.RegionHeld3
import Derived.Test.YtcnaahajaaifjabIBase
/-
  FnExactBaseRecs, of what impl answers.
-/
namespace Go.Proofs.Ytcnaahajaaifjab
open Go.RowKit
open Words

theorem lbas_tk {f : Nat} (HC : BaseC f) {w wi : World} {hs : List Hold} {lo hi n : Nat} {v : Value} {s : Sto} {L : List Rc} (hL : baseS s = L) (hn : L.length = n) (T : Tk w wi hs) (n1 : Nat) (ho : OkS s) (e1 : hs[n1]? = some (lo, hi, Sts lo hi v s)) :
    Calls Try.prog f #[v] wi fun e w' => ∃ ad c, e = .returned (.slice ad n c) ∧ Tk w w' ((wi.heap.size, w'.heap.size, RcH wi.heap.size w'.heap.size (.slice ad n c) n L) :: hs) ∧ wi.heap.size ≤ w'.heap.size := by
  refine (HC v s wi ((T.get n1 e1).rd ho.fit (T.hi n1 e1))).mono ?_
  rintro e w' ⟨v, rfl, ho, hb⟩
  rw [hL] at ho
  have hS := Sli.of ho
  rw [hn] at hS
  obtain ⟨ad, c, rfl, -⟩ := hS.form
  exact ⟨ad, c, rfl, T.add hb (RcH.loc _ _ _ _ _) hS, hb.size⟩

set_option maxHeartbeats 2000000 in
set_option maxRecDepth 100000 in
theorem lbas_of (va : Option Addr) (vl vc : Nat) (ad : Option Addr) (len cap : Nat) (nx : Int) (vs : List (Int × Int)) (rs : List Kw) (w : World) (h : VlRow w va vl vs) (hk : KnRd w ad len rs) (HI : BaseC 19) :
    Calls Try.prog 6 #[.agg #[.slice va vl vc, .slice ad len cap, .int .i64 nx]] w fun e w' => e = .returned (.bool true) ∧ Below w.heap.size w w' := by
  obtain ⟨s, hs⟩ : ∃ s : Sto, s = ⟨vs, rs.map ktell, nx⟩ := ⟨_, rfl⟩
  obtain ⟨L, hL⟩ : ∃ L, baseS s = L := ⟨_, rfl⟩
  obtain ⟨n, hLn⟩ : ∃ n, L.length = n := ⟨_, rfl⟩
  have HL := hide hL
  have HLn := hide hLn
  have T0 := hide ((Tk.start w).cell #[.slice va vl vc, .slice ad len cap, .int .i64 nx] 27)
  have H := hide h
  have HK := hide hk
  have H1 := hide h.1
  have H2 := hide h.2.1
  have K1 := hide hk.1
  have HIH := hide HI
  have HS := hide hs
  clear h hk hL hLn HI hs
  go_enter Try.func6, Try.ntmps6
  go_wp2_with fail
  refine (szSto_any va vl vc ad len cap nx rs 1048576 _ (Nat.le_refl _) H2.out (HK.out.below T0.out.1)).mono ?_
  rintro e w1 ⟨⟨r0, rfl, r1, r2, r3⟩, b1⟩
  have T1 := hide (T0.out.below b1)
  have k0 : w1.cell? ⟨w.heap.size, 0, none⟩ = some (.slice va vl vc) := T1.out.at 0 0 rfl rfl
  have k1 : w1.cell? ⟨w.heap.size, 1, none⟩ = some (.slice ad len cap) := T1.out.at 0 1 rfl rfl
  have k2 : w1.cell? ⟨w.heap.size, 2, none⟩ = some (.int .i64 nx) := T1.out.at 0 2 rfl rfl
  clear b1 T0
  by_cases hr : r0 < 0
  · clear r3
    go_wp2
    go_ret
    exact ⟨rfl, T1.out.1⟩
  · have h3 := r3 (by omega)
    have hvl : vl ≤ 1048576 := by omega
    have hl : len ≤ 1048576 := by omega
    have HLL : Hid (∀ r ∈ rs, r.2.2.length ≤ 1048576) := fun r hr2 => by have := ksum_mem hr2; omega
    have OK : Hid (OkS s) := by
      have e1 := H1.out
      have e2 := K1.out
      have e3 := ksum_kids rs
      rw [HS.out]
      exact OkS.of (show vs.length ≤ _ by omega) (by show (rs.map ktell).length ≤ _; rw [List.length_map]; omega) (show kkids (rs.map ktell) ≤ _ by omega)
    have HNB : Hid (n ≤ 100000000) := by
      have b1 := base_bound s
      have b2 := OK.out.1
      have b3 := HLn.out
      have b4 := HL.out
      rw [b4, b3] at b1
      show n ≤ _
      omega
    have hnb := HNB.out
    have HVE := hide hvl
    have HLE := hide hl
    obtain ⟨mk, hmk⟩ : ∃ m : Nat, kend (1 + s.vols.length * 2) s.kns = m := ⟨_, rfl⟩
    have HMK := hide hmk
    have mk0 : ¬ ((mk : Int) < 0) := by omega
    have s1 := T1.out.1.size
    have hsz1 : w.heap.size + 1 ≤ w1.heap.size := T1.out.hi 0 rfl
    obtain ⟨m, hm⟩ : ∃ m : Nat, 1 + n * 4 = m := ⟨_, rfl⟩
    have HMM := hide hm
    have m0 : ¬ ((m : Int) < 0) := by omega
    have mm : ((m : Int) != m) = false := by simp
    clear r3 h3 hmk hm
    go_wp2_with fail
    refine (tosto_tk (vc := vc) (cap := cap) T1.out H.out HK.out HVE.out HLE.out HLL.out HS.out).mono ?_
    rintro e w2 ⟨g1, g2, rfl, t2, s2⟩
    have T2 := hide t2
    clear t2 T1 k0 k1 k2
    go_wp2_with fail
    refine (lbas_tk sbaseRecs HL.out HLn.out T2.out 0 OK.out rfl).mono ?_
    rintro e w3 ⟨a3, c3, rfl, t3, s3⟩
    have T3 := hide (t3.drop (hs' := [(w2.heap.size, w3.heap.size, RcH w2.heap.size w3.heap.size (.slice a3 n c3) n L), (w.heap.size, w.heap.size + 1, Cel w.heap.size #[.slice va vl vc, .slice ad len cap, .int .i64 nx] 27)]) (by intro x hx; simp only [List.mem_cons, List.not_mem_nil, or_false] at hx ⊢; rcases hx with hx | hx; exact .inl hx; exact .inr (.inr hx)))
    have k0 : w3.cell? ⟨w.heap.size, 0, none⟩ = some (.slice va vl vc) := T3.out.at 1 0 rfl rfl
    have k1 : w3.cell? ⟨w.heap.size, 1, none⟩ = some (.slice ad len cap) := T3.out.at 1 1 rfl rfl
    have k2 : w3.cell? ⟨w.heap.size, 2, none⟩ = some (.int .i64 nx) := T3.out.at 1 2 rfl rfl
    clear t3 T2
    go_wp2_with fail
    refine (tosto_tk (vc := vc) (cap := cap) T3.out H.out HK.out HVE.out HLE.out HLL.out HS.out).mono ?_
    rintro e w4 ⟨g3, g4, rfl, t4, s4⟩
    have T5 := hide (t4.cell #[.slice (some ⟨g3, 0, none⟩) vl vl, .slice (some ⟨g4, 0, none⟩) len len, .int .i64 nx] 35)
    have Z5 : Hid ((w4.alloc (.cells #[.slice (some ⟨g3, 0, none⟩) vl vl, .slice (some ⟨g4, 0, none⟩) len len, .int .i64 nx] 35)).heap.size = w4.heap.size + 1) := by show _ = _; simp
    clear t4 T3 k0 k1 k2
    go_wp2_with fail
    generalize w4.alloc (.cells #[.slice (some ⟨g3, 0, none⟩) vl vl, .slice (some ⟨g4, 0, none⟩) len len, .int .i64 nx] 35) = w5 at T5 Z5 ⊢
    refine (lbas_tk HIH.out HL.out HLn.out T5.out 1 OK.out rfl).mono ?_
    rintro e w6 ⟨a6, c6, rfl, t6, s6⟩
    have T6 := hide t6
    clear t6 T5
    go_wp2_with fail
    refine (eqrw_tk T6.out 0 3 HLn.out HNB.out rfl rfl).mono ?_
    rintro e w6b ⟨rfl, t6b, s6b⟩
    have T6b := hide t6b
    have k0 : w6b.cell? ⟨w.heap.size, 0, none⟩ = some (.slice va vl vc) := T6b.out.at 4 0 rfl rfl
    have k1 : w6b.cell? ⟨w.heap.size, 1, none⟩ = some (.slice ad len cap) := T6b.out.at 4 1 rfl rfl
    have k2 : w6b.cell? ⟨w.heap.size, 2, none⟩ = some (.int .i64 nx) := T6b.out.at 4 2 rfl rfl
    have x0 : w6b.cell? ⟨w4.heap.size, 0, none⟩ = some (.slice (some ⟨g3, 0, none⟩) vl vl) := T6b.out.at 1 0 rfl rfl
    have x1 : w6b.cell? ⟨w4.heap.size, 1, none⟩ = some (.slice (some ⟨g4, 0, none⟩) len len) := T6b.out.at 1 1 rfl rfl
    have x2 : w6b.cell? ⟨w4.heap.size, 2, none⟩ = some (.int .i64 nx) := T6b.out.at 1 2 rfl rfl
    have T6d := hide T6b.out.drew
    clear t6b T6
    go_wp2
    go_region_held3 (fun w' => (w'.cell? ⟨w4.heap.size, 0, none⟩ = some (.slice (some ⟨g3, 0, none⟩) vl vl) ∧ w'.cell? ⟨w4.heap.size, 1, none⟩ = some (.slice (some ⟨g4, 0, none⟩) len len) ∧ w'.cell? ⟨w4.heap.size, 2, none⟩ = some (.int .i64 nx)) ∧ w'.cell? ⟨w.heap.size, 0, none⟩ = some (.slice va vl vc) ∧ w'.cell? ⟨w.heap.size, 1, none⟩ = some (.slice ad len cap) ∧ w'.cell? ⟨w.heap.size, 2, none⟩ = some (.int .i64 nx)) (first | go_keep | exact ⟨⟨T7.out.at 2 0 rfl rfl, T7.out.at 2 1 rfl rfl, T7.out.at 2 2 rfl rfl⟩, T7.out.at 5 0 rfl rfl, T7.out.at 5 1 rfl rfl, T7.out.at 5 2 rfl rfl⟩ | exact ⟨⟨T8.out.at 2 0 rfl rfl, T8.out.at 2 1 rfl rfl, T8.out.at 2 2 rfl rfl⟩, T8.out.at 5 0 rfl rfl, T8.out.at 5 1 rfl rfl, T8.out.at 5 2 rfl rfl⟩) (first
      | (go_at_call 11; with_reducible refine Calls.mono (tosto_tk (vc := vc) (cap := cap) T6d.out H.out HK.out HVE.out HLE.out HLL.out HS.out) ?_; rintro en w7 ⟨g5, g6, rfl, t7, s7⟩; have T7 := hide t7; clear t7)
      | (go_at_call 13; with_reducible refine Calls.mono (eqsto_tk T7.out 3 0 OK.out rfl rfl) ?_; rintro en w8 ⟨rfl, t8, s8⟩; have T8 := hide t8; clear t8))
    all_goals
      have z5 := Z5.out
      have y0 : w8.cell? ⟨w4.heap.size, 0, none⟩ = some (.slice (some ⟨g3, 0, none⟩) vl vl) := T8.out.at 2 0 rfl rfl
      have y1 : w8.cell? ⟨w4.heap.size, 1, none⟩ = some (.slice (some ⟨g4, 0, none⟩) len len) := T8.out.at 2 1 rfl rfl
      have y2 : w8.cell? ⟨w4.heap.size, 2, none⟩ = some (.int .i64 nx) := T8.out.at 2 2 rfl rfl
      clear T6d T6b T7 k0 k1 k2 x0 x1 x2
      go_wp2_with fail
      refine (marksto_sp (hs' := [(w5.heap.size, w6.heap.size, RcH w5.heap.size w6.heap.size (.slice a6 n c6) n L), (w2.heap.size, w3.heap.size, RcH w2.heap.size w3.heap.size (.slice a3 n c3) n L), (w.heap.size, w.heap.size + 1, Cel w.heap.size #[.slice va vl vc, .slice ad len cap, .int .i64 nx] 27)]) T8.out 3 OK.out HMK.out (by omega) rfl (by
        intro x hx
        simp only [List.mem_cons, List.not_mem_nil, or_false] at hx ⊢
        rcases hx with rfl | rfl | rfl
        · exact ⟨.inr (.inl rfl), .inr (by simp only; omega)⟩
        · exact ⟨.inr (.inr (.inr (.inr (.inl rfl)))), .inl (by simp only; omega)⟩
        · exact ⟨.inr (.inr (.inr (.inr (.inr rfl)))), .inl (by simp only; omega)⟩)).mono ?_
      rintro e w9 ⟨rfl, t9, s9⟩
      have T9 := hide t9
      clear t9 T8 y0 y1 y2
      go_wp2_with fail
      refine (eqrw_tk T9.out 0 1 HLn.out HNB.out rfl rfl).mono ?_
      rintro e w10 ⟨rfl, t10, s10⟩
      have T10 := hide t10
      clear t10 T9
      go_wp2_with fail
      refine (markrw_tk (hs' := [(w2.heap.size, w3.heap.size, RcH w2.heap.size w3.heap.size (.slice a3 n c3) n L), (w.heap.size, w.heap.size + 1, Cel w.heap.size #[.slice va vl vc, .slice ad len cap, .int .i64 nx] 27)]) T10.out 0 HLn.out HNB.out HMM.out (by omega) rfl (by
        intro x hx
        simp only [List.mem_cons, List.not_mem_nil, or_false] at hx ⊢
        rcases hx with rfl | rfl
        · exact ⟨.inr (.inl rfl), .inl (by simp only; omega)⟩
        · exact ⟨.inr (.inr rfl), .inl (by simp only; omega)⟩)).mono ?_
      rintro e w11 ⟨rfl, t11, s11⟩
      have T11 := hide t11
      clear t11 T10
      go_wp2_with fail
      refine (heldrw_tk T11.out 0 HNB.out HMM.out rfl).mono ?_
      rintro e w12 ⟨rfl, t12, s12⟩
      have T12 := hide t12
      have k0 : w12.cell? ⟨w.heap.size, 0, none⟩ = some (.slice va vl vc) := T12.out.at 2 0 rfl rfl
      have k1 : w12.cell? ⟨w.heap.size, 1, none⟩ = some (.slice ad len cap) := T12.out.at 2 1 rfl rfl
      have k2 : w12.cell? ⟨w.heap.size, 2, none⟩ = some (.int .i64 nx) := T12.out.at 2 2 rfl rfl
      clear t12 T11
      go_wp2_with fail
      refine (tosto_tk (vc := vc) (cap := cap) T12.out H.out HK.out HVE.out HLE.out HLL.out HS.out).mono ?_
      rintro e w13 ⟨g13, g14, rfl, t13, s13⟩
      have T13 := hide t13
      clear t13 T12 k0 k1 k2
      go_wp2_with fail
      refine (lbas_tk HIH.out HL.out HLn.out T13.out 0 OK.out rfl).mono ?_
      rintro e w14 ⟨a14, c14, rfl, t14, s14⟩
      have T14 := hide t14
      clear t14 T13
      go_wp2_with fail
      refine (eqrw_tk T14.out 0 3 HLn.out HNB.out rfl rfl).mono ?_
      rintro e w15 ⟨rfl, t15, s15⟩
      have T15 := hide t15
      clear t15 T14
      go_wp2_with fail
      refine (heldrw_tk T15.out 2 HNB.out HMM.out rfl).mono ?_
      rintro e w16 ⟨rfl, t16, s16⟩
      have T16 := hide t16
      clear t16 T15
      go_wp2
      go_ret
      exact ⟨rfl, T16.out.1⟩
end Go.Proofs.Ytcnaahajaaifjab

/-
  FnExactBaseRecs, whole.
-/
namespace Go.Proofs.Ytcnaahajaaifjab
open Go.RowKit
open Words

theorem lawBas (va : Option Addr) (vl vc : Nat) (ad : Option Addr) (len cap : Nat) (nx : Int) (vs : List (Int × Int)) (rs : List Kw) (w : World) (h : VlRow w va vl vs) (hk : KnRd w ad len rs) :
    Calls Try.prog 6 #[.agg #[.slice va vl vc, .slice ad len cap, .int .i64 nx]] w fun e w' => e = .returned (.bool true) ∧ Below w.heap.size w w' := lbas_of va vl vc ad len cap nx vs rs w h hk ibase
end Go.Proofs.Ytcnaahajaaifjab
