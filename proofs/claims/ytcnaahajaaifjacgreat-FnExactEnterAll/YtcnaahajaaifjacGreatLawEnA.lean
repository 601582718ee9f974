/-
  FnExactEnterAll, of what impl answers.
-/
import Derived.Test.YtcnaahajaaifjacGreatPk19
import Derived.Test.YtcnaahajaaifjacGreatPk20
import Derived.Test.YtcnaahajaaifjacGreatPk30
import Derived.Deep.RegionHeld3
namespace Go.Proofs.YtcnaahajaaifjacGreat
open Go.RowKit
open Words

set_option maxHeartbeats 6400000 in
set_option maxRecDepth 100000 in
theorem lena_of (va : Option Addr) (vl vc : Nat) (ad : Option Addr) (len cap : Nat) (nx : Int) (vs : List (Int × Int)) (rs : List Kw) (la : Option Addr) (n lc : Nat) (ls : List (Int × Int × Int × Int)) (w : World) (h : VlRow w va vl vs) (hk : KnRd w ad len rs) (hq : RcRow w la n ls) (HI : EnterAllC 9) :
    Calls Tryz.prog 3 #[.agg #[.slice va vl vc, .slice ad len cap, .int .i64 nx], .slice la n lc] w fun e w' => e = .returned (.bool true) ∧ Below w.heap.size w w' := by
  obtain ⟨l, rfl⟩ := rc_tu ls
  obtain ⟨s, hs⟩ : ∃ s : Sto, s = ⟨vs, rs.map ktell, nx⟩ := ⟨_, rfl⟩
  obtain ⟨R1, R2, hR⟩ : ∃ R1 R2, enterAllS s l = (R1, R2) := ⟨_, _, rfl⟩
  have T0 := hide ((Tk.start w).cell #[.slice va vl vc, .slice ad len cap, .int .i64 nx] 27)
  have H := hide h
  have HK := hide hk
  have H1 := hide h.1
  have H2 := hide h.2.1
  have K1 := hide hk.1
  have HQ := hide hq
  have LQ : Hid (l.length = n) := by have := hq.1; rw [List.length_map] at this; exact this
  have hqm := hq.2.1
  have HIH := hide HI
  have HS := hide hs
  have HR := hide hR
  clear h hk hq hR HI hs
  go_enter Tryz.func3, Tryz.ntmps3
  go_wp2_with fail
  refine (szSto_any va vl vc ad len cap nx rs 1048576 _ (Nat.le_refl _) H2.out (HK.out.below T0.out.1)).mono ?_
  rintro e w1 ⟨⟨r0, rfl, r1, r2, r3⟩, b1⟩
  have T1 := hide (T0.out.below b1)
  clear b1 T0
  by_cases hr : r0 < 0
  · clear r3
    go_wp2
    go_ret
    exact ⟨rfl, T1.out.1⟩
  · have h3 := r3 (by omega)
    have hvl : vl ≤ 1048576 := by omega
    have hl : len ≤ 1048576 := by omega
    have HLL : Hid (∀ r ∈ rs, r.2.2.length ≤ 1048576) := fun r hr2 => by have := ksum_mem hr2; omega
    have OK : Hid (OkS s) := by
      have e1 := H1.out
      have e2 := K1.out
      have e3 := ksum_kids rs
      rw [HS.out]
      exact OkS.of (show vs.length ≤ _ by omega) (by show (rs.map ktell).length ≤ _; rw [List.length_map]; omega) (show kkids (rs.map ktell) ≤ _ by omega)
    have HOR : Hid (OkS R1) := by
      have := ena_oks OK.out l
      rw [HR.out] at this
      exact this
    have HVE := hide hvl
    have HLE := hide hl
    have hr9 : r0 ≤ 1048576 := by omega
    obtain ⟨r0, rfl⟩ : ∃ q : Nat, r0 = q := ⟨r0.toNat, by omega⟩
    clear r3 h3
    go_wp2_with fail
    refine (szRcs_any la n lc r0 w1 (by omega) hqm).mono ?_
    rintro e w1' ⟨⟨r5, rfl, r6, r7, r8⟩, hw1⟩
    subst hw1
    by_cases hr2 : r5 < 0
    · clear r8
      go_wp2
      go_ret
      exact ⟨rfl, T1.out.1⟩
    · have hn9 : n ≤ 1048576 := by have := r8 (by omega); omega
      have HN9 := hide hn9
      obtain ⟨K, hK⟩ : ∃ m : Nat, kend (1 + s.vols.length * 2) s.kns = m := ⟨_, rfl⟩
      have HMK := hide hK
      have HK9 : Hid (0 < K ∧ K ≤ 1000000000) := by
        have := OK.out.2.2.2
        rw [HMK.out] at this
        have h2 := kend_eq s.kns (1 + s.vols.length * 2)
        rw [HMK.out] at h2
        exact ⟨by omega, this⟩
      obtain ⟨K2, hK2⟩ : ∃ m : Nat, K + n * 4 = m := ⟨_, rfl⟩
      have HK2 := hide hK2
      obtain ⟨N, hN⟩ : ∃ m : Nat, kend (1 + R1.vols.length * 2) R1.kns = m := ⟨_, rfl⟩
      have HMN := hide hN
      have HNN : Hid (N ≤ 1000000000) := by
        have := HOR.out.2.2.2
        rw [HMN.out] at this
        exact this
      have hk0 : ¬ ((K2 : Int) < 0) := by omega
      have hN0 : ¬ ((N : Int) < 0) := by omega
      have hNN : ((N : Int) != (N : Int)) = false := by simp
      have hne : (R2 != R2) = false := by simp
      have s1 := T1.out.1.size
      have z1 : w.heap.size + 1 ≤ w1'.heap.size := T1.out.hi 0 rfl
      clear r8 hK hN hK2 hqm
      have k0 : w1'.cell? ⟨w.heap.size, 0, none⟩ = some (.slice va vl vc) := T1.out.at 0 0 rfl rfl
      have k1 : w1'.cell? ⟨w.heap.size, 1, none⟩ = some (.slice ad len cap) := T1.out.at 0 1 rfl rfl
      have k2 : w1'.cell? ⟨w.heap.size, 2, none⟩ = some (.int .i64 nx) := T1.out.at 0 2 rfl rfl
      go_wp2_with fail
      refine (tosto_tk (vc := vc) (cap := cap) T1.out H.out HK.out HVE.out HLE.out HLL.out HS.out).mono ?_
      rintro e w2 ⟨g2, k2', rfl, t2, s2⟩
      have T2 := hide t2
      clear t2 T1 k0 k1 k2
      go_wp2_with fail
      refine (torw_tk T2.out HQ.out HN9.out).mono ?_
      rintro e w3 ⟨g3, rfl, t3, s3⟩
      have T3 := hide t3
      clear t3 T2
      go_wp2_with fail
      refine (ena_tk senterAll HR.out LQ.out HN9.out T3.out 1 0 OK.out rfl rfl).mono ?_
      rintro e w4 ⟨x4, xl4, xc4, y4, yl4, yc4, rfl, t4', s4⟩
      have t4 := t4'.drop (hs' := [(w3.heap.size, w4.heap.size, Sts w3.heap.size w4.heap.size (.agg #[.slice x4 xl4 xc4, .slice y4 yl4 yc4, .int .i64 R1.next]) R1), (w.heap.size, w.heap.size + 1, Cel w.heap.size #[.slice va vl vc, .slice ad len cap, .int .i64 nx] 27)]) (by intro x hx; simp only [List.mem_cons, List.not_mem_nil, or_false] at hx ⊢; rcases hx with rfl | rfl <;> simp)
      have T5 := hide (t4.celln rfl #[.slice x4 xl4 xc4, .slice y4 yl4 yc4, .int .i64 R1.next] 36)
      have Z5 : Hid ((w4.alloc (.cells #[.slice x4 xl4 xc4, .slice y4 yl4 yc4, .int .i64 R1.next] 36)).heap.size = w4.heap.size + 1) := by show _ = _; simp
      clear t4 t4' T3
      go_upto_region 9 with fail
      generalize w4.alloc (.cells #[.slice x4 xl4 xc4, .slice y4 yl4 yc4, .int .i64 R1.next] 36) = w5 at T5 Z5 ⊢
      have k0 : w5.cell? ⟨w.heap.size, 0, none⟩ = some (.slice va vl vc) := T5.out.at 2 0 rfl rfl
      have k1 : w5.cell? ⟨w.heap.size, 1, none⟩ = some (.slice ad len cap) := T5.out.at 2 1 rfl rfl
      have k2 : w5.cell? ⟨w.heap.size, 2, none⟩ = some (.int .i64 nx) := T5.out.at 2 2 rfl rfl
      go_wp2_with fail
      refine (tosto_tk (vc := vc) (cap := cap) T5.out H.out HK.out HVE.out HLE.out HLL.out HS.out).mono ?_
      rintro e w6 ⟨g6, k6, rfl, t6, s6⟩
      have T7 := hide (t6.celln rfl #[.slice (some ⟨g6, 0, none⟩) vl vl, .slice (some ⟨k6, 0, none⟩) len len, .int .i64 nx] 36)
      have Z7 : Hid ((w6.alloc (.cells #[.slice (some ⟨g6, 0, none⟩) vl vl, .slice (some ⟨k6, 0, none⟩) len len, .int .i64 nx] 36)).heap.size = w6.heap.size + 1) := by show _ = _; simp
      clear t6 T5 k0 k1 k2
      go_wp2_with fail
      generalize w6.alloc (.cells #[.slice (some ⟨g6, 0, none⟩) vl vl, .slice (some ⟨k6, 0, none⟩) len len, .int .i64 nx] 36) = w7 at T7 Z7 ⊢
      refine (torw_tk T7.out HQ.out HN9.out).mono ?_
      rintro e w8 ⟨q8, rfl, t8, s8⟩
      have T8 := hide t8
      have k0 : w8.cell? ⟨w6.heap.size, 0, none⟩ = some (.slice (some ⟨g6, 0, none⟩) vl vl) := T8.out.at 1 0 rfl rfl
      have k1 : w8.cell? ⟨w6.heap.size, 1, none⟩ = some (.slice (some ⟨k6, 0, none⟩) len len) := T8.out.at 1 1 rfl rfl
      have k2 : w8.cell? ⟨w6.heap.size, 2, none⟩ = some (.int .i64 nx) := T8.out.at 1 2 rfl rfl
      clear t8 T7
      go_wp2_with fail
      refine (ena_tk HIH.out HR.out LQ.out HN9.out T8.out 2 0 OK.out rfl rfl).mono ?_
      rintro e w9 ⟨x9, xl9, xc9, y9, yl9, yc9, rfl, t9, s9⟩
      have T10 := hide (t9.celln rfl #[.slice x9 xl9 xc9, .slice y9 yl9 yc9, .int .i64 R1.next] 36)
      have Z10 : Hid ((w9.alloc (.cells #[.slice x9 xl9 xc9, .slice y9 yl9 yc9, .int .i64 R1.next] 36)).heap.size = w9.heap.size + 1) := by show _ = _; simp
      clear t9 T8 k0 k1 k2
      go_upto_region 12 with fail
      generalize w9.alloc (.cells #[.slice x9 xl9 xc9, .slice y9 yl9 yc9, .int .i64 R1.next] 36) = w10 at T10 Z10 ⊢
      have k0 : w10.cell? ⟨w9.heap.size, 0, none⟩ = some (.slice x9 xl9 xc9) := T10.out.at 0 0 rfl rfl
      have k1 : w10.cell? ⟨w9.heap.size, 1, none⟩ = some (.slice y9 yl9 yc9) := T10.out.at 0 1 rfl rfl
      have k2 : w10.cell? ⟨w9.heap.size, 2, none⟩ = some (.int .i64 R1.next) := T10.out.at 0 2 rfl rfl
      have v0 : w10.cell? ⟨w4.heap.size, 0, none⟩ = some (.slice x4 xl4 xc4) := T10.out.at 5 0 rfl rfl
      have v1 : w10.cell? ⟨w4.heap.size, 1, none⟩ = some (.slice y4 yl4 yc4) := T10.out.at 5 1 rfl rfl
      have v2 : w10.cell? ⟨w4.heap.size, 2, none⟩ = some (.int .i64 R1.next) := T10.out.at 5 2 rfl rfl
      go_wp2_with fail
      refine (eqsto_tk T10.out 1 6 HOR.out rfl rfl).mono ?_
      rintro e w11 ⟨rfl, t11, s11⟩
      have T11 := hide t11
      have T11d := hide t11.drew
      clear t11 T10 k0 k1 k2 v0 v1 v2
      have k0 : w11.cell? ⟨w.heap.size, 0, none⟩ = some (.slice va vl vc) := T11.out.at 7 0 rfl rfl
      have k1 : w11.cell? ⟨w.heap.size, 1, none⟩ = some (.slice ad len cap) := T11.out.at 7 1 rfl rfl
      have k2 : w11.cell? ⟨w.heap.size, 2, none⟩ = some (.int .i64 nx) := T11.out.at 7 2 rfl rfl
      have v0 : w11.cell? ⟨w6.heap.size, 0, none⟩ = some (.slice (some ⟨g6, 0, none⟩) vl vl) := T11.out.at 3 0 rfl rfl
      have v1 : w11.cell? ⟨w6.heap.size, 1, none⟩ = some (.slice (some ⟨k6, 0, none⟩) len len) := T11.out.at 3 1 rfl rfl
      have v2 : w11.cell? ⟨w6.heap.size, 2, none⟩ = some (.int .i64 nx) := T11.out.at 3 2 rfl rfl
      go_wp2
      go_region_held3 (fun w' => (w'.cell? ⟨w6.heap.size, 0, none⟩ = some (.slice (some ⟨g6, 0, none⟩) vl vl) ∧ w'.cell? ⟨w6.heap.size, 1, none⟩ = some (.slice (some ⟨k6, 0, none⟩) len len) ∧ w'.cell? ⟨w6.heap.size, 2, none⟩ = some (.int .i64 nx)) ∧ w'.cell? ⟨w.heap.size, 0, none⟩ = some (.slice va vl vc) ∧ w'.cell? ⟨w.heap.size, 1, none⟩ = some (.slice ad len cap) ∧ w'.cell? ⟨w.heap.size, 2, none⟩ = some (.int .i64 nx)) (first | go_keep | exact ⟨⟨T12.out.at 4 0 rfl rfl, T12.out.at 4 1 rfl rfl, T12.out.at 4 2 rfl rfl⟩, T12.out.at 8 0 rfl rfl, T12.out.at 8 1 rfl rfl, T12.out.at 8 2 rfl rfl⟩ | exact ⟨⟨T13.out.at 4 0 rfl rfl, T13.out.at 4 1 rfl rfl, T13.out.at 4 2 rfl rfl⟩, T13.out.at 8 0 rfl rfl, T13.out.at 8 1 rfl rfl, T13.out.at 8 2 rfl rfl⟩) (first
        | (go_at_call 7; (with_reducible refine Calls.mono (tosto_tk (vc := vc) (cap := cap) T11d.out H.out HK.out HVE.out HLE.out HLL.out HS.out) ?_); rintro en w12 ⟨g12, k12, rfl, t12, s12⟩; have T12 := hide t12; clear t12)
        | (go_at_call 10; (with_reducible refine Calls.mono (eqsto_tk T12.out 5 0 OK.out rfl rfl) ?_); rintro en w13 ⟨rfl, t13, s13⟩; have T13 := hide t13; clear t13))
      all_goals
        have T14 := hide (T13.out.drop (fun x hx => List.mem_cons_of_mem _ hx))
        clear T11 T11d T12 T13 k0 k1 k2 v0 v1 v2
        go_wp2_with fail
        refine (torw_tk T14.out HQ.out HN9.out).mono ?_
        rintro e w15 ⟨g15, rfl, t15, s15⟩
        have T15 := hide t15
        clear t15 T14
        go_wp2_with fail
        refine (eqrw_tk T15.out 3 0 LQ.out (by omega) rfl rfl).mono ?_
        rintro e w16 ⟨rfl, t16, s16⟩
        have T16 := hide (t16.drop (fun x hx => List.mem_cons_of_mem _ hx))
        clear t16 T15
        have v0 : w16.cell? ⟨w6.heap.size, 0, none⟩ = some (.slice (some ⟨g6, 0, none⟩) vl vl) := T16.out.at 3 0 rfl rfl
        have v1 : w16.cell? ⟨w6.heap.size, 1, none⟩ = some (.slice (some ⟨k6, 0, none⟩) len len) := T16.out.at 3 1 rfl rfl
        have v2 : w16.cell? ⟨w6.heap.size, 2, none⟩ = some (.int .i64 nx) := T16.out.at 3 2 rfl rfl
        have z5 := Z5.out
        have z7 := Z7.out
        have z10 := Z10.out
        have hm1 := hide (show ∀ x ∈ [(w9.heap.size, w9.heap.size + 1, Cel w9.heap.size #[.slice x9 xl9 xc9, .slice y9 yl9 yc9, .int .i64 R1.next] 36), (w8.heap.size, w9.heap.size, Sts w8.heap.size w9.heap.size (.agg #[.slice x9 xl9 xc9, .slice y9 yl9 yc9, .int .i64 R1.next]) R1), (w7.heap.size, w8.heap.size, RcH w7.heap.size w8.heap.size (.slice (some ⟨q8, 0, none⟩) n n) n l), (w4.heap.size, w4.heap.size + 1, Cel w4.heap.size #[.slice x4 xl4 xc4, .slice y4 yl4 yc4, .int .i64 R1.next] 36), (w3.heap.size, w4.heap.size, Sts w3.heap.size w4.heap.size (.agg #[.slice x4 xl4 xc4, .slice y4 yl4 yc4, .int .i64 R1.next]) R1), (w.heap.size, w.heap.size + 1, Cel w.heap.size #[.slice va vl vc, .slice ad len cap, .int .i64 nx] 27)], x ∈ [(w9.heap.size, w9.heap.size + 1, Cel w9.heap.size #[.slice x9 xl9 xc9, .slice y9 yl9 yc9, .int .i64 R1.next] 36), (w8.heap.size, w9.heap.size, Sts w8.heap.size w9.heap.size (.agg #[.slice x9 xl9 xc9, .slice y9 yl9 yc9, .int .i64 R1.next]) R1), (w7.heap.size, w8.heap.size, RcH w7.heap.size w8.heap.size (.slice (some ⟨q8, 0, none⟩) n n) n l), (w6.heap.size, w6.heap.size + 1, Cel w6.heap.size #[.slice (some ⟨g6, 0, none⟩) vl vl, .slice (some ⟨k6, 0, none⟩) len len, .int .i64 nx] 36), (w5.heap.size, w6.heap.size, Sts w5.heap.size w6.heap.size (.agg #[.slice (some ⟨g6, 0, none⟩) vl vl, .slice (some ⟨k6, 0, none⟩) len len, .int .i64 nx]) s), (w4.heap.size, w4.heap.size + 1, Cel w4.heap.size #[.slice x4 xl4 xc4, .slice y4 yl4 yc4, .int .i64 R1.next] 36), (w3.heap.size, w4.heap.size, Sts w3.heap.size w4.heap.size (.agg #[.slice x4 xl4 xc4, .slice y4 yl4 yc4, .int .i64 R1.next]) R1), (w.heap.size, w.heap.size + 1, Cel w.heap.size #[.slice va vl vc, .slice ad len cap, .int .i64 nx] 27)] ∧ (x.2.1 ≤ w5.heap.size ∨ w6.heap.size ≤ x.1) from (fun x hx => by simp only [List.mem_cons, List.not_mem_nil, or_false] at hx; rcases hx with rfl | rfl | rfl | rfl | rfl | rfl <;> exact ⟨by simp, by simp only; omega⟩))
        have hm2 := hide (show ∀ x ∈ [(w9.heap.size, w9.heap.size + 1, Cel w9.heap.size #[.slice x9 xl9 xc9, .slice y9 yl9 yc9, .int .i64 R1.next] 36), (w8.heap.size, w9.heap.size, Sts w8.heap.size w9.heap.size (.agg #[.slice x9 xl9 xc9, .slice y9 yl9 yc9, .int .i64 R1.next]) R1), (w4.heap.size, w4.heap.size + 1, Cel w4.heap.size #[.slice x4 xl4 xc4, .slice y4 yl4 yc4, .int .i64 R1.next] 36), (w3.heap.size, w4.heap.size, Sts w3.heap.size w4.heap.size (.agg #[.slice x4 xl4 xc4, .slice y4 yl4 yc4, .int .i64 R1.next]) R1), (w.heap.size, w.heap.size + 1, Cel w.heap.size #[.slice va vl vc, .slice ad len cap, .int .i64 nx] 27)], x ∈ [(w9.heap.size, w9.heap.size + 1, Cel w9.heap.size #[.slice x9 xl9 xc9, .slice y9 yl9 yc9, .int .i64 R1.next] 36), (w8.heap.size, w9.heap.size, Sts w8.heap.size w9.heap.size (.agg #[.slice x9 xl9 xc9, .slice y9 yl9 yc9, .int .i64 R1.next]) R1), (w7.heap.size, w8.heap.size, RcH w7.heap.size w8.heap.size (.slice (some ⟨q8, 0, none⟩) n n) n l), (w4.heap.size, w4.heap.size + 1, Cel w4.heap.size #[.slice x4 xl4 xc4, .slice y4 yl4 yc4, .int .i64 R1.next] 36), (w3.heap.size, w4.heap.size, Sts w3.heap.size w4.heap.size (.agg #[.slice x4 xl4 xc4, .slice y4 yl4 yc4, .int .i64 R1.next]) R1), (w.heap.size, w.heap.size + 1, Cel w.heap.size #[.slice va vl vc, .slice ad len cap, .int .i64 nx] 27)] ∧ (x.2.1 ≤ w7.heap.size ∨ w8.heap.size ≤ x.1) from (fun x hx => by simp only [List.mem_cons, List.not_mem_nil, or_false] at hx; rcases hx with rfl | rfl | rfl | rfl | rfl <;> exact ⟨by simp, by simp only; omega⟩))
        have hm3 := hide (show ∀ x ∈ [(w9.heap.size, w9.heap.size + 1, Cel w9.heap.size #[.slice x9 xl9 xc9, .slice y9 yl9 yc9, .int .i64 R1.next] 36), (w4.heap.size, w4.heap.size + 1, Cel w4.heap.size #[.slice x4 xl4 xc4, .slice y4 yl4 yc4, .int .i64 R1.next] 36), (w3.heap.size, w4.heap.size, Sts w3.heap.size w4.heap.size (.agg #[.slice x4 xl4 xc4, .slice y4 yl4 yc4, .int .i64 R1.next]) R1), (w.heap.size, w.heap.size + 1, Cel w.heap.size #[.slice va vl vc, .slice ad len cap, .int .i64 nx] 27)], x ∈ [(w9.heap.size, w9.heap.size + 1, Cel w9.heap.size #[.slice x9 xl9 xc9, .slice y9 yl9 yc9, .int .i64 R1.next] 36), (w8.heap.size, w9.heap.size, Sts w8.heap.size w9.heap.size (.agg #[.slice x9 xl9 xc9, .slice y9 yl9 yc9, .int .i64 R1.next]) R1), (w4.heap.size, w4.heap.size + 1, Cel w4.heap.size #[.slice x4 xl4 xc4, .slice y4 yl4 yc4, .int .i64 R1.next] 36), (w3.heap.size, w4.heap.size, Sts w3.heap.size w4.heap.size (.agg #[.slice x4 xl4 xc4, .slice y4 yl4 yc4, .int .i64 R1.next]) R1), (w.heap.size, w.heap.size + 1, Cel w.heap.size #[.slice va vl vc, .slice ad len cap, .int .i64 nx] 27)] ∧ (x.2.1 ≤ w8.heap.size ∨ w9.heap.size ≤ x.1) from (fun x hx => by simp only [List.mem_cons, List.not_mem_nil, or_false] at hx; rcases hx with rfl | rfl | rfl | rfl <;> exact ⟨by simp, by simp only; omega⟩))
        have lo1 : w.heap.size ≤ w5.heap.size := by omega
        have lo2 : w.heap.size ≤ w7.heap.size := by omega
        have lo3 : w.heap.size ≤ w8.heap.size := by omega
        clear z5 z7 z10
        go_wp2_with fail
        refine (marksto_sp T16.out 4 OK.out HMK.out lo1 rfl hm1.out).mono ?_
        rintro e w17 ⟨rfl, t17, -⟩
        have T17 := hide t17
        clear t17 T16 v0 v1 v2 hm1
        go_wp2_with fail
        refine (markrk_sp T17.out 2 LQ.out (by omega) HK9.out.1 HK9.out.2 HK2.out lo2 rfl hm2.out).mono ?_
        rintro e w18 ⟨rfl, t18, -⟩
        have T18 := hide t18
        clear t18 T17 hm2
        have k0 : w18.cell? ⟨w9.heap.size, 0, none⟩ = some (.slice x9 xl9 xc9) := T18.out.at 0 0 rfl rfl
        have k1 : w18.cell? ⟨w9.heap.size, 1, none⟩ = some (.slice y9 yl9 yc9) := T18.out.at 0 1 rfl rfl
        have k2 : w18.cell? ⟨w9.heap.size, 2, none⟩ = some (.int .i64 R1.next) := T18.out.at 0 2 rfl rfl
        have v0 : w18.cell? ⟨w4.heap.size, 0, none⟩ = some (.slice x4 xl4 xc4) := T18.out.at 2 0 rfl rfl
        have v1 : w18.cell? ⟨w4.heap.size, 1, none⟩ = some (.slice y4 yl4 yc4) := T18.out.at 2 1 rfl rfl
        have v2 : w18.cell? ⟨w4.heap.size, 2, none⟩ = some (.int .i64 R1.next) := T18.out.at 2 2 rfl rfl
        go_wp2_with fail
        refine (eqsto_tk T18.out 1 3 HOR.out rfl rfl).mono ?_
        rintro e w19 ⟨rfl, t19, -⟩
        have T19 := hide t19
        clear t19 T18 k0 k1 k2 v0 v1 v2
        have k0 : w19.cell? ⟨w9.heap.size, 0, none⟩ = some (.slice x9 xl9 xc9) := T19.out.at 0 0 rfl rfl
        have k1 : w19.cell? ⟨w9.heap.size, 1, none⟩ = some (.slice y9 yl9 yc9) := T19.out.at 0 1 rfl rfl
        have k2 : w19.cell? ⟨w9.heap.size, 2, none⟩ = some (.int .i64 R1.next) := T19.out.at 0 2 rfl rfl
        go_wp2_with fail
        refine (marksto_tk T19.out 1 HOR.out HMN.out lo3 rfl hm3.out).mono ?_
        rintro e w20 ⟨rfl, t20, -⟩
        have T20 := hide t20
        clear t20 T19 k0 k1 k2 hm3
        have k0 : w20.cell? ⟨w9.heap.size, 0, none⟩ = some (.slice x9 xl9 xc9) := T20.out.at 1 0 rfl rfl
        have k1 : w20.cell? ⟨w9.heap.size, 1, none⟩ = some (.slice y9 yl9 yc9) := T20.out.at 1 1 rfl rfl
        have k2 : w20.cell? ⟨w9.heap.size, 2, none⟩ = some (.int .i64 R1.next) := T20.out.at 1 2 rfl rfl
        go_wp2_with fail
        refine (heldsto_tk T20.out 0 HNN.out rfl).mono ?_
        rintro e w21 ⟨rfl, t21, -⟩
        have T21 := hide t21
        clear t21 T20 k0 k1 k2
        have k0 : w21.cell? ⟨w.heap.size, 0, none⟩ = some (.slice va vl vc) := T21.out.at 4 0 rfl rfl
        have k1 : w21.cell? ⟨w.heap.size, 1, none⟩ = some (.slice ad len cap) := T21.out.at 4 1 rfl rfl
        have k2 : w21.cell? ⟨w.heap.size, 2, none⟩ = some (.int .i64 nx) := T21.out.at 4 2 rfl rfl
        go_wp2_with fail
        refine (tosto_tk (vc := vc) (cap := cap) T21.out H.out HK.out HVE.out HLE.out HLL.out HS.out).mono ?_
        rintro e w22 ⟨g22, k22, rfl, t22, s22⟩
        have T22 := hide t22
        clear t22 T21 k0 k1 k2
        go_wp2_with fail
        refine (torw_tk T22.out HQ.out HN9.out).mono ?_
        rintro e w23 ⟨g23, rfl, t23, s23⟩
        have T23 := hide t23
        clear t23 T22
        go_wp2_with fail
        refine (ena_tk HIH.out HR.out LQ.out HN9.out T23.out 1 0 OK.out rfl rfl).mono ?_
        rintro e w24 ⟨x24, xl24, xc24, y24, yl24, yc24, rfl, t24, s24⟩
        have T25 := hide (t24.celln rfl #[.slice x24 xl24 xc24, .slice y24 yl24 yc24, .int .i64 R1.next] 36)
        have Z25 : Hid ((w24.alloc (.cells #[.slice x24 xl24 xc24, .slice y24 yl24 yc24, .int .i64 R1.next] 36)).heap.size = w24.heap.size + 1) := by show _ = _; simp
        clear t24 T23
        go_upto_region 32 with fail
        generalize w24.alloc (.cells #[.slice x24 xl24 xc24, .slice y24 yl24 yc24, .int .i64 R1.next] 36) = w25 at T25 Z25 ⊢
        have k0 : w25.cell? ⟨w24.heap.size, 0, none⟩ = some (.slice x24 xl24 xc24) := T25.out.at 0 0 rfl rfl
        have k1 : w25.cell? ⟨w24.heap.size, 1, none⟩ = some (.slice y24 yl24 yc24) := T25.out.at 0 1 rfl rfl
        have k2 : w25.cell? ⟨w24.heap.size, 2, none⟩ = some (.int .i64 R1.next) := T25.out.at 0 2 rfl rfl
        have v0 : w25.cell? ⟨w4.heap.size, 0, none⟩ = some (.slice x4 xl4 xc4) := T25.out.at 6 0 rfl rfl
        have v1 : w25.cell? ⟨w4.heap.size, 1, none⟩ = some (.slice y4 yl4 yc4) := T25.out.at 6 1 rfl rfl
        have v2 : w25.cell? ⟨w4.heap.size, 2, none⟩ = some (.int .i64 R1.next) := T25.out.at 6 2 rfl rfl
        go_wp2_with fail
        refine (eqsto_tk T25.out 1 7 HOR.out rfl rfl).mono ?_
        rintro e w26 ⟨rfl, t26, -⟩
        have T26 := hide t26
        clear t26 T25 k0 k1 k2 v0 v1 v2
        have k0 : w26.cell? ⟨w9.heap.size, 0, none⟩ = some (.slice x9 xl9 xc9) := T26.out.at 5 0 rfl rfl
        have k1 : w26.cell? ⟨w9.heap.size, 1, none⟩ = some (.slice y9 yl9 yc9) := T26.out.at 5 1 rfl rfl
        have k2 : w26.cell? ⟨w9.heap.size, 2, none⟩ = some (.int .i64 R1.next) := T26.out.at 5 2 rfl rfl
        go_wp2_with fail
        refine (heldsto_tk T26.out 4 HNN.out rfl).mono ?_
        rintro e w27 ⟨rfl, t27, -⟩
        have T27 := hide t27
        clear t27 T26 k0 k1 k2
        go_wp2
        go_ret
        exact ⟨rfl, T27.out.1⟩
end Go.Proofs.YtcnaahajaaifjacGreat
