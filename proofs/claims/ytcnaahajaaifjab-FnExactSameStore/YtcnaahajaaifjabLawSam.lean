/-
  FnExactSameStore, of what impl answers.
-/
import Derived.Test.YtcnaahajaaifjabPq26
import Derived.Test.YtcnaahajaaifjabSSame
import Derived.Deep.RegionHeld3
namespace Go.Proofs.Ytcnaahajaaifjab
open Go.RowKit
open Words

theorem sam_tk {f : Nat} (HC : SameC f) {w wi : World} {hs : List Hold} {l1 h1 l2 h2 : Nat} {v u : Value} {s t : Sto} {C : Bool} (hC : sameS s t = C) (T : Tk w wi hs) (n1 n2 : Nat) (ho : OkS s) (ho2 : OkS t) (e1 : hs[n1]? = some (l1, h1, Sts l1 h1 v s)) (e2 : hs[n2]? = some (l2, h2, Sts l2 h2 u t)) :
    Calls Try.prog f #[v, u] wi fun e w' => e = .returned (.bool C) ∧ Tk w w' hs ∧ wi.heap.size ≤ w'.heap.size := by
  refine (HC v s u t wi ((T.get n1 e1).rd ho.fit (T.hi n1 e1)) ((T.get n2 e2).rd ho2.fit (T.hi n2 e2))).mono ?_
  rintro e w' ⟨rfl, hb⟩
  exact ⟨by rw [hC], T.below hb, hb.size⟩

set_option maxHeartbeats 2000000 in
set_option maxRecDepth 100000 in
theorem lsam_of (va : Option Addr) (vl vc : Nat) (ad : Option Addr) (len cap : Nat) (nx : Int) (vs : List (Int × Int)) (rs : List Kw) (ua : Option Addr) (ul uc : Nat) (bd : Option Addr) (ben bap : Nat) (my : Int) (us : List (Int × Int)) (qs : List Kw) (w : World) (h : VlRow w va vl vs) (hk : KnRd w ad len rs) (h2 : VlRow w ua ul us) (hk2 : KnRd w bd ben qs) (HI : SameC 30) :
    Calls Try.prog 8 #[.agg #[.slice va vl vc, .slice ad len cap, .int .i64 nx], .agg #[.slice ua ul uc, .slice bd ben bap, .int .i64 my]] w fun e w' => e = .returned (.bool true) ∧ Below w.heap.size w w' := by
  obtain ⟨s, hs⟩ : ∃ s : Sto, s = ⟨vs, rs.map ktell, nx⟩ := ⟨_, rfl⟩
  obtain ⟨t, ht⟩ : ∃ t : Sto, t = ⟨us, qs.map ktell, my⟩ := ⟨_, rfl⟩
  obtain ⟨C, hC⟩ : ∃ C, sameS s t = C := ⟨_, rfl⟩
  have HC := hide hC
  have T0 := hide (Tk.two w #[.slice va vl vc, .slice ad len cap, .int .i64 nx] #[.slice ua ul uc, .slice bd ben bap, .int .i64 my] 27 27)
  have H := hide h
  have HK := hide hk
  have H2 := hide h2
  have HK2 := hide hk2
  have E1 := hide h.1
  have E2 := hide h2.1
  have M1 := hide h.2.1
  have M2 := hide h2.2.1
  have K1 := hide hk.1
  have K2 := hide hk2.1
  have HIH := hide HI
  have HS := hide hs
  have HS2 := hide ht
  clear h hk h2 hk2 hC HI hs ht
  go_enter Try.func8, Try.ntmps8
  go_wp2_with fail
  generalize (w.alloc (.cells #[.slice va vl vc, .slice ad len cap, .int .i64 nx] 27)).alloc (.cells #[.slice ua ul uc, .slice bd ben bap, .int .i64 my] 27) = wb at T0 ⊢
  refine (szSto_any va vl vc ad len cap nx rs 1048576 _ (Nat.le_refl _) M1.out (HK.out.below T0.out.1)).mono ?_
  rintro e w1 ⟨⟨r0, rfl, r1, r2, r3⟩, b1⟩
  have T1 := hide (T0.out.below b1)
  have k0 : w1.cell? ⟨w.heap.size + 1, 0, none⟩ = some (.slice ua ul uc) := T1.out.at 0 0 rfl rfl
  have k1 : w1.cell? ⟨w.heap.size + 1, 1, none⟩ = some (.slice bd ben bap) := T1.out.at 0 1 rfl rfl
  have k2 : w1.cell? ⟨w.heap.size + 1, 2, none⟩ = some (.int .i64 my) := T1.out.at 0 2 rfl rfl
  clear b1 T0
  by_cases hr : r0 < 0
  · clear r3
    go_wp2
    go_ret
    exact ⟨rfl, T1.out.1⟩
  · have h3 := r3 (by omega)
    obtain ⟨y, rfl⟩ : ∃ y : Nat, r0 = y := ⟨r0.toNat, by omega⟩
    have hy : y ≤ 1048576 := by omega
    have CZ := hide (szSto_any ua ul uc bd ben bap my qs y w1 hy M2.out (HK2.out.below T1.out.1))
    clear r3
    go_wp2_with fail
    refine CZ.out.mono ?_
    rintro e w1b ⟨⟨s0, rfl, s1, s2, s3⟩, b2⟩
    have T1b := hide (T1.out.below b2)
    clear b2 T1 CZ k0 k1 k2
    by_cases hs0 : s0 < 0
    · clear s3
      go_wp2
      go_ret
      exact ⟨rfl, T1b.out.1⟩
    · have h4 := s3 (by omega)
      have hvl : vl ≤ 1048576 := by omega
      have hl : len ≤ 1048576 := by omega
      have hul : ul ≤ 1048576 := by omega
      have hbl : ben ≤ 1048576 := by omega
      have HLL : Hid (∀ r ∈ rs, r.2.2.length ≤ 1048576) := fun r hr2 => by have := ksum_mem hr2; omega
      have HMM : Hid (∀ r ∈ qs, r.2.2.length ≤ 1048576) := fun r hr2 => by have := ksum_mem hr2; omega
      have OK : Hid (OkS s) := by
        have e1 := E1.out
        have e2 := K1.out
        have e3 := ksum_kids rs
        rw [HS.out]
        exact OkS.of (show vs.length ≤ _ by omega) (by show (rs.map ktell).length ≤ _; rw [List.length_map]; omega) (show kkids (rs.map ktell) ≤ _ by omega)
      have OK2 : Hid (OkS t) := by
        have e1 := E2.out
        have e2 := K2.out
        have e3 := ksum_kids qs
        rw [HS2.out]
        exact OkS.of (show us.length ≤ _ by omega) (by show (qs.map ktell).length ≤ _; rw [List.length_map]; omega) (show kkids (qs.map ktell) ≤ _ by omega)
      have HVE := hide hvl
      have HLE := hide hl
      have HUE := hide hul
      have HME := hide hbl
      have k0 : w1b.cell? ⟨w.heap.size, 0, none⟩ = some (.slice va vl vc) := T1b.out.at 1 0 rfl rfl
      have k1 : w1b.cell? ⟨w.heap.size, 1, none⟩ = some (.slice ad len cap) := T1b.out.at 1 1 rfl rfl
      have k2 : w1b.cell? ⟨w.heap.size, 2, none⟩ = some (.int .i64 nx) := T1b.out.at 1 2 rfl rfl
      have q0 : w1b.cell? ⟨w.heap.size + 1, 0, none⟩ = some (.slice ua ul uc) := T1b.out.at 0 0 rfl rfl
      have q1 : w1b.cell? ⟨w.heap.size + 1, 1, none⟩ = some (.slice bd ben bap) := T1b.out.at 0 1 rfl rfl
      have q2 : w1b.cell? ⟨w.heap.size + 1, 2, none⟩ = some (.int .i64 my) := T1b.out.at 0 2 rfl rfl
      have TD := hide T1b.out.drew
      clear s3 h3 h4 T1b
      go_wp2
      have KP : Hid ((w1b.drew.cell? ⟨w.heap.size, 0, none⟩ = some (.slice va vl vc) ∧ w1b.drew.cell? ⟨w.heap.size, 1, none⟩ = some (.slice ad len cap) ∧ w1b.drew.cell? ⟨w.heap.size, 2, none⟩ = some (.int .i64 nx)) ∧ (w1b.drew.cell? ⟨w.heap.size + 1, 0, none⟩ = some (.slice ua ul uc) ∧ w1b.drew.cell? ⟨w.heap.size + 1, 1, none⟩ = some (.slice bd ben bap) ∧ w1b.drew.cell? ⟨w.heap.size + 1, 2, none⟩ = some (.int .i64 my))) := ⟨⟨TD.out.at 1 0 rfl rfl, TD.out.at 1 1 rfl rfl, TD.out.at 1 2 rfl rfl⟩, ⟨TD.out.at 0 0 rfl rfl, TD.out.at 0 1 rfl rfl, TD.out.at 0 2 rfl rfl⟩⟩
      go_region_held3 (fun w' => (w'.cell? ⟨w.heap.size, 0, none⟩ = some (.slice va vl vc) ∧ w'.cell? ⟨w.heap.size, 1, none⟩ = some (.slice ad len cap) ∧ w'.cell? ⟨w.heap.size, 2, none⟩ = some (.int .i64 nx)) ∧ (w'.cell? ⟨w.heap.size + 1, 0, none⟩ = some (.slice ua ul uc) ∧ w'.cell? ⟨w.heap.size + 1, 1, none⟩ = some (.slice bd ben bap) ∧ w'.cell? ⟨w.heap.size + 1, 2, none⟩ = some (.int .i64 my))) (first | exact KP.out | go_keep) (first
        | (go_at_call 11; (with_reducible refine Calls.mono (tosto_tk (vc := vc) (cap := cap) TD.out H.out HK.out HVE.out HLE.out HLL.out HS.out) ?_); rintro en w2 ⟨g1, g2, rfl, t2, s2'⟩; have T2 := hide t2; clear t2 TD KP; have KP : Hid ((w2.cell? ⟨w.heap.size, 0, none⟩ = some (.slice va vl vc) ∧ w2.cell? ⟨w.heap.size, 1, none⟩ = some (.slice ad len cap) ∧ w2.cell? ⟨w.heap.size, 2, none⟩ = some (.int .i64 nx)) ∧ (w2.cell? ⟨w.heap.size + 1, 0, none⟩ = some (.slice ua ul uc) ∧ w2.cell? ⟨w.heap.size + 1, 1, none⟩ = some (.slice bd ben bap) ∧ w2.cell? ⟨w.heap.size + 1, 2, none⟩ = some (.int .i64 my))) := ⟨⟨T2.out.at 2 0 rfl rfl, T2.out.at 2 1 rfl rfl, T2.out.at 2 2 rfl rfl⟩, ⟨T2.out.at 1 0 rfl rfl, T2.out.at 1 1 rfl rfl, T2.out.at 1 2 rfl rfl⟩⟩)
        | (go_at_call 11; (with_reducible refine Calls.mono (tosto_tk (vc := uc) (cap := bap) T2.out H2.out HK2.out HUE.out HME.out HMM.out HS2.out) ?_); rintro en w3 ⟨g7, g8, rfl, t3, s3'⟩; have T3 := hide t3; clear t3 T2 KP; have KP : Hid ((w3.cell? ⟨w.heap.size, 0, none⟩ = some (.slice va vl vc) ∧ w3.cell? ⟨w.heap.size, 1, none⟩ = some (.slice ad len cap) ∧ w3.cell? ⟨w.heap.size, 2, none⟩ = some (.int .i64 nx)) ∧ (w3.cell? ⟨w.heap.size + 1, 0, none⟩ = some (.slice ua ul uc) ∧ w3.cell? ⟨w.heap.size + 1, 1, none⟩ = some (.slice bd ben bap) ∧ w3.cell? ⟨w.heap.size + 1, 2, none⟩ = some (.int .i64 my))) := ⟨⟨T3.out.at 3 0 rfl rfl, T3.out.at 3 1 rfl rfl, T3.out.at 3 2 rfl rfl⟩, ⟨T3.out.at 2 0 rfl rfl, T3.out.at 2 1 rfl rfl, T3.out.at 2 2 rfl rfl⟩⟩)
        | (go_at_call 29; (with_reducible refine Calls.mono (sam_tk ssameS HC.out T3.out 1 0 OK.out OK2.out rfl rfl) ?_); rintro en w4 ⟨rfl, t4, s4'⟩; have T4 := hide t4; clear t4 T3 KP; have KP : Hid ((w4.cell? ⟨w.heap.size, 0, none⟩ = some (.slice va vl vc) ∧ w4.cell? ⟨w.heap.size, 1, none⟩ = some (.slice ad len cap) ∧ w4.cell? ⟨w.heap.size, 2, none⟩ = some (.int .i64 nx)) ∧ (w4.cell? ⟨w.heap.size + 1, 0, none⟩ = some (.slice ua ul uc) ∧ w4.cell? ⟨w.heap.size + 1, 1, none⟩ = some (.slice bd ben bap) ∧ w4.cell? ⟨w.heap.size + 1, 2, none⟩ = some (.int .i64 my))) := ⟨⟨T4.out.at 3 0 rfl rfl, T4.out.at 3 1 rfl rfl, T4.out.at 3 2 rfl rfl⟩, ⟨T4.out.at 2 0 rfl rfl, T4.out.at 2 1 rfl rfl, T4.out.at 2 2 rfl rfl⟩⟩))
      have T5 := hide (T4.out.drop (hs' := [(w.heap.size + 1, w.heap.size + 1 + 1, Cel (w.heap.size + 1) #[.slice ua ul uc, .slice bd ben bap, .int .i64 my] 27), (w.heap.size, w.heap.size + 1, Cel w.heap.size #[.slice va vl vc, .slice ad len cap, .int .i64 nx] 27)]) (by intro x hx; simp only [List.mem_cons, List.not_mem_nil, or_false] at hx ⊢; rcases hx with hx | hx; exact .inr (.inr (.inl hx)); exact .inr (.inr (.inr hx))))
      clear T4 KP k0 k1 k2 q0 q1 q2
      have k0 : w4.cell? ⟨w.heap.size, 0, none⟩ = some (.slice va vl vc) := T5.out.at 1 0 rfl rfl
      have k1 : w4.cell? ⟨w.heap.size, 1, none⟩ = some (.slice ad len cap) := T5.out.at 1 1 rfl rfl
      have k2 : w4.cell? ⟨w.heap.size, 2, none⟩ = some (.int .i64 nx) := T5.out.at 1 2 rfl rfl
      go_wp2_with fail
      refine (tosto_tk (vc := vc) (cap := cap) T5.out H.out HK.out HVE.out HLE.out HLL.out HS.out).mono ?_
      rintro e w6 ⟨g3, g4, rfl, t6, s6⟩
      have T7 := hide (t6.cell #[.slice (some ⟨g3, 0, none⟩) vl vl, .slice (some ⟨g4, 0, none⟩) len len, .int .i64 nx] 35)
      clear t6 T5 k0 k1 k2
      have k0 := T7.out.at 2 0 rfl rfl
      have k1 := T7.out.at 2 1 rfl rfl
      have k2 := T7.out.at 2 2 rfl rfl
      go_wp2_with fail
      clear k0 k1 k2
      generalize w6.alloc (.cells #[.slice (some ⟨g3, 0, none⟩) vl vl, .slice (some ⟨g4, 0, none⟩) len len, .int .i64 nx] 35) = w7 at T7 ⊢
      refine (tosto_tk (vc := uc) (cap := bap) T7.out H2.out HK2.out HUE.out HME.out HMM.out HS2.out).mono ?_
      rintro e w8 ⟨g5, g6, rfl, t8, s8⟩
      have T9 := hide (t8.cell #[.slice (some ⟨g5, 0, none⟩) ul ul, .slice (some ⟨g6, 0, none⟩) ben ben, .int .i64 my] 35)
      clear t8 T7
      have k0 := T9.out.at 2 0 rfl rfl
      have k1 := T9.out.at 2 1 rfl rfl
      have k2 := T9.out.at 2 2 rfl rfl
      go_wp2_with fail
      clear k0 k1 k2
      generalize w8.alloc (.cells #[.slice (some ⟨g5, 0, none⟩) ul ul, .slice (some ⟨g6, 0, none⟩) ben ben, .int .i64 my] 35) = w9 at T9 ⊢
      refine (sam_tk HIH.out HC.out T9.out 3 1 OK.out OK2.out rfl rfl).mono ?_
      rintro e w10 ⟨rfl, t10, s10⟩
      have T10 := hide t10
      have hne : (C != C) = false := by simp
      have k0 : w10.cell? ⟨w.heap.size, 0, none⟩ = some (.slice va vl vc) := T10.out.at 5 0 rfl rfl
      have k1 : w10.cell? ⟨w.heap.size, 1, none⟩ = some (.slice ad len cap) := T10.out.at 5 1 rfl rfl
      have k2 : w10.cell? ⟨w.heap.size, 2, none⟩ = some (.int .i64 nx) := T10.out.at 5 2 rfl rfl
      have x0 : w10.cell? ⟨w6.heap.size, 0, none⟩ = some (.slice (some ⟨g3, 0, none⟩) vl vl) := T10.out.at 2 0 rfl rfl
      have x1 : w10.cell? ⟨w6.heap.size, 1, none⟩ = some (.slice (some ⟨g4, 0, none⟩) len len) := T10.out.at 2 1 rfl rfl
      have x2 : w10.cell? ⟨w6.heap.size, 2, none⟩ = some (.int .i64 nx) := T10.out.at 2 2 rfl rfl
      have TD := hide T10.out.drew
      clear t10 T9
      go_wp2
      have KP : Hid ((w10.drew.cell? ⟨w6.heap.size, 0, none⟩ = some (.slice (some ⟨g3, 0, none⟩) vl vl) ∧ w10.drew.cell? ⟨w6.heap.size, 1, none⟩ = some (.slice (some ⟨g4, 0, none⟩) len len) ∧ w10.drew.cell? ⟨w6.heap.size, 2, none⟩ = some (.int .i64 nx)) ∧ (w10.drew.cell? ⟨w.heap.size, 0, none⟩ = some (.slice va vl vc) ∧ w10.drew.cell? ⟨w.heap.size, 1, none⟩ = some (.slice ad len cap) ∧ w10.drew.cell? ⟨w.heap.size, 2, none⟩ = some (.int .i64 nx))) := ⟨⟨TD.out.at 2 0 rfl rfl, TD.out.at 2 1 rfl rfl, TD.out.at 2 2 rfl rfl⟩, ⟨TD.out.at 5 0 rfl rfl, TD.out.at 5 1 rfl rfl, TD.out.at 5 2 rfl rfl⟩⟩
      go_region_held3 (fun w' => (w'.cell? ⟨w6.heap.size, 0, none⟩ = some (.slice (some ⟨g3, 0, none⟩) vl vl) ∧ w'.cell? ⟨w6.heap.size, 1, none⟩ = some (.slice (some ⟨g4, 0, none⟩) len len) ∧ w'.cell? ⟨w6.heap.size, 2, none⟩ = some (.int .i64 nx)) ∧ (w'.cell? ⟨w.heap.size, 0, none⟩ = some (.slice va vl vc) ∧ w'.cell? ⟨w.heap.size, 1, none⟩ = some (.slice ad len cap) ∧ w'.cell? ⟨w.heap.size, 2, none⟩ = some (.int .i64 nx))) (first | exact KP.out | go_keep) (first
        | (go_at_call 11; (with_reducible refine Calls.mono (tosto_tk (vc := vc) (cap := cap) TD.out H.out HK.out HVE.out HLE.out HLL.out HS.out) ?_); rintro en w11 ⟨g9, g10, rfl, t11, s11⟩; have T11 := hide t11; clear t11 TD KP; have KP : Hid ((w11.cell? ⟨w6.heap.size, 0, none⟩ = some (.slice (some ⟨g3, 0, none⟩) vl vl) ∧ w11.cell? ⟨w6.heap.size, 1, none⟩ = some (.slice (some ⟨g4, 0, none⟩) len len) ∧ w11.cell? ⟨w6.heap.size, 2, none⟩ = some (.int .i64 nx)) ∧ (w11.cell? ⟨w.heap.size, 0, none⟩ = some (.slice va vl vc) ∧ w11.cell? ⟨w.heap.size, 1, none⟩ = some (.slice ad len cap) ∧ w11.cell? ⟨w.heap.size, 2, none⟩ = some (.int .i64 nx))) := ⟨⟨T11.out.at 3 0 rfl rfl, T11.out.at 3 1 rfl rfl, T11.out.at 3 2 rfl rfl⟩, ⟨T11.out.at 6 0 rfl rfl, T11.out.at 6 1 rfl rfl, T11.out.at 6 2 rfl rfl⟩⟩)
        | (go_at_call 13; (with_reducible refine Calls.mono (eqsto_tk T11.out 4 0 OK.out rfl rfl) ?_); rintro en w12 ⟨rfl, t12, s12⟩; have T12 := hide t12; clear t12 T11 KP; have KP : Hid ((w12.cell? ⟨w6.heap.size, 0, none⟩ = some (.slice (some ⟨g3, 0, none⟩) vl vl) ∧ w12.cell? ⟨w6.heap.size, 1, none⟩ = some (.slice (some ⟨g4, 0, none⟩) len len) ∧ w12.cell? ⟨w6.heap.size, 2, none⟩ = some (.int .i64 nx)) ∧ (w12.cell? ⟨w.heap.size, 0, none⟩ = some (.slice va vl vc) ∧ w12.cell? ⟨w.heap.size, 1, none⟩ = some (.slice ad len cap) ∧ w12.cell? ⟨w.heap.size, 2, none⟩ = some (.int .i64 nx))) := ⟨⟨T12.out.at 3 0 rfl rfl, T12.out.at 3 1 rfl rfl, T12.out.at 3 2 rfl rfl⟩, ⟨T12.out.at 6 0 rfl rfl, T12.out.at 6 1 rfl rfl, T12.out.at 6 2 rfl rfl⟩⟩))
      clear KP k0 k1 k2 x0 x1 x2 T10
      have q0 : w12.cell? ⟨w.heap.size + 1, 0, none⟩ = some (.slice ua ul uc) := T12.out.at 5 0 rfl rfl
      have q1 : w12.cell? ⟨w.heap.size + 1, 1, none⟩ = some (.slice bd ben bap) := T12.out.at 5 1 rfl rfl
      have q2 : w12.cell? ⟨w.heap.size + 1, 2, none⟩ = some (.int .i64 my) := T12.out.at 5 2 rfl rfl
      have x0 : w12.cell? ⟨w8.heap.size, 0, none⟩ = some (.slice (some ⟨g5, 0, none⟩) ul ul) := T12.out.at 1 0 rfl rfl
      have x1 : w12.cell? ⟨w8.heap.size, 1, none⟩ = some (.slice (some ⟨g6, 0, none⟩) ben ben) := T12.out.at 1 1 rfl rfl
      have x2 : w12.cell? ⟨w8.heap.size, 2, none⟩ = some (.int .i64 my) := T12.out.at 1 2 rfl rfl
      have TE := hide T12.out.drew
      go_wp2
      have KP : Hid ((w12.drew.cell? ⟨w8.heap.size, 0, none⟩ = some (.slice (some ⟨g5, 0, none⟩) ul ul) ∧ w12.drew.cell? ⟨w8.heap.size, 1, none⟩ = some (.slice (some ⟨g6, 0, none⟩) ben ben) ∧ w12.drew.cell? ⟨w8.heap.size, 2, none⟩ = some (.int .i64 my)) ∧ (w12.drew.cell? ⟨w.heap.size + 1, 0, none⟩ = some (.slice ua ul uc) ∧ w12.drew.cell? ⟨w.heap.size + 1, 1, none⟩ = some (.slice bd ben bap) ∧ w12.drew.cell? ⟨w.heap.size + 1, 2, none⟩ = some (.int .i64 my))) := ⟨⟨TE.out.at 1 0 rfl rfl, TE.out.at 1 1 rfl rfl, TE.out.at 1 2 rfl rfl⟩, ⟨TE.out.at 5 0 rfl rfl, TE.out.at 5 1 rfl rfl, TE.out.at 5 2 rfl rfl⟩⟩
      go_region_held3 (fun w' => (w'.cell? ⟨w8.heap.size, 0, none⟩ = some (.slice (some ⟨g5, 0, none⟩) ul ul) ∧ w'.cell? ⟨w8.heap.size, 1, none⟩ = some (.slice (some ⟨g6, 0, none⟩) ben ben) ∧ w'.cell? ⟨w8.heap.size, 2, none⟩ = some (.int .i64 my)) ∧ (w'.cell? ⟨w.heap.size + 1, 0, none⟩ = some (.slice ua ul uc) ∧ w'.cell? ⟨w.heap.size + 1, 1, none⟩ = some (.slice bd ben bap) ∧ w'.cell? ⟨w.heap.size + 1, 2, none⟩ = some (.int .i64 my))) (first | exact KP.out | go_keep) (first
        | (go_at_call 11; (with_reducible refine Calls.mono (tosto_tk (vc := uc) (cap := bap) TE.out H2.out HK2.out HUE.out HME.out HMM.out HS2.out) ?_); rintro en w13 ⟨g11, g12, rfl, t13, s13⟩; have T13 := hide t13; clear t13 TE KP; have KP : Hid ((w13.cell? ⟨w8.heap.size, 0, none⟩ = some (.slice (some ⟨g5, 0, none⟩) ul ul) ∧ w13.cell? ⟨w8.heap.size, 1, none⟩ = some (.slice (some ⟨g6, 0, none⟩) ben ben) ∧ w13.cell? ⟨w8.heap.size, 2, none⟩ = some (.int .i64 my)) ∧ (w13.cell? ⟨w.heap.size + 1, 0, none⟩ = some (.slice ua ul uc) ∧ w13.cell? ⟨w.heap.size + 1, 1, none⟩ = some (.slice bd ben bap) ∧ w13.cell? ⟨w.heap.size + 1, 2, none⟩ = some (.int .i64 my))) := ⟨⟨T13.out.at 2 0 rfl rfl, T13.out.at 2 1 rfl rfl, T13.out.at 2 2 rfl rfl⟩, ⟨T13.out.at 6 0 rfl rfl, T13.out.at 6 1 rfl rfl, T13.out.at 6 2 rfl rfl⟩⟩)
        | (go_at_call 13; (with_reducible refine Calls.mono (eqsto_tk T13.out 3 0 OK2.out rfl rfl) ?_); rintro en w14 ⟨rfl, t14, s14⟩; have T14 := hide t14; clear t14 T13 KP; have KP : Hid ((w14.cell? ⟨w8.heap.size, 0, none⟩ = some (.slice (some ⟨g5, 0, none⟩) ul ul) ∧ w14.cell? ⟨w8.heap.size, 1, none⟩ = some (.slice (some ⟨g6, 0, none⟩) ben ben) ∧ w14.cell? ⟨w8.heap.size, 2, none⟩ = some (.int .i64 my)) ∧ (w14.cell? ⟨w.heap.size + 1, 0, none⟩ = some (.slice ua ul uc) ∧ w14.cell? ⟨w.heap.size + 1, 1, none⟩ = some (.slice bd ben bap) ∧ w14.cell? ⟨w.heap.size + 1, 2, none⟩ = some (.int .i64 my))) := ⟨⟨T14.out.at 2 0 rfl rfl, T14.out.at 2 1 rfl rfl, T14.out.at 2 2 rfl rfl⟩, ⟨T14.out.at 6 0 rfl rfl, T14.out.at 6 1 rfl rfl, T14.out.at 6 2 rfl rfl⟩⟩))
      go_wp2
      go_ret
      exact ⟨rfl, T14.out.1⟩
theorem lawSam (va : Option Addr) (vl vc : Nat) (ad : Option Addr) (len cap : Nat) (nx : Int) (vs : List (Int × Int)) (rs : List Kw) (ua : Option Addr) (ul uc : Nat) (bd : Option Addr) (ben bap : Nat) (my : Int) (us : List (Int × Int)) (qs : List Kw) (w : World) (h : VlRow w va vl vs) (hk : KnRd w ad len rs) (h2 : VlRow w ua ul us) (hk2 : KnRd w bd ben qs) :
    Calls Try.prog 8 #[.agg #[.slice va vl vc, .slice ad len cap, .int .i64 nx], .agg #[.slice ua ul uc, .slice bd ben bap, .int .i64 my]] w fun e w' => e = .returned (.bool true) ∧ Below w.heap.size w w' := lsam_of va vl vc ad len cap nx vs rs ua ul uc bd ben bap my us qs w h hk h2 hk2 isame
end Go.Proofs.Ytcnaahajaaifjab
