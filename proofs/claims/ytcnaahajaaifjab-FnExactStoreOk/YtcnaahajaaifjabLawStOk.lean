/-
  FnExactStoreOk.
-/
import Derived.Test.YtcnaahajaaifjabPq26
import Derived.Test.YtcnaahajaaifjabPq40
import Derived.Test.YtcnaahajaaifjabIStOk
import Derived.Deep.RegionHeld3
namespace Go.Proofs.Ytcnaahajaaifjab
open Go.RowKit
open Words

theorem lstOk_tk {f : Nat} (HC : OkC f) {w wi : World} {hs : List Hold} {lo hi : Nat} {v : Value} {s : Sto} (T : Tk w wi hs) (n1 : Nat) (ho : OkS s) (e1 : hs[n1]? = some (lo, hi, Sts lo hi v s)) :
    Calls Try.prog f #[v] wi fun e w' => e = .returned (.bool (stoB s)) ∧ Tk w w' hs ∧ wi.heap.size ≤ w'.heap.size := by
  refine (HC v s  wi ((T.get n1 e1).rd ho.fit (T.hi n1 e1))).mono ?_
  rintro e w' ⟨rfl, hb⟩
  exact ⟨rfl, T.below hb, hb.size⟩

set_option maxHeartbeats 1000000 in
set_option maxRecDepth 100000 in
theorem lstOkLaw (va : Option Addr) (vl vc : Nat) (ad : Option Addr) (len cap : Nat) (nx : Int) (vs : List (Int × Int)) (rs : List Kw) (w : World) (h : VlRow w va vl vs) (hk : KnRd w ad len rs) :
    Calls Try.prog 3 #[.agg #[.slice va vl vc, .slice ad len cap, .int .i64 nx]] w fun e w' => e = .returned (.bool true) ∧ Below w.heap.size w w' := by
  have T0 := hide ((Tk.start w).cell #[.slice va vl vc, .slice ad len cap, .int .i64 nx] 27)
  have H := hide h
  have HK := hide hk
  have H1 := hide h.1
  have H2 := hide h.2.1
  have K1 := hide hk.1
  clear h hk
  go_enter Try.func3, Try.ntmps3
  go_wp2_with fail
  refine (szSto_any va vl vc ad len cap nx rs 1048576 _ (Nat.le_refl _) H2.out (HK.out.below T0.out.1)).mono ?_
  rintro e w1 ⟨⟨r0, rfl, r1, r2, r3⟩, b1⟩
  have T1 := hide (T0.out.below b1)
  have k0 : w1.cell? ⟨w.heap.size, 0, none⟩ = some (.slice va vl vc) := T1.out.at 0 0 rfl rfl
  have k1 : w1.cell? ⟨w.heap.size, 1, none⟩ = some (.slice ad len cap) := T1.out.at 0 1 rfl rfl
  have k2 : w1.cell? ⟨w.heap.size, 2, none⟩ = some (.int .i64 nx) := T1.out.at 0 2 rfl rfl
  clear b1 T0
  by_cases hr : r0 < 0
  · clear r3
    go_wp2
    go_ret
    exact ⟨rfl, T1.out.1⟩
  · have h3 := r3 (by omega)
    have hvl : vl ≤ 1048576 := by omega
    have hl : len ≤ 1048576 := by omega
    have HLL : Hid (∀ r ∈ rs, r.2.2.length ≤ 1048576) := fun r hr2 => by have := ksum_mem hr2; omega
    obtain ⟨s, hs⟩ : ∃ s : Sto, s = ⟨vs, rs.map ktell, nx⟩ := ⟨_, rfl⟩
    have OK : Hid (OkS s) := by
      have e1 := H1.out
      have e2 := K1.out
      have e3 := ksum_kids rs
      rw [hs]
      exact OkS.of (show vs.length ≤ _ by omega) (by show (rs.map ktell).length ≤ _; rw [List.length_map]; omega) (show kkids (rs.map ktell) ≤ _ by omega)
    have HS := hide hs
    have HVE := hide hvl
    have HLE := hide hl
    clear r3 h3 hs
    go_wp2_with fail
    refine (tosto_tk (vc := vc) (cap := cap) T1.out H.out HK.out HVE.out HLE.out HLL.out HS.out).mono ?_
    rintro e w2 ⟨g1, g2, rfl, t2, s2⟩
    have T2 := hide t2
    clear t2 T1 k0 k1 k2
    go_wp2_with fail
    refine (lstOk_tk sstoreOk T2.out 0 OK.out rfl).mono ?_
    rintro e w3 ⟨rfl, t3, s3⟩
    have T3 := hide (t3.drop (hs' := [(w.heap.size, w.heap.size + 1, Cel w.heap.size #[.slice va vl vc, .slice ad len cap, .int .i64 nx] 27)]) (by intro x hx; simp only [List.mem_cons, List.not_mem_nil, or_false] at hx ⊢; exact .inr hx))
    have k0 : w3.cell? ⟨w.heap.size, 0, none⟩ = some (.slice va vl vc) := T3.out.at 0 0 rfl rfl
    have k1 : w3.cell? ⟨w.heap.size, 1, none⟩ = some (.slice ad len cap) := T3.out.at 0 1 rfl rfl
    have k2 : w3.cell? ⟨w.heap.size, 2, none⟩ = some (.int .i64 nx) := T3.out.at 0 2 rfl rfl
    clear t3 T2
    obtain ⟨ok, hok⟩ : ∃ ok : Bool, stoB s = ok := ⟨_, rfl⟩
    rw [hok]
    have HOK := hide hok
    clear hok
    go_wp2_with fail
    refine (tosto_tk (vc := vc) (cap := cap) T3.out H.out HK.out HVE.out HLE.out HLL.out HS.out).mono ?_
    rintro e w4 ⟨g3, g4, rfl, t4, s4⟩
    have T5 := hide (t4.cell #[.slice (some ⟨g3, 0, none⟩) vl vl, .slice (some ⟨g4, 0, none⟩) len len, .int .i64 nx] 35)
    clear t4 T3 k0 k1 k2
    go_wp2_with fail
    generalize w4.alloc (.cells #[.slice (some ⟨g3, 0, none⟩) vl vl, .slice (some ⟨g4, 0, none⟩) len len, .int .i64 nx] 35) = w5 at T5 ⊢
    refine (lstOk_tk istoOk T5.out 1 OK.out rfl).mono ?_
    rintro e w6 ⟨rfl, t6, s6⟩
    have T6 := hide t6
    rw [HOK.out]
    have hne : (ok != ok) = false := by simp
    have k0 : w6.cell? ⟨w.heap.size, 0, none⟩ = some (.slice va vl vc) := T6.out.at 2 0 rfl rfl
    have k1 : w6.cell? ⟨w.heap.size, 1, none⟩ = some (.slice ad len cap) := T6.out.at 2 1 rfl rfl
    have k2 : w6.cell? ⟨w.heap.size, 2, none⟩ = some (.int .i64 nx) := T6.out.at 2 2 rfl rfl
    have x0 : w6.cell? ⟨w4.heap.size, 0, none⟩ = some (.slice (some ⟨g3, 0, none⟩) vl vl) := T6.out.at 0 0 rfl rfl
    have x1 : w6.cell? ⟨w4.heap.size, 1, none⟩ = some (.slice (some ⟨g4, 0, none⟩) len len) := T6.out.at 0 1 rfl rfl
    have x2 : w6.cell? ⟨w4.heap.size, 2, none⟩ = some (.int .i64 nx) := T6.out.at 0 2 rfl rfl
    have T6d := hide T6.out.drew
    clear t6 T5
    go_wp2
    go_region_held3 (fun w' => (w'.cell? ⟨w4.heap.size, 0, none⟩ = some (.slice (some ⟨g3, 0, none⟩) vl vl) ∧ w'.cell? ⟨w4.heap.size, 1, none⟩ = some (.slice (some ⟨g4, 0, none⟩) len len) ∧ w'.cell? ⟨w4.heap.size, 2, none⟩ = some (.int .i64 nx)) ∧ w'.cell? ⟨w.heap.size, 0, none⟩ = some (.slice va vl vc) ∧ w'.cell? ⟨w.heap.size, 1, none⟩ = some (.slice ad len cap) ∧ w'.cell? ⟨w.heap.size, 2, none⟩ = some (.int .i64 nx)) (first | go_keep | exact ⟨⟨T7.out.at 1 0 rfl rfl, T7.out.at 1 1 rfl rfl, T7.out.at 1 2 rfl rfl⟩, T7.out.at 3 0 rfl rfl, T7.out.at 3 1 rfl rfl, T7.out.at 3 2 rfl rfl⟩ | exact ⟨⟨T8.out.at 1 0 rfl rfl, T8.out.at 1 1 rfl rfl, T8.out.at 1 2 rfl rfl⟩, T8.out.at 3 0 rfl rfl, T8.out.at 3 1 rfl rfl, T8.out.at 3 2 rfl rfl⟩) (first
      | (go_at_call 11; with_reducible refine Calls.mono (tosto_tk (vc := vc) (cap := cap) T6d.out H.out HK.out HVE.out HLE.out HLL.out HS.out) ?_; rintro en w7 ⟨g5, g6, rfl, t7, -⟩; have T7 := hide t7; clear t7)
      | (go_at_call 13; with_reducible refine Calls.mono (eqsto_tk T7.out 2 0 OK.out rfl rfl) ?_; rintro en w8 ⟨rfl, t8, -⟩; have T8 := hide t8; clear t8))
    all_goals
      go_wp2
      go_ret
      exact ⟨rfl, T8.out.1⟩
end Go.Proofs.Ytcnaahajaaifjab
