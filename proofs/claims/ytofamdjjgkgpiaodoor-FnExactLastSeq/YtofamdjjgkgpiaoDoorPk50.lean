/-
  ILast; LawLast
-/
import Derived.Test.YtofamdjjgkgpiaoDoorSScan
import Derived.Test.YtofamdjjgkgpiaoDoorLawB
import Derived.Deep.RegionHeld3
/-
  LastSeq, spec's and impl's.
-/
namespace Go.Proofs.YtofamdjjgkgpiaoDoor
open Go.RowKit
open Words Sums

def lastOf (M : List Fnd) : Int := match M.getLast? with | none => 0 | some x => x.page.seq
def LastP (D : List Fnd) (e : Ending) : Prop := ∃ M, Asc M ∧ Akin D M ∧ e = .returned (.int .i64 (lastOf M))
theorem LastP.same {D : List Fnd} {e e' : Ending} (h : LastP D e) (h' : LastP D e') : e = e' := by
  obtain ⟨M, a, b, rfl⟩ := h
  obtain ⟨M', a', b', rfl⟩ := h'
  rw [Akin.eq (b.symm.trans b') a a']

set_option maxHeartbeats 400000 in
set_option maxRecDepth 100000 in
theorem ilast (v : Value) (rs : List Rw) (lo hi : Nat) (w : World) (hl : rs.length ≤ 1048576) (hll : ∀ r ∈ rs, r.2.2.2.length ≤ 1048576) (htx : TxB rs) (hh : hi ≤ w.heap.size) (ha : FlashIn w lo hi v rs) (ht : HalvIn w) :
    Calls Tryd.prog 24 #[.agg #[v]] w fun e w' => LastP (founds (rs.map tellOf) rs.length) e ∧ Below w.heap.size w w' := by
  have b0 := (Below.refl w.heap.size w).alloc (Nat.le_refl _) (.cells #[v] 42)
  have HB0 := hide b0
  have C := hide (iscan v rs lo hi (w.alloc (.cells #[v] 42)) hl hll htx (Nat.le_trans hh b0.size) (ha.below b0 hh) (ht.on b0))
  obtain ⟨D, hD⟩ : ∃ D, founds (rs.map tellOf) rs.length = D := ⟨_, rfl⟩
  rw [hD] at C ⊢
  clear ha ht htx hll hD b0
  go_enter Tryd.func24, Tryd.ntmps24
  go_wp2_with fail
  refine C.out.mono ?_
  rintro e w1 ⟨u, M, rfl, m1, m2, m3, b1⟩
  have B1 := hide (HB0.out.trans (b1.mono HB0.out.size))
  have M1 := hide m1
  have M2 := hide m2
  clear C b1 m1 m2 HB0
  rcases m3 with ⟨rfl, rfl⟩ | ⟨g, cap, rfl, hg, hs, hb⟩
  · have PF : Hid (LastP D (.returned (.int .i64 0))) := ⟨[], M1.out, M2.out, rfl⟩
    clear M1 M2
    go_wp2
    go_ret
    exact ⟨PF.out, B1.out⟩
  · obtain ⟨n, hn⟩ : ∃ n, M.length = n := ⟨_, rfl⟩
    rw [hn] at hb ⊢
    by_cases h0 : n = 0
    · subst h0
      have hM : M = [] := List.eq_nil_of_length_eq_zero hn
      subst hM
      have PF : Hid (LastP D (.returned (.int .i64 0))) := ⟨[], M1.out, M2.out, rfl⟩
      clear M1 M2 hs hn
      go_wp2
      go_ret
      exact ⟨PF.out, B1.out⟩
    · obtain ⟨q, hq⟩ : ∃ q : Nat, (n : Int) - 1 = q := ⟨n - 1, by omega⟩
      have hqw : IntKind.i64.wrap ((n : Int) - 1) = q := by rw [IntKind.wrap_i64]; omega
      have hqw2 : IntKind.i64.wrap (q : Int) = q := by rw [IntKind.wrap_i64]; omega
      have hql : q < M.length := by omega
      obtain ⟨x, hx⟩ : ∃ x, M[q]? = some x := ⟨_, List.getElem?_eq_getElem hql⟩
      have hx2 : M.getLast? = some x := by rw [List.getLast?_eq_getElem?, show M.length - 1 = q by omega]; exact hx
      have PF : Hid (LastP D (.returned (.int .i64 x.page.seq))) := ⟨M, M1.out, M2.out, by unfold lastOf; rw [hx2]⟩
      have c : w1.cell? ⟨g, q * 8 + 3, none⟩ = some (.int .i64 x.page.seq) := hs.cell hx 3 rfl
      have q0 : (0 : Int) ≤ q := by omega
      have qN : (q : Int) < n := by omega
      have hne : ((n : Int) == 0) = false := by simpa using h0
      have hne2 : ¬ (n : Int) = 0 := by omega
      clear M1 M2 hs hn hx hx2 hql
      go_wp2
      go_ret
      exact ⟨PF.out, B1.out⟩
set_option maxHeartbeats 400000 in
set_option maxRecDepth 100000 in
theorem slast (v : Value) (rs : List Rw) (lo hi : Nat) (w : World) (hl : rs.length ≤ 1048576) (hll : ∀ r ∈ rs, r.2.2.2.length ≤ 1048576) (htx : TxB rs) (hh : hi ≤ w.heap.size) (ha : FlashIn w lo hi v rs) :
    Calls Tryd.prog 23 #[.agg #[v]] w fun e w' => LastP (founds (rs.map tellOf) rs.length) e ∧ Below w.heap.size w w' := by
  have b0 := (Below.refl w.heap.size w).alloc (Nat.le_refl _) (.cells #[v] 42)
  have HB0 := hide b0
  have C := hide (sscan v rs lo hi (w.alloc (.cells #[v] 42)) hl hll htx (Nat.le_trans hh b0.size) (ha.below b0 hh))
  obtain ⟨D, hD⟩ : ∃ D, founds (rs.map tellOf) rs.length = D := ⟨_, rfl⟩
  rw [hD] at C ⊢
  clear ha htx hll hD b0
  go_enter Tryd.func23, Tryd.ntmps23
  go_wp2_with fail
  refine C.out.mono ?_
  rintro e w1 ⟨u, M, rfl, m1, m2, m3, b1⟩
  have B1 := hide (HB0.out.trans (b1.mono HB0.out.size))
  have M1 := hide m1
  have M2 := hide m2
  clear C b1 m1 m2 HB0
  rcases m3 with ⟨rfl, rfl⟩ | ⟨g, cap, rfl, hg, hs, hb⟩
  · have PF : Hid (LastP D (.returned (.int .i64 0))) := ⟨[], M1.out, M2.out, rfl⟩
    clear M1 M2
    go_wp2
    go_ret
    exact ⟨PF.out, B1.out⟩
  · obtain ⟨n, hn⟩ : ∃ n, M.length = n := ⟨_, rfl⟩
    rw [hn] at hb ⊢
    by_cases h0 : n = 0
    · subst h0
      have hM : M = [] := List.eq_nil_of_length_eq_zero hn
      subst hM
      have PF : Hid (LastP D (.returned (.int .i64 0))) := ⟨[], M1.out, M2.out, rfl⟩
      clear M1 M2 hs hn
      go_wp2
      go_ret
      exact ⟨PF.out, B1.out⟩
    · obtain ⟨q, hq⟩ : ∃ q : Nat, (n : Int) - 1 = q := ⟨n - 1, by omega⟩
      have hqw : IntKind.i64.wrap ((n : Int) - 1) = q := by rw [IntKind.wrap_i64]; omega
      have hqw2 : IntKind.i64.wrap (q : Int) = q := by rw [IntKind.wrap_i64]; omega
      have hql : q < M.length := by omega
      obtain ⟨x, hx⟩ : ∃ x, M[q]? = some x := ⟨_, List.getElem?_eq_getElem hql⟩
      have hx2 : M.getLast? = some x := by rw [List.getLast?_eq_getElem?, show M.length - 1 = q by omega]; exact hx
      have PF : Hid (LastP D (.returned (.int .i64 x.page.seq))) := ⟨M, M1.out, M2.out, by unfold lastOf; rw [hx2]⟩
      have c : w1.cell? ⟨g, q * 8 + 3, none⟩ = some (.int .i64 x.page.seq) := hs.cell hx 3 rfl
      have q0 : (0 : Int) ≤ q := by omega
      have qN : (q : Int) < n := by omega
      have hne : ((n : Int) == 0) = false := by simpa using h0
      have hne2 : ¬ (n : Int) = 0 := by omega
      clear M1 M2 hs hn hx hx2 hql
      go_wp2
      go_ret
      exact ⟨PF.out, B1.out⟩
end Go.Proofs.YtofamdjjgkgpiaoDoor

/-
  FnExactLastSeq.
-/
namespace Go.Proofs.YtofamdjjgkgpiaoDoor
open Go.RowKit
open Words Sums

theorem slast_of (v : Value) (bs : List Bk) (lo hi : Nat) (w : World) (ho : Okk bs) (htx : TxK bs) (ha : hi ≤ w.heap.size ∧ Inn w lo hi v bs) :
    Calls Tryd.prog 23 #[.agg #[v]] w fun e w' => LastP (founds bs bs.length) e ∧ Below w.heap.size w w' := by
  obtain ⟨ss, e1, i1, l, ll, -⟩ := ha.2.lens ho
  subst e1
  rw [List.length_map]
  exact slast v ss lo hi w l ll (by intro q hq t ht; exact htx _ (List.mem_map_of_mem (f := tellOf) hq) t ht) ha.1 i1
theorem ilast_of (v : Value) (bs : List Bk) (lo hi : Nat) (w : World) (ho : Okk bs) (htx : TxK bs) (ha : hi ≤ w.heap.size ∧ Inn w lo hi v bs) (hv : HalvIn w) :
    Calls Tryd.prog 24 #[.agg #[v]] w fun e w' => LastP (founds bs bs.length) e ∧ Below w.heap.size w w' := by
  obtain ⟨ss, e1, i1, l, ll, -⟩ := ha.2.lens ho
  subst e1
  rw [List.length_map]
  exact ilast v ss lo hi w l ll (by intro q hq t ht; exact htx _ (List.mem_map_of_mem (f := tellOf) hq) t ht) ha.1 i1 hv

set_option maxHeartbeats 800000 in
set_option maxRecDepth 100000 in
theorem lawLast_any (a : Option Addr) (len cap : Nat) (rs : List Rw) (w : World) (hv : HalvIn w) (h : BkRow w a len rs) :
    Calls Tryd.prog 6 #[.agg #[.slice a len cap]] w fun e w' => e = .returned (.bool true) ∧ Below w.heap.size w w' := by
  obtain ⟨bs, hbs⟩ : ∃ bs, rs.map tellOf = bs := ⟨_, rfl⟩
  have T0 := hide (Trk.start w (.slice a len cap) 36)
  have H := hide h
  have HV := hide hv
  have HBS := hide hbs
  have hlen := h.1
  clear h hbs hv
  go_enter Tryd.func6, Tryd.ntmps6
  go_wp2_with fail
  refine (szFlash_any a len cap rs 1048576 _ (Nat.le_refl _) (H.out.below T0.out.1)).mono ?_
  rintro e w1 ⟨⟨r, rfl, r1, r2, r3⟩, b1⟩
  have T1 := hide (T0.out.below b1)
  have k1 : w1.cell? ⟨w.heap.size, 0, none⟩ = some (.slice a len cap) := T1.out.at 0 rfl
  clear b1 T0
  by_cases hr : r < 0
  · clear r2 r3
    go_wp2
    go_ret
    exact ⟨rfl, T1.out.1⟩
  · obtain ⟨hl, hll, ho⟩ := meas (by omega) (r2 (by omega))
    have htx := tx_tell (r3 (by omega))
    rw [HBS.out] at ho htx
    have HLL := hide hll
    have HO := hide ho
    have HTX := hide htx
    have hl2 : len ≤ 1048576 := by omega
    have HLE := hide hl2
    clear r2 r3 hll ho htx hl2
    go_wp2_with fail
    refine (to_trk T1.out H.out HBS.out HLE.out HLL.out).mono ?_
    rintro e w2 ⟨ad1, cap1, rfl, t2, -⟩
    have T2 := hide t2
    clear t2 T1 k1
    go_wp2_with fail
    refine (slast_of _ bs _ _ _ HO.out HTX.out (T2.out.fl 0 rfl)).mono ?_
    rintro e w3 ⟨lp, b3⟩
    obtain ⟨z, hz⟩ : ∃ z, e = .returned (.int .i64 z) := by obtain ⟨M, -, -, e1⟩ := lp; exact ⟨_, e1⟩
    subst hz
    have LP := hide lp
    have T3 := hide (T2.out.below b3)
    have k3 : w3.cell? ⟨w.heap.size, 0, none⟩ = some (.slice a len cap) := T3.out.at 0 rfl
    clear b3 T2 lp
    go_wp2_with fail
    refine (to_trk T3.out H.out HBS.out HLE.out HLL.out).mono ?_
    rintro e w4 ⟨ad2, cap2, rfl, t4, -⟩
    have T5 := hide (t4.cell (.slice ad2 bs.length cap2) 42)
    clear t4 T3 k3
    go_wp2_with fail
    generalize w4.alloc (.cells #[.slice ad2 bs.length cap2] 42) = w5 at T5 ⊢
    refine (ilast_of _ bs _ _ _ HO.out HTX.out (T5.out.fl 0 rfl) (HV.out.on T5.out.1)).mono ?_
    rintro e w6 ⟨lp, b6⟩
    obtain rfl := lp.same LP.out
    have T6 := hide (T5.out.below b6)
    have hne : (z != z) = false := by simp
    have k6 : w6.cell? ⟨w.heap.size, 0, none⟩ = some (.slice a len cap) := T6.out.at 1 rfl
    have x6 : w6.cell? ⟨w4.heap.size, 0, none⟩ = some (.slice ad2 bs.length cap2) := T6.out.at 0 rfl
    have T6d := hide T6.out.drew
    clear b6 T5 lp LP
    go_wp2
    go_region_held3 (fun w' => w'.cell? ⟨w4.heap.size, 0, none⟩ = some (.slice ad2 bs.length cap2) ∧ w'.cell? ⟨w.heap.size, 0, none⟩ = some (.slice a len cap)) (first | go_keep | exact ⟨T7.out.at 0 rfl, T7.out.at 1 rfl⟩ | exact ⟨T8.out.at 0 rfl, T8.out.at 1 rfl⟩) (first
      | (go_at_call 16; with_reducible refine Calls.mono (to_trk T6d.out H.out HBS.out HLE.out HLL.out) ?_; rintro en w7 ⟨ad3, cap3, rfl, t7, -⟩; have T7 := hide t7; clear t7)
      | (go_at_call 19; with_reducible refine Calls.mono (eq_trk T7.out 1 0 HO.out rfl rfl) ?_; rintro en w8 ⟨rfl, t8, -⟩; have T8 := hide t8; clear t8))
    all_goals
      go_wp2
      go_ret
      exact ⟨rfl, T8.out.1⟩
theorem lawLast_card (a : Option Addr) (len cap : Nat) (rs : List Rw) {w : World} (h : BkRow w a len rs) (_ : World) (hv : HalvIn w) :
    Calls Tryd.prog 6 #[.agg #[.slice a len cap]] w fun e w' => e = .returned (.bool true) ∧ Below w.heap.size w w' := lawLast_any a len cap rs w hv h
end Go.Proofs.YtofamdjjgkgpiaoDoor
