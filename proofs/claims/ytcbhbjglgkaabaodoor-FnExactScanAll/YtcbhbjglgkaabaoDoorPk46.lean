/-
  ILast; LawRP
-/
import Derived.Test.YtcbhbjglgkaabaoDoorSScan
import Derived.Test.YtcbhbjglgkaabaoDoorSRPage
import Derived.Test.YtcbhbjglgkaabaoDoorICatch
/-
  LastSeq, spec's and impl's.
-/
namespace Go.Proofs.YtcbhbjglgkaabaoDoor
open Go.RowKit
open Words Sums

def lastOf (M : List Fnd) : Int := match M.getLast? with | none => 0 | some x => x.page.seq
def LastP (D : List Fnd) (e : Ending) : Prop := ∃ M, Asc M ∧ Akin D M ∧ e = .returned (.int .i64 (lastOf M))
theorem LastP.same {D : List Fnd} {e e' : Ending} (h : LastP D e) (h' : LastP D e') : e = e' := by
  obtain ⟨M, a, b, rfl⟩ := h
  obtain ⟨M', a', b', rfl⟩ := h'
  rw [Akin.eq (b.symm.trans b') a a']

set_option maxHeartbeats 400000 in
set_option maxRecDepth 100000 in
theorem ilast (v : Value) (rs : List Rw) (lo hi : Nat) (w : World) (hl : rs.length ≤ 1048576) (hll : ∀ r ∈ rs, r.2.2.2.length ≤ 1048576) (htx : TxB rs) (hh : hi ≤ w.heap.size) (ha : FlashIn w lo hi v rs) (ht : HalvIn w) :
    Calls Tryd.prog 24 #[.agg #[v]] w fun e w' => LastP (founds (rs.map tellOf) rs.length) e ∧ Below w.heap.size w w' := by
  have b0 := (Below.refl w.heap.size w).alloc (Nat.le_refl _) (.cells #[v] 42)
  have HB0 := hide b0
  have C := hide (iscan v rs lo hi (w.alloc (.cells #[v] 42)) hl hll htx (Nat.le_trans hh b0.size) (ha.below b0 hh) (ht.on b0))
  obtain ⟨D, hD⟩ : ∃ D, founds (rs.map tellOf) rs.length = D := ⟨_, rfl⟩
  rw [hD] at C ⊢
  clear ha ht htx hll hD b0
  go_enter Tryd.func24, Tryd.ntmps24
  go_wp2_with fail
  refine C.out.mono ?_
  rintro e w1 ⟨u, M, rfl, m1, m2, m3, b1⟩
  have B1 := hide (HB0.out.trans (b1.mono HB0.out.size))
  have M1 := hide m1
  have M2 := hide m2
  clear C b1 m1 m2 HB0
  rcases m3 with ⟨rfl, rfl⟩ | ⟨g, cap, rfl, hg, hs, hb⟩
  · have PF : Hid (LastP D (.returned (.int .i64 0))) := ⟨[], M1.out, M2.out, rfl⟩
    clear M1 M2
    go_wp2
    go_ret
    exact ⟨PF.out, B1.out⟩
  · obtain ⟨n, hn⟩ : ∃ n, M.length = n := ⟨_, rfl⟩
    rw [hn] at hb ⊢
    by_cases h0 : n = 0
    · subst h0
      have hM : M = [] := List.eq_nil_of_length_eq_zero hn
      subst hM
      have PF : Hid (LastP D (.returned (.int .i64 0))) := ⟨[], M1.out, M2.out, rfl⟩
      clear M1 M2 hs hn
      go_wp2
      go_ret
      exact ⟨PF.out, B1.out⟩
    · obtain ⟨q, hq⟩ : ∃ q : Nat, (n : Int) - 1 = q := ⟨n - 1, by omega⟩
      have hqw : IntKind.i64.wrap ((n : Int) - 1) = q := by rw [IntKind.wrap_i64]; omega
      have hqw2 : IntKind.i64.wrap (q : Int) = q := by rw [IntKind.wrap_i64]; omega
      have hql : q < M.length := by omega
      obtain ⟨x, hx⟩ : ∃ x, M[q]? = some x := ⟨_, List.getElem?_eq_getElem hql⟩
      have hx2 : M.getLast? = some x := by rw [List.getLast?_eq_getElem?, show M.length - 1 = q by omega]; exact hx
      have PF : Hid (LastP D (.returned (.int .i64 x.page.seq))) := ⟨M, M1.out, M2.out, by unfold lastOf; rw [hx2]⟩
      have c : w1.cell? ⟨g, q * 8 + 3, none⟩ = some (.int .i64 x.page.seq) := hs.cell hx 3 rfl
      have q0 : (0 : Int) ≤ q := by omega
      have qN : (q : Int) < n := by omega
      have hne : ((n : Int) == 0) = false := by simpa using h0
      have hne2 : ¬ (n : Int) = 0 := by omega
      clear M1 M2 hs hn hx hx2 hql
      go_wp2
      go_ret
      exact ⟨PF.out, B1.out⟩
set_option maxHeartbeats 400000 in
set_option maxRecDepth 100000 in
theorem slast (v : Value) (rs : List Rw) (lo hi : Nat) (w : World) (hl : rs.length ≤ 1048576) (hll : ∀ r ∈ rs, r.2.2.2.length ≤ 1048576) (htx : TxB rs) (hh : hi ≤ w.heap.size) (ha : FlashIn w lo hi v rs) :
    Calls Tryd.prog 23 #[.agg #[v]] w fun e w' => LastP (founds (rs.map tellOf) rs.length) e ∧ Below w.heap.size w w' := by
  have b0 := (Below.refl w.heap.size w).alloc (Nat.le_refl _) (.cells #[v] 42)
  have HB0 := hide b0
  have C := hide (sscan v rs lo hi (w.alloc (.cells #[v] 42)) hl hll htx (Nat.le_trans hh b0.size) (ha.below b0 hh))
  obtain ⟨D, hD⟩ : ∃ D, founds (rs.map tellOf) rs.length = D := ⟨_, rfl⟩
  rw [hD] at C ⊢
  clear ha htx hll hD b0
  go_enter Tryd.func23, Tryd.ntmps23
  go_wp2_with fail
  refine C.out.mono ?_
  rintro e w1 ⟨u, M, rfl, m1, m2, m3, b1⟩
  have B1 := hide (HB0.out.trans (b1.mono HB0.out.size))
  have M1 := hide m1
  have M2 := hide m2
  clear C b1 m1 m2 HB0
  rcases m3 with ⟨rfl, rfl⟩ | ⟨g, cap, rfl, hg, hs, hb⟩
  · have PF : Hid (LastP D (.returned (.int .i64 0))) := ⟨[], M1.out, M2.out, rfl⟩
    clear M1 M2
    go_wp2
    go_ret
    exact ⟨PF.out, B1.out⟩
  · obtain ⟨n, hn⟩ : ∃ n, M.length = n := ⟨_, rfl⟩
    rw [hn] at hb ⊢
    by_cases h0 : n = 0
    · subst h0
      have hM : M = [] := List.eq_nil_of_length_eq_zero hn
      subst hM
      have PF : Hid (LastP D (.returned (.int .i64 0))) := ⟨[], M1.out, M2.out, rfl⟩
      clear M1 M2 hs hn
      go_wp2
      go_ret
      exact ⟨PF.out, B1.out⟩
    · obtain ⟨q, hq⟩ : ∃ q : Nat, (n : Int) - 1 = q := ⟨n - 1, by omega⟩
      have hqw : IntKind.i64.wrap ((n : Int) - 1) = q := by rw [IntKind.wrap_i64]; omega
      have hqw2 : IntKind.i64.wrap (q : Int) = q := by rw [IntKind.wrap_i64]; omega
      have hql : q < M.length := by omega
      obtain ⟨x, hx⟩ : ∃ x, M[q]? = some x := ⟨_, List.getElem?_eq_getElem hql⟩
      have hx2 : M.getLast? = some x := by rw [List.getLast?_eq_getElem?, show M.length - 1 = q by omega]; exact hx
      have PF : Hid (LastP D (.returned (.int .i64 x.page.seq))) := ⟨M, M1.out, M2.out, by unfold lastOf; rw [hx2]⟩
      have c : w1.cell? ⟨g, q * 8 + 3, none⟩ = some (.int .i64 x.page.seq) := hs.cell hx 3 rfl
      have q0 : (0 : Int) ≤ q := by omega
      have qN : (q : Int) < n := by omega
      have hne : ((n : Int) == 0) = false := by simpa using h0
      have hne2 : ¬ (n : Int) = 0 := by omega
      clear M1 M2 hs hn hx hx2 hql
      go_wp2
      go_ret
      exact ⟨PF.out, B1.out⟩
end Go.Proofs.YtcbhbjglgkaabaoDoor

/-
  The law on ReadPage.
-/
namespace Go.Proofs.YtcbhbjglgkaabaoDoor
open Go.RowKit
open Words Sums

set_option maxHeartbeats 400000 in
set_option maxRecDepth 100000 in
theorem eqPage_same (p : Pg) (w : World) :
    Calls Tryd.prog 13 #[pgVal p, pgVal p] w fun e w' => e = .returned (.bool true) ∧ Below w.heap.size w w' := by
  obtain ⟨k, s, x, q, c, t⟩ := p
  unfold pgVal
  simp only
  go_enter Tryd.func13, Tryd.ntmps13
  go_wp2
  go_ret
  exact ⟨rfl, ((Below.refl _ _).alloc (Nat.le_refl _) _).alloc (by simp) _⟩

set_option maxHeartbeats 1000000 in
set_option maxRecDepth 100000 in
theorem lawReadPage (t : ByteArray) (hm : t.size ≤ maxLen) (w : World) (ht : HalvIn w) :
    Calls Tryd.prog 4 #[.string t] w fun e w' => e = .returned (.bool true) ∧ Below w.heap.size w w' := by
  have HT := hide ht
  clear ht
  by_cases hs : (1048576 : Int) < t.size
  · go_enter Tryd.func4, Tryd.ntmps4
    go_wp2
    go_ret
    exact ⟨rfl, Below.refl _ _⟩
  · obtain ⟨p, ok, hp⟩ := pgRes_tuple (readPg t)
    have C1 := hide (fun w => sreadPage t w hm)
    have C2 := hide (fun w h => ireadPage t w hm h)
    have C3 := hide (fun w => eqPage_same p w)
    rw [hp] at C1 C2
    obtain ⟨k, s, x, q, c, u⟩ := p
    unfold pgVal at *
    simp only at *
    clear hp
    go_enter Tryd.func4, Tryd.ntmps4
    go_wp2_with fail
    refine (C1.out _).mono ?_
    rintro e w1 ⟨rfl, b1⟩
    have B1 := hide (b1.alloc b1.size (.cells #[.int .i64 k, .int .i64 s, .int .i64 x, .int .i64 q, .int .i64 c, .string u] 27))
    have l1 := b1.size
    clear b1
    go_wp2_with fail
    refine (C2.out _ (HT.out.on B1.out)).mono ?_
    rintro e w2 ⟨rfl, b2⟩
    have B2 := hide (B1.out.trans (b2.mono B1.out.size))
    have l2 : w1.heap.size < w2.heap.size := Nat.lt_of_lt_of_le (by simp) b2.size
    obtain ⟨c0, c1, c2, c3, c4, c5⟩ := cell_new6 _ _ _ _ _ _ _ _ _ b2
    have ba : Below w2.heap.size w2 (w2.alloc (.cells #[.int .i64 k, .int .i64 s, .int .i64 x, .int .i64 q, .int .i64 c, .string u] 27)) := (Below.refl _ _).alloc (Nat.le_refl _) _
    rw [← ba.cell l2] at c0 c1 c2 c3 c4 c5
    have B3 := hide (B2.out.trans (ba.mono B2.out.size))
    clear b2 ba B1 B2 C1 C2
    cases ok
    all_goals
      go_wp2_with fail
      refine (C3.out _).mono ?_
      rintro e w3 ⟨rfl, b3⟩
      have B4 := hide (B3.out.trans (b3.mono B3.out.size))
      clear b3 B3 C3
      go_wp2
      go_ret
      exact ⟨rfl, B4.out⟩
end Go.Proofs.YtcbhbjglgkaabaoDoor
