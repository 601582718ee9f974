/-
  ILast; LawRP; FdRow
-/
import Derived.Test.YtaolinlginloaadDoorSScan
import Derived.Test.YtaolinlginloaadDoorSRPage
import Derived.Test.YtaolinlginloaadDoorPk17
import Derived.Test.YtaolinlginloaadDoorICatch
import Derived.Test.YtaolinlginloaadDoorIScan2
import Derived.Test.YtaolinlginloaadDoorPk15
/-
  LastSeq, spec's and impl's.
-/
namespace Go.Proofs.YtaolinlginloaadDoor
open Go.RowKit
open Words Sums

def lastOf (M : List Fnd) : Int := match M.getLast? with | none => 0 | some x => x.page.seq
def LastP (D : List Fnd) (e : Ending) : Prop := ∃ M, Asc M ∧ Akin D M ∧ e = .returned (.int .i64 (lastOf M))
theorem LastP.same {D : List Fnd} {e e' : Ending} (h : LastP D e) (h' : LastP D e') : e = e' := by
  obtain ⟨M, a, b, rfl⟩ := h
  obtain ⟨M', a', b', rfl⟩ := h'
  rw [Akin.eq (b.symm.trans b') a a']

set_option maxHeartbeats 400000 in
set_option maxRecDepth 100000 in
theorem ilast_rd (v : Value) (rs : List Rw) (w : World) (hl : rs.length ≤ 1048576) (hll : ∀ r ∈ rs, r.2.2.2.length ≤ 1048576) (htx : TxB rs) (ha : FlashRd w v rs) (ht : HalvIn w) :
    Calls Tryd.prog 15 #[.agg #[v]] w fun e w' => LastP (founds (rs.map tellOf) rs.length) e ∧ Below w.heap.size w w' := by
  have b0 := (Below.refl w.heap.size w).alloc (Nat.le_refl _) (.cells #[v] 30)
  have HB0 := hide b0
  have C := hide (iscan_rd v rs (w.alloc (.cells #[v] 30)) hl hll htx (ha.below b0) (ht.on b0))
  obtain ⟨D, hD⟩ : ∃ D, founds (rs.map tellOf) rs.length = D := ⟨_, rfl⟩
  rw [hD] at C ⊢
  clear ha ht htx hll hD b0
  go_enter Tryd.func15, Tryd.ntmps15
  go_wp2_with fail
  refine C.out.mono ?_
  rintro e w1 ⟨u, M, rfl, m1, m2, m3, b1⟩
  have B1 := hide (HB0.out.trans (b1.mono HB0.out.size))
  have M1 := hide m1
  have M2 := hide m2
  clear C b1 m1 m2 HB0
  rcases m3 with ⟨rfl, rfl⟩ | ⟨g, cap, rfl, hg, hs, hb⟩
  · have PF : Hid (LastP D (.returned (.int .i64 0))) := ⟨[], M1.out, M2.out, rfl⟩
    clear M1 M2
    go_wp2
    go_ret
    exact ⟨PF.out, B1.out⟩
  · obtain ⟨n, hn⟩ : ∃ n, M.length = n := ⟨_, rfl⟩
    rw [hn] at hb ⊢
    by_cases h0 : n = 0
    · subst h0
      have hM : M = [] := List.eq_nil_of_length_eq_zero hn
      subst hM
      have PF : Hid (LastP D (.returned (.int .i64 0))) := ⟨[], M1.out, M2.out, rfl⟩
      clear M1 M2 hs hn
      go_wp2
      go_ret
      exact ⟨PF.out, B1.out⟩
    · obtain ⟨q, hq⟩ : ∃ q : Nat, (n : Int) - 1 = q := ⟨n - 1, by omega⟩
      have hqw : IntKind.i64.wrap ((n : Int) - 1) = q := by rw [IntKind.wrap_i64]; omega
      have hqw2 : IntKind.i64.wrap (q : Int) = q := by rw [IntKind.wrap_i64]; omega
      have hql : q < M.length := by omega
      obtain ⟨x, hx⟩ : ∃ x, M[q]? = some x := ⟨_, List.getElem?_eq_getElem hql⟩
      have hx2 : M.getLast? = some x := by rw [List.getLast?_eq_getElem?, show M.length - 1 = q by omega]; exact hx
      have PF : Hid (LastP D (.returned (.int .i64 x.page.seq))) := ⟨M, M1.out, M2.out, by unfold lastOf; rw [hx2]⟩
      have c : w1.cell? ⟨g, q * 8 + 3, none⟩ = some (.int .i64 x.page.seq) := hs.cell hx 3 rfl
      have q0 : (0 : Int) ≤ q := by omega
      have qN : (q : Int) < n := by omega
      have hne : ((n : Int) == 0) = false := by simpa using h0
      have hne2 : ¬ (n : Int) = 0 := by omega
      clear M1 M2 hs hn hx hx2 hql
      go_wp2
      go_ret
      exact ⟨PF.out, B1.out⟩
set_option maxHeartbeats 400000 in
set_option maxRecDepth 100000 in
theorem slast_rd (v : Value) (rs : List Rw) (w : World) (hl : rs.length ≤ 1048576) (hll : ∀ r ∈ rs, r.2.2.2.length ≤ 1048576) (htx : TxB rs) (ha : FlashRd w v rs) :
    Calls Tryd.prog 14 #[.agg #[v]] w fun e w' => LastP (founds (rs.map tellOf) rs.length) e ∧ Below w.heap.size w w' := by
  have b0 := (Below.refl w.heap.size w).alloc (Nat.le_refl _) (.cells #[v] 30)
  have HB0 := hide b0
  have C := hide (sscan_rd v rs (w.alloc (.cells #[v] 30)) hl hll htx (ha.below b0))
  obtain ⟨D, hD⟩ : ∃ D, founds (rs.map tellOf) rs.length = D := ⟨_, rfl⟩
  rw [hD] at C ⊢
  clear ha htx hll hD b0
  go_enter Tryd.func14, Tryd.ntmps14
  go_wp2_with fail
  refine C.out.mono ?_
  rintro e w1 ⟨u, M, rfl, m1, m2, m3, b1⟩
  have B1 := hide (HB0.out.trans (b1.mono HB0.out.size))
  have M1 := hide m1
  have M2 := hide m2
  clear C b1 m1 m2 HB0
  rcases m3 with ⟨rfl, rfl⟩ | ⟨g, cap, rfl, hg, hs, hb⟩
  · have PF : Hid (LastP D (.returned (.int .i64 0))) := ⟨[], M1.out, M2.out, rfl⟩
    clear M1 M2
    go_wp2
    go_ret
    exact ⟨PF.out, B1.out⟩
  · obtain ⟨n, hn⟩ : ∃ n, M.length = n := ⟨_, rfl⟩
    rw [hn] at hb ⊢
    by_cases h0 : n = 0
    · subst h0
      have hM : M = [] := List.eq_nil_of_length_eq_zero hn
      subst hM
      have PF : Hid (LastP D (.returned (.int .i64 0))) := ⟨[], M1.out, M2.out, rfl⟩
      clear M1 M2 hs hn
      go_wp2
      go_ret
      exact ⟨PF.out, B1.out⟩
    · obtain ⟨q, hq⟩ : ∃ q : Nat, (n : Int) - 1 = q := ⟨n - 1, by omega⟩
      have hqw : IntKind.i64.wrap ((n : Int) - 1) = q := by rw [IntKind.wrap_i64]; omega
      have hqw2 : IntKind.i64.wrap (q : Int) = q := by rw [IntKind.wrap_i64]; omega
      have hql : q < M.length := by omega
      obtain ⟨x, hx⟩ : ∃ x, M[q]? = some x := ⟨_, List.getElem?_eq_getElem hql⟩
      have hx2 : M.getLast? = some x := by rw [List.getLast?_eq_getElem?, show M.length - 1 = q by omega]; exact hx
      have PF : Hid (LastP D (.returned (.int .i64 x.page.seq))) := ⟨M, M1.out, M2.out, by unfold lastOf; rw [hx2]⟩
      have c : w1.cell? ⟨g, q * 8 + 3, none⟩ = some (.int .i64 x.page.seq) := hs.cell hx 3 rfl
      have q0 : (0 : Int) ≤ q := by omega
      have qN : (q : Int) < n := by omega
      have hne : ((n : Int) == 0) = false := by simpa using h0
      have hne2 : ¬ (n : Int) = 0 := by omega
      clear M1 M2 hs hn hx hx2 hql
      go_wp2
      go_ret
      exact ⟨PF.out, B1.out⟩
theorem ilast (v : Value) (rs : List Rw) (lo hi : Nat) (w : World) (hl : rs.length ≤ 1048576) (hll : ∀ r ∈ rs, r.2.2.2.length ≤ 1048576) (htx : TxB rs) (_hh : hi ≤ w.heap.size) (ha : FlashIn w lo hi v rs) (ht : HalvIn w) :
    Calls Tryd.prog 15 #[.agg #[v]] w fun e w' => LastP (founds (rs.map tellOf) rs.length) e ∧ Below w.heap.size w w' := ilast_rd v rs w hl hll htx ha.rd ht
theorem slast (v : Value) (rs : List Rw) (lo hi : Nat) (w : World) (hl : rs.length ≤ 1048576) (hll : ∀ r ∈ rs, r.2.2.2.length ≤ 1048576) (htx : TxB rs) (_hh : hi ≤ w.heap.size) (ha : FlashIn w lo hi v rs) :
    Calls Tryd.prog 14 #[.agg #[v]] w fun e w' => LastP (founds (rs.map tellOf) rs.length) e ∧ Below w.heap.size w w' := slast_rd v rs w hl hll htx ha.rd
end Go.Proofs.YtaolinlginloaadDoor

/-
  The law on ReadPage.
-/
namespace Go.Proofs.YtaolinlginloaadDoor
open Go.RowKit
open Words Sums

end Go.Proofs.YtaolinlginloaadDoor

/-
  Rows of what scans found, by their cells.
-/
namespace Go.Proofs.YtaolinlginloaadDoor
open Go.RowKit
open Words Sums

theorem FRes.sli {w : World} {B : Nat} {u : Value} {M : List Fnd} (h : FRes w B u M) : Sli 49 B w.heap.size u M.length (fcells M) w := by
  rcases h with ⟨rfl, rfl⟩ | ⟨g, cap, rfl, hg, hs, -⟩
  · exact Or.inl ⟨rfl, rfl⟩
  · refine Or.inr ⟨g, cap, rfl, hg, hs.lt, ?_⟩
    obtain ⟨cs, h1, h2⟩ := hs
    refine ⟨cs, h1, fun i v hv => ?_⟩
    obtain ⟨x, hx, hj⟩ := fcells_back M i v hv
    have := h2 (i / 8) x hx (i % 8) v hj
    rw [show i / 8 * 8 + i % 8 = i by omega] at this
    exact this
theorem foundsAt_page {bs : List Bk} {b : Nat} : ∀ {k : Nat} {x : Fnd}, x ∈ foundsAt bs b k → leafPg bs x.block x.leaf = some x.page
  | 0, x, h => by cases h
  | k + 1, x, h => by
    simp only [foundsAt, List.mem_append] at h
    rcases h with h | h
    · exact foundsAt_page h
    · cases hp : leafPg bs b k with
      | none => rw [hp] at h; cases h
      | some p =>
        rw [hp] at h
        simp only [List.mem_singleton] at h
        subst h
        exact hp
/-- What was found reads as its page. -/
theorem founds_page {bs : List Bk} : ∀ {b : Nat} {x : Fnd}, x ∈ founds bs b → leafPg bs x.block x.leaf = some x.page
  | 0, x, h => by cases h
  | b + 1, x, h => by
    simp only [founds, List.mem_append] at h
    rcases h with h | h
    · exact founds_page h
    · exact foundsAt_page h
end Go.Proofs.YtaolinlginloaadDoor
