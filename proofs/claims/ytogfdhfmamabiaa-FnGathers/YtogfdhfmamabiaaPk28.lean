/-
  DrGath; TxSee
-/
import Derived.Test.YtogfdhfmamabiaaDrFound
import Derived.Test.YtogfdhfmamabiaaTxN
import Derived.Test.YtogfdhfmamabiaaPk25
/-
  The draw of pages for FnGathers: spec.DrawGather.
-/
namespace Go.Proofs.Ytogfdhfmamabiaa
open Go.RowKit
open Words

/-- Pages, not too many, in a row of their own. -/
def FndsIn (w : World) (e : Ending) (w' : World) : Prop := ∃ (g c : Nat) (zs : List Fnd), e = .returned (.slice (some ⟨g, 0, none⟩) zs.length c) ∧ zs.length ≤ 95 ∧ (∀ x ∈ zs, x.page.text.size ≤ 90) ∧ w'.ownsRow w.heap.size 42 8 (.slice (some ⟨g, 0, none⟩) zs.length c) zs.length (fcells zs) ∧ Below w.heap.size w w'

set_option maxHeartbeats 400000 in
set_option maxRecDepth 100000 in
theorem drawGather (ad : Option Addr) (len cap : Nat) (w : World) (hl : len ≤ 1048576) (hd : CodeIn w ad len w.heap.size) :
    Calls Try.prog 7 #[.slice ad len cap] w (FndsIn w) := by
  have HD := hide hd
  clear hd
  go_enter Try.func7, Try.ntmps7
  go_wp2_with fail
  refine (new_any ad len cap w.heap.size _ hl HD.out).mono ?_
  rintro e w1 ⟨p, rfl, hp, hc, hb⟩
  have HC := hide hc
  have HB := hide hb
  have hs := hb.size
  have HD1 := hide (HD.out.on hb (Nat.le_refl _))
  clear hc hb HD
  go_wp2_with fail
  refine (dfound p ad len cap w.heap.size _ hl HC.out HD1.out hp).mono ?_
  rintro e w2 ⟨g, c, zs, rfl, h8, hr, d2, ho⟩
  have HO := hide (own_lower ho hs)
  have HB2 := hide (HB.out.trans (grown_below d2.1 hp hs))
  have HR := hide hr
  clear ho d2 hr
  go_wp2_with fail
  go_ret
  exact ⟨g, c, zs, rfl, h8, HR.out, HO.out, HB2.out⟩
end Go.Proofs.Ytogfdhfmamabiaa

/-
  Rows of transactions, one by one.
-/
namespace Go.Proofs.Ytogfdhfmamabiaa
open Go.RowKit
open Words

/-- The t'th of a row at g. -/
def SeenAt (W : World) (g i : Nat) (t : TxR) : Prop := ∃ (a : Option Addr) (c lo : Nat), W.cell? ⟨g, i * 3, none⟩ = some (.int .i64 t.num) ∧ W.cell? ⟨g, i * 3 + 1, none⟩ = some (.int .i64 t.seq) ∧ W.cell? ⟨g, i * 3 + 2, none⟩ = some (.slice a t.recs.length c) ∧ Sli 34 lo W.heap.size (.slice a t.recs.length c) t.recs.length (rccells (t.recs.map Rc.tu)) W
/-- A row of transactions that can be read. -/
def Seen (W : World) (ad : Option Addr) (n : Nat) (L : List TxR) : Prop := L.length = n ∧ (0 < n → ∃ g, ad = some ⟨g, 0, none⟩) ∧ ∀ g, ad = some ⟨g, 0, none⟩ → g < W.heap.size ∧ ∀ i t, L[i]? = some t → SeenAt W g i t
theorem XOwn.seen {W : World} {B n c : Nat} {ad : Option Addr} {rs : List Xw} {L : List TxR} (h : XOwn W B (.slice ad n c) rs) (hn : rs.length = n) (hL : rs.map xtell = L.map TxR.tu) : Seen W ad n L := by
  have hl : L.length = n := by have := congrArg List.length hL; simp only [List.length_map] at this; omega
  refine ⟨hl, fun h0 => ?_, fun g e => ⟨?_, fun i t ht => ?_⟩⟩
  · rcases h.1.2 with ⟨-, h1⟩ | ⟨g, cap, cur, e, -⟩
    · omega
    · injection e with e1; exact ⟨g, e1⟩
  · subst e
    exact (h.1.lt g rfl).2
  · subst e
    have hi : (rs.map xtell)[i]? = some t.tu := by rw [hL, List.getElem?_map, ht]; rfl
    rw [List.getElem?_map] at hi
    obtain ⟨r, hr, hrt⟩ := Option.map_eq_some_iff.1 hi
    obtain ⟨x, y, v, ls⟩ := r
    simp only [xtell, TxR.tu, Prod.mk.injEq] at hrt
    obtain ⟨rfl, rfl, rfl⟩ := hrt
    have hc := fun j v hj => h.1.cells (g := g) rfl j v hj
    simp only [addr_at] at hc
    have hs := (h.2.1 _ (List.mem_of_getElem? hr)).1
    simp only [List.length_map] at hs
    obtain ⟨a, c2, e, -⟩ := hs.form
    have e2 : v = .slice a t.recs.length c2 := e
    subst e2
    exact ⟨a, c2, B, hc _ _ (xcells_at rs i _ hr 0 _ rfl), hc _ _ (xcells_at rs i _ hr 1 _ rfl), hc _ _ (xcells_at rs i _ hr 2 _ rfl), hs⟩
theorem SeenAt.below {W W' : World} {g i : Nat} {t : TxR} (h : SeenAt W g i t) (hg : g < W.heap.size) (hb : Below W.heap.size W W') : SeenAt W' g i t := by
  obtain ⟨a, c, lo, c0, c1, c2, hs⟩ := h
  exact ⟨a, c, lo, (hb.cell (show g < W.heap.size from hg)).trans c0, (hb.cell (show g < W.heap.size from hg)).trans c1, (hb.cell (show g < W.heap.size from hg)).trans c2, (hs.blw hb).up hb.size⟩
theorem Seen.below {W W' : World} {ad : Option Addr} {n : Nat} {L : List TxR} (h : Seen W ad n L) (hb : Below W.heap.size W W') : Seen W' ad n L := by
  obtain ⟨h1, h2, h3⟩ := h
  refine ⟨h1, h2, fun g e => ?_⟩
  obtain ⟨h4, h5⟩ := h3 g e
  have := hb.size
  exact ⟨by omega, fun i t ht => (h5 i t ht).below h4 hb⟩
theorem rec_kind {W : World} {lo hi c k : Nat} {a : Option Addr} {t : TxR} (h : Sli 34 lo hi (.slice a k c) k (rccells (t.recs.map Rc.tu)) W) (hk : t.recs.length = k) (h0 : 0 < k) : ∃ gr x, a = some ⟨gr, 0, none⟩ ∧ gr < hi ∧ W.cell? ⟨gr, 0, none⟩ = some (.int .i64 x) ∧ (x == 1) = t.base := by
  rcases h with ⟨-, h1⟩ | ⟨g, cap, e, -, h2, h3⟩
  · omega
  · injection e with e1
    cases hr : t.recs with
    | nil => rw [hr] at hk; simp at hk; omega
    | cons r l =>
      refine ⟨g, r.kind, e1, h2, h3.cell (k := 0) (rccells_at _ 0 r.tu (by rw [hr]; rfl) 0 _ rfl), ?_⟩
      rw [TxR.base, hr]
theorem rec_none {t : TxR} (hk : t.recs.length = 0) : t.base = false := by
  rw [TxR.base, List.eq_nil_of_length_eq_zero hk]
/-- What the law asks of what is since a base. -/
theorem since_at {L : List TxR} {n m : Nat} (hn : L.length = n) (hm : (sinceP L).length = m) : m ≤ n ∧ (∀ i, (sinceP L)[i]? = L[n - m + i]?) ∧ (∀ i t, 0 < i → (sinceP L)[i]? = some t → t.base = false) ∧ (m ≠ n → 0 < m ∧ ∃ t, (sinceP L)[0]? = some t ∧ t.base = true) := by
  have hb := baseAt_le L L.length
  obtain ⟨s1, s2⟩ := baseAt_spec L L.length (Nat.le_refl _)
  have hd : (sinceP L).length = L.length - baseAt L L.length := by rw [sinceP, List.length_drop]
  have hg : ∀ i, (sinceP L)[i]? = L[baseAt L L.length + i]? := fun i => by rw [sinceP, List.getElem?_drop]
  have e : n - m = baseAt L L.length := by omega
  refine ⟨by omega, fun i => by rw [hg, e], fun i t h0 ht => ?_, fun hne => ?_⟩
  · rw [hg] at ht
    have hl := (List.getElem?_eq_some_iff.1 ht).1
    exact s2 _ t (by omega) hl ht
  · rcases s1 with s1 | ⟨t, ht, hbt⟩
    · omega
    · have hl := (List.getElem?_eq_some_iff.1 ht).1
      exact ⟨by omega, t, by rw [hg]; exact ht, hbt⟩
/-- Two neighbours ascend. -/
theorem gather_next {ps : List Pg} {i : Nat} {s t : TxR} (hs : (gatherP ps)[i]? = some s) (ht : (gatherP ps)[i + 1]? = some t) : s.num < t.num := by
  have h := gatherP_asc ps
  rw [List.pairwise_iff_getElem] at h
  obtain ⟨h1, e1⟩ := List.getElem?_eq_some_iff.1 hs
  obtain ⟨h2, e2⟩ := List.getElem?_eq_some_iff.1 ht
  have := h i (i + 1) (by simpa using h1) (by simpa using h2) (by omega)
  simpa [e1, e2] using this
end Go.Proofs.Ytogfdhfmamabiaa
