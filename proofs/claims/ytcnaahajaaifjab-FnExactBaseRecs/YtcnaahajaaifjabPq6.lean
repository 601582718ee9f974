/-
  TkKn; CeVl; VlRow; SIn
-/
import Derived.Test.YtcnaahajaaifjabPq2
import Derived.Test.YtcnaahajaaifjabKnMk
import Derived.Test.YtcnaahajaaifjabKnTo
import Derived.Test.YtcnaahajaaifjabPq0
/-
  What the laws hold: arenas.
-/
namespace Go.Proofs.Ytcnaahajaaifjab
open Go.RowKit
open Words

/-- Where the marks of a row of knots end. -/
def kend : Nat → List Kn → Nat
  | k, [] => k
  | k, t :: l => kend (k + 1 + t.kids.length) l
def kkids (l : List Kn) : Nat := (l.map (fun t => t.kids.length)).sum
theorem kend_eq : ∀ (l : List Kn) (k : Nat), kend k l = k + l.length + kkids l := by
  intro l
  induction l with
  | nil => intro k; simp [kend, kkids]
  | cons t l ih => intro k; rw [kend, ih, List.length_cons]; unfold kkids; rw [List.map_cons, List.sum_cons]; omega
theorem vend_kend : ∀ (rs : List Kw) (k : Nat), vend k (rs.map vOf) = kend k (rs.map ktell) := by
  intro rs
  induction rs with
  | nil => intro k; rfl
  | cons r rs ih => intro k; simp only [List.map_cons, vend, kend, ih]; rfl
def OkK (M : List Kn) : Prop := M.length ≤ 1048580 ∧ (∀ t ∈ M, t.kids.length ≤ 1048576) ∧ kend 1 M ≤ 1000000000
theorem kmem_sum {l : List Kn} {x : Kn} (h : x ∈ l) : x.kids.length ≤ kkids l := by
  unfold kkids
  induction l with
  | nil => cases h
  | cons q l ih =>
    rw [List.map_cons, List.sum_cons]
    rcases List.mem_cons.1 h with e | e
    · subst e; omega
    · have := ih e; omega
theorem OkK.of {M : List Kn} (h1 : M.length ≤ 1048576) (h2 : kkids M ≤ 1048576) : OkK M :=
  ⟨by omega, fun t ht => Nat.le_trans (kmem_sum ht) h2, by rw [kend_eq]; omega⟩
theorem ksum_kids (rs : List Kw) : kkids (rs.map ktell) = ksum rs := by unfold kkids ksum; rw [List.map_map]; rfl
/-- A row that is marked. -/
def MKn (lo hi : Nat) (v : Value) (m : Nat) : World → Prop := fun W => ∃ ys : List Vw, ys.length ≤ 1048580 ∧ (∀ y ∈ ys, y.2.2.1 ≤ 1048576) ∧ vend 1 ys = m ∧ VIn lo hi v (vmk 1 ys) W
theorem MKn.loc (lo hi : Nat) (v : Value) (m : Nat) : Loc lo hi (MKn lo hi v m) := by
  rintro w w' hk ⟨ys, h1, h2, h3, h4⟩
  exact ⟨ys, h1, h2, h3, VIn.loc _ _ _ _ w w' hk h4⟩
theorem OkK.row {M : List Kn} {rs : List Kw} (ho : OkK M) (hr : rs.map ktell = M) : rs.length ≤ 1048580 ∧ ∀ r ∈ rs, r.2.2.length ≤ 1048576 := by
  refine ⟨by have := congrArg List.length hr; simp only [List.length_map] at this; rw [this]; exact ho.1, fun r hr2 => ?_⟩
  exact ho.2.1 (ktell r) (by rw [← hr]; exact List.mem_map.2 ⟨r, hr2, rfl⟩)
/-- What answers an arena and owns it. -/
def ArOut (w : World) (M : List Kn) (e : Ending) (w' : World) : Prop :=
  ∃ uv rs, e = .returned (.agg #[uv]) ∧ KOwn w' w.heap.size uv rs ∧ rs.map ktell = M ∧ Below w.heap.size w w'
theorem toar_tk {w wi : World} {hs : List Hold} {a : Option Addr} {len cap : Nat} {rs : List Kw} {M : List Kn} (T : Tk w wi hs) (H : KnRd w a len rs) (hl : len ≤ 1048576) (hll : ∀ r ∈ rs, r.2.2.length ≤ 1048576) (hM : rs.map ktell = M) :
    Calls Try.prog 40 #[.agg #[.slice a len cap]] wi fun e w' => ∃ g : Nat, e = .returned (.agg #[.slice (some ⟨g, 0, none⟩) len len]) ∧ Tk w w' ((wi.heap.size, w'.heap.size, Kns wi.heap.size w'.heap.size (.slice (some ⟨g, 0, none⟩) len len) M) :: hs) ∧ wi.heap.size ≤ w'.heap.size := by
  refine (toAr_any a len cap rs wi hl hll (H.below T.1)).mono ?_
  rintro e w' ⟨g, ss, rfl, hx, ht, hb⟩
  exact ⟨g, rfl, T.add hb (Kns.loc _ _ _ _) ⟨ss, by rw [ht, hM], hx.kns⟩, hb.size⟩
theorem eqar_tk {w wi : World} {hs : List Hold} {a b : Value} {M : List Kn} {l1 h1 l2 h2 : Nat} (T : Tk w wi hs) (n1 n2 : Nat) (ho : OkK M) (e1 : hs[n1]? = some (l1, h1, Kns l1 h1 a M)) (e2 : hs[n2]? = some (l2, h2, Kns l2 h2 b M)) :
    Calls Try.prog 46 #[.agg #[a], .agg #[b]] wi fun e w' => e = .returned (.bool true) ∧ Tk w w' hs ∧ wi.heap.size ≤ w'.heap.size := by
  obtain ⟨rs, hr, hx⟩ := T.get n1 e1
  obtain ⟨ss, hs', hy⟩ := T.get n2 e2
  obtain ⟨q1, q2⟩ := ho.row hr
  refine (eqAr_same a b rs ss l1 h1 l2 h2 wi (by omega) (fun r hr => by have := q2 r hr; omega) hx hy (by rw [hr, hs']) (T.hi n1 e1) (T.hi n2 e2)).mono ?_
  rintro e w' ⟨rfl, hb⟩
  exact ⟨rfl, T.below hb, hb.size⟩
set_option maxHeartbeats 400000 in
set_option maxRecDepth 100000 in
theorem markAr_any (lo hi : Nat) (a : Value) (ys : List Vw) (w : World) (hl : ys.length ≤ 1048580) (hll : ∀ y ∈ ys, y.2.2.1 ≤ 1048576 ∧ y.2.2.2.length = y.2.2.1) (he : vend 1 ys ≤ 1000000000) (hh : hi ≤ w.heap.size) (ha : VIn lo hi a ys w) :
    Calls Try.prog 56 #[.agg #[a], .int .i64 1] w fun e w' => e = .returned (.int .i64 ((vend 1 ys : Nat) : Int)) ∧ Hid (VIn lo hi a (vmk 1 ys) w') ∧ Hid (Kept2 w w' (Apt lo hi)) := by
  obtain ⟨ad, ca, rfl, a3⟩ := ha.1.form
  have bA := (Below.refl w.heap.size w).alloc (Nat.le_refl _) (.cells #[.slice ad ys.length ca] 33)
  have C := hide (markKns_any lo hi _ ys _ hl hll he (VIn.loc _ _ _ _ _ _ (fun i _ hi => bA.block i (by omega)) ha))
  have HK := hide (Kept2.below (ok := Apt lo hi) bA)
  obtain ⟨n, hn⟩ : ∃ n, ys.length = n := ⟨_, rfl⟩
  obtain ⟨m, hm⟩ : ∃ m, vend 1 ys = m := ⟨_, rfl⟩
  rw [hn, hm] at C
  rw [hn] at HK
  rw [hn, hm]
  clear ha hll a3 bA he hm hn hl
  go_enter Try.func56, Try.ntmps56
  go_wp2_with fail
  refine C.out.mono ?_
  rintro e w1 ⟨rfl, hv, hk⟩
  have K2 := hide (HK.out.trans hk.out)
  clear C hk HK
  go_wp2
  go_ret
  exact ⟨rfl, hv, K2⟩
theorem markar_tk {w wi : World} {hs hs' : List Hold} {a : Value} {M : List Kn} {m l1 h1 : Nat} (T : Tk w wi hs) (n1 : Nat) (ho : OkK M) (hm : kend 1 M = m) (hlo : w.heap.size ≤ l1) (e1 : hs[n1]? = some (l1, h1, Kns l1 h1 a M)) (hh : ∀ x ∈ hs', x ∈ hs ∧ (x.2.1 ≤ l1 ∨ h1 ≤ x.1)) :
    Calls Try.prog 56 #[.agg #[a], .int .i64 1] wi fun e w' => e = .returned (.int .i64 (m : Int)) ∧ Tk w w' ((l1, h1, MKn l1 h1 a m) :: hs') ∧ wi.heap.size ≤ w'.heap.size := by
  obtain ⟨rs, hr, hx⟩ := T.get n1 e1
  obtain ⟨q1, q2⟩ := ho.row hr
  have hll : ∀ y ∈ rs.map vOf, y.2.2.1 ≤ 1048576 ∧ y.2.2.2.length = y.2.2.1 := by
    intro y hy
    obtain ⟨r, hr2, rfl⟩ := List.mem_map.1 hy
    exact ⟨q2 r hr2, by simp [vOf, icells]⟩
  have he : vend 1 (rs.map vOf) = m := by rw [vend_kend, hr, hm]
  refine (markAr_any l1 h1 a (rs.map vOf) wi (by rw [List.length_map]; exact q1) hll (by rw [he, ← hm]; exact ho.2.2) (T.hi n1 e1) hx.v).mono ?_
  rintro e w' ⟨rfl, hy, hk⟩
  rw [he]
  exact ⟨rfl, T.touch hk.out hlo (T.hi n1 e1) (MKn.loc _ _ _ _) ⟨rs.map vOf, by rw [List.length_map]; exact q1, fun y hy => (hll y hy).1, he, hy.out⟩ hh, hk.out.2.2.2.1⟩
theorem markar_sp {w wi : World} {hs hs' : List Hold} {a : Value} {M : List Kn} {m l1 h1 : Nat} (T : Tk w wi hs) (n1 : Nat) (ho : OkK M) (hm : kend 1 M = m) (hlo : w.heap.size ≤ l1) (e1 : hs[n1]? = some (l1, h1, Kns l1 h1 a M)) (hh : ∀ x ∈ hs', x ∈ hs ∧ (x.2.1 ≤ l1 ∨ h1 ≤ x.1)) :
    Calls Try.prog 56 #[.agg #[a], .int .i64 1] wi fun e w' => e = .returned (.int .i64 (m : Int)) ∧ Tk w w' hs' ∧ wi.heap.size ≤ w'.heap.size := by
  refine (markar_tk T n1 ho hm hlo e1 hh).mono ?_
  rintro e w' ⟨rfl, h2, h3⟩
  exact ⟨rfl, h2.drop (fun x hx => List.mem_cons_of_mem _ hx), h3⟩
end Go.Proofs.Ytcnaahajaaifjab

/-
  The cells of Vols in a row.
-/
namespace Go.Proofs.Ytcnaahajaaifjab
open Go.RowKit

/-- The cells of elements. -/
def vlcell (t : Int × Int) : List Value := [.int .i64 t.1, .int .i64 t.2]
def vlcells (l : List (Int × Int)) : List Value := l.flatMap vlcell
theorem vlcells_len (l : List (Int × Int)) : (vlcells l).length = l.length * 2 := by
  induction l with
  | nil => rfl
  | cons t l ih => simp [vlcells, vlcell] at ih ⊢; omega
theorem vlcells_app (a b : List (Int × Int)) : vlcells (a ++ b) = vlcells a ++ vlcells b := by simp [vlcells]
theorem vlcells_cons (t : Int × Int) (l : List (Int × Int)) : vlcells (t :: l) = vlcell t ++ vlcells l := by simp [vlcells]
theorem vlcells_at (l : List (Int × Int)) (k : Nat) (t : Int × Int) (h : l[k]? = some t) (j : Nat) (v : Value) (hj : (vlcell t)[j]? = some v) : (vlcells l)[k * 2 + j]? = some v := by
  have hlt : j < 2 := (List.getElem?_eq_some_iff.1 hj).1
  induction l generalizing k with
  | nil => simp at h
  | cons a l ih =>
    rw [vlcells_cons]
    cases k with
    | zero =>
      simp at h
      subst h
      rw [List.getElem?_append_left (by show _ < 2; omega), Nat.zero_mul, Nat.zero_add]
      exact hj
    | succ k =>
      rw [List.getElem?_append_right (by show 2 ≤ _; omega), show (k + 1) * 2 + j - (vlcell a).length = k * 2 + j by show _ - 2 = _; omega]
      exact ih k (by simpa using h)
theorem vlcells_one (l : List (Int × Int)) : ∀ v ∈ vlcells l, v.oneCell' = true := by
  intro v hv
  obtain ⟨t, -, ht⟩ := List.mem_flatMap.1 hv
  simp [vlcell] at ht
  rcases ht with h | h <;> subst h <;> rfl
theorem infoVl : (Try.prog.info? 57).map (fun i => (i.zero, i.size, i.bytes)) = some (some (.agg #[.int .i64 0, .int .i64 0]), 2, 16) := by kernel_rfl
theorem infoVlz : (Try.prog.info? 57).map (·.size) = some 2 := by kernel_rfl
theorem vlcells_set {l : List (Int × Int)} {k : Nat} {v : Int × Int} (h : l[k]? = some v) (r : Int) : (vlcells l).set (k * 2 + 1) (.int .i64 r) = vlcells (l.set k (v.1, r)) := by
  induction l generalizing k with
  | nil => simp at h
  | cons a l ih =>
    cases k with
    | zero =>
      simp at h
      subst h
      rfl
    | succ k =>
      have e : (k + 1) * 2 + 1 = (k * 2 + 1) + 2 := by omega
      rw [e, List.set_cons_succ, vlcells_cons, vlcells_cons, ← ih (by simpa using h)]
      rfl
end Go.Proofs.Ytcnaahajaaifjab

/-
  Rows of volumes that can be read.
-/
namespace Go.Proofs.Ytcnaahajaaifjab
open Go.RowKit
set_option maxRecDepth 100000

/-- Elements that came in, each in 2 cells. -/
def VlRow (w : World) (a : Option Addr) (len : Nat) (ls : List (Int × Int)) : Prop :=
  ls.length = len ∧ len ≤ maxLen ∧ (∀ t ∈ ls, True) ∧ (0 < len → ∃ b off, a = some ⟨b, off, none⟩ ∧ b < w.heap.size ∧ ∀ i t, ls[i]? = some t → w.cell? ⟨b, off + i * 2, none⟩ = some (.int .i64 t.1) ∧ w.cell? ⟨b, off + i * 2 + 1, none⟩ = some (.int .i64 t.2))
theorem VlRow.below {w w' : World} {a : Option Addr} {len : Nat} {ls : List (Int × Int)} (h : VlRow w a len ls) (hb : Below w.heap.size w w') : VlRow w' a len ls := by
  obtain ⟨h1, h2, h3, h4⟩ := h
  refine ⟨h1, h2, h3, fun h0 => ?_⟩
  obtain ⟨b, off, e, hl, hc⟩ := h4 h0
  have hs := hb.size
  refine ⟨b, off, e, by omega, fun i t ht => ?_⟩
  obtain ⟨c0, c1⟩ := hc i t ht
  exact ⟨(hb.cell (show b < w.heap.size from hl)).trans c0, (hb.cell (show b < w.heap.size from hl)).trans c1⟩

theorem VlRow.at {w : World} {a : Option Addr} {len : Nat} {ls : List (Int × Int)} (h : VlRow w a len ls) {k : Nat} {t : Int × Int} (hk : ls[k]? = some t) :
    ∃ b off, a = some ⟨b, off, none⟩ ∧ b < w.heap.size ∧ w.cell? ⟨b, off + k * 2, none⟩ = some (.int .i64 t.1) ∧ w.cell? ⟨b, off + k * 2 + 1, none⟩ = some (.int .i64 t.2) := by
  obtain ⟨h1, -, -, h4⟩ := h
  have hl := (List.getElem?_eq_some_iff.1 hk).1
  obtain ⟨b, off, e, hb, hc⟩ := h4 (by omega)
  obtain ⟨c0, c1⟩ := hc k t hk
  exact ⟨b, off, e, hb, c0, c1⟩
theorem VlRow.of_own {w : World} {base : Nat} {v : Value} {n : Nat} {M : List (Int × Int)} (hn : M.length = n) (h : w.ownsRow base 57 2 v n (vlcells M)) :
    ∃ a c, v = .slice a n c ∧ VlRow w a n M := by
  have hh := h
  obtain ⟨-, h2⟩ := hh
  rcases h2 with ⟨rfl, rfl⟩ | ⟨g, cap, cur, rfl, h3, h4, h5, h6, -, -⟩
  · exact ⟨none, 0, rfl, hn, by unfold maxLen; omega, by simp, fun h => by omega⟩
  · refine ⟨_, _, rfl, hn, by omega, by simp, fun _ => ⟨g, 0, rfl, (Array.getElem?_eq_some_iff.1 h4).1, fun i t hi => ?_⟩⟩
    have hc := fun j v hj => h.cells (g := g) rfl (i * 2 + j) v (vlcells_at M i t hi j v hj)
    have ea : ∀ j, (⟨g, 0, none⟩ : Addr).add j = ⟨g, 0 + j, none⟩ := fun j => by simp only [Addr.add]; split <;> simp_all
    simp only [ea] at hc
    exact ⟨hc 0 _ rfl, by simpa [Nat.add_assoc] using hc 1 _ rfl⟩
end Go.Proofs.Ytcnaahajaaifjab

/-
  spec.l01In.
-/
namespace Go.Proofs.Ytcnaahajaaifjab
open Go.RowKit
set_option maxHeartbeats 400000 in
set_option maxRecDepth 100000 in
theorem sin_b (x lo hi : Int) (b : Bool) (w : World) (h : (lo ≤ x ∧ x ≤ hi ∧ b = true) ∨ ((x < lo ∨ lo ≤ x ∧ ¬ x ≤ hi) ∧ b = false)) :
    Calls Try.prog 34 #[.int .i64 x, .int .i64 lo, .int .i64 hi] w fun e w' => e = .returned (.bool b) ∧ w' = w := by
  rcases h with ⟨h1, h2, rfl⟩ | ⟨h1 | ⟨h1, h2⟩, rfl⟩
  all_goals
    go_enter Try.func34, Try.ntmps34
    go_wp2
    go_ret
    exact ⟨rfl, rfl⟩
theorem sin_any (x lo hi : Int) (w : World) :
    Calls Try.prog 34 #[.int .i64 x, .int .i64 lo, .int .i64 hi] w fun e w' => e = .returned (.bool (decide (lo ≤ x ∧ x ≤ hi))) ∧ w' = w := by
  apply sin_b
  by_cases h : lo ≤ x ∧ x ≤ hi
  · exact .inl ⟨h.1, h.2, decide_eq_true h⟩
  · exact .inr ⟨by omega, decide_eq_false h⟩
end Go.Proofs.Ytcnaahajaaifjab
