/-
  DrawRcs; SoMath; FdC
-/
import Derived.Test.YtogfdhfmamabiaaDrawRc
import Derived.Test.YtogfdhfmamabiaaSReadRecs
import Derived.Test.YtogfdhfmamabiaaPgMath
import Derived.Test.YtogfdhfmamabiaaPk0
/-
  The draw of right records: spec.l09Recs.
-/
namespace Go.Proofs.Ytogfdhfmamabiaa
open Go.RowKit
open Words

theorem row_ne {ug i p B n c : Nat} (e : (Value.slice (some ⟨ug, 0, none⟩) n c).ownBlock = some i) (h : B ≤ ug) (hp : p < B) : some i ≠ some p := by
  have h1 : ug = i := by injection e
  intro h2
  injection h2 with h2
  omega
/-- What the draw answers: at most eight right records, in a row of its own. -/
def RecsD (w : World) (p : Nat) (ad : Option Addr) (len cap : Nat) (e : Ending) (w' : World) : Prop := ∃ (g c : Nat) (l : List Rc), e = .returned (.slice (some ⟨g, 0, none⟩) l.length c) ∧ l.length ≤ 8 ∧ (∀ r ∈ l, r.Right) ∧ w'.ownsRow w.heap.size 34 4 (.slice (some ⟨g, 0, none⟩) l.length c) l.length (rccells (l.map Rc.tu)) ∧ Drawn w w' p ad len cap

set_option maxHeartbeats 2000000 in
set_option maxRecDepth 100000 in
theorem drecs (p : Nat) (ad : Option Addr) (len cap B : Nat) (w : World) (hl : len ≤ 1048576) (hc : CurIn w p ad len cap) (hd : CodeIn w ad len B) (hB : B ≤ p) :
    Calls Try.prog 31 #[.pointer (some ⟨p, 0, none⟩)] w (RecsD w p ad len cap) := by
  obtain ⟨i0, hi0, hz0, hz1, hz2⟩ := info_parts infoRc
  have I0 := hide hi0
  have Y0 := hide hz0
  have Y1 := hide hz1
  have Y2 := hide hz2
  clear hi0 hz0 hz1 hz2
  have hpw := hc.2.2.2.2.2
  have HD := hide hd
  have R0 : Hid (Drawn w (w.alloc (.cells #[] 34)) p ad len cap ∧ (w.alloc (.cells #[] 34)).ownsRow w.heap.size 34 4 (.slice (some ⟨w.heap.size, 0, none⟩) 0 0) ([] : List Rc).length (rccells (([] : List Rc).map Rc.tu))) :=
    ⟨(Drawn.refl hc).below ((Below.refl _ _).alloc (Nat.le_refl _) _) hpw, (rc_fresh (Below.refl _ _) _ rfl).1⟩
  clear hc hd
  go_enter Try.func31, Try.ntmps31
  go_wp2
  generalize w.alloc (.cells #[] 34) = wa at R0 ⊢
  go_loopw [3, 4] (fun uv iv wr => ∃ (ug uc : Nat) (l : List Rc), l.length ≤ 8 ∧ iv = .int .i64 l.length ∧ uv = .slice (some ⟨ug, 0, none⟩) l.length uc ∧ Hid (∀ r ∈ l, r.Right) ∧ Hid (Drawn w wr p ad len cap ∧ wr.ownsRow w.heap.size 34 4 (.slice (some ⟨ug, 0, none⟩) l.length uc) l.length (rccells (l.map Rc.tu)))) (fun _ iv _ => 9 - (intOf iv).toNat)
  case atStart => exact ⟨w.heap.size, 0, [], by simp, rfl, rfl, (fun r h => by cases h), R0⟩
  case round =>
    obtain ⟨ug, uc, l, h8, rfl, rfl, HA, R⟩ := hrel
    clear R0
    go_wp2_with fail
    refine (below_any 9 p ad len cap B _ (by omega) hl R.out.1.2 (R.out.1.code HD.out hB hpw) hB).mono ?_
    rintro e x1 ⟨y, rfl, y0, y1, -, d1⟩
    have y2 := y1 (by omega)
    have hug := (R.out.2.lt ug rfl).1
    have R1 : Hid (Drawn w x1 p ad len cap ∧ x1.ownsRow w.heap.size 34 4 (.slice (some ⟨ug, 0, none⟩) l.length uc) l.length (rccells (l.map Rc.tu))) :=
      ⟨R.out.1.trans d1, own_kept R.out.2 (fun i hi e => d1.1.block i hi (row_ne e hug hpw))⟩
    clear d1 R y1
    by_cases hlt : (l.length : Int) < y
    · go_wp2_with fail
      refine (drec p ad len cap B _ hl R1.out.1.2 (R1.out.1.code HD.out hB hpw) hB).mono ?_
      rintro e x2 ⟨r, rfl, hr, d2⟩
      have R2 : Hid (Drawn w x2 p ad len cap ∧ x2.ownsRow w.heap.size 34 4 (.slice (some ⟨ug, 0, none⟩) l.length uc) l.length (rccells (l.map Rc.tu))) :=
        ⟨R1.out.1.trans d2, own_kept R1.out.2 (fun i hi e => d2.1.block i hi (row_ne e hug hpw))⟩
      clear d2 R1
      have HR := hide hr
      clear hr
      have ba : Below x2.heap.size x2 (x2.alloc (.cells #[.int .i64 r.kind, .int .i64 r.vol, .int .i64 r.arg, .int .i64 r.chunk] 34)) := (Below.refl _ _).alloc (Nat.le_refl _) _
      have D3 := hide (R2.out.1.below (ba.mono R2.out.1.1.size) hpw)
      have OW := hide (own_kept R2.out.2 (fun i hi _ => ba.block i hi))
      have HN := hide (rc_new x2 r x2.heap.size rfl)
      have HO := hide (rc_one r)
      have HZ := hide D3.out.1.size
      have hh8 : l.length < 8 := by omega
      clear ba R2
      unfold rcVal
      go_wp2_with (at_builtin; refine wpList_append_own_at _ rfl _ _ 29 rfl w.heap.size 34 i0 (.agg #[.int .i64 0, .int .i64 0, .int .i64 0, .int .i64 0]) 4 32 Try.underlying29 I0.out Y0.out Y1.out Y2.out rfl (by decide) _ l.length (rccells (l.map Rc.tu)) rfl OW.out ⟨x2.heap.size, 0, none⟩ 1 1 [Value.int .i64 r.kind, Value.int .i64 r.vol, Value.int .i64 r.arg, Value.int .i64 r.chunk] rfl rfl HN.out HO.out ?m1 ?m2 HZ.out ?_)
      case m1 => unfold maxLen; omega
      case m2 => omega
      intro u' y' ho hg _ hw
      rw [rc_snoc l r, show l.length + 1 = (l ++ [r]).length by simp] at ho
      have hA' : Hid (∀ z ∈ l ++ [r], z.Right) := by
        intro z hz
        rcases List.mem_append.1 hz with h | h
        · exact HA.out z h
        · simp at h; subst h; exact HR.out
      have DN : Hid (Drawn w y' p ad len cap) := D3.out.below ((Below.refl _ _).grown hg D3.out.1.size (fun k hk => (OW.out.lt k hk).1)) hpw
      have hll : (l ++ [r]).length = l.length + 1 := by simp
      generalize l ++ [r] = l' at ho hA' hll
      rcases id ho.2 with ⟨-, h0⟩ | ⟨ug', uc', cur, rfl, -, -, -, -, -, -⟩
      · omega
      have RN := hide (And.intro DN.out ho)
      clear ho hg hw HN HO HZ OW D3 DN HA
      go_wp2
      go_roundw
      case rel => exact ⟨ug', uc', l', by omega, by rw [hll]; go_num, rfl, hA', RN⟩
      case measure => simp [intOf]; omega
    · go_wp2_with fail
      go_ret
      exact ⟨ug, uc, l, rfl, h8, HA.out, R1.out.2, R1.out.1⟩
end Go.Proofs.Ytogfdhfmamabiaa

/-
  Plain facts on stable sorting by a key: no Go in them.
-/
namespace Go.Proofs.Ytogfdhfmamabiaa.Words

structure Fnd where
  block : Int
  leaf : Int
  page : Pg

def Fnd.key (x : Fnd) : Int := x.page.seq

/-- A row that ascends. -/
def Asc (l : List Fnd) : Prop := l.Pairwise (fun a b => a.key ≤ b.key)
/-- Two rows that tell, of each key, the same elements in the same order. -/
def Akin (l k : List Fnd) : Prop := ∀ c : Int, l.filter (fun x => x.key == c) = k.filter (fun x => x.key == c)

theorem Akin.refl (l : List Fnd) : Akin l l := fun _ => rfl
theorem Akin.symm {l k : List Fnd} (h : Akin l k) : Akin k l := fun c => (h c).symm
theorem Akin.trans {l k m : List Fnd} (h : Akin l k) (h2 : Akin k m) : Akin l m := fun c => (h c).trans (h2 c)
theorem Akin.app {a b c d : List Fnd} (h : Akin a b) (h2 : Akin c d) : Akin (a ++ c) (b ++ d) := fun z => by
  rw [List.filter_append, List.filter_append, h z, h2 z]
theorem Akin.flip {a b : List Fnd} (h : ∀ x ∈ a, ∀ y ∈ b, x.key ≠ y.key) : Akin (a ++ b) (b ++ a) := fun c => by
  rw [List.filter_append, List.filter_append]
  by_cases hc : ∃ x ∈ a, x.key = c
  · obtain ⟨x, hx, rfl⟩ := hc
    have : b.filter (fun y => y.key == x.key) = [] := by
      rw [List.filter_eq_nil_iff]
      intro y hy
      have := h x hx y hy
      simpa using fun e => this e.symm
    rw [this]
    simp
  · have : a.filter (fun y => y.key == c) = [] := by
      rw [List.filter_eq_nil_iff]
      intro y hy
      simpa using fun e => hc ⟨y, hy, e⟩
    rw [this]
    simp
theorem Akin.mem {l k : List Fnd} (h : Akin l k) (x : Fnd) : x ∈ l ↔ x ∈ k := by
  have := h x.key
  have e : ∀ m : List Fnd, x ∈ m ↔ x ∈ m.filter (fun y => y.key == x.key) := fun m => by simp
  rw [e l, e k, this]
/-- Two rows that ascend and are alike are the same. -/
theorem Akin.eq : ∀ {l k : List Fnd}, Akin l k → Asc l → Asc k → l = k := by
  intro l
  induction l with
  | nil =>
    intro k h _ _
    cases k with
    | nil => rfl
    | cons b k =>
      have := h b.key
      simp at this
  | cons a l ih =>
    intro k h ha hk
    cases k with
    | nil =>
      have := h a.key
      simp at this
    | cons b k =>
      have hab : a.key = b.key := by
        have h1 : b ∈ a :: l := (h.mem b).2 List.mem_cons_self
        have h2 : a ∈ b :: k := (h.mem a).1 List.mem_cons_self
        have c1 : a.key ≤ b.key := by
          rcases List.mem_cons.1 h1 with e | e
          · rw [e]; exact Int.le_refl _
          · exact (List.pairwise_cons.1 ha).1 b e
        have c2 : b.key ≤ a.key := by
          rcases List.mem_cons.1 h2 with e | e
          · rw [e]; exact Int.le_refl _
          · exact (List.pairwise_cons.1 hk).1 a e
        omega
      have h0 := h a.key
      rw [List.filter_cons_of_pos (by simp), List.filter_cons_of_pos (by simp [hab])] at h0
      injection h0 with e1 _
      subst e1
      congr 1
      refine ih (fun c => ?_) (List.pairwise_cons.1 ha).2 (List.pairwise_cons.1 hk).2
      have hc := h c
      by_cases e : a.key = c
      · rw [List.filter_cons_of_pos (by simp [e]), List.filter_cons_of_pos (by simp [e])] at hc
        injection hc
      · rw [List.filter_cons_of_neg (by simpa using e), List.filter_cons_of_neg (by simpa using e)] at hc
        exact hc
theorem Asc.app {a b : List Fnd} (ha : Asc a) (hb : Asc b) (h : ∀ x ∈ a, ∀ y ∈ b, x.key ≤ y.key) : Asc (a ++ b) := List.pairwise_append.2 ⟨ha, hb, h⟩
theorem Asc.left {a b : List Fnd} (h : Asc (a ++ b)) : Asc a := (List.pairwise_append.1 h).1
theorem Asc.right {a b : List Fnd} (h : Asc (a ++ b)) : Asc b := (List.pairwise_append.1 h).2.1
theorem Asc.across {a b : List Fnd} (h : Asc (a ++ b)) : ∀ x ∈ a, ∀ y ∈ b, x.key ≤ y.key := (List.pairwise_append.1 h).2.2
theorem Asc.le {l : List Fnd} (h : Asc l) {i j : Nat} {x y : Fnd} (hi : l[i]? = some x) (hj : l[j]? = some y) (hij : i ≤ j) : x.key ≤ y.key := by
  by_cases e : i = j
  · subst e
    rw [hi] at hj
    cases hj
    exact Int.le_refl _
  · obtain ⟨h1, e1⟩ := List.getElem?_eq_some_iff.1 hi
    obtain ⟨h2, e2⟩ := List.getElem?_eq_some_iff.1 hj
    rw [← e1, ← e2]
    exact List.pairwise_iff_getElem.1 h i j h1 h2 (by omega)
theorem akin_len {l k : List Fnd} (h : Akin l k) : l.length = k.length := by
  classical
  have : l.Perm k := List.perm_iff_count.2 (fun x => by
    have h1 := h x.key
    have e : ∀ m : List Fnd, List.count x (m.filter (fun y => y.key == x.key)) = List.count x m := fun m => List.count_filter (by simp)
    rw [← e l, ← e k, h1])
  exact this.length_eq
end Go.Proofs.Ytogfdhfmamabiaa.Words

/-
  The cells of what a scan found, in a row.
-/
namespace Go.Proofs.Ytogfdhfmamabiaa
open Go.RowKit
open Words

def fdVal (x : Fnd) : Value := .agg #[.int .i64 x.block, .int .i64 x.leaf, .int .i64 x.page.kind, .int .i64 x.page.seq, .int .i64 x.page.tx, .int .i64 x.page.part, .int .i64 x.page.count, .string x.page.text]
def fdCells (x : Fnd) : List Value := [.int .i64 x.block, .int .i64 x.leaf, .int .i64 x.page.kind, .int .i64 x.page.seq, .int .i64 x.page.tx, .int .i64 x.page.part, .int .i64 x.page.count, .string x.page.text]
theorem infoFound : (Try.prog.info? 42).map (fun i => (i.zero, i.size, i.bytes)) = some (some (.agg #[.int .i64 0, .int .i64 0, .int .i64 0, .int .i64 0, .int .i64 0, .int .i64 0, .int .i64 0, .string ⟨#[]⟩]), 8, 72) := by kernel_rfl
def fcells (l : List Fnd) : List Value := l.flatMap fdCells
theorem fcells_len (l : List Fnd) : (fcells l).length = l.length * 8 := by
  induction l with
  | nil => rfl
  | cons x l ih => simp only [fcells, List.flatMap_cons, List.length_append, List.length_cons] at ih ⊢; rw [ih]; show 8 + _ = _; omega
theorem fcells_snoc (l : List Fnd) (x : Fnd) : fcells l ++ fdCells x = fcells (l ++ [x]) := by simp [fcells]
theorem fd_one (x : Fnd) : ∀ u ∈ fdCells x, u.oneCell' = true := by
  intro u hu
  simp [fdCells] at hu
  rcases hu with h | h | h | h | h | h | h | h <;> subst h <;> rfl
theorem fcells_at : ∀ (l : List Fnd) (i : Nat) (x : Fnd), l[i]? = some x → ∀ j v, (fdCells x)[j]? = some v → (fcells l)[i * 8 + j]? = some v := by
  intro l
  induction l with
  | nil => intro i x h; simp at h
  | cons y l ih =>
    intro i x h j v hv
    have hj : j < 8 := (List.getElem?_eq_some_iff.1 hv).1
    have e : fcells (y :: l) = fdCells y ++ fcells l := by simp [fcells]
    rw [e]
    cases i with
    | zero =>
      simp at h
      subst h
      rw [List.getElem?_append_left (by show 0 * 8 + j < 8; omega)]
      simpa using hv
    | succ i =>
      rw [List.getElem?_cons_succ] at h
      rw [List.getElem?_append_right (by show 8 ≤ (i + 1) * 8 + j; omega)]
      have : (i + 1) * 8 + j - (fdCells y).length = i * 8 + j := by show (i + 1) * 8 + j - 8 = _; omega
      rw [this]
      exact ih i x h j v hv
/-- The cells of what a scan found, by their places. -/
theorem fcells_back (M : List Fnd) (i : Nat) (v : Value) (h : (fcells M)[i]? = some v) : ∃ x, M[i / 8]? = some x ∧ (fdCells x)[i % 8]? = some v := by
  have hl := (List.getElem?_eq_some_iff.1 h).1
  rw [fcells_len] at hl
  obtain ⟨x, hx⟩ : ∃ x, M[i / 8]? = some x := ⟨_, List.getElem?_eq_getElem (by omega)⟩
  obtain ⟨u, hu⟩ : ∃ u, (fdCells x)[i % 8]? = some u := ⟨_, List.getElem?_eq_getElem (by show i % 8 < 8; omega)⟩
  have := fcells_at M (i / 8) x hx (i % 8) u hu
  rw [show i / 8 * 8 + i % 8 = i by omega, h] at this
  cases this
  exact ⟨x, hx, hu⟩
end Go.Proofs.Ytogfdhfmamabiaa
