/-
  ToSto; ToStoT; SoMath; FdC; FdR
-/
import Derived.Test.YtcjhnoapjhohfaaGreatDoorPk15
import Derived.Test.YtcjhnoapjhohfaaGreatDoorPk10
import Derived.Test.YtcjhnoapjhohfaaGreatDoorPk0
import Derived.Test.YtcjhnoapjhohfaaGreatDoorPk4
/-
  The laws' own toStore.
-/
namespace Go.Proofs.YtcjhnoapjhohfaaGreatDoor
open Go.RowKit
open Words

theorem Tk.setC {w wi : World} {hs hs' : List Hold} {lo hi b : Nat} {cs cs' : Array Value} {t : TypeId} (h : Tk w wi hs) (n : Nat) (hn : hs[n]? = some (lo, hi, Cel b cs t)) (hb : w.heap.size ≤ b) (k : Nat) (u : Value) (hc : cs.setIfInBounds k u = cs') (hh : ∀ x ∈ hs', x ∈ hs ∧ (x.2.1 ≤ b ∨ b + 1 ≤ x.1)) :
    Tk w (wi.setCell ⟨b, k, none⟩ u) ((b, b + 1, Cel b cs' t) :: hs') := by
  have hz : (wi.setCell ⟨b, k, none⟩ u).heap.size = wi.heap.size := by simp [World.setCell]
  have h0 : wi.heap[b]? = some (.cells cs t (0, 0)) := h.get n hn
  refine ⟨h.1.setCell (p := ⟨b, k, none⟩) hb u, fun x hx => ?_⟩
  rcases List.mem_cons.1 hx with rfl | hx
  · refine ⟨?_, Cel.loc _ _ _, ?_⟩
    · have := (Array.getElem?_eq_some_iff.1 h0).1
      show b + 1 ≤ _
      omega
    · subst hc
      exact heap_setCell_same _ _ k _ _ _ h0
  · obtain ⟨x1, x2⟩ := hh x hx
    obtain ⟨y1, y2, y3⟩ := h.2 x x1
    exact ⟨by omega, y2, y2 _ _ (fun g g1 g2 => Below.heap_setCell _ _ _ _ (show g ≠ b by omega)) y3⟩
set_option maxHeartbeats 1000000 in
set_option maxRecDepth 100000 in
theorem toSto_any (va : Option Addr) (vl vc : Nat) (ad : Option Addr) (len cap : Nat) (nx : Int) (vs : List (Int × Int)) (rs : List Kw) (w : World) (hvl : vl ≤ 1048576) (hl : len ≤ 1048576) (hll : ∀ r ∈ rs, r.2.2.length ≤ 1048576) (h : VlRow w va vl vs) (hk : KnRd w ad len rs) :
    Calls Tryz.prog 14 #[.agg #[.slice va vl vc, .slice ad len cap, .int .i64 nx]] w fun e w' => ∃ g1 g2 : Nat, e = .returned (.agg #[.slice (some ⟨g1, 0, none⟩) vl vl, .slice (some ⟨g2, 0, none⟩) len len, .int .i64 nx]) ∧ StOut w ⟨vs, rs.map ktell, nx⟩ (.agg #[.slice (some ⟨g1, 0, none⟩) vl vl, .slice (some ⟨g2, 0, none⟩) len len, .int .i64 nx]) w' := by
  have HVL := hide h.1
  have HL := hide hll
  have T0 := hide (Tk.three w #[.slice va vl vc, .slice ad len cap, .int .i64 nx] #[.slice none 0 0, .slice none 0 0, .int .i64 0] #[.slice none 0 0, .slice none 0 0, .int .i64 0] 41 49 49)
  have VB0 := hide h
  have KB0 := hide hk
  clear h hk hll
  go_enter Tryz.func14, Tryz.ntmps14
  go_wp2_with fail
  generalize ((w.alloc (.cells #[.slice va vl vc, .slice ad len cap, .int .i64 nx] 41)).alloc (.cells #[.slice none 0 0, .slice none 0 0, .int .i64 0] 49)).alloc (.cells #[.slice none 0 0, .slice none 0 0, .int .i64 0] 49) = wb at T0 ⊢
  refine (toVls_any va vl vc vs wb hvl (VB0.out.below T0.out.1)).mono ?_
  rintro e w1 ⟨g1, rfl, o1, b1⟩
  have hz0 := T0.out.hi 0 rfl
  have t1 := T0.out.add b1 (Sli.loc 107 wb.heap.size w1.heap.size (.slice (some ⟨g1, 0, none⟩) vl vl) vs.length (vlcells vs)) (Sli.of o1)
  have f1 : w1.frozen? ⟨w.heap.size + 1 + 1, 0, none⟩ = false := t1.fr 1 0 rfl
  have c1 : w1.cell? ⟨w.heap.size + 1 + 1, 0, none⟩ = some (.slice none 0 0) := t1.at 1 0 rfl rfl
  have T1 := hide (t1.setC 1 rfl (by omega) 0 (.slice (some ⟨g1, 0, none⟩) vl vl) (cs' := #[.slice (some ⟨g1, 0, none⟩) vl vl, .slice none 0 0, .int .i64 0]) rfl (hs' := [(wb.heap.size, w1.heap.size, Sli 107 wb.heap.size w1.heap.size (.slice (some ⟨g1, 0, none⟩) vl vl) vs.length (vlcells vs)), (w.heap.size + 1, w.heap.size + 1 + 1, Cel (w.heap.size + 1) #[.slice none 0 0, .slice none 0 0, .int .i64 0] 49), (w.heap.size, w.heap.size + 1, Cel w.heap.size #[.slice va vl vc, .slice ad len cap, .int .i64 nx] 41)]) (by
    intro x hx
    simp only [List.mem_cons, List.not_mem_nil, or_false] at hx
    rcases hx with rfl | rfl | rfl
    · exact ⟨by simp, .inr (by show _ ≤ _; omega)⟩
    · exact ⟨by simp, .inl (show w.heap.size + 1 + 1 ≤ w.heap.size + 1 + 1 from Nat.le_refl _)⟩
    · exact ⟨by simp, .inl (show w.heap.size + 1 ≤ w.heap.size + 1 + 1 by omega)⟩))
  have BB := hide b1
  have HZ0 := hide hz0
  clear t1 o1 b1 hz0
  have c2 : (w1.setCell ⟨w.heap.size + 1 + 1, 0, none⟩ (.slice (some ⟨g1, 0, none⟩) vl vl)).cell? ⟨w.heap.size, 1, none⟩ = some (.slice ad len cap) := T1.out.at 3 1 rfl rfl
  go_wp2_with fail
  generalize w1.setCell ⟨w.heap.size + 1 + 1, 0, none⟩ (.slice (some ⟨g1, 0, none⟩) vl vl) = w2 at T1 c2 ⊢
  clear f1 c1 c2
  refine (toAr_any ad len cap rs w2 hl HL.out (KB0.out.below T1.out.1)).mono ?_
  rintro e w3 ⟨g2, ss, rfl, hx, ht, b3⟩
  have t3 := T1.out.add b3 (Kns.loc w2.heap.size w3.heap.size (.slice (some ⟨g2, 0, none⟩) len len) (rs.map ktell)) ⟨ss, ht, hx.kns⟩
  have hz2 : Hid (w1.heap.size ≤ w2.heap.size) := T1.out.hi 1 rfl
  have hz1 : Hid (wb.heap.size ≤ w1.heap.size) := BB.out.size
  have f3 : w3.frozen? ⟨w.heap.size + 1 + 1, 1, none⟩ = false := t3.fr 1 1 rfl
  have c3 : w3.cell? ⟨w.heap.size + 1 + 1, 1, none⟩ = some (.slice none 0 0) := t3.at 1 1 rfl rfl
  have t4 := t3.setC 1 rfl (by omega) 1 (.slice (some ⟨g2, 0, none⟩) len len) (cs' := #[.slice (some ⟨g1, 0, none⟩) vl vl, .slice (some ⟨g2, 0, none⟩) len len, .int .i64 0]) rfl (hs' := [(w2.heap.size, w3.heap.size, Kns w2.heap.size w3.heap.size (.slice (some ⟨g2, 0, none⟩) len len) (rs.map ktell)), (wb.heap.size, w1.heap.size, Sli 107 wb.heap.size w1.heap.size (.slice (some ⟨g1, 0, none⟩) vl vl) vs.length (vlcells vs)), (w.heap.size + 1, w.heap.size + 1 + 1, Cel (w.heap.size + 1) #[.slice none 0 0, .slice none 0 0, .int .i64 0] 49), (w.heap.size, w.heap.size + 1, Cel w.heap.size #[.slice va vl vc, .slice ad len cap, .int .i64 nx] 41)]) (by
    intro x hx
    have h0 := HZ0.out
    have h1 := hz1.out
    have h2 := hz2.out
    simp only [List.mem_cons, List.not_mem_nil, or_false] at hx
    rcases hx with rfl | rfl | rfl | rfl
    · exact ⟨by simp, .inr (by show _ ≤ _; omega)⟩
    · exact ⟨by simp, .inr (by show _ ≤ _; omega)⟩
    · exact ⟨by simp, .inl (show w.heap.size + 1 + 1 ≤ w.heap.size + 1 + 1 from Nat.le_refl _)⟩
    · exact ⟨by simp, .inl (show w.heap.size + 1 ≤ w.heap.size + 1 + 1 by omega)⟩)
  have T4 := hide t4
  clear t3 t4 T1
  generalize HW4 : w3.setCell ⟨w.heap.size + 1 + 1, 1, none⟩ (.slice (some ⟨g2, 0, none⟩) len len) = w4 at T4
  have c4 : w4.cell? ⟨w.heap.size, 2, none⟩ = some (.int .i64 nx) := T4.out.at 4 2 rfl rfl
  have f4 : w4.frozen? ⟨w.heap.size + 1 + 1, 2, none⟩ = false := T4.out.fr 0 2 rfl
  have d4 : w4.cell? ⟨w.heap.size + 1 + 1, 2, none⟩ = some (.int .i64 0) := T4.out.at 0 2 rfl rfl
  have t5 := T4.out.setC 0 rfl (by omega) 2 (.int .i64 nx) (cs' := #[.slice (some ⟨g1, 0, none⟩) vl vl, .slice (some ⟨g2, 0, none⟩) len len, .int .i64 nx]) rfl (hs' := [(w2.heap.size, w3.heap.size, Kns w2.heap.size w3.heap.size (.slice (some ⟨g2, 0, none⟩) len len) (rs.map ktell)), (wb.heap.size, w1.heap.size, Sli 107 wb.heap.size w1.heap.size (.slice (some ⟨g1, 0, none⟩) vl vl) vs.length (vlcells vs)), (w.heap.size + 1, w.heap.size + 1 + 1, Cel (w.heap.size + 1) #[.slice none 0 0, .slice none 0 0, .int .i64 0] 49)]) (by
    intro x hx
    have h0 := HZ0.out
    have h1 := hz1.out
    have h2 := hz2.out
    simp only [List.mem_cons, List.not_mem_nil, or_false] at hx
    rcases hx with rfl | rfl | rfl
    · exact ⟨by simp, .inr (by show _ ≤ _; omega)⟩
    · exact ⟨by simp, .inr (by show _ ≤ _; omega)⟩
    · exact ⟨by simp, .inl (show w.heap.size + 1 + 1 ≤ w.heap.size + 1 + 1 from Nat.le_refl _)⟩)
  have T5 := hide t5
  clear t5 T4
  generalize HW5 : w4.setCell ⟨w.heap.size + 1 + 1, 2, none⟩ (.int .i64 nx) = w5 at T5
  have e0 : w5.cell? ⟨w.heap.size + 1 + 1, 0, none⟩ = some (.slice (some ⟨g1, 0, none⟩) vl vl) := T5.out.at 0 0 rfl rfl
  have e1 : w5.cell? ⟨w.heap.size + 1 + 1, 1, none⟩ = some (.slice (some ⟨g2, 0, none⟩) len len) := T5.out.at 0 1 rfl rfl
  have e2 : w5.cell? ⟨w.heap.size + 1 + 1, 2, none⟩ = some (.int .i64 nx) := T5.out.at 0 2 rfl rfl
  have k0 : w5.cell? ⟨w.heap.size + 1, 0, none⟩ = some (.slice none 0 0) := T5.out.at 3 0 rfl rfl
  have k1 : w5.cell? ⟨w.heap.size + 1, 1, none⟩ = some (.slice none 0 0) := T5.out.at 3 1 rfl rfl
  have k2 : w5.cell? ⟨w.heap.size + 1, 2, none⟩ = some (.int .i64 0) := T5.out.at 3 2 rfl rfl
  have j0 : w5.frozen? ⟨w.heap.size + 1, 0, none⟩ = false := T5.out.fr 3 0 rfl
  have j1 : w5.frozen? ⟨w.heap.size + 1, 1, none⟩ = false := T5.out.fr 3 1 rfl
  have j2 : w5.frozen? ⟨w.heap.size + 1, 2, none⟩ = false := T5.out.fr 3 2 rfl
  have R5 := hide (sto_row3 (a := .slice (some ⟨g1, 0, none⟩) vl vl) (b := .slice (some ⟨g2, 0, none⟩) len len) (c := .int .i64 nx) (T5.out.get 3 rfl))
  have FIN : Hid (StOut w ⟨vs, rs.map ktell, nx⟩ (.agg #[.slice (some ⟨g1, 0, none⟩) vl vl, .slice (some ⟨g2, 0, none⟩) len len, .int .i64 nx]) (((w5.setCell ⟨w.heap.size + 1, 0, none⟩ (.slice (some ⟨g1, 0, none⟩) vl vl)).setCell ⟨w.heap.size + 1, 1, none⟩ (.slice (some ⟨g2, 0, none⟩) len len)).setCell ⟨w.heap.size + 1, 2, none⟩ (.int .i64 nx))) := by
    have h0 := HZ0.out
    have h1 := hz1.out
    have h2 := hz2.out
    have h3 := T5.out.hi 1 rfl
    have h4 := T5.out.hi 2 rfl
    exact st_fin (s := ⟨vs, rs.map ktell, nx⟩) (by omega) (T5.out.get 2 rfl) (T5.out.get 1 rfl) ⟨by omega, .inr (by omega)⟩ ⟨by omega, .inr (by omega)⟩ h4 h3 (.inl (by omega)) T5.out.1
  subst HW5
  subst HW4
  clear T5 T0
  go_wp2
  exact bodyPost_ret (results_cell_row rfl _ _ (w.heap.size + 1) 49 _ (0, 0) _ rfl R5.out Tryz.underlying49 rfl infoSto) rfl ⟨_, _, rfl, FIN.out⟩
end Go.Proofs.YtcjhnoapjhohfaaGreatDoor

/-
  toStore, held.
-/
namespace Go.Proofs.YtcjhnoapjhohfaaGreatDoor
open Go.RowKit
open Words

theorem tosto_tk {w wi : World} {hs : List Hold} {va : Option Addr} {vl vc : Nat} {ad : Option Addr} {len cap : Nat} {nx : Int} {vs : List (Int × Int)} {rs : List Kw} {s : Sto} (T : Tk w wi hs) (H : VlRow w va vl vs) (K : KnRd w ad len rs) (hvl : vl ≤ 1048576) (hl : len ≤ 1048576) (hll : ∀ r ∈ rs, r.2.2.length ≤ 1048576) (hM : s = ⟨vs, rs.map ktell, nx⟩) :
    Calls Tryz.prog 14 #[.agg #[.slice va vl vc, .slice ad len cap, .int .i64 nx]] wi fun e w' => ∃ g1 g2 : Nat, e = .returned (.agg #[.slice (some ⟨g1, 0, none⟩) vl vl, .slice (some ⟨g2, 0, none⟩) len len, .int .i64 nx]) ∧ Tk w w' ((wi.heap.size, w'.heap.size, Sts wi.heap.size w'.heap.size (.agg #[.slice (some ⟨g1, 0, none⟩) vl vl, .slice (some ⟨g2, 0, none⟩) len len, .int .i64 nx]) s) :: hs) ∧ wi.heap.size ≤ w'.heap.size := by
  refine (toSto_any va vl vc ad len cap nx vs rs wi hvl hl hll (H.below T.1) (K.below T.1)).mono ?_
  rintro e w' ⟨g1, g2, rfl, h⟩
  subst hM
  exact ⟨g1, g2, rfl, T.add h.blw (Sts.loc _ _ _ _) h.sts, h.blw.size⟩
end Go.Proofs.YtcjhnoapjhohfaaGreatDoor

/-
  Plain facts on stable sorting by a key: no Go in them.
-/
namespace Go.Proofs.YtcjhnoapjhohfaaGreatDoor.Words

structure Fnd where
  block : Int
  leaf : Int
  page : Pg

def Fnd.key (x : Fnd) : Int := x.page.seq

/-- A row that ascends. -/
def Asc (l : List Fnd) : Prop := l.Pairwise (fun a b => a.key ≤ b.key)
/-- Two rows that tell, of each key, the same elements in the same order. -/
def Akin (l k : List Fnd) : Prop := ∀ c : Int, l.filter (fun x => x.key == c) = k.filter (fun x => x.key == c)

theorem Akin.refl (l : List Fnd) : Akin l l := fun _ => rfl
theorem Akin.symm {l k : List Fnd} (h : Akin l k) : Akin k l := fun c => (h c).symm
theorem Akin.trans {l k m : List Fnd} (h : Akin l k) (h2 : Akin k m) : Akin l m := fun c => (h c).trans (h2 c)
theorem Akin.app {a b c d : List Fnd} (h : Akin a b) (h2 : Akin c d) : Akin (a ++ c) (b ++ d) := fun z => by
  rw [List.filter_append, List.filter_append, h z, h2 z]
theorem Akin.flip {a b : List Fnd} (h : ∀ x ∈ a, ∀ y ∈ b, x.key ≠ y.key) : Akin (a ++ b) (b ++ a) := fun c => by
  rw [List.filter_append, List.filter_append]
  by_cases hc : ∃ x ∈ a, x.key = c
  · obtain ⟨x, hx, rfl⟩ := hc
    have : b.filter (fun y => y.key == x.key) = [] := by
      rw [List.filter_eq_nil_iff]
      intro y hy
      have := h x hx y hy
      simpa using fun e => this e.symm
    rw [this]
    simp
  · have : a.filter (fun y => y.key == c) = [] := by
      rw [List.filter_eq_nil_iff]
      intro y hy
      simpa using fun e => hc ⟨y, hy, e⟩
    rw [this]
    simp
theorem Akin.mem {l k : List Fnd} (h : Akin l k) (x : Fnd) : x ∈ l ↔ x ∈ k := by
  have := h x.key
  have e : ∀ m : List Fnd, x ∈ m ↔ x ∈ m.filter (fun y => y.key == x.key) := fun m => by simp
  rw [e l, e k, this]
/-- Two rows that ascend and are alike are the same. -/
theorem Akin.eq : ∀ {l k : List Fnd}, Akin l k → Asc l → Asc k → l = k := by
  intro l
  induction l with
  | nil =>
    intro k h _ _
    cases k with
    | nil => rfl
    | cons b k =>
      have := h b.key
      simp at this
  | cons a l ih =>
    intro k h ha hk
    cases k with
    | nil =>
      have := h a.key
      simp at this
    | cons b k =>
      have hab : a.key = b.key := by
        have h1 : b ∈ a :: l := (h.mem b).2 List.mem_cons_self
        have h2 : a ∈ b :: k := (h.mem a).1 List.mem_cons_self
        have c1 : a.key ≤ b.key := by
          rcases List.mem_cons.1 h1 with e | e
          · rw [e]; exact Int.le_refl _
          · exact (List.pairwise_cons.1 ha).1 b e
        have c2 : b.key ≤ a.key := by
          rcases List.mem_cons.1 h2 with e | e
          · rw [e]; exact Int.le_refl _
          · exact (List.pairwise_cons.1 hk).1 a e
        omega
      have h0 := h a.key
      rw [List.filter_cons_of_pos (by simp), List.filter_cons_of_pos (by simp [hab])] at h0
      injection h0 with e1 _
      subst e1
      congr 1
      refine ih (fun c => ?_) (List.pairwise_cons.1 ha).2 (List.pairwise_cons.1 hk).2
      have hc := h c
      by_cases e : a.key = c
      · rw [List.filter_cons_of_pos (by simp [e]), List.filter_cons_of_pos (by simp [e])] at hc
        injection hc
      · rw [List.filter_cons_of_neg (by simpa using e), List.filter_cons_of_neg (by simpa using e)] at hc
        exact hc
theorem Asc.app {a b : List Fnd} (ha : Asc a) (hb : Asc b) (h : ∀ x ∈ a, ∀ y ∈ b, x.key ≤ y.key) : Asc (a ++ b) := List.pairwise_append.2 ⟨ha, hb, h⟩
theorem Asc.left {a b : List Fnd} (h : Asc (a ++ b)) : Asc a := (List.pairwise_append.1 h).1
theorem Asc.right {a b : List Fnd} (h : Asc (a ++ b)) : Asc b := (List.pairwise_append.1 h).2.1
theorem Asc.across {a b : List Fnd} (h : Asc (a ++ b)) : ∀ x ∈ a, ∀ y ∈ b, x.key ≤ y.key := (List.pairwise_append.1 h).2.2
theorem Asc.le {l : List Fnd} (h : Asc l) {i j : Nat} {x y : Fnd} (hi : l[i]? = some x) (hj : l[j]? = some y) (hij : i ≤ j) : x.key ≤ y.key := by
  by_cases e : i = j
  · subst e
    rw [hi] at hj
    cases hj
    exact Int.le_refl _
  · obtain ⟨h1, e1⟩ := List.getElem?_eq_some_iff.1 hi
    obtain ⟨h2, e2⟩ := List.getElem?_eq_some_iff.1 hj
    rw [← e1, ← e2]
    exact List.pairwise_iff_getElem.1 h i j h1 h2 (by omega)
end Go.Proofs.YtcjhnoapjhohfaaGreatDoor.Words

/-
  The cells of what a scan found, in a row.
-/
namespace Go.Proofs.YtcjhnoapjhohfaaGreatDoor
open Go.RowKit
open Words

def fdVal (x : Fnd) : Value := .agg #[.int .i64 x.block, .int .i64 x.leaf, .int .i64 x.page.kind, .int .i64 x.page.seq, .int .i64 x.page.tx, .int .i64 x.page.part, .int .i64 x.page.count, .string x.page.text]
def fdCells (x : Fnd) : List Value := [.int .i64 x.block, .int .i64 x.leaf, .int .i64 x.page.kind, .int .i64 x.page.seq, .int .i64 x.page.tx, .int .i64 x.page.part, .int .i64 x.page.count, .string x.page.text]
theorem infoFound : (Tryz.prog.info? 77).map (fun i => (i.zero, i.size, i.bytes)) = some (some (.agg #[.int .i64 0, .int .i64 0, .int .i64 0, .int .i64 0, .int .i64 0, .int .i64 0, .int .i64 0, .string ⟨#[]⟩]), 8, 72) := by kernel_rfl
def fcells (l : List Fnd) : List Value := l.flatMap fdCells
theorem fcells_len (l : List Fnd) : (fcells l).length = l.length * 8 := by
  induction l with
  | nil => rfl
  | cons x l ih => simp only [fcells, List.flatMap_cons, List.length_append, List.length_cons] at ih ⊢; rw [ih]; show 8 + _ = _; omega
theorem fcells_snoc (l : List Fnd) (x : Fnd) : fcells l ++ fdCells x = fcells (l ++ [x]) := by simp [fcells]
theorem fd_one (x : Fnd) : ∀ u ∈ fdCells x, u.oneCell' = true := by
  intro u hu
  simp [fdCells] at hu
  rcases hu with h | h | h | h | h | h | h | h <;> subst h <;> rfl
theorem fcells_at : ∀ (l : List Fnd) (i : Nat) (x : Fnd), l[i]? = some x → ∀ j v, (fdCells x)[j]? = some v → (fcells l)[i * 8 + j]? = some v := by
  intro l
  induction l with
  | nil => intro i x h; simp at h
  | cons y l ih =>
    intro i x h j v hv
    have hj : j < 8 := (List.getElem?_eq_some_iff.1 hv).1
    have e : fcells (y :: l) = fdCells y ++ fcells l := by simp [fcells]
    rw [e]
    cases i with
    | zero =>
      simp at h
      subst h
      rw [List.getElem?_append_left (by show 0 * 8 + j < 8; omega)]
      simpa using hv
    | succ i =>
      rw [List.getElem?_cons_succ] at h
      rw [List.getElem?_append_right (by show 8 ≤ (i + 1) * 8 + j; omega)]
      have : (i + 1) * 8 + j - (fdCells y).length = i * 8 + j := by show (i + 1) * 8 + j - 8 = _; omega
      rw [this]
      exact ih i x h j v hv
/-- The cells of what a scan found, by their places. -/
theorem fcells_back (M : List Fnd) (i : Nat) (v : Value) (h : (fcells M)[i]? = some v) : ∃ x, M[i / 8]? = some x ∧ (fdCells x)[i % 8]? = some v := by
  have hl := (List.getElem?_eq_some_iff.1 h).1
  rw [fcells_len] at hl
  obtain ⟨x, hx⟩ : ∃ x, M[i / 8]? = some x := ⟨_, List.getElem?_eq_getElem (by omega)⟩
  obtain ⟨u, hu⟩ : ∃ u, (fdCells x)[i % 8]? = some u := ⟨_, List.getElem?_eq_getElem (by show i % 8 < 8; omega)⟩
  have := fcells_at M (i / 8) x hx (i % 8) u hu
  rw [show i / 8 * 8 + i % 8 = i by omega, h] at this
  cases this
  exact ⟨x, hx, hu⟩
end Go.Proofs.YtcjhnoapjhohfaaGreatDoor

/-
  Rows of what a scan found that can be read.
-/
namespace Go.Proofs.YtcjhnoapjhohfaaGreatDoor
open Go.RowKit
open Words

def FdRd (w : World) (a : Option Addr) (len : Nat) (ls : List Fnd) : Prop :=
  ls.length = len ∧ len ≤ maxLen ∧ (0 < len → ∃ b off, a = some ⟨b, off, none⟩ ∧ b < w.heap.size ∧ ∀ i t, ls[i]? = some t → ∀ j v, (fdCells t)[j]? = some v → w.cell? ⟨b, off + (i * 8 + j), none⟩ = some v)
theorem FdRd.below {w w' : World} {a : Option Addr} {len : Nat} {ls : List Fnd} (h : FdRd w a len ls) (hb : Below w.heap.size w w') : FdRd w' a len ls := by
  obtain ⟨h1, h2, h4⟩ := h
  refine ⟨h1, h2, fun h0 => ?_⟩
  obtain ⟨b, off, e, hl, hc⟩ := h4 h0
  have hs := hb.size
  exact ⟨b, off, e, by omega, fun i t ht j v hv => (hb.cell (show b < w.heap.size from hl)).trans (hc i t ht j v hv)⟩
theorem FdRd.at {w : World} {a : Option Addr} {len : Nat} {ls : List Fnd} (h : FdRd w a len ls) {k : Nat} {t : Fnd} (hk : ls[k]? = some t) :
    ∃ b off, a = some ⟨b, off, none⟩ ∧ b < w.heap.size ∧ w.cell? ⟨b, off + k * 8, none⟩ = some (.int .i64 t.block) ∧ w.cell? ⟨b, off + k * 8 + 1, none⟩ = some (.int .i64 t.leaf) ∧
      w.cell? ⟨b, off + k * 8 + 2, none⟩ = some (.int .i64 t.page.kind) ∧ w.cell? ⟨b, off + k * 8 + 2 + 1, none⟩ = some (.int .i64 t.page.seq) ∧ w.cell? ⟨b, off + k * 8 + 2 + 2, none⟩ = some (.int .i64 t.page.tx) ∧
      w.cell? ⟨b, off + k * 8 + 2 + 3, none⟩ = some (.int .i64 t.page.part) ∧ w.cell? ⟨b, off + k * 8 + 2 + 4, none⟩ = some (.int .i64 t.page.count) ∧ w.cell? ⟨b, off + k * 8 + 2 + 5, none⟩ = some (.string t.page.text) := by
  obtain ⟨h1, -, h4⟩ := h
  have hl := (List.getElem?_eq_some_iff.1 hk).1
  obtain ⟨b, off, e, hb, hc⟩ := h4 (by omega)
  have hc := hc k t hk
  refine ⟨b, off, e, hb, hc 0 _ rfl, ?_, ?_, ?_, ?_, ?_, ?_, ?_⟩
  · have := hc 1 _ rfl; rwa [← Nat.add_assoc] at this
  · have := hc 2 _ rfl; rwa [← Nat.add_assoc] at this
  · have := hc 3 _ rfl; rwa [← Nat.add_assoc] at this
  · have := hc 4 _ rfl; rwa [← Nat.add_assoc] at this
  · have := hc 5 _ rfl; rwa [← Nat.add_assoc] at this
  · have := hc 6 _ rfl; rwa [← Nat.add_assoc] at this
  · have := hc 7 _ rfl; rwa [← Nat.add_assoc] at this
theorem Sli.fdrd {lo hi n c : Nat} {ad : Option Addr} {M : List Fnd} {W : World} (h : Sli 77 lo hi (.slice ad n c) n (fcells M) W) (hn : M.length = n) (hm : n ≤ maxLen) (hh : hi ≤ W.heap.size) : FdRd W ad n M := by
  refine ⟨hn, hm, fun h0 => ?_⟩
  rcases h with ⟨e, rfl⟩ | ⟨g, cap, e, h1, h2, h3⟩
  · omega
  · injection e with e1 e2 e3
    refine ⟨g, 0, e1, by omega, fun i t hi j v hj => ?_⟩
    rw [Nat.zero_add]
    exact h3.cell (fcells_at M i t hi j v hj)
end Go.Proofs.YtcjhnoapjhohfaaGreatDoor
