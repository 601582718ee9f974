/-
  The map of maps: pages by part, these by transaction.
-/
import Derived.Test.YtogfdhfmamabiaaPk37
import Derived.WalkLawsBesides
namespace Go.Proofs.Ytogfdhfmamabiaa
open Go.RowKit
open Words

theorem at?_map {α β : Type} (f : α → β) (l : List (Int × α)) (k : Int) : at? (l.map (fun p => (p.1, f p.2))) k = (at? l k).map f := by
  induction l with
  | nil => rfl
  | cons a l ih =>
    rw [List.map_cons, at?_cons, at?_cons, ih]
    by_cases h : a.1 = k <;> simp [h]
theorem cut_map {α β : Type} (f : α → β) (l : List (Int × α)) (k : Int) : cutK (l.map (fun p => (p.1, f p.2))) k = (cutK l k).map (fun p => (p.1, f p.2)) := by
  unfold cutK
  rw [List.filter_map]
  rfl
def inL (l : List (Int × Pg)) : List (Int × Value) := l.map (fun q => (q.1, pgVal q.2))
def outV (g : Nat × List (Int × Pg)) : Value := .map (some g.1)
def outL (G : Gm) : List (Int × Value) := G.map (fun g => (g.1, outV g.2))
theorem inL_at (l : List (Int × Pg)) (k : Int) : at? (inL l) k = (at? l k).map pgVal := at?_map pgVal l k
theorem outL_at (G : Gm) (k : Int) : at? (outL G) k = (at? G k).map outV := at?_map outV G k
theorem inL_snoc (l : List (Int × Pg)) (k : Int) (p : Pg) : inL l ++ [(k, pgVal p)] = inL (l ++ [(k, p)]) := by simp [inL]
theorem inL_len (l : List (Int × Pg)) : (inL l).length = l.length := by simp [inL]
/-- The map of maps lies in block B, each of them in a block of its own, all from block lo on. -/
def PM (lo : Nat) (W : World) (B : Nat) (G : Gm) : Prop :=
  lo ≤ B ∧ MapI W B (outL G) ∧ (∀ g ∈ G, lo ≤ g.2.1 ∧ g.2.1 ≠ B ∧ MapI W g.2.1 (inL g.2.2)) ∧ G.Pairwise (fun a b => a.2.1 ≠ b.2.1)
theorem PM.lt {lo B : Nat} {W : World} {G : Gm} (h : PM lo W B G) : lo ≤ W.heap.size := by have := h.2.1.lt; have := h.1; omega
theorem PM.same {lo B : Nat} {W W' : World} {G : Gm} (h : PM lo W B G) (e : ∀ i, lo ≤ i → i < W.heap.size → (∃ es c, W.heap[i]? = some (.map es c)) → W'.heap[i]? = W.heap[i]?) : PM lo W' B G := by
  obtain ⟨h1, h2, h3, h4⟩ := h
  have hm : ∀ {b : Nat} {l : List (Int × Value)}, MapI W b l → ∃ es c, W.heap[b]? = some (.map es c) := fun {b l} h => by
    obtain ⟨-, es, c, q, -⟩ := h
    exact ⟨es, c, q⟩
  exact ⟨h1, h2.same (e B h1 h2.lt (hm h2)), fun g hg => ⟨(h3 g hg).1, (h3 g hg).2.1, (h3 g hg).2.2.same (e _ (h3 g hg).1 (h3 g hg).2.2.lt (hm (h3 g hg).2.2))⟩, h4⟩
theorem PM.below {lo B : Nat} {W W' : World} {G : Gm} (h : PM lo W B G) (b : Below W.heap.size W W') : PM lo W' B G := h.same (fun i _ hi _ => b.block i hi)
/-- A block of cells is written: no map. -/
theorem PM.grown {lo B : Nat} {W W' : World} {G : Gm} {row : Option Nat} (h : PM lo W B G) (hg : W.grownBy W' row) (hr : ∀ g, row = some g → ∃ cs e z, W.heap[g]? = some (.cells cs e z)) : PM lo W' B G := by
  refine h.same (fun i _ hi hm => hg.block i hi (fun e => ?_))
  obtain ⟨es, c, q⟩ := hm
  obtain ⟨cs, t, z, q2⟩ := hr i e.symm
  rw [q] at q2
  cases q2
theorem PM.start (w : World) : PM w.heap.size (w.alloc (.map #[] 0)) w.heap.size [] := ⟨Nat.le_refl _, MapI.made w, (fun _ h => by cases h), List.Pairwise.nil⟩
theorem PM.at {lo B : Nat} {W : World} {G : Gm} (h : PM lo W B G) {x : Int} {b : Nat} {l : List (Int × Pg)} (hx : at? G x = some (b, l)) : lo ≤ b ∧ b ≠ B ∧ MapI W b (inL l) := h.2.2.1 _ (at?_mem hx)

theorem tyPP : Try.prog.underlying 53 = some (.map 3 82) := Try.underlying53
theorem tyPg : Try.prog.underlying 82 = some (.map 3 40) := Try.underlying82
theorem zeroPP (w : World) : (zeroValue 82).run Try.prog w = .ok (.map none) w := by kernel_rfl
theorem zeroPg (w : World) : (zeroValue 40).run Try.prog w = .ok (.agg #[.int .i64 0, .int .i64 0, .int .i64 0, .int .i64 0, .int .i64 0, .string ⟨#[]⟩]) w := by kernel_rfl
theorem pgFld1 (a b c d e : Int) (t : ByteArray) (W : World) : (Instr.field 40 (.agg #[.int .i64 a, .int .i64 b, .int .i64 c, .int .i64 d, .int .i64 e, .string t]) 1).run Try.prog W = .ok (.int .i64 b) W := by kernel_rfl
theorem pgFld4 (a b c d e : Int) (t : ByteArray) (W : World) : (Instr.field 40 (.agg #[.int .i64 a, .int .i64 b, .int .i64 c, .int .i64 d, .int .i64 e, .string t]) 4).run Try.prog W = .ok (.int .i64 e) W := by kernel_rfl
theorem pgFld5 (a b c d e : Int) (t : ByteArray) (W : World) : (Instr.field 40 (.agg #[.int .i64 a, .int .i64 b, .int .i64 c, .int .i64 d, .int .i64 e, .string t]) 5).run Try.prog W = .ok (.string t) W := by kernel_rfl
/-- parts[x] -/
theorem PM.look {lo B : Nat} {W : World} {G : Gm} (h : PM lo W B G) (x : Int) (c : Bool) : (Instr.lookup 53 (.map (some B)) (.int .i64 x) c).run Try.prog W = .ok (if c then .tuple #[((at? G x).map outV).getD (.map none), .bool (at? G x).isSome] else ((at? G x).map outV).getD (.map none)) W := by
  have := h.2.1.look tyPP Try.underlying3 (zeroPP W) x c
  rw [outL_at] at this
  rw [this]
  cases at? G x <;> rfl
theorem inLook {b : Nat} {W : World} {l : List (Int × Pg)} (h : MapI W b (inL l)) (k : Int) (c : Bool) : (Instr.lookup 82 (.map (some b)) (.int .i64 k) c).run Try.prog W = .ok (if c then .tuple #[((at? l k).map pgVal).getD (.agg #[.int .i64 0, .int .i64 0, .int .i64 0, .int .i64 0, .int .i64 0, .string ⟨#[]⟩]), .bool (at? l k).isSome] else ((at? l k).map pgVal).getD (.agg #[.int .i64 0, .int .i64 0, .int .i64 0, .int .i64 0, .int .i64 0, .string ⟨#[]⟩])) W := by
  have := h.look tyPg Try.underlying3 (zeroPg W) k c
  rw [inL_at] at this
  rw [this]
  cases at? l k <;> rfl
/-- A transaction is begun. -/
theorem PM.begin {lo B : Nat} {W : World} {G : Gm} (h : PM lo W B G) {x : Int} (hx : at? G x = none) (p : Pg) :
    ∃ W2 W3, (Instr.mapUpdate 82 (.map (some W.heap.size)) (.int .i64 0) (pgVal p)).run Try.prog (W.alloc (.map #[] 0)) = .ok () W2 ∧ (Instr.mapUpdate 53 (.map (some B)) (.int .i64 x) (.map (some W.heap.size))).run Try.prog W2 = .ok () W3 ∧
      PM lo W3 B (G ++ [(x, W.heap.size, [(0, p)])]) ∧ Below lo W W3 := by
  have hlt := h.lt
  have hB := h.2.1.lt
  have b1 : Below W.heap.size W (W.alloc (.map #[] 0)) := (Below.refl _ _).alloc (Nat.le_refl _) _
  have h1 := h.below b1
  obtain ⟨W2, e2, m2, g2, z2⟩ := (MapI.made W).put tyPg Try.underlying3 (x := 0) rfl (pgVal p)
  have hne : ∀ g ∈ G, g.2.1 ≠ W.heap.size := fun g hg e => by have := (h.2.2.1 g hg).2.2.lt; omega
  have h2B : MapI W2 B (outL G) := h1.2.1.grown g2 (fun e => by have := Option.some.inj e; omega)
  have h2g : ∀ g ∈ G, MapI W2 g.2.1 (inL g.2.2) := fun g hg => (h1.2.2.1 g hg).2.2.grown g2 (fun e => hne g hg (Option.some.inj e))
  obtain ⟨W3, e3, m3, g3, z3⟩ := h2B.put tyPP Try.underlying3 (x := x) (by rw [outL_at, hx]; rfl) (.map (some W.heap.size))
  refine ⟨W2, W3, e2, e3, ⟨h.1, ?_, ?_, ?_⟩, ?_⟩
  · have : outL (G ++ [(x, W.heap.size, [(0, p)])]) = outL G ++ [(x, .map (some W.heap.size))] := by simp [outL, outV]
    rw [this]
    exact m3
  · intro g hg
    rcases List.mem_append.1 hg with hg | hg
    · exact ⟨(h.2.2.1 g hg).1, (h.2.2.1 g hg).2.1, (h2g g hg).grown g3 (fun e => (h.2.2.1 g hg).2.1 (Option.some.inj e))⟩
    · simp only [List.mem_singleton] at hg
      subst hg
      exact ⟨hlt, by simp only; omega, m2.grown g3 (fun e => by have := Option.some.inj e; omega)⟩
  · rw [List.pairwise_append]
    refine ⟨h.2.2.2, by simp, ?_⟩
    intro a ha b hb
    simp only [List.mem_singleton] at hb
    subst hb
    exact hne a ha
  · have s1 : (W.alloc (.map #[] 0)).heap.size = W.heap.size + 1 := by simp
    exact ((b1.mono hlt).grown g2 (by omega) (fun k hk => by cases hk; exact hlt)).grown g3 (by omega) (fun k hk => by cases hk; exact h.1)
theorem pw_inj {α β : Type} {f : α → β} : ∀ {l : List α}, l.Pairwise (fun a b => f a ≠ f b) → ∀ {a b : α}, a ∈ l → b ∈ l → f a = f b → a = b := by
  intro l
  induction l with
  | nil => intro _ a b ha; cases ha
  | cons x l ih =>
    intro h a b ha hb e
    obtain ⟨h1, h2⟩ := List.pairwise_cons.1 h
    rcases List.mem_cons.1 ha with qa | qa
    · rcases List.mem_cons.1 hb with qb | qb
      · rw [qa, qb]
      · subst qa; exact absurd e (h1 b qb)
    · rcases List.mem_cons.1 hb with qb | qb
      · subst qb; exact absurd e.symm (h1 a qa)
      · exact ih h2 qa qb e
theorem PM.keyd {lo B : Nat} {W : World} {G : Gm} (h : PM lo W B G) : Keyd G := by
  have := h.2.1.1
  rw [keyd_keys] at this ⊢
  have e : (outL G).map (·.1) = G.map (·.1) := by simp [outL]
  rw [e] at this
  exact this
/-- One more page of a transaction that is begun. -/
theorem PM.add {lo B : Nat} {W : World} {G : Gm} (h : PM lo W B G) {x k : Int} {b : Nat} {l : List (Int × Pg)} (hx : at? G x = some (b, l)) (hk : at? l k = none) (p : Pg) :
    ∃ W1, (Instr.mapUpdate 82 (.map (some b)) (.int .i64 k) (pgVal p)).run Try.prog W = .ok () W1 ∧ PM lo W1 B (setK G x (b, l ++ [(k, p)])) ∧ Below lo W W1 := by
  obtain ⟨q1, q2, q3⟩ := h.at hx
  have hkd := h.keyd
  have hlt := h.lt
  obtain ⟨W1, e1, m1, g1, z1⟩ := q3.put tyPg Try.underlying3 (x := k) (by rw [inL_at, hk]; rfl) (pgVal p)
  rw [inL_snoc] at m1
  have hb : ∀ g ∈ G, g.1 = x → g.2 = (b, l) := fun g hg e => by
    have := mem_at? hkd (show (g.1, g.2) ∈ G from hg)
    rw [e, hx] at this
    exact (Option.some.inj this).symm
  have hmap : ∀ {β : Type} (f : Int → Nat → β), (setK G x (b, l ++ [(k, p)])).map (fun g => f g.1 g.2.1) = G.map (fun g => f g.1 g.2.1) := by
    intro β f
    unfold setK
    rw [List.map_map]
    refine List.map_congr_left fun g hg => ?_
    by_cases e : g.1 = x
    · simp [e, hb g hg e]
    · simp [e]
  refine ⟨W1, e1, ⟨h.1, ?_, ?_, ?_⟩, (Below.refl lo W).grown g1 hlt (fun j hj => by cases hj; exact q1)⟩
  · have : outL (setK G x (b, l ++ [(k, p)])) = outL G := hmap (fun a c => (a, Value.map (some c)))
    rw [this]
    exact h.2.1.grown g1 (fun e => q2 (Option.some.inj e).symm)
  · intro g hg
    obtain ⟨g0, hg0, rfl⟩ := List.mem_map.1 hg
    by_cases e : g0.1 = x
    · simp only [e, if_true]
      exact ⟨q1, q2, m1⟩
    · simp only [e, if_false]
      obtain ⟨a1, a2, a3⟩ := h.2.2.1 g0 hg0
      refine ⟨a1, a2, a3.grown g1 (fun e2 => e ?_)⟩
      have := pw_inj (f := fun g : Int × Nat × List (Int × Pg) => g.2.1) h.2.2.2 hg0 (at?_mem hx) (Option.some.inj e2)
      rw [this]
  · have h4 : (G.map (fun g => g.2.1)).Pairwise (· ≠ ·) := List.pairwise_map.2 h.2.2.2
    rw [← hmap (fun _ c => c)] at h4
    exact List.pairwise_map.1 h4
/-- A transaction is taken out. -/
theorem PM.cut {lo B : Nat} {W W' : World} {G : Gm} (h : PM lo W B G) {x : Int} (hm : MapI W' B (cutK (outL G) x)) (hg : W.grownBy W' (some B)) : PM lo W' B (cutK G x) ∧ Below lo W W' := by
  have hk : ∀ g ∈ G, MapI W' g.2.1 (inL g.2.2) := fun g hg2 => (h.2.2.1 g hg2).2.2.grown hg (fun e => (h.2.2.1 g hg2).2.1 (Option.some.inj e))
  refine ⟨⟨h.1, ?_, ?_, ?_⟩, (Below.refl lo W).grown hg h.lt (fun j hj => by cases hj; exact h.1)⟩
  · have : outL (cutK G x) = cutK (outL G) x := (cut_map outV G x).symm
    rw [this]
    exact hm
  · intro g hg2
    have hg3 : g ∈ G := (List.mem_filter.1 hg2).1
    exact ⟨(h.2.2.1 g hg3).1, (h.2.2.1 g hg3).2.1, hk g hg3⟩
  · exact h.2.2.2.filter _
end Go.Proofs.Ytogfdhfmamabiaa
