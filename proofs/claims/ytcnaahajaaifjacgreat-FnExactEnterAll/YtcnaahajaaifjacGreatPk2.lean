/-
  KnN; KnEq
-/
import Derived.Test.YtcnaahajaaifjacGreatPk1
import Derived.Test.YtcnaahajaaifjacGreatPk0
import Derived.Deep.RegionHeld3
/-
  Rows of knots: those that can be read, those that a call owns, each with a row of children of its own.
-/
namespace Go.Proofs.YtcnaahajaaifjacGreat
open Go.RowKit
open Words

theorem infoKn : (Tryz.prog.info? 84).map (fun i => (i.zero, i.size, i.bytes)) = some (some (.agg #[.bool false, .slice none 0 0]), 2, 32) := by kernel_rfl
theorem infoKnz : (Tryz.prog.info? 84).map (·.size) = some 2 := by kernel_rfl

/-- A knot in a row: is it a leaf, the slice of its children, and these. -/
abbrev Kw := Bool × Value × List Int
def kncell (t : Kw) : List Value := [.bool t.1, t.2.1]
def kncells (l : List Kw) : List Value := l.flatMap kncell
def ktell (t : Kw) : Kn := ⟨t.1, t.2.2⟩
theorem kncells_len (l : List Kw) : (kncells l).length = l.length * 2 := by
  induction l with
  | nil => rfl
  | cons t l ih => simp [kncells, kncell] at ih ⊢; omega
theorem kncells_app (a b : List Kw) : kncells (a ++ b) = kncells a ++ kncells b := by simp [kncells]
theorem kncells_cons (t : Kw) (l : List Kw) : kncells (t :: l) = kncell t ++ kncells l := by simp [kncells]
theorem kncells_snoc (l : List Kw) (t : Kw) : kncells l ++ kncell t = kncells (l ++ [t]) := by rw [kncells_app]; simp [kncells]
theorem kncells_at (l : List Kw) (k : Nat) (t : Kw) (h : l[k]? = some t) (j : Nat) (v : Value) (hj : (kncell t)[j]? = some v) : (kncells l)[k * 2 + j]? = some v := by
  have hlt : j < 2 := (List.getElem?_eq_some_iff.1 hj).1
  induction l generalizing k with
  | nil => simp at h
  | cons a l ih =>
    rw [kncells_cons]
    cases k with
    | zero =>
      simp at h
      subst h
      rw [List.getElem?_append_left (by show _ < 2; omega), Nat.zero_mul, Nat.zero_add]
      exact hj
    | succ k =>
      rw [List.getElem?_append_right (by show 2 ≤ _; omega), show (k + 1) * 2 + j - (kncell a).length = k * 2 + j by show _ - 2 = _; omega]
      exact ih k (by simpa using h)
/-- Numbers that can be read. -/
def IRow (w : World) (a : Option Addr) (len : Nat) (ls : List Int) : Prop :=
  ls.length = len ∧ len ≤ maxLen ∧ (0 < len → ∃ b off, a = some ⟨b, off, none⟩ ∧ b < w.heap.size ∧ ∀ i t, ls[i]? = some t → w.cell? ⟨b, off + i, none⟩ = some (.int .i64 t))
theorem IRow.below {w w' : World} {a : Option Addr} {len : Nat} {ls : List Int} (h : IRow w a len ls) (hb : Below w.heap.size w w') : IRow w' a len ls := by
  obtain ⟨h1, h2, h4⟩ := h
  refine ⟨h1, h2, fun h0 => ?_⟩
  obtain ⟨b, off, e, hl, hc⟩ := h4 h0
  have hs := hb.size
  exact ⟨b, off, e, by omega, fun i t ht => (hb.cell (show b < w.heap.size from hl)).trans (hc i t ht)⟩
theorem IRow.at {w : World} {a : Option Addr} {len : Nat} {ls : List Int} (h : IRow w a len ls) {k : Nat} {t : Int} (hk : ls[k]? = some t) :
    ∃ b off, a = some ⟨b, off, none⟩ ∧ b < w.heap.size ∧ w.cell? ⟨b, off + k, none⟩ = some (.int .i64 t) := by
  obtain ⟨h1, -, h4⟩ := h
  have hl := (List.getElem?_eq_some_iff.1 hk).1
  obtain ⟨b, off, e, hb, hc⟩ := h4 (by omega)
  exact ⟨b, off, e, hb, hc k t hk⟩
theorem icells_get {l : List Int} {k : Nat} {x : Int} (h : l[k]? = some x) : (icells l)[k]? = some (.int .i64 x) := by
  obtain ⟨h1, h2⟩ := List.getElem?_eq_some_iff.1 h
  rw [icells_at l k h1, h2]
/-- A slice of numbers, wherever it lies. -/
def ISl (W : World) (v : Value) (ls : List Int) : Prop := ∃ a c, v = .slice a ls.length c ∧ (a = none → c = 0) ∧ IRow W a ls.length ls
theorem ISl.below {W W' : World} {v : Value} {ls : List Int} (h : ISl W v ls) (b : Below W.heap.size W W') : ISl W' v ls := by
  obtain ⟨a, c, e, h1, h2⟩ := h
  exact ⟨a, c, e, h1, h2.below b⟩
theorem ISl.of {lo hi : Nat} {v : Value} {ls : List Int} {W : World} (h : Sli 3 lo hi v ls.length (icells ls) W) (hm : ls.length ≤ maxLen) (hh : hi ≤ W.heap.size) : ISl W v ls := by
  rcases h with ⟨rfl, h0⟩ | ⟨g, cap, rfl, h1, h2, h3⟩
  · exact ⟨none, 0, by rw [h0], fun _ => rfl, rfl, hm, fun h => by omega⟩
  · refine ⟨_, _, rfl, (fun e => by cases e), rfl, hm, fun _ => ⟨g, 0, rfl, by omega, fun i t hi => ?_⟩⟩
    simpa using h3.cell (icells_get hi)
theorem ISl.one {W : World} {v : Value} {ls : List Int} (h : ISl W v ls) : v.oneCell' = true := by
  obtain ⟨a, c, rfl, -⟩ := h
  rfl
/-- A row of knots, wherever it lies. -/
def KnRd (W : World) (ad : Option Addr) (len : Nat) (rs : List Kw) : Prop :=
  rs.length = len ∧ len ≤ maxLen ∧ (∀ r ∈ rs, ISl W r.2.1 r.2.2) ∧ (0 < len → ∃ b off, ad = some ⟨b, off, none⟩ ∧ b < W.heap.size ∧ ∀ i r, rs[i]? = some r → W.cell? ⟨b, off + i * 2, none⟩ = some (.bool r.1) ∧ W.cell? ⟨b, off + i * 2 + 1, none⟩ = some r.2.1)
theorem KnRd.below {W W' : World} {ad : Option Addr} {len : Nat} {rs : List Kw} (h : KnRd W ad len rs) (hb : Below W.heap.size W W') : KnRd W' ad len rs := by
  obtain ⟨h1, h2, h3, h4⟩ := h
  refine ⟨h1, h2, fun r hr => (h3 r hr).below hb, fun h0 => ?_⟩
  obtain ⟨b, off, e, hl, hc⟩ := h4 h0
  have hs := hb.size
  refine ⟨b, off, e, by omega, fun i t ht => ?_⟩
  obtain ⟨c0, c1⟩ := hc i t ht
  exact ⟨(hb.cell (show b < W.heap.size from hl)).trans c0, (hb.cell (show b < W.heap.size from hl)).trans c1⟩
theorem KnRd.at {W : World} {ad : Option Addr} {len : Nat} {rs : List Kw} (h : KnRd W ad len rs) {k : Nat} {r : Kw} (hk : rs[k]? = some r) :
    ∃ b off, ad = some ⟨b, off, none⟩ ∧ b < W.heap.size ∧ W.cell? ⟨b, off + k * 2, none⟩ = some (.bool r.1) ∧ W.cell? ⟨b, off + k * 2 + 1, none⟩ = some r.2.1 := by
  obtain ⟨h1, -, -, h4⟩ := h
  have hl := (List.getElem?_eq_some_iff.1 hk).1
  obtain ⟨b, off, e, hb, hc⟩ := h4 (by omega)
  obtain ⟨c0, c1⟩ := hc k r hk
  exact ⟨b, off, e, hb, c0, c1⟩
/-- The same with the address in hand. -/
theorem KnRd.cell {W : World} {b off len : Nat} {rs : List Kw} (h : KnRd W (some ⟨b, off, none⟩) len rs) {k : Nat} {r : Kw} (hk : rs[k]? = some r) :
    W.cell? ⟨b, off + k * 2, none⟩ = some (.bool r.1) ∧ W.cell? ⟨b, off + k * 2 + 1, none⟩ = some r.2.1 := by
  obtain ⟨b', off', e, -, c0, c1⟩ := h.at hk
  injection e with e
  injection e with e1 e2
  subst e1 e2
  exact ⟨c0, c1⟩
theorem KnRd.adr {W : World} {ad : Option Addr} {len : Nat} {rs : List Kw} (h : KnRd W ad len rs) (h0 : 0 < len) : ∃ b off, ad = some ⟨b, off, none⟩ ∧ b < W.heap.size := by
  obtain ⟨b, off, e, hb, -⟩ := h.2.2.2 h0
  exact ⟨b, off, e, hb⟩

/-- Rows of children that share no block. -/
def KLone (rs : List Kw) : Prop := rs.Pairwise (fun a b => ∀ g, a.2.1.ownBlock = some g → b.2.1.ownBlock ≠ some g)
/-- A row of knots that the call owns, with the rows of their children. -/
def KOwn (W : World) (B : Nat) (v : Value) (rs : List Kw) : Prop :=
  W.ownsRow B 84 2 v rs.length (kncells rs) ∧ (∀ r ∈ rs, Sli 3 B W.heap.size r.2.1 r.2.2.length (icells r.2.2) W ∧ r.2.2.length ≤ maxLen) ∧ KLone rs
/-- The same, of the blocks lo to hi. -/
def KIn (lo hi : Nat) (v : Value) (rs : List Kw) (W : World) : Prop :=
  Sli 84 lo hi v rs.length (kncells rs) W ∧ (∀ r ∈ rs, Sli 3 lo hi r.2.1 r.2.2.length (icells r.2.2) W ∧ r.2.2.length ≤ maxLen) ∧ KLone rs ∧ rs.length ≤ maxLen
def Kns (lo hi : Nat) (v : Value) (M : List Kn) : World → Prop := fun W => ∃ rs : List Kw, rs.map ktell = M ∧ KIn lo hi v rs W

theorem int_ne_kn {w : World} {g : Nat} {cs cs' : Array Value} (h : w.heap[g]? = some (.cells cs 3 (0, 0))) (h' : w.heap[g]? = some (.cells cs' 84 (0, 0))) : False := by
  rw [h] at h'
  injection h' with h'
  injection h' with _ h'
  simp at h'
theorem KOwn.below {W W' : World} {B : Nat} {v : Value} {rs : List Kw} (h : KOwn W B v rs) (b : Below W.heap.size W W') : KOwn W' B v rs :=
  ⟨own_below h.1 b, fun r hr => ⟨((h.2.1 r hr).1.blw b).up b.size, (h.2.1 r hr).2⟩, h.2.2⟩
theorem KOwn.down {W : World} {B B' : Nat} {v : Value} {rs : List Kw} (h : KOwn W B v rs) (hB : B' ≤ B) : KOwn W B' v rs :=
  ⟨own_lower h.1 hB, fun r hr => ⟨(h.2.1 r hr).1.dn hB, (h.2.1 r hr).2⟩, h.2.2⟩
theorem KOwn.empty (W : World) (B : Nat) (hB : B ≤ W.heap.size) : KOwn (W.alloc (.cells #[] 84)) B (.slice (some ⟨W.heap.size, 0, none⟩) 0 0) [] :=
  ⟨⟨rfl, .inr ⟨W.heap.size, 0, #[], rfl, hB, heap_alloc_new W _, Nat.le_refl _, by unfold maxLen; omega, rfl, rfl⟩⟩, (fun _ h => by cases h), List.Pairwise.nil⟩
theorem KOwn.nil (W : World) (B : Nat) : KOwn W B (.slice none 0 0) [] := ⟨World.ownsRow_nil _ _ _ _, (fun _ h => by cases h), List.Pairwise.nil⟩
/-- One more: its children lie in a block that came since W0. -/
theorem KOwn.snoc {W0 W y : World} {B : Nat} {v u' : Value} {rs : List Kw} {r : Kw} (h0 : KOwn W0 B v rs) (hb : Below W0.heap.size W0 W) (hB : B ≤ W0.heap.size) (hr : Sli 3 W0.heap.size W.heap.size r.2.1 r.2.2.length (icells r.2.2) W) (hm : r.2.2.length ≤ maxLen)
    (hg : W.grownBy y v.ownBlock) (ho : y.ownsRow B 84 2 u' (rs ++ [r]).length (kncells (rs ++ [r]))) : KOwn y B u' (rs ++ [r]) := by
  have h := h0.below hb
  have hk := own_kind h.1
  have far : ∀ (t : Value) (g : Nat), v.ownBlock = some g → ∀ {lo hi n : Nat} {xs : List Value}, Sli 3 lo hi t n xs W → t.ownBlock ≠ some g := by
    intro t g hg lo hi n xs hs e
    obtain ⟨-, -, cs, q⟩ := hk g hg
    obtain ⟨-, -, cs', q'⟩ := hs.lt g e
    exact int_ne_kn q' q
  refine ⟨ho, ?_, ?_⟩
  · intro x hx
    rcases List.mem_append.1 hx with hx | hx
    · exact ⟨((h.2.1 x hx).1.grown hg (fun g e e2 => far _ g e2 (h.2.1 x hx).1 e)).up hg.size, (h.2.1 x hx).2⟩
    · simp only [List.mem_singleton] at hx
      subst hx
      exact ⟨((hr.grown hg (fun g e e2 => far _ g e2 hr e)).dn hB).up hg.size, hm⟩
  · refine List.pairwise_append.2 ⟨h.2.2, List.pairwise_singleton _ _, ?_⟩
    intro a ha b hb2 g e1 e2
    simp only [List.mem_singleton] at hb2
    subst hb2
    have q1 := ((h0.2.1 a ha).1.lt g e1).2.1
    have q2 := (hr.lt g e2).1
    omega
theorem KOwn.form {W : World} {B : Nat} {v : Value} {rs : List Kw} (h : KOwn W B v rs) : ∃ ad c, v = .slice ad rs.length c := by
  rcases h.1.2 with ⟨rfl, h0⟩ | ⟨g, cap, cur, rfl, -⟩
  · exact ⟨_, _, by rw [h0]⟩
  · exact ⟨_, _, rfl⟩
theorem KOwn.len {W : World} {B : Nat} {v : Value} {rs : List Kw} (h : KOwn W B v rs) : rs.length ≤ maxLen := by
  rcases h.1.2 with ⟨rfl, h0⟩ | ⟨g, cap, cur, rfl, -, -, h1, h2, -⟩
  · rw [h0]; unfold maxLen; omega
  · omega
theorem KOwn.kns {W : World} {B : Nat} {v : Value} {rs : List Kw} (h : KOwn W B v rs) : KIn B W.heap.size v rs W := ⟨Sli.of h.1, h.2.1, h.2.2, h.len⟩
theorem KIn.rd {W : World} {lo hi c : Nat} {ad : Option Addr} {n : Nat} {rs : List Kw} (h : KIn lo hi (.slice ad n c) rs W) (hn : rs.length = n) (hh : hi ≤ W.heap.size) : KnRd W ad n rs := by
  obtain ⟨h1, h2, h3, h4⟩ := h
  refine ⟨hn, by omega, fun r hr => ISl.of (h2 r hr).1 (h2 r hr).2 hh, fun h0 => ?_⟩
  rcases h1 with ⟨e, q⟩ | ⟨g, cap, e, q1, q2, q3⟩
  · omega
  · injection e with e1 e2 e3
    refine ⟨g, 0, e1, by omega, fun i r hi => ?_⟩
    have hc := fun j v hj => q3.cell (kncells_at rs i r hi j v hj)
    refine ⟨?_, ?_⟩
    · simpa using hc 0 _ rfl
    · simpa using hc 1 _ rfl
theorem KIn.loc (lo hi : Nat) (v : Value) (rs : List Kw) : Loc lo hi (KIn lo hi v rs) := by
  intro w w' hk h
  exact ⟨Sli.loc _ _ _ _ _ _ w w' hk h.1, fun r hr => ⟨Sli.loc _ _ _ _ _ _ w w' hk (h.2.1 r hr).1, (h.2.1 r hr).2⟩, h.2.2⟩
theorem Kns.loc (lo hi : Nat) (v : Value) (M : List Kn) : Loc lo hi (Kns lo hi v M) := by
  rintro w w' hk ⟨rs, h1, h2⟩
  exact ⟨rs, h1, KIn.loc _ _ _ _ w w' hk h2⟩
theorem Kns.form {W : World} {lo hi : Nat} {v : Value} {M : List Kn} (h : Kns lo hi v M W) : ∃ ad c, v = .slice ad M.length c := by
  obtain ⟨rs, rfl, h1, -⟩ := h
  obtain ⟨ad, c, e, -⟩ := h1.form
  exact ⟨ad, c, by rw [e]; simp⟩

/-- What an answer with an arena is. -/
def KOut (w : World) (L : List Kn) (v : Value) (w' : World) : Prop :=
  ∃ uv rs, v = .agg #[uv] ∧ KOwn w' w.heap.size uv rs ∧ rs.map ktell = L ∧ Below w.heap.size w w'

theorem ar_ne {lo hi n : Nat} {v : Value} {xs : List Value} {t : TypeId} {W : World} {i : Nat} {cs : Array Value} (h : Sli t lo hi v n xs W) (q : W.heap[i]? = some (.cells cs 34 (0, 0))) (ht : t ≠ 34) : v.ownBlock ≠ some i := by
  intro e
  obtain ⟨-, -, cs', q'⟩ := h.lt i e
  rw [q] at q'
  injection q' with q'
  injection q' with _ q'
  exact ht q'.symm
theorem KOwn.cell {W : World} {B i : Nat} {v : Value} {rs : List Kw} {cs : Array Value} (h : KOwn W B v rs) (q : W.heap[i]? = some (.cells cs 34 (0, 0))) (j : Nat) (u : Value) : KOwn (W.setCell ⟨i, j, none⟩ u) B v rs := by
  have hg := grown_cell W i j u
  refine ⟨h.1.kept hg (.inr ?_), fun r hr => ⟨((h.2.1 r hr).1.grown hg (fun g e e2 => ?_)).up hg.size, (h.2.1 r hr).2⟩, h.2.2⟩
  · exact ar_ne (Sli.of h.1) q (by decide)
  · cases e2; exact ar_ne (h.2.1 r hr).1 q (by decide) e
/-- What a put answers. -/
def PutOut (w : World) (L : List Kn) (r : Int) (e : Ending) (w' : World) : Prop := ∃ v, e = .returned (.tuple #[v, .int .i64 r]) ∧ KOut w L v w'
end Go.Proofs.YtcnaahajaaifjacGreat

/-
  The laws' own eqIntS, eqKnotS, eqArena.
-/
namespace Go.Proofs.YtcnaahajaaifjacGreat
open Go.RowKit
open Words

set_option maxHeartbeats 400000 in
set_option maxRecDepth 100000 in
theorem eqIs_same (a b : Value) (M : List Int) (n : Nat) (B1 C1 B2 C2 : Nat) (w : World) (hn : M.length = n) (hM : n ≤ 1000000000000000000) (ha : Sli 3 B1 C1 a n (icells M) w) (hb : Sli 3 B2 C2 b n (icells M) w) :
    Calls Tryz.prog 89 #[a, b] w fun e w' => e = .returned (.bool true) ∧ Below w.heap.size w w' := by
  obtain ⟨ad, capa, rfl, a3⟩ := ha.form
  obtain ⟨bd, capb, rfl, b3⟩ := hb.form
  have HSA := hide ha
  have HSB := hide hb
  have A3 := hide a3
  have B3 := hide b3
  have HN := hide hn
  clear ha hb a3 b3 hn
  go_enter Tryz.func89, Tryz.ntmps89
  go_wp2
  go_loopw [5] (fun iv wr => ∃ k : Nat, k ≤ n ∧ iv = .int .i64 k ∧ Hid (∃ q, wr = w.drewN q)) (fun iv _ => n - (intOf iv).toNat)
  case atStart => exact ⟨0, Nat.zero_le _, rfl, ⟨0, rfl⟩⟩
  case round =>
    obtain ⟨k, hk, rfl, HQ⟩ := hrel
    obtain ⟨q, hq⟩ := HQ.out
    subst hq
    clear HQ
    by_cases hlt : (k : Int) < n
    · obtain ⟨ga, e, -, -⟩ := A3.out (by omega)
      subst e
      obtain ⟨gb, e, -, -⟩ := B3.out (by omega)
      subst e
      obtain ⟨x, hx⟩ : ∃ x, M[k]? = some x := ⟨_, List.getElem?_eq_getElem (by have := HN.out; omega)⟩
      have c1 := HSA.out.flt.cell (icells_get hx)
      have c2 := HSB.out.flt.cell (icells_get hx)
      have hxx : (x != x) = false := by simp
      have k0 : (0 : Int) ≤ k := by omega
      clear hx
      go_wp2
      go_quiet (fail)
      go_wp2
      go_roundw
      case rel => exact ⟨k + 1, by omega, by go_num, ⟨_, rfl⟩⟩
      case measure => simp [intOf]; omega
    · go_wp2
      go_ret
      exact ⟨rfl, below_drewN (Below.refl _ _) _⟩
set_option maxHeartbeats 400000 in
set_option maxRecDepth 100000 in
theorem eqKn_same (x : Bool) (n : Nat) (a1 a2 : Option Addr) (c1 c2 : Nat) (ls : List Int) (B1 C1 B2 C2 : Nat) (w : World) (hn : ls.length = n) (hM : n ≤ 1000000000000000000) (h1 : Sli 3 B1 C1 (.slice a1 n c1) n (icells ls) w) (h2 : Sli 3 B2 C2 (.slice a2 n c2) n (icells ls) w) :
    Calls Tryz.prog 71 #[.agg #[.bool x, .slice a1 n c1], .agg #[.bool x, .slice a2 n c2]] w fun e w' => e = .returned (.bool true) ∧ Below w.heap.size w w' := by
  have e0 : (x != x) = false := by simp
  have HB : Hid (Below w.heap.size w ((w.alloc (.cells #[.bool x, .slice a1 n c1] 84)).alloc (.cells #[.bool x, .slice a2 n c2] 84))) := ((Below.refl _ _).alloc (Nat.le_refl _) _).alloc (by simp) _
  have C := hide (eqIs_same _ _ ls n B1 C1 B2 C2 _ hn hM (h1.blw HB.out) (h2.blw HB.out))
  clear h1 h2
  go_enter Tryz.func71, Tryz.ntmps71
  go_wp2_with fail
  refine C.out.mono ?_
  rintro e w1 ⟨rfl, b1⟩
  have HW := hide (HB.out.trans (b1.mono HB.out.size))
  clear b1 C HB
  go_wp2
  go_ret
  exact ⟨rfl, HW.out⟩
set_option maxHeartbeats 1000000 in
set_option maxRecDepth 100000 in
theorem eqKns_same (a b : Value) (rs ss : List Kw) (B1 C1 B2 C2 : Nat) (w : World) (hM : rs.length ≤ 1000000000000000000) (hll : ∀ r ∈ rs, r.2.2.length ≤ 1000000000000000000) (ha : KIn B1 C1 a rs w) (hb : KIn B2 C2 b ss w) (he : rs.map ktell = ss.map ktell) :
    Calls Tryz.prog 50 #[a, b] w fun e w' => e = .returned (.bool true) ∧ Below w.heap.size w w' := by
  have hls : rs.length = ss.length := by have := congrArg List.length he; simpa using this
  obtain ⟨ad, capa, rfl, a3⟩ := ha.1.form
  obtain ⟨bd, capb, rfl, b3⟩ := hb.1.form
  obtain ⟨n, hn⟩ : ∃ n, rs.length = n := ⟨_, rfl⟩
  have HN := hide hn
  have HSA := hide ha
  have HSB := hide hb
  have HE := hide he
  have HLL := hide hll
  rw [hn] at hls
  rw [← hls] at b3 HSB ⊢
  rw [hn] at hM a3 HSA ⊢
  have A3 := hide a3
  have B3 := hide b3
  have HLS := hide hls
  clear a3 b3 ha hb hn he hll hls
  go_enter Tryz.func50, Tryz.ntmps50
  go_wp2
  go_loopw [5] (fun iv wr => ∃ k : Nat, k ≤ n ∧ iv = .int .i64 k ∧ Hid (Below w.heap.size w wr)) (fun iv _ => n - (intOf iv).toNat)
  case atStart => exact ⟨0, Nat.zero_le _, rfl, Below.refl _ _⟩
  case round =>
    obtain ⟨k, hk, rfl, HW⟩ := hrel
    by_cases hlt : (k : Int) < n
    · obtain ⟨ga, e, _, _⟩ := A3.out (by omega)
      subst e
      obtain ⟨gb, e, _, _⟩ := B3.out (by omega)
      subst e
      have hkl : k < rs.length := by have := HN.out; omega
      have hkl2 : k < ss.length := by have := HLS.out; omega
      obtain ⟨r, hr⟩ : ∃ r, rs[k]? = some r := ⟨_, List.getElem?_eq_getElem hkl⟩
      obtain ⟨s, hs⟩ : ∃ s, ss[k]? = some s := ⟨_, List.getElem?_eq_getElem hkl2⟩
      have hrs : ktell r = ktell s := by
        have e := congrArg (fun l => l[k]?) HE.out
        simp only [List.getElem?_map, hr, hs, Option.map_some, Option.some.injEq] at e
        exact e
      have SA := (HSA.out.2.1 r (List.mem_of_getElem? hr)).1.blw HW.out
      have SB := (HSB.out.2.1 s (List.mem_of_getElem? hs)).1.blw HW.out
      have hlr := HLL.out r (List.mem_of_getElem? hr)
      have ha1 := HSA.out.1
      have hb1 := HSB.out.1
      rw [HN.out] at ha1
      rw [← HLS.out] at hb1
      have GA := ha1.flt.below HW.out
      have GB := hb1.flt.below HW.out
      clear ha1 hb1
      have c0 := GA.cell (kncells_at rs k _ hr 0 _ rfl)
      have c1 := GA.cell (kncells_at rs k _ hr 1 _ rfl)
      have d0 := GB.cell (kncells_at ss k _ hs 0 _ rfl)
      have d1 := GB.cell (kncells_at ss k _ hs 1 _ rfl)
      obtain ⟨rn, rv, rl⟩ := r
      obtain ⟨sn, sv, sl⟩ := s
      simp only [ktell, Kn.mk.injEq] at hrs
      obtain ⟨rfl, rfl⟩ := hrs
      simp only [Nat.add_zero] at SA SB c0 c1 d0 d1 hlr
      obtain ⟨m, hm⟩ : ∃ m, rl.length = m := ⟨_, rfl⟩
      rw [hm] at SA SB hlr
      obtain ⟨va, vc, rfl, -⟩ := SA.form
      obtain ⟨ua, uc, rfl, -⟩ := SB.form
      have CE := hide (eqKn_same rn m va ua vc uc rl _ _ _ _ wr.drew hm hlr (SA.blw (Below.refl _ _).drew) (SB.blw (Below.refl _ _).drew))
      have hsz := HW.out.size
      have k0 : (0 : Int) ≤ k := by omega
      have gaw : ga < wr.heap.size := World.block_lt_of_cell? wr _ c0
      have gbw : gb < wr.heap.size := World.block_lt_of_cell? wr _ d0
      clear hr hs hkl hkl2 GA GB SA SB hm
      go_wp2
      go_region_held3 (fun w' => w'.cell? ⟨ga, k * 2, none⟩ = some (.bool rn) ∧ w'.cell? ⟨ga, k * 2 + 1, none⟩ = some (.slice va m vc) ∧ w'.cell? ⟨gb, k * 2, none⟩ = some (.bool rn) ∧ w'.cell? ⟨gb, k * 2 + 1, none⟩ = some (.slice ua m uc)) (first | go_keep | exact ⟨(b1.cell (show ga < wr.drew.heap.size from gaw)).trans c0, (b1.cell (show ga < wr.drew.heap.size from gaw)).trans c1, (b1.cell (show gb < wr.drew.heap.size from gbw)).trans d0, (b1.cell (show gb < wr.drew.heap.size from gbw)).trans d1⟩) ((go_at_call 71; (with_reducible refine Calls.mono CE.out ?_); rintro en w1 ⟨rfl, b1⟩))
      all_goals
        have HW1 := hide (HW.out.drew.trans (b1.mono (show w.heap.size ≤ wr.drew.heap.size from hsz)))
        clear b1 CE HW c0 c1 d0 d1
        go_wp2
        go_roundw
        case rel => exact ⟨k + 1, by omega, by go_num, HW1⟩
        case measure => simp [intOf]; omega
    · go_wp2
      go_ret
      exact ⟨rfl, HW.out⟩
set_option maxHeartbeats 400000 in
set_option maxRecDepth 100000 in
theorem eqAr_same (a b : Value) (rs ss : List Kw) (B1 C1 B2 C2 : Nat) (w : World) (hM : rs.length ≤ 1000000000000000000) (hll : ∀ r ∈ rs, r.2.2.length ≤ 1000000000000000000) (ha : KIn B1 C1 a rs w) (hb : KIn B2 C2 b ss w) (he : rs.map ktell = ss.map ktell) (hC1 : C1 ≤ w.heap.size) (hC2 : C2 ≤ w.heap.size) :
    Calls Tryz.prog 25 #[.agg #[a], .agg #[b]] w fun e w' => e = .returned (.bool true) ∧ Below w.heap.size w w' := by
  obtain ⟨ad, capa, rfl, a3⟩ := ha.1.form
  obtain ⟨bd, capb, rfl, b3⟩ := hb.1.form
  have HB : Hid (Below w.heap.size w ((w.alloc (.cells #[.slice ad rs.length capa] 34)).alloc (.cells #[.slice bd ss.length capb] 34))) := ((Below.refl _ _).alloc (Nat.le_refl _) _).alloc (by simp) _
  have C := hide (eqKns_same _ _ rs ss B1 C1 B2 C2 _ hM hll (KIn.loc _ _ _ _ _ _ (fun i _ hi => HB.out.block i (by omega)) ha) (KIn.loc _ _ _ _ _ _ (fun i _ hi => HB.out.block i (by omega)) hb) he)
  obtain ⟨n, hn⟩ : ∃ n, rs.length = n := ⟨_, rfl⟩
  obtain ⟨m, hm⟩ : ∃ m, ss.length = m := ⟨_, rfl⟩
  rw [hn, hm] at C HB
  rw [hn, hm]
  clear ha hb a3 b3 hll hn hm he hM
  go_enter Tryz.func25, Tryz.ntmps25
  go_wp2_with fail
  refine C.out.mono ?_
  rintro e w1 ⟨rfl, b1⟩
  have HW := hide (HB.out.trans (b1.mono HB.out.size))
  clear b1 C HB
  go_wp2
  go_ret
  exact ⟨rfl, HW.out⟩
end Go.Proofs.YtcnaahajaaifjacGreat
