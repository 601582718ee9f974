/-
  KnCp; Gate; SCopyS; CeRc; RcRow; TreeC; StoM4
-/
import Derived.Test.YtcjgjkejhkhknabGreatDoorPk2
import Derived.Test.YtcjgjkejhkhknabGreatDoorPk6
import Derived.Deep.RegionHeld3
import Derived.Deep.DeepCutAuto
import Derived.Laws.AppendOwnNone
import Derived.Test.YtcjgjkejhkhknabGreatDoorPk0
import Derived.Test.YtcjgjkejhkhknabGreatDoorPk1
/-
  spec.l11Copy.
-/
namespace Go.Proofs.YtcjgjkejhkhknabGreatDoor
open Go.RowKit
open Words

theorem infoArc : (Tryz.prog.info? 47).map (·.size) = some 1 := by kernel_rfl
/-- A copy under way. -/
def CpSt (w W : World) (z : Nat) (av ov : Value) (ss : List Kw) : Prop := W.heap[z]? = some (.cells #[av] 47 (0, 0)) ∧ W.heap[z + 1]? = some (.cells #[.slice none 0 0] 47 (0, 0)) ∧ W.heap[z + 2]? = some (.cells #[ov] 47 (0, 0)) ∧ KOwn W (z + 3) ov ss ∧ Below z w W

theorem KOwn.cellB {W : World} {B : Nat} {v : Value} {rs : List Kw} (h : KOwn W B v rs) {g : Nat} (hg : g < B) (i : Nat) (u : Value) : KOwn (W.setCell ⟨g, i, none⟩ u) B v rs := by
  have e : (W.setCell ⟨g, i, none⟩ u).heap.size = W.heap.size := by simp [World.setCell]
  refine ⟨own_cell h.1 hg i u, fun r hr => ⟨?_, (h.2.1 r hr).2⟩, h.2.2⟩
  rw [e]
  exact (h.2.1 r hr).1.grown (grown_cell _ g i _) (fun q hq e2 => by
    have := ((h.2.1 r hr).1.lt q hq).1
    cases e2
    omega)
theorem kn_new (W : World) (lf : Bool) (v : Value) : ∀ (j : Nat) (u : Value), [Value.bool lf, v][j]? = some u → (W.alloc (.cells #[.bool lf, v] 143)).cell? ((⟨W.heap.size, 0, none⟩ : Addr).add j) = some u := by
  intro j u hj
  match j, hj with
  | 0, hj | 1, hj =>
    simp at hj
    subst hj
    simp [Addr.add]
theorem kn_one (lf : Bool) (va : Option Addr) (n c : Nat) : ∀ u ∈ [Value.bool lf, Value.slice va n c], u.oneCell' = true := by
  intro u hu
  simp at hu
  rcases hu with h | h <;> subst h <;> rfl
theorem icells_one (l : List Int) : ∀ u ∈ icells l, u.oneCell' = true := by
  intro u hu
  obtain ⟨x, -, rfl⟩ := List.mem_map.1 hu
  rfl
theorem icells_back {l : List Int} {j : Nat} {u : Value} (h : (icells l)[j]? = some u) : ∃ x, l[j]? = some x ∧ u = .int .i64 x := by
  rw [icells, List.getElem?_map] at h
  obtain ⟨x, hx, rfl⟩ := Option.map_eq_some_iff.1 h
  exact ⟨x, hx, rfl⟩
theorem IRow.cells {w : World} {b off len : Nat} {ls : List Int} (h : IRow w (some ⟨b, off, none⟩) len ls) (j : Nat) (u : Value) (hj : (icells ls)[j]? = some u) : w.cell? ((⟨b, off, none⟩ : Addr).add j) = some u := by
  obtain ⟨x, hx, rfl⟩ := icells_back hj
  obtain ⟨b', off', e, -, c⟩ := h.at hx
  injection e with e
  injection e with e1 e2
  subst e1 e2
  have ea : (⟨b, off, none⟩ : Addr).add j = ⟨b, off + j, none⟩ := by simp only [Addr.add]; split <;> simp_all
  rw [ea]
  exact c

/-- 'append(v, xs...)' of a row of numbers, wherever it lies; or of none. -/
theorem step_append_sl (w : World) {ops : Array Oper} {o : Oper} {a : Act} {K : Act → World → Prop} {Q : Exit → Act → World → Prop} {E : Prop} (hgd : o.guard = none) (s x : Operand)
    (ho : o.op = .call { callee := .builtin .append, args := #[s, x], argTypes := #[25, 25] })
    (base : Nat) (i : TypeInfo) (hi : Tryz.prog.info? 3 = some i) (hz : i.zero = some (.int .i64 0)) (hsize : i.size = 1) (hby : i.bytes = 8)
    (v : Value) (n : Nat) (xs : List Value) (hs : a.eval s = v) (hown : w.ownsRow base 3 1 v n xs)
    (ls : List Int) (m : Nat) (hm : ls.length = m) (u : Value) (hx : a.eval x = u) (hsl : ISl w u ls) (h63 : n + m ≤ maxLen) (hbytes : (n + m) * 8 ≤ 140737488355328) (hbase : base ≤ w.heap.size)
    (h : ∀ v' w', w'.ownsRow base 3 1 v' (n + m) (xs ++ icells ls) → w.grownBy w' v.ownBlock → K (a.put o.dst v') w') :
    if Region.wanted o (yielded ops a.tmps) = true then Oper.wp Tryz.prog o a w K Q else E := by
  subst hm
  obtain ⟨ad, c, rfl, h0, hr⟩ := hsl
  cases ls with
  | nil =>
    cases ad with
    | none =>
      rw [h0 rfl] at hx
      have hw : Region.wanted o (yielded ops a.tmps) = true := by simp [Region.wanted, hgd]
      rw [if_pos hw]
      have hrun := run_append_owned_none (P := Tryz.prog) (w := w) base 25 o.type 3 i 1 Tryz.underlying25 hi v n xs hown
      unfold Oper.wp execOp
      simp only [ho, resolve, invoke, builtin, Sem.run_bind, Sem.run_pure, Result.andThen_ok, List.map_toArray, List.map_cons, List.map_nil, hs, hx, List.length_nil, hrun]
      exact h v w (by simpa [icells] using hown) (World.grownBy.refl _ _)
    | some q => exact step_append_own w hgd s x 25 ho base 3 i (.int .i64 0) 1 8 Tryz.underlying25 hi hz hsize hby rfl (by decide) v n xs hs hown q 0 c [] hx rfl (fun _ _ e => by simp at e) (fun _ e => by cases e) h63 hbytes hbase h
  | cons y l =>
    obtain ⟨b, off, e, -, hc⟩ := hr.2.2 (by simp)
    subst e
    exact step_append_own w hgd s x 25 ho base 3 i (.int .i64 0) 1 8 Tryz.underlying25 hi hz hsize hby rfl (by decide) v n xs hs hown ⟨b, off, none⟩ _ c (icells (y :: l)) hx (by simp [icells]) hr.cells (icells_one _) h63 hbytes hbase h

end Go.Proofs.YtcjgjkejhkhknabGreatDoor

/-
  A region that draws, walked operation by operation: one whose guard says no is passed over first.
-/
namespace Go.Proofs.YtcjgjkejhkhknabGreatDoor
open Go Go.RowKit

theorem wp_region_ops {P : Program} {id : Nat} {l : List Oper} {Q : Exit → Act → World → Prop} (S : World → Prop) {a : Act} {w : World} (hm : P.follows .mixedOrders = true) (hS : S w.drew)
    (hh : S w.drew → wpAnyH P .any l.toArray Q S l.length (Array.replicate l.length false) a w.drew) : (Code.region id l.toArray true).wp P Q a w := by
  refine wp_region_any hm ?_
  have e2 : l.toArray.size = l.length := by simp
  rw [e2]
  exact wpAny_of_held _ _ _ _ (hh hS)
/-- An operation whose guard says no. -/
theorem skipL {P : Program} {l : List Oper} {Q : Exit → Act → World → Prop} {S : World → Prop} (i : Nat) {oi : Oper} {rest : List Oper} {fuel : Nat} {listed : Array Bool} {a : Act} {w : World} (hd : l.drop i = oi :: rest)
    (hs : Region.noSelect l.toArray = true) (hf : Region.free .any l.toArray listed i = true) (hr : (Region.ready .any l.toArray listed).contains i = true)
    (hQ : ∀ c a w, Q (.panic c) (a.put oi.dst undef) w → Q (.panic c) a w) (hg : Region.wanted oi (yielded l.toArray a.tmps) = false) (hS : S w)
    (h : wpAnyH P .any l.toArray Q S fuel (listed.setIfInBounds i true) (a.put oi.dst undef) w) : wpAnyH P .any l.toArray Q S (fuel + 1) listed a w := by
  have hi : l.toArray[i]? = some oi := by
    have : l[i]? = (l.drop i)[0]? := by simp
    rw [List.getElem?_toArray, this, hd]
    rfl
  exact wpAnyH_take hi hs hf hr hQ (Or.inr ⟨hg, rfl⟩) hS h
/-- All have come up. -/
theorem doneL {P : Program} {l : List Oper} {Q : Exit → Act → World → Prop} {S : World → Prop} {fuel : Nat} {listed : Array Bool} {a : Act} {w : World} (hr : Region.ready .any l.toArray listed = []) (h : Q .normal a w) : wpAnyH P .any l.toArray Q S fuel listed a w := wpAnyH_done hr h fuel
end Go.Proofs.YtcjgjkejhkhknabGreatDoor

/-
  spec.l12Copy.
-/
namespace Go.Proofs.YtcjgjkejhkhknabGreatDoor
open Go.RowKit
open Words

/-- What answers a store: volumes and knots in blocks apart. -/
def StOut (w : World) (s : Sto) (v : Value) (w' : World) : Prop :=
  ∃ vv kv lo1 hi1 lo2 hi2, v = .agg #[vv, kv, .int .i64 s.next] ∧ Sli 107 lo1 hi1 vv s.vols.length (vlcells s.vols) w' ∧ Kns lo2 hi2 kv s.kns w' ∧ w.heap.size ≤ lo1 ∧ hi1 ≤ w'.heap.size ∧ w.heap.size ≤ lo2 ∧ hi2 ≤ w'.heap.size ∧ (hi1 ≤ lo2 ∨ hi2 ≤ lo1) ∧ Below w.heap.size w w'
/-- A store's value whose row of volumes has room for them. -/
def VCap (v : Value) : Prop := ∃ a n c k x, v = .agg #[.slice a n c, k, x] ∧ n ≤ c
theorem own_cap {w : World} {B size n m c : Nat} {e : TypeId} {a : Option Addr} {xs : List Value} (h : w.ownsRow B e size (.slice a n c) m xs) : n ≤ c := by
  rcases h.2 with ⟨h1, h2⟩ | ⟨g, cap, cur, h1, h2, h3, h4, -⟩
  · injection h1 with e1 e2 e3
    omega
  · injection h1 with e1 e2 e3
    omega
/-- 'append(v, xs...)' of a row of volumes, wherever it lies; or of none. -/
theorem step_append_vl (w : World) {ops : Array Oper} {o : Oper} {a : Act} {K : Act → World → Prop} {Q : Exit → Act → World → Prop} {E : Prop} (hgd : o.guard = none) (s x : Operand)
    (ho : o.op = .call { callee := .builtin .append, args := #[s, x], argTypes := #[44, 44] })
    (base : Nat) (i : TypeInfo) (hi : Tryz.prog.info? 107 = some i) (hz : i.zero = some (.agg #[.int .i64 0, .int .i64 0])) (hsize : i.size = 2) (hby : i.bytes = 16)
    (v : Value) (n : Nat) (xs : List Value) (hs : a.eval s = v) (hown : w.ownsRow base 107 2 v n xs)
    (ls : List (Int × Int)) (m : Nat) (hm : ls.length = m) (u : Value) (hx : a.eval x = u) (hsl : VlSl w u ls) (h63 : n + m ≤ maxLen) (hbytes : (n + m) * 16 ≤ 140737488355328) (hbase : base ≤ w.heap.size)
    (h : ∀ v' w', w'.ownsRow base 107 2 v' (n + m) (xs ++ vlcells ls) → w.grownBy w' v.ownBlock → K (a.put o.dst v') w') :
    if Region.wanted o (yielded ops a.tmps) = true then Oper.wp Tryz.prog o a w K Q else E := by
  subst hm
  obtain ⟨ad, c, rfl, h0, hr⟩ := hsl
  cases ls with
  | nil =>
    cases ad with
    | none =>
      rw [h0 rfl] at hx
      have hw : Region.wanted o (yielded ops a.tmps) = true := by simp [Region.wanted, hgd]
      rw [if_pos hw]
      have hrun := run_append_owned_none (P := Tryz.prog) (w := w) base 44 o.type 107 i 2 Tryz.underlying44 hi v n xs hown
      unfold Oper.wp execOp
      simp only [ho, resolve, invoke, builtin, Sem.run_bind, Sem.run_pure, Result.andThen_ok, List.map_toArray, List.map_cons, List.map_nil, hs, hx, List.length_nil, hrun]
      exact h v w (by simpa [vlcells] using hown) (World.grownBy.refl _ _)
    | some q => exact step_append_own w hgd s x 44 ho base 107 i (.agg #[.int .i64 0, .int .i64 0]) 2 16 Tryz.underlying44 hi hz hsize hby rfl (by decide) v n xs hs hown q 0 c [] hx rfl (fun _ _ e => by simp at e) (fun _ e => by cases e) h63 hbytes hbase h
  | cons y l =>
    obtain ⟨b, off, e, -, hc⟩ := hr.2.2.2 (by simp)
    subst e
    exact step_append_own w hgd s x 44 ho base 107 i (.agg #[.int .i64 0, .int .i64 0]) 2 16 Tryz.underlying44 hi hz hsize hby rfl (by decide) v n xs hs hown ⟨b, off, none⟩ _ c (vlcells (y :: l)) hx (vlcells_len _) (fun j u hj => by rw [addr_off3v]; exact hr.cells j u hj) (vlcells_one _) h63 hbytes hbase h

end Go.Proofs.YtcjgjkejhkhknabGreatDoor

/-
  The cells of Recs in a row.
-/
namespace Go.Proofs.YtcjgjkejhkhknabGreatDoor
open Go.RowKit

/-- The cells of elements. -/
def rccell (t : Int × Int × Int × Int) : List Value := [.int .i64 t.1, .int .i64 t.2.1, .int .i64 t.2.2.1, .int .i64 t.2.2.2]
def rccells (l : List (Int × Int × Int × Int)) : List Value := l.flatMap rccell
theorem rccells_len (l : List (Int × Int × Int × Int)) : (rccells l).length = l.length * 4 := by
  induction l with
  | nil => rfl
  | cons t l ih => simp [rccells, rccell] at ih ⊢; omega
theorem rccells_app (a b : List (Int × Int × Int × Int)) : rccells (a ++ b) = rccells a ++ rccells b := by simp [rccells]
theorem rccells_cons (t : Int × Int × Int × Int) (l : List (Int × Int × Int × Int)) : rccells (t :: l) = rccell t ++ rccells l := by simp [rccells]
theorem rccells_at (l : List (Int × Int × Int × Int)) (k : Nat) (t : Int × Int × Int × Int) (h : l[k]? = some t) (j : Nat) (v : Value) (hj : (rccell t)[j]? = some v) : (rccells l)[k * 4 + j]? = some v := by
  have hlt : j < 4 := (List.getElem?_eq_some_iff.1 hj).1
  induction l generalizing k with
  | nil => simp at h
  | cons a l ih =>
    rw [rccells_cons]
    cases k with
    | zero =>
      simp at h
      subst h
      rw [List.getElem?_append_left (by show _ < 4; omega), Nat.zero_mul, Nat.zero_add]
      exact hj
    | succ k =>
      rw [List.getElem?_append_right (by show 4 ≤ _; omega), show (k + 1) * 4 + j - (rccell a).length = k * 4 + j by show _ - 4 = _; omega]
      exact ih k (by simpa using h)
theorem rccells_one (l : List (Int × Int × Int × Int)) : ∀ v ∈ rccells l, v.oneCell' = true := by
  intro v hv
  obtain ⟨t, -, ht⟩ := List.mem_flatMap.1 hv
  simp [rccell] at ht
  rcases ht with h | h | h | h <;> subst h <;> rfl
end Go.Proofs.YtcjgjkejhkhknabGreatDoor

/-
  Rows of records that can be read.
-/
namespace Go.Proofs.YtcjgjkejhkhknabGreatDoor
open Go.RowKit
set_option maxRecDepth 100000

/-- Elements that came in, each in 4 cells. -/
def RcRow (w : World) (a : Option Addr) (len : Nat) (ls : List (Int × Int × Int × Int)) : Prop :=
  ls.length = len ∧ len ≤ maxLen ∧ (∀ t ∈ ls, True) ∧ (0 < len → ∃ b off, a = some ⟨b, off, none⟩ ∧ b < w.heap.size ∧ ∀ i t, ls[i]? = some t → w.cell? ⟨b, off + i * 4, none⟩ = some (.int .i64 t.1) ∧ w.cell? ⟨b, off + i * 4 + 1, none⟩ = some (.int .i64 t.2.1) ∧ w.cell? ⟨b, off + i * 4 + 2, none⟩ = some (.int .i64 t.2.2.1) ∧ w.cell? ⟨b, off + i * 4 + 3, none⟩ = some (.int .i64 t.2.2.2))
theorem RcRow.below {w w' : World} {a : Option Addr} {len : Nat} {ls : List (Int × Int × Int × Int)} (h : RcRow w a len ls) (hb : Below w.heap.size w w') : RcRow w' a len ls := by
  obtain ⟨h1, h2, h3, h4⟩ := h
  refine ⟨h1, h2, h3, fun h0 => ?_⟩
  obtain ⟨b, off, e, hl, hc⟩ := h4 h0
  have hs := hb.size
  refine ⟨b, off, e, by omega, fun i t ht => ?_⟩
  obtain ⟨c0, c1, c2, c3⟩ := hc i t ht
  exact ⟨(hb.cell (show b < w.heap.size from hl)).trans c0, (hb.cell (show b < w.heap.size from hl)).trans c1, (hb.cell (show b < w.heap.size from hl)).trans c2, (hb.cell (show b < w.heap.size from hl)).trans c3⟩

theorem RcRow.at {w : World} {a : Option Addr} {len : Nat} {ls : List (Int × Int × Int × Int)} (h : RcRow w a len ls) {k : Nat} {t : Int × Int × Int × Int} (hk : ls[k]? = some t) :
    ∃ b off, a = some ⟨b, off, none⟩ ∧ b < w.heap.size ∧ w.cell? ⟨b, off + k * 4, none⟩ = some (.int .i64 t.1) ∧ w.cell? ⟨b, off + k * 4 + 1, none⟩ = some (.int .i64 t.2.1) ∧ w.cell? ⟨b, off + k * 4 + 2, none⟩ = some (.int .i64 t.2.2.1) ∧ w.cell? ⟨b, off + k * 4 + 3, none⟩ = some (.int .i64 t.2.2.2) := by
  obtain ⟨h1, -, -, h4⟩ := h
  have hl := (List.getElem?_eq_some_iff.1 hk).1
  obtain ⟨b, off, e, hb, hc⟩ := h4 (by omega)
  obtain ⟨c0, c1, c2, c3⟩ := hc k t hk
  exact ⟨b, off, e, hb, c0, c1, c2, c3⟩
end Go.Proofs.YtcjgjkejhkhknabGreatDoor

/-
  What ArenaOk, GetAt, AllAt, SharedBy, PutAt and SweepArena do.
-/
namespace Go.Proofs.YtcjgjkejhkhknabGreatDoor
open Go.RowKit
open Words

/-- What an ArenaOk does. -/
def ArC (f : Nat) : Prop := ∀ (ad : Option Addr) (len cap : Nat) (rs : List Kw) (w : World), len ≤ 1048578 → KnRd w ad len rs → Calls Tryz.prog f #[.agg #[.slice ad len cap]] w fun e w' => e = .returned (.bool (arB (rs.map ktell))) ∧ Below w.heap.size w w'
/-- What a GetAt does. -/
def GetC (f : Nat) : Prop := ∀ (ad : Option Addr) (len cap : Nat) (rs : List Kw) (r s : Int) (w : World), len ≤ 1048578 → KnRd w ad len rs → Calls Tryz.prog f #[.agg #[.slice ad len cap], .int .i64 r, .int .i64 s] w fun e w' => e = .returned (.int .i64 (getT (rs.map ktell) r s)) ∧ Below w.heap.size w w'
/-- What a SharedBy does. -/
def ShareC (f : Nat) : Prop := ∀ (ad : Option Addr) (len cap : Nat) (rs : List Kw) (r s : Int) (w : World), len ≤ 1048578 → KnRd w ad len rs → Calls Tryz.prog f #[.agg #[.slice ad len cap], .int .i64 r, .int .i64 s] w fun e w' => e = .returned (.int .i64 (shareT (rs.map ktell) r s)) ∧ Below w.heap.size w w'
/-- What an AllAt does. -/
def AllC (f : Nat) : Prop := ∀ (ad : Option Addr) (len cap : Nat) (rs : List Kw) (r : Int) (w : World), len ≤ 1048578 → KnRd w ad len rs → Calls Tryz.prog f #[.agg #[.slice ad len cap], .int .i64 r] w (IOut w (allT (rs.map ktell) r))
/-- What a PutAt does. -/
def PutC (f : Nat) : Prop := ∀ (ad : Option Addr) (len cap : Nat) (rs : List Kw) (r s n : Int) (w : World), len ≤ 1048578 → (∀ r ∈ rs, r.2.2.length ≤ 1048576) → KnRd w ad len rs → Calls Tryz.prog f #[.agg #[.slice ad len cap], .int .i64 r, .int .i64 s, .int .i64 n] w (PutOut w (putL (rs.map ktell) r s n) (putR (rs.map ktell) r s n))
theorem Kns.rd {W : World} {lo hi n c : Nat} {ad : Option Addr} {M : List Kn} (h : Kns lo hi (.slice ad n c) M W) (hn : M.length = n) (hh : hi ≤ W.heap.size) : ∃ rs, rs.map ktell = M ∧ KnRd W ad n rs := by
  obtain ⟨rs, e, hx⟩ := h
  exact ⟨rs, e, hx.rd (by rw [← hn, ← e, List.length_map]) hh⟩
end Go.Proofs.YtcjgjkejhkhknabGreatDoor

/-
  What refers to chunks, and clones, in plain words.
-/
namespace Go.Proofs.YtcjgjkejhkhknabGreatDoor
namespace Words

/-- A right store has few knots. -/
theorem right_small {s : Sto} (h : s.Right) : s.kns.length ≤ 15 := by
  have e : (List.range s.kns.length).countP (swU s.kns (rootsV s.vols)) = s.kns.length := swN_all h.used _ (Nat.le_refl _)
  have c := count_le ((rootsV s.vols).flatMap (fun r => r.toNat :: (List.range 4).map (fun k => (kidAt s.kns r k).toNat))) s.kns.length (swU s.kns (rootsV s.vols)) (by
    intro i hi
    rw [swU, List.any_eq_true] at hi
    obtain ⟨r, hr, hb⟩ := hi
    rw [List.mem_flatMap]
    refine ⟨r, hr, ?_⟩
    rcases (has_iff (has_pos hb)).1 hb with q | ⟨k, hk, q⟩
    · rw [List.mem_cons]; left; omega
    · rw [List.mem_cons, List.mem_map]; right; exact ⟨k, List.mem_range.2 hk, by omega⟩)
  have hl : ((rootsV s.vols).flatMap (fun r => r.toNat :: (List.range 4).map (fun k => (kidAt s.kns r k).toNat))).length = 5 * s.vols.length := by
    unfold rootsV
    generalize s.vols = l
    induction l with
    | nil => rfl
    | cons v l ih => rw [List.map_cons, List.flatMap_cons, List.length_append, ih]; simp; omega
  have := h.few
  omega
/-- Ascending, above 0. -/
def AscP (l : List Int) : Prop := l.Pairwise (fun a b => a < b) ∧ ∀ x ∈ l, 0 < x
theorem insI_mem {l : List Int} (h : AscP l) {x y : Int} : y ∈ insI l x ↔ y ∈ l ∨ (0 < x ∧ y = x) := by
  unfold insI
  rw [List.mem_append, List.mem_append, List.mem_filter, List.mem_filter]
  simp only [decide_eq_true_eq]
  constructor
  · rintro ((q | q) | q)
    · exact .inl q.1
    · split at q
      · rename_i hx; rw [List.mem_singleton] at q; exact .inr ⟨hx, q⟩
      · cases q
    · exact .inl q.1
  · rintro (q | ⟨q1, q2⟩)
    · have := h.2 y q
      by_cases e : y = x
      · subst e; rw [if_pos this]; exact .inl (.inr (List.mem_singleton.2 rfl))
      · by_cases hlt : y < x
        · exact .inl (.inl ⟨q, hlt⟩)
        · exact .inr ⟨q, by omega⟩
    · subst q2; rw [if_pos q1]; exact .inl (.inr (List.mem_singleton.2 rfl))
theorem insI_asc {l : List Int} (h : AscP l) (x : Int) : AscP (insI l x) := by
  refine ⟨?_, fun y hy => ?_⟩
  · unfold insI
    rw [List.append_assoc, List.pairwise_append, List.pairwise_append]
    refine ⟨h.1.filter _, ⟨?_, h.1.filter _, ?_⟩, ?_⟩
    · split
      · exact List.pairwise_singleton _ _
      · exact List.Pairwise.nil
    · intro a ha b hb
      have hb2 : x < b := by simpa using (List.mem_filter.1 hb).2
      split at ha
      · rw [List.mem_singleton] at ha; omega
      · cases ha
    · intro a ha b hb
      have ha2 : a < x := by simpa using (List.mem_filter.1 ha).2
      rcases List.mem_append.1 hb with hb | hb
      · split at hb
        · rw [List.mem_singleton] at hb; omega
        · cases hb
      · have hb2 : x < b := by simpa using (List.mem_filter.1 hb).2
        omega
  · rcases (insI_mem h).1 hy with q | ⟨q1, q2⟩
    · exact h.2 y q
    · omega
theorem foldI {l : List Int} (h : AscP l) (L : List Int) : AscP (L.foldl insI l) ∧ ∀ y, y ∈ L.foldl insI l ↔ y ∈ l ∨ (0 < y ∧ y ∈ L) := by
  induction L generalizing l with
  | nil => exact ⟨h, fun y => by simp⟩
  | cons x L ih =>
    obtain ⟨h1, h2⟩ := ih (insI_asc h x)
    refine ⟨h1, fun y => ?_⟩
    rw [List.foldl_cons, h2, insI_mem h, List.mem_cons]
    constructor
    · rintro ((q | ⟨q1, q2⟩) | ⟨q1, q2⟩)
      · exact .inl q
      · subst q2; exact .inr ⟨q1, .inl rfl⟩
      · exact .inr ⟨q1, .inr q2⟩
    · rintro (q | ⟨q1, q2 | q2⟩)
      · exact .inl (.inl q)
      · subst q2; exact .inl (.inr ⟨q1, rfl⟩)
      · exact .inr ⟨q1, q2⟩
/-- All that the sectors of a store have. -/
def allS (s : Sto) : List Int := s.vols.flatMap (fun v => allT s.kns v.2)
theorem live_fold (s : Sto) : liveS s = (allS s).foldl insI [] := by
  unfold liveS allS
  generalize ([] : List Int) = acc
  generalize s.vols = l
  induction l generalizing acc with
  | nil => rfl
  | cons v l ih => rw [List.foldl_cons, ih, List.flatMap_cons, List.foldl_append]
theorem live_asc (s : Sto) : AscP (liveS s) := by
  rw [live_fold]
  exact (foldI ⟨List.Pairwise.nil, fun _ h => by cases h⟩ _).1
theorem live_mem (s : Sto) (y : Int) : y ∈ liveS s ↔ 0 < y ∧ y ∈ allS s := by
  rw [live_fold, (foldI ⟨List.Pairwise.nil, fun _ h => by cases h⟩ _).2]
  simp
theorem refs_count (s : Sto) {c : Int} (h : 0 < c) : refsS s c = (allS s).count c := by
  rw [refsS, if_pos h, allS, List.count_flatMap]
  rfl
/-- References of all that live are as many as sectors that have something. -/
theorem sum_count {live : List Int} (hn : live.Pairwise (fun a b => a < b)) (hp : ∀ x ∈ live, 0 < x) (M : List Int) (hm : ∀ y ∈ M, 0 < y → y ∈ live) : (live.map (fun x => M.count x)).sum = M.countP (fun y => decide (0 < y)) := by
  have one : ∀ (l : List Int) (m : Int), l.Pairwise (fun a b => a < b) → (l.map (fun x => if m = x then 1 else 0)).sum = (if m ∈ l then 1 else 0) := by
    intro l m
    induction l with
    | nil => intro _; rfl
    | cons x l ih =>
      intro h
      rw [List.pairwise_cons] at h
      rw [List.map_cons, List.sum_cons, ih h.2]
      by_cases e : m = x
      · subst e
        have : ¬ m ∈ l := fun q => by have := h.1 m q; omega
        rw [if_pos rfl, if_neg this, if_pos List.mem_cons_self]
      · rw [if_neg e]
        by_cases q : m ∈ l
        · rw [if_pos q, if_pos (List.mem_cons_of_mem _ q)]
        · rw [if_neg q, if_neg (fun r => by rcases List.mem_cons.1 r with r | r; exact e r; exact q r)]
  have add : ∀ (l : List Int) (f g : Int → Nat), (l.map (fun x => f x + g x)).sum = (l.map f).sum + (l.map g).sum := by
    intro l f g
    induction l with
    | nil => rfl
    | cons x l ih => rw [List.map_cons, List.map_cons, List.map_cons, List.sum_cons, List.sum_cons, List.sum_cons, ih]; omega
  induction M with
  | nil =>
    have : ∀ l : List Int, (l.map (fun x => ([] : List Int).count x)).sum = 0 := by
      intro l
      induction l with
      | nil => rfl
      | cons x l ih => rw [List.map_cons, List.sum_cons, ih]; rfl
    exact this live
  | cons m M ih =>
    have i := ih (fun y hy => hm y (List.mem_cons_of_mem _ hy))
    have e : (fun x => (m :: M).count x) = (fun x => M.count x + if m = x then 1 else 0) := by
      funext x
      rw [List.count_cons]
      simp
    rw [e, add live (fun x => M.count x) (fun x => if m = x then 1 else 0), i, one live m hn, List.countP_cons]
    congr 1
    by_cases h0 : 0 < m
    · rw [if_pos (hm m List.mem_cons_self h0), if_pos (by simpa using h0)]
    · rw [if_neg (fun q => h0 (hp m q)), if_neg (by simpa using h0)]
theorem refs_sum (s : Sto) : ((liveS s).map (refsS s)).sum = (allS s).countP (fun y => decide (0 < y)) := by
  have ha := live_asc s
  rw [← sum_count ha.1 ha.2 (allS s) (fun y hy h0 => (live_mem s y).2 ⟨h0, hy⟩)]
  congr 1
  exact List.map_congr_left fun x hx => refs_count s (ha.2 x hx)
theorem refs_live {s : Sto} {c : Int} (h : c ∈ liveS s) : 1 ≤ refsS s c := by
  obtain ⟨h1, h2⟩ := (live_mem s c).1 h
  rw [refs_count s h1]
  exact List.count_pos_iff.2 h2
/-- What is not given yet is nowhere. -/
theorem refs_next {s : Sto} (h : s.Right) : refsS s s.next = 0 := by
  rw [refs_count s (by have := h.nx; omega), List.count_eq_zero]
  intro q
  obtain ⟨v, hv, hq⟩ := List.mem_flatMap.1 q
  obtain ⟨i, hi, e⟩ := List.mem_iff_getElem.1 hq
  rw [all_len] at hi
  have e3 := all_at s.kns v.2 hi
  rw [List.getElem?_eq_getElem (by rw [all_len]; exact hi), e] at e3
  injection e3 with e3
  rw [getT_ok ⟨h.ar, h.root v hv⟩ (by omega)] at e3
  have := h.less v hv i (by omega)
  omega
end Words
end Go.Proofs.YtcjgjkejhkhknabGreatDoor
