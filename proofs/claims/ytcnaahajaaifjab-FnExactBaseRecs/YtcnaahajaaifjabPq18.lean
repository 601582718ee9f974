/-
  Gate; SCopyS
-/
import Derived.Test.YtcnaahajaaifjabLastOp
import Derived.Test.YtcnaahajaaifjabPq15
import Derived.Test.YtcnaahajaaifjabKnCp
import Derived.Deep.RegionHeld3
/-
  A region that draws, walked operation by operation: one whose guard says no is passed over first.
-/
namespace Go.Proofs.Ytcnaahajaaifjab
open Go Go.RowKit

theorem wp_region_ops {P : Program} {id : Nat} {l : List Oper} {Q : Exit → Act → World → Prop} (S : World → Prop) {a : Act} {w : World} (hm : P.follows .mixedOrders = true) (hS : S w.drew)
    (hh : S w.drew → wpAnyH P .any l.toArray Q S l.length (Array.replicate l.length false) a w.drew) : (Code.region id l.toArray true).wp P Q a w := by
  refine wp_region_any hm ?_
  have e2 : l.toArray.size = l.length := by simp
  rw [e2]
  exact wpAny_of_held _ _ _ _ (hh hS)
/-- An operation whose guard says no. -/
theorem skipL {P : Program} {l : List Oper} {Q : Exit → Act → World → Prop} {S : World → Prop} (i : Nat) {oi : Oper} {rest : List Oper} {fuel : Nat} {listed : Array Bool} {a : Act} {w : World} (hd : l.drop i = oi :: rest)
    (hs : Region.noSelect l.toArray = true) (hf : Region.free .any l.toArray listed i = true) (hr : (Region.ready .any l.toArray listed).contains i = true)
    (hQ : ∀ c a w, Q (.panic c) (a.put oi.dst undef) w → Q (.panic c) a w) (hg : Region.wanted oi (yielded l.toArray a.tmps) = false) (hS : S w)
    (h : wpAnyH P .any l.toArray Q S fuel (listed.setIfInBounds i true) (a.put oi.dst undef) w) : wpAnyH P .any l.toArray Q S (fuel + 1) listed a w := by
  have hi : l.toArray[i]? = some oi := by
    have : l[i]? = (l.drop i)[0]? := by simp
    rw [List.getElem?_toArray, this, hd]
    rfl
  exact wpAnyH_take hi hs hf hr hQ (Or.inr ⟨hg, rfl⟩) hS h
/-- All have come up. -/
theorem doneL {P : Program} {l : List Oper} {Q : Exit → Act → World → Prop} {S : World → Prop} {fuel : Nat} {listed : Array Bool} {a : Act} {w : World} (hr : Region.ready .any l.toArray listed = []) (h : Q .normal a w) : wpAnyH P .any l.toArray Q S fuel listed a w := wpAnyH_done hr h fuel
end Go.Proofs.Ytcnaahajaaifjab

/-
  spec.l12Copy.
-/
namespace Go.Proofs.Ytcnaahajaaifjab
open Go.RowKit
open Words

/-- What answers a store: volumes and knots in blocks apart. -/
def StOut (w : World) (s : Sto) (v : Value) (w' : World) : Prop :=
  ∃ vv kv lo1 hi1 lo2 hi2, v = .agg #[vv, kv, .int .i64 s.next] ∧ Sli 57 lo1 hi1 vv s.vols.length (vlcells s.vols) w' ∧ Kns lo2 hi2 kv s.kns w' ∧ w.heap.size ≤ lo1 ∧ hi1 ≤ w'.heap.size ∧ w.heap.size ≤ lo2 ∧ hi2 ≤ w'.heap.size ∧ (hi1 ≤ lo2 ∨ hi2 ≤ lo1) ∧ Below w.heap.size w w'
/-- A store's value whose row of volumes has room for them. -/
def VCap (v : Value) : Prop := ∃ a n c k x, v = .agg #[.slice a n c, k, x] ∧ n ≤ c
theorem own_cap {w : World} {B size n m c : Nat} {e : TypeId} {a : Option Addr} {xs : List Value} (h : w.ownsRow B e size (.slice a n c) m xs) : n ≤ c := by
  rcases h.2 with ⟨h1, h2⟩ | ⟨g, cap, cur, h1, h2, h3, h4, -⟩
  · injection h1 with e1 e2 e3
    omega
  · injection h1 with e1 e2 e3
    omega
/-- 'append(v, xs...)' of a row of volumes, wherever it lies; or of none. -/
theorem step_append_vl (w : World) {ops : Array Oper} {o : Oper} {a : Act} {K : Act → World → Prop} {Q : Exit → Act → World → Prop} {E : Prop} (hgd : o.guard = none) (s x : Operand)
    (ho : o.op = .call { callee := .builtin .append, args := #[s, x], argTypes := #[30, 30] })
    (base : Nat) (i : TypeInfo) (hi : Try.prog.info? 57 = some i) (hz : i.zero = some (.agg #[.int .i64 0, .int .i64 0])) (hsize : i.size = 2) (hby : i.bytes = 16)
    (v : Value) (n : Nat) (xs : List Value) (hs : a.eval s = v) (hown : w.ownsRow base 57 2 v n xs)
    (ls : List (Int × Int)) (m : Nat) (hm : ls.length = m) (u : Value) (hx : a.eval x = u) (hsl : VlSl w u ls) (h63 : n + m ≤ maxLen) (hbytes : (n + m) * 16 ≤ 140737488355328) (hbase : base ≤ w.heap.size)
    (h : ∀ v' w', w'.ownsRow base 57 2 v' (n + m) (xs ++ vlcells ls) → w.grownBy w' v.ownBlock → K (a.put o.dst v') w') :
    if Region.wanted o (yielded ops a.tmps) = true then Oper.wp Try.prog o a w K Q else E := by
  subst hm
  obtain ⟨ad, c, rfl, h0, hr⟩ := hsl
  cases ls with
  | nil =>
    cases ad with
    | none =>
      rw [h0 rfl] at hx
      have hw : Region.wanted o (yielded ops a.tmps) = true := by simp [Region.wanted, hgd]
      rw [if_pos hw]
      have hrun := run_append_owned_none (P := Try.prog) (w := w) base 30 o.type 57 i 2 Try.underlying30 hi v n xs hown
      unfold Oper.wp execOp
      simp only [ho, resolve, invoke, builtin, Sem.run_bind, Sem.run_pure, Result.andThen_ok, List.map_toArray, List.map_cons, List.map_nil, hs, hx, List.length_nil, hrun]
      exact h v w (by simpa [vlcells] using hown) (World.grownBy.refl _ _)
    | some q => exact step_append_own w hgd s x 30 ho base 57 i (.agg #[.int .i64 0, .int .i64 0]) 2 16 Try.underlying30 hi hz hsize hby rfl (by decide) v n xs hs hown q 0 c [] hx rfl (fun _ _ e => by simp at e) (fun _ e => by cases e) h63 hbytes hbase h
  | cons y l =>
    obtain ⟨b, off, e, -, hc⟩ := hr.2.2.2 (by simp)
    subst e
    exact step_append_own w hgd s x 30 ho base 57 i (.agg #[.int .i64 0, .int .i64 0]) 2 16 Try.underlying30 hi hz hsize hby rfl (by decide) v n xs hs hown ⟨b, off, none⟩ _ c (vlcells (y :: l)) hx (vlcells_len _) (fun j u hj => by rw [addr_off3v]; exact hr.cells j u hj) (vlcells_one _) h63 hbytes hbase h

end Go.Proofs.Ytcnaahajaaifjab
