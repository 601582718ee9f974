/-
  spec.l12Copy.
-/
import Derived.Test.YtmpmdacfibgepagSRoots
import Derived.Test.YtmpmdacfibgepagVlApp
import Derived.Test.YtmpmdacfibgepagKnCp
import Derived.Test.YtmpmdacfibgepagGate
import Derived.Deep.RegionHeld3
namespace Go.Proofs.Ytmpmdacfibgepag
open Go.RowKit
open Words

/-- What answers a store: volumes and knots in blocks apart. -/
def StOut (w : World) (s : Sto) (v : Value) (w' : World) : Prop :=
  ∃ vv kv lo1 hi1 lo2 hi2, v = .agg #[vv, kv, .int .i64 s.next] ∧ Sli 132 lo1 hi1 vv s.vols.length (vlcells s.vols) w' ∧ Kns lo2 hi2 kv s.kns w' ∧ w.heap.size ≤ lo1 ∧ hi1 ≤ w'.heap.size ∧ w.heap.size ≤ lo2 ∧ hi2 ≤ w'.heap.size ∧ (hi1 ≤ lo2 ∨ hi2 ≤ lo1) ∧ Below w.heap.size w w'
/-- A store's value whose row of volumes has room for them. -/
def VCap (v : Value) : Prop := ∃ a n c k x, v = .agg #[.slice a n c, k, x] ∧ n ≤ c
theorem own_cap {w : World} {B size n m c : Nat} {e : TypeId} {a : Option Addr} {xs : List Value} (h : w.ownsRow B e size (.slice a n c) m xs) : n ≤ c := by
  rcases h.2 with ⟨h1, h2⟩ | ⟨g, cap, cur, h1, h2, h3, h4, -⟩
  · injection h1 with e1 e2 e3
    omega
  · injection h1 with e1 e2 e3
    omega
/-- 'append(v, xs...)' of a row of volumes, wherever it lies; or of none. -/
theorem step_append_vl (w : World) {ops : Array Oper} {o : Oper} {a : Act} {K : Act → World → Prop} {Q : Exit → Act → World → Prop} {E : Prop} (hgd : o.guard = none) (s x : Operand)
    (ho : o.op = .call { callee := .builtin .append, args := #[s, x], argTypes := #[60, 60] })
    (base : Nat) (i : TypeInfo) (hi : Try.prog.info? 132 = some i) (hz : i.zero = some (.agg #[.int .i64 0, .int .i64 0])) (hsize : i.size = 2) (hby : i.bytes = 16)
    (v : Value) (n : Nat) (xs : List Value) (hs : a.eval s = v) (hown : w.ownsRow base 132 2 v n xs)
    (ls : List (Int × Int)) (m : Nat) (hm : ls.length = m) (u : Value) (hx : a.eval x = u) (hsl : VlSl w u ls) (h63 : n + m ≤ maxLen) (hbytes : (n + m) * 16 ≤ 140737488355328) (hbase : base ≤ w.heap.size)
    (h : ∀ v' w', w'.ownsRow base 132 2 v' (n + m) (xs ++ vlcells ls) → w.grownBy w' v.ownBlock → K (a.put o.dst v') w') :
    if Region.wanted o (yielded ops a.tmps) = true then Oper.wp Try.prog o a w K Q else E := by
  subst hm
  obtain ⟨ad, c, rfl, h0, hr⟩ := hsl
  cases ls with
  | nil =>
    cases ad with
    | none =>
      rw [h0 rfl] at hx
      have hw : Region.wanted o (yielded ops a.tmps) = true := by simp [Region.wanted, hgd]
      rw [if_pos hw]
      have hrun := run_append_owned_none (P := Try.prog) (w := w) base 60 o.type 132 i 2 Try.underlying60 hi v n xs hown
      unfold Oper.wp execOp
      simp only [ho, resolve, invoke, builtin, Sem.run_bind, Sem.run_pure, Result.andThen_ok, List.map_toArray, List.map_cons, List.map_nil, hs, hx, List.length_nil, hrun]
      exact h v w (by simpa [vlcells] using hown) (World.grownBy.refl _ _)
    | some q => exact step_append_own w hgd s x 60 ho base 132 i (.agg #[.int .i64 0, .int .i64 0]) 2 16 Try.underlying60 hi hz hsize hby rfl (by decide) v n xs hs hown q 0 c [] hx rfl (fun _ _ e => by simp at e) (fun _ e => by cases e) h63 hbytes hbase h
  | cons y l =>
    obtain ⟨b, off, e, -, hc⟩ := hr.2.2.2 (by simp)
    subst e
    exact step_append_own w hgd s x 60 ho base 132 i (.agg #[.int .i64 0, .int .i64 0]) 2 16 Try.underlying60 hi hz hsize hby rfl (by decide) v n xs hs hown ⟨b, off, none⟩ _ c (vlcells (y :: l)) hx (vlcells_len _) (fun j u hj => by rw [addr_off3v]; exact hr.cells j u hj) (vlcells_one _) h63 hbytes hbase h

end Go.Proofs.Ytmpmdacfibgepag
