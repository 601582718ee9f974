/-
  Package variables that are arrays of integers, where a row names them: they read behind the call as they did ahead of it.
-/
import Derived.Test.YtaolinlginloaacDoorBase
import Derived.ChangeVars
namespace Go.Proofs.YtaolinlginloaacDoor
open Go.ChangeShapes Go.RowKit

theorem trod_ints {H : Type} {enc : TypeId × Value → H} {P : Program} {t e : TypeId} {n : Nat} {k : IntKind} (ht : P.underlying t = some (.array n e)) (he : P.underlying e = some (.int k))
    (V V' : World) (b b' : Nat) (sp sp' : Nat → Bool) (held : Bool) (fuel : Nat) (cs : List Value) :
    DataW.trod enc P V b sp held fuel t cs = DataW.trod enc P V' b' sp' held fuel t cs := by
  cases fuel with
  | zero => rfl
  | succ fuel =>
    have h : ∀ x : List Value, DataW.trod enc P V b sp held fuel e x = DataW.trod enc P V' b' sp' held fuel e x := by
      intro x
      cases fuel with
      | zero => rfl
      | succ fuel =>
        simp only [DataW.trod, he]
        rcases x with _ | ⟨v, _ | ⟨v2, r⟩⟩
        · rfl
        · cases v <;> rfl
        · cases v <;> rfl
    simp only [DataW.trod, ht, h]

theorem vars_length {H : Type} {enc : TypeId × Value → H} {P : Program} {W : World} {sp : Nat → Bool} : ∀ {ns : List String} {gs : List (DataW H)} {q : List MemPlace}, DataW.TrodVars enc P W sp ns gs q → gs.length = ns.length
  | [], [], _, _ => rfl
  | [], _ :: _, _, h => by simp [DataW.TrodVars] at h
  | _ :: _, [], _, h => by simp [DataW.TrodVars] at h
  | _ :: _, _ :: _, _, h => by
    obtain ⟨_, _, _, _, _, _, _, _, _, _, hs, _⟩ := h
    simp [vars_length hs]

theorem vars_nil {H : Type} {enc : TypeId × Value → H} {P : Program} {W W' : World} {sp sp' : Nat → Bool} (gs : List (DataW H)) (q : List MemPlace) (h : DataW.TrodVars enc P W sp [] gs q) : DataW.TrodVars enc P W' sp' [] gs q := by
  cases gs with
  | nil => exact h
  | cons => simp [DataW.TrodVars] at h

theorem vars_cons {H : Type} {enc : TypeId × Value → H} {P : Program} {W W' : World} {sp sp' : Nat → Bool} {n : String} {ns : List String} {g : Nat} {t e : TypeId} {m : Nat} {k : IntKind}
    (hg : P.globalNamed n = some g) (hty : (P.globals[g]?).map (·.type) = some t) (ht : P.underlying t = some (.array m e)) (he : P.underlying e = some (.int k)) (hb : Below W.heap.size W W')
    (rest : ∀ gs q, DataW.TrodVars enc P W sp ns gs q → DataW.TrodVars enc P W' sp' ns gs q) (gs : List (DataW H)) (q : List MemPlace) (h : DataW.TrodVars enc P W sp (n :: ns) gs q) : DataW.TrodVars enc P W' sp' (n :: ns) gs q := by
  cases gs with
  | nil => simp [DataW.TrodVars] at h
  | cons d ds =>
    obtain ⟨g', t', cs, fuel, p, q', h1, h2, h3, h4, hs, rfl⟩ := h
    obtain rfl := Option.some.inj (hg.symm.trans h1)
    obtain rfl := Option.some.inj (hty.symm.trans h2)
    have hlt : g < W.heap.size := by
      rcases Nat.lt_or_ge g W.heap.size with h' | h'
      · exact h'
      · unfold World.var? at h3
        simp [hg, Array.getElem?_eq_none h'] at h3
    refine ⟨g, t, cs, fuel, p, q', h1, h2, var?_below hb hg hlt h3, ?_, rest _ _ hs, rfl⟩
    rw [trod_ints ht he W' W 0 0 sp' sp]
    exact h4
end Go.Proofs.YtaolinlginloaacDoor
