/-
  FnNeeded of every text of draws, over every order that Go leaves open: the law returns true, so what the program tells to be needed on all blocks of a drawn device is its chunks that live and its pages from a transaction on. Condition: the table that the program and the specification read when they seal or unseal a page (fourHalvings) holds what it is laid with.
-/
import Derived.Test.YtgigcooffjjbgaaGreatDoorCards
import Derived.Test.YtgigcooffjjbgaaGreatDoorTie
import Derived.WalkKit
import Derived.ProofKit
import Derived.OpenShut
import Derived.ShutString
import Derived.ChangeOld
import Derived.Below
import Derived.Deep.DeepHandedRow
import Derived.Deep.DeepWitnessRowRef
import Derived.Lib.LaidTab
import Derived.LaidSub
import Derived.Test.YtgigcooffjjbgaaGreatDoorPk28
namespace Go.Proofs.YtgigcooffjjbgaaGreatDoor.fnNeeded
open Go.ChangeShapes Go.WideShapes Go.ChangeAt Go.RowKit
open Go.ChangeMaps (open_string shut_string)
set_option linter.unusedVariables false

theorem uw : ownKnob Tryz.prog.godebug = none := by kernel_rfl

set_option maxRecDepth 100000 in
theorem aam (H : Type) (enc : TypeId × Value → H) (W : World) (base : Nat) (args : Array Value) (ds gs : List (DataW H)) (before : List MemPlace)
    (hval : ∀ (j : Nat) t v, Tryz.f4.params[j]? = some t → args[j]? = some v → Value.okWide Tryz.prog W .any base t v)
    (hW : DataW.Whole enc Tryz.prog Tryz.f4.params.toList Rows.fnNeededSpec.vars false W args.toList ds gs before) (hL : laidMetH Tryz.prog Rows.fnNeededRow.laid W) :
    Calls Tryz.prog 4 args W fun e W' => ∃ v, e = .returned v ∧ Rows.fnNeededSpec.post enc Tryz.prog Tryz.f4 false true false false W args v W' := by
  have hW' := hW
  obtain ⟨p, q, hA0, hV, rfl, hfz, hnd⟩ := hW
  have hA : DataW.TrodAll enc Tryz.prog W 0 (fun _ => true) true Tryz.f4.params.toList args.toList ds p := hA0
  rw [Tryz.params4] at hA hval
  obtain ⟨v0, vs0, d0, ds0, p0, q0, hargs, rfl, rfl, h0, r0⟩ := trodAll_cons hA
  obtain ⟨rfl, rfl, rfl⟩ := trodAll_nil r0
  obtain rfl : args = #[v0] := by cases args; simp_all
  obtain ⟨gx0, rfl⟩ : ∃ gx0, gs = [gx0] := by
    have := Jl hV
    match gs, this with
    | [gx0], _ => exact ⟨gx0, rfl⟩
  clear hA0
  try simp only [List.append_nil] at hW'
  have hf := laidMetH.filter (fun x => x.1 == "loop.example/g00195/impl.fourHalvings") hL
  have hp : eC W := Lib.tabIs_of_head (rest := []) (g := 1) (by kernel_rfl) (by kernel_rfl) Tryz.underlying315 Tryz.underlying128 (by kernel_rfl) (by kernel_rfl) hf
  refine (Ol  W (OX w0) hp).mono fun e W' ⟨he, hg⟩ => ?_
  subst he
  exact ⟨_, rfl, _, _, _, [], [], _, hW', trodAll_mk1 (shut_bool Tryz.underlying4 _), trodAll_mk0), (Xa (g := 1) (by kernel_rfl) (by kernel_rfl) Tryz.underlying315 Tryz.underlying128 hg ZD) _ _ hV, hg.frame _, fun h => by cases h⟩

set_option maxRecDepth 100000 in
theorem Pf (os : Os) : laidMet Tryz.prog Rows.fnNeededRow.laid (({ World.holding Tryz.prog os ⟨#[], #[], []⟩ with heap := ((World.holding Tryz.prog os ⟨#[], #[], []⟩).heap.modify 1 fun | .cells _ t frozen => .cells #[.int .u32 0, .int .u32 1166650509, .int .u32 2333301018, .int .u32 3466261911, .int .u32 3189058079, .int .u32 4221339282, .int .u32 889615109, .int .u32 1888477064, .int .u32 3558460437, .int .u32 2442158232, .int .u32 1594529039, .int .u32 444807554, .int .u32 1779230218, .int .u32 797264519, .int .u32 3776954128, .int .u32 2761298845] t frozen | o => o) } : World).forCall (fun _ _ => 0) ⟨#[], #[], []⟩).memory :=
  laidMet_of_run' 8 (by kernel_rfl) (by kernel_rfl)
set_option maxRecDepth 100000 in
theorem nS (os : Os) {H : Type} (enc : TypeId × Value → H) : ∃ places, DataW.whole enc Tryz.prog (({ World.holding Tryz.prog os ⟨#[], #[], []⟩ with heap := ((World.holding Tryz.prog os ⟨#[], #[], []⟩).heap.modify 1 fun | .cells _ t frozen => .cells #[.int .u32 0, .int .u32 1166650509, .int .u32 2333301018, .int .u32 3466261911, .int .u32 3189058079, .int .u32 4221339282, .int .u32 889615109, .int .u32 1888477064, .int .u32 3558460437, .int .u32 2442158232, .int .u32 1594529039, .int .u32 444807554, .int .u32 1779230218, .int .u32 797264519, .int .u32 3776954128, .int .u32 2761298845] t frozen | o => o) } : World).forCall (fun _ _ => 0) ⟨#[], #[], []⟩).memory Tryz.f4.params.toList Rows.fnNeededSpec.vars false (#[] : Array Value).toList 8 = some ([], [Rows.laid_loop_example_g00195_impl_fourHalvings], places) :=
  ⟨MemPlace.row ⟨1, 0, none⟩ 16, by kernel_rfl⟩

set_option maxRecDepth 100000 in
theorem OI (os : Os) (started : os.Started) (H : Type) (enc : TypeId × Value → H) (F : Stop.Interp) :
    ReturnsInHanded {} Tryz.checked os 4 .any ((OpenSpec.ofChange Rows.fnNeededSpec).preRow enc Tryz.prog Tryz.f4 Rows.fnNeededRow.domain false Rows.fnNeededRow.laid) (((OpenSpec.ofChange Rows.fnNeededSpec).at F).post enc Tryz.prog Tryz.f4 false true false false) := by
  obtain ⟨places, hx⟩ := nS os enc
  refine returnsInHanded_of_row (C := Tryz.checked) (s := OpenSpec.ofChange Rows.fnNeededSpec) uw started (by kernel_rfl) Tryz.func4
    (witness_row_at (enc := enc) (C := Tryz.checked) false ({ World.holding Tryz.prog os ⟨#[], #[], []⟩ with heap := ((World.holding Tryz.prog os ⟨#[], #[], []⟩).heap.modify 1 fun | .cells _ t frozen => .cells #[.int .u32 0, .int .u32 1166650509, .int .u32 2333301018, .int .u32 3466261911, .int .u32 3189058079, .int .u32 4221339282, .int .u32 889615109, .int .u32 1888477064, .int .u32 3558460437, .int .u32 2442158232, .int .u32 1594529039, .int .u32 444807554, .int .u32 1779230218, .int .u32 797264519, .int .u32 3776954128, .int .u32 2761298845] t frozen | o => o) } : World) #[] rfl (by kernel_rfl) (by kernel_rfl) (by kernel_rfl)
      (OpenSpec.preRow_of_cond 8 hx (by kernel_rfl) (fun k hk => by cases hk) (by kernel_rfl) (Pf os))) ?_
  intro W base args ds gs before hval hW _ _ _ hL _ _
  exact aam H enc W base args ds gs before hval hW hL

theorem Nm : Rows.FnNeededSaid :=
  OpenClaim.holds_of_cond 4 Tryz.f4 rfl rfl rfl rfl rfl rfl rfl ⟨rfl, rfl, rfl, rfl, rfl⟩ rfl rfl rfl rfl rfl (by kernel_rfl) Tryz.func4 (by kernel_rfl)
    (of_decide_eq_true (by kernel_rfl)) (by unfold Func.isWrapper; first | (rw [if_pos (by decide +kernel)]; kernel_rfl) | (rw [if_neg (by decide +kernel)]; exact ⟨rfl, rfl⟩))
    (fun os started H enc _ F => by rw [OpenClaim.pre_eq_preRow]; exact OI os started H enc F)

theorem En (t : TypeId) (h : t ∈ Tryz.f4.params) : Tryz.prog.wantsStandIn t = false := by
  rw [Tryz.params4] at h
  match t, (by simpa using h : ) with


theorem plain (f : FuncId) (fn : Func) (hf : Tryz.pinned.checked.prog.funcNamed Rows.fnNeededRow.func = some f) (hfn : Tryz.pinned.checked.prog.funcs[f]? = some fn) :
    true = Tryz.pinned.checked.prog.looks [] ∧ ∀ (j : Nat) t, fn.params[j]? = some t → Tryz.pinned.checked.prog.wantsStandIn t = false := by
  obtain rfl : f = 4 := Option.some.inj ((show Tryz.prog.funcNamed Rows.fnNeededRow.func = some 4 by kernel_rfl).symm.trans hf) |>.symm
  obtain rfl : fn = Tryz.f4 := (Option.some.inj (Tryz.func4.symm.trans hfn)).symm
  exact ⟨by kernel_rfl, fun j t ht => En t (Array.mem_of_getElem? ht)⟩

theorem card : Rows.FnNeededCardSaid :=
  Claim7.holds_tied_plain_at .later [] _ _ _ _ Nm (fun _ h => by cases h) (by kernel_rfl) (fun _ h => by cases h) fnNeeded_row_tie rfl ⟨rfl, rfl⟩ (by kernel_rfl) rfl plain (by kernel_rfl)
end Go.Proofs.YtgigcooffjjbgaaGreatDoor.fnNeeded
namespace Go.Proofs.YtgigcooffjjbgaaGreatDoor
theorem aaF : Rows.FnNeededCardSaid := fnNeeded.card
end Go.Proofs.YtgigcooffjjbgaaGreatDoor
