/-
  ReadOf answers as the specification at every device, volume and sector; it writes into no argument
-/
import Derived.Test.YtcjgjkejhkhknacGreatDoorCards
import Derived.Test.YtcjgjkejhkhknacGreatDoorTie
import Derived.WalkKit
import Derived.ProofKit
import Derived.OpenShut
import Derived.ShutString
import Derived.ChangeOld
import Derived.Below
import Derived.Deep.DeepHandedRow
import Derived.Deep.DeepWitnessRowRef
import Derived.Lib.LaidTab
import Derived.LaidSub
import Derived.Test.YtcjgjkejhkhknacGreatDoorPk49
import Derived.Test.YtcjgjkejhkhknacGreatDoorPk50
namespace Go.Proofs.YtcjgjkejhkhknacGreatDoor.fnExactReadOf
open Go.ChangeShapes Go.WideShapes Go.ChangeAt Go.RowKit
open Go.ChangeMaps (open_string shut_string)
set_option linter.unusedVariables false

theorem own : ownKnob Tryz.prog.godebug = none := by kernel_rfl
theorem laidOut : laidOutB Tryz.prog = true := by kernel_rfl

set_option maxRecDepth 100000 in
theorem contract (H : Type) (enc : TypeId × Value → H) (W : World) (base : Nat) (args : Array Value) (ds gs : List (DataW H)) (before : List MemPlace)
    (hval : ∀ (j : Nat) t v, Tryz.f5.params[j]? = some t → args[j]? = some v → Value.okWide Tryz.prog W .any base t v)
    (hW : DataW.Whole enc Tryz.prog Tryz.f5.params.toList Rows.fnExactReadOfSpec.vars false W args.toList ds gs before) (hL : laidMetH Tryz.prog Rows.fnExactReadOfRow.laid W) :
    Calls Tryz.prog 5 args W fun e W' => ∃ v, e = .returned v ∧ Rows.fnExactReadOfSpec.post enc Tryz.prog Tryz.f5 false true false false W args v W' := by
  have hW' := hW
  obtain ⟨p, q, hA0, hV, rfl, hfz, hnd⟩ := hW
  have hA : DataW.TrodAll enc Tryz.prog W 0 (fun _ => true) true Tryz.f5.params.toList args.toList ds p := hA0
  rw [Tryz.params5] at hA hval
  obtain ⟨v0, vs0, d0, ds0, p0, q0, hargs, rfl, rfl, h0, r0⟩ := trodAll_cons hA
  obtain ⟨v1, vs1, d1, ds1, p1, q1, rfl, rfl, rfl, h1, r1⟩ := trodAll_cons r0
  obtain ⟨v2, vs2, d2, ds2, p2, q2, rfl, rfl, rfl, h2, r2⟩ := trodAll_cons r1
  obtain ⟨rfl, rfl, rfl⟩ := trodAll_nil r2
  obtain rfl : args = #[v0, v1, v2] := by cases args; simp_all
  obtain ⟨gx0, rfl⟩ : ∃ gx0, gs = [gx0] := by
    have := vars_length hV
    match gs, this with
    | [gx0], _ => exact ⟨gx0, rfl⟩
  have k0 := h0
  have lt0 : ∀ x ∈ p0, x.block < W.heap.size := by obtain ⟨m, hm⟩ := k0; exact DataW.trod_lt m _ _ _ hm
  obtain ⟨fa0, n0, fc0, va0, vl0, vc0, ad0, len0, cap0, nx0, sq0, tx0, bs0, rs0, vs_0, kr0, rfl, w0, u0, y0⟩ := open_device (hval 0 39 v0 rfl rfl) h0
  obtain ⟨a1, rfl, rfl, rfl, w1⟩ := open_int Tryz.underlying3 (hval 1 3 v1 rfl rfl) h1
  obtain ⟨a2, rfl, rfl, rfl, w2⟩ := open_int Tryz.underlying3 (hval 2 3 v2 rfl rfl) h2
  clear hA0
  try simp only [List.append_nil] at hW'
  have hf := laidMetH.filter (fun x => x.1 == "loop.example/g00195/impl.fourHalvings") hL
  have hp : HalvIn W := Lib.tabIs_of_head (rest := []) (g := 1) (by kernel_rfl) (by kernel_rfl) Tryz.underlying294 Tryz.underlying185 (by kernel_rfl) (by kernel_rfl) hf
  refine (lawRdO_card fa0 n0 fc0 va0 vl0 vc0 ad0 len0 cap0 nx0 sq0 tx0 bs0 rs0 vs_0 kr0 a1 a2 w0 u0 y0 W hp).mono fun e W' ⟨he, hg⟩ => ?_
  subst he
  exact ⟨_, rfl, _, _, _, [], _, _, hW', trodAll_mk1 (shut_bool Tryz.underlying4 _), (trodAll_cons_mk (Below.trod laidOut (by kernel_rfl) (of_decide_eq_true (by kernel_rfl)) k0 hg lt0) (trodAll_cons_mk (shut_int Tryz.underlying3 w1) (trodAll_cons_mk (shut_int Tryz.underlying3 w2) trodAll_mk0))), (vars_cons (g := 1) (by kernel_rfl) (by kernel_rfl) Tryz.underlying294 Tryz.underlying185 hg vars_nil) _ _ hV, hg.frame _, fun h => by cases h⟩

set_option maxRecDepth 100000 in
theorem laid_met (os : Os) : laidMet Tryz.prog Rows.fnExactReadOfRow.laid (({ World.holding Tryz.prog os ⟨#[], #[], []⟩ with heap := ((World.holding Tryz.prog os ⟨#[], #[], []⟩).heap.modify 1 fun | .cells _ t frozen => .cells #[.int .u32 0, .int .u32 1166650509, .int .u32 2333301018, .int .u32 3466261911, .int .u32 3189058079, .int .u32 4221339282, .int .u32 889615109, .int .u32 1888477064, .int .u32 3558460437, .int .u32 2442158232, .int .u32 1594529039, .int .u32 444807554, .int .u32 1779230218, .int .u32 797264519, .int .u32 3776954128, .int .u32 2761298845] t frozen | o => o) } : World).forCall (fun _ _ => 0) ⟨#[], #[.agg #[.slice none 0 0, .slice none 0 0, .slice none 0 0, .int .i64 0, .int .i64 0, .int .i64 0, .int .i64 0], .int .i64 0, .int .i64 0], []⟩).memory :=
  laidMet_of_run' 8 (by kernel_rfl) (by kernel_rfl)
set_option maxRecDepth 100000 in
theorem reads (os : Os) {H : Type} (enc : TypeId × Value → H) : ∃ places, DataW.whole enc Tryz.prog (({ World.holding Tryz.prog os ⟨#[], #[], []⟩ with heap := ((World.holding Tryz.prog os ⟨#[], #[], []⟩).heap.modify 1 fun | .cells _ t frozen => .cells #[.int .u32 0, .int .u32 1166650509, .int .u32 2333301018, .int .u32 3466261911, .int .u32 3189058079, .int .u32 4221339282, .int .u32 889615109, .int .u32 1888477064, .int .u32 3558460437, .int .u32 2442158232, .int .u32 1594529039, .int .u32 444807554, .int .u32 1779230218, .int .u32 797264519, .int .u32 3776954128, .int .u32 2761298845] t frozen | o => o) } : World).forCall (fun _ _ => 0) ⟨#[], #[.agg #[.slice none 0 0, .slice none 0 0, .slice none 0 0, .int .i64 0, .int .i64 0, .int .i64 0, .int .i64 0], .int .i64 0, .int .i64 0], []⟩).memory Tryz.f5.params.toList Rows.fnExactReadOfSpec.vars false (#[.agg #[.slice none 0 0, .slice none 0 0, .slice none 0 0, .int .i64 0, .int .i64 0, .int .i64 0, .int .i64 0], .int .i64 0, .int .i64 0] : Array Value).toList 8 = some ([.agg [.agg [.nil], .agg [.nil, .agg [.nil], .lit (.int .i64 0)], .lit (.int .i64 0), .lit (.int .i64 0), .lit (.int .i64 0)], .lit (.int .i64 0), .lit (.int .i64 0)], [Rows.laid_loop_example_g00195_impl_fourHalvings], places) :=
  ⟨MemPlace.row ⟨1, 0, none⟩ 16, by kernel_rfl⟩

set_option maxRecDepth 100000 in
theorem lifted (os : Os) (started : os.Started) (H : Type) (enc : TypeId × Value → H) (F : Stop.Interp) :
    ReturnsInHanded {} Tryz.checked os 5 .any ((OpenSpec.ofChange Rows.fnExactReadOfSpec).preRow enc Tryz.prog Tryz.f5 Rows.fnExactReadOfRow.domain false Rows.fnExactReadOfRow.laid) (((OpenSpec.ofChange Rows.fnExactReadOfSpec).at F).post enc Tryz.prog Tryz.f5 false true false false) := by
  obtain ⟨places, hx⟩ := reads os enc
  refine returnsInHanded_of_row (C := Tryz.checked) (s := OpenSpec.ofChange Rows.fnExactReadOfSpec) own started (by kernel_rfl) Tryz.func5
    (witness_row_at (enc := enc) (C := Tryz.checked) false ({ World.holding Tryz.prog os ⟨#[], #[], []⟩ with heap := ((World.holding Tryz.prog os ⟨#[], #[], []⟩).heap.modify 1 fun | .cells _ t frozen => .cells #[.int .u32 0, .int .u32 1166650509, .int .u32 2333301018, .int .u32 3466261911, .int .u32 3189058079, .int .u32 4221339282, .int .u32 889615109, .int .u32 1888477064, .int .u32 3558460437, .int .u32 2442158232, .int .u32 1594529039, .int .u32 444807554, .int .u32 1779230218, .int .u32 797264519, .int .u32 3776954128, .int .u32 2761298845] t frozen | o => o) } : World) #[.agg #[.slice none 0 0, .slice none 0 0, .slice none 0 0, .int .i64 0, .int .i64 0, .int .i64 0, .int .i64 0], .int .i64 0, .int .i64 0] rfl (by kernel_rfl) (by kernel_rfl) (by kernel_rfl)
      (OpenSpec.preRow_of_cond 8 hx (by kernel_rfl) (fun k hk => by cases hk) (by kernel_rfl) (laid_met os))) ?_
  intro W base args ds gs before hval hW _ _ _ hL _ _
  exact contract H enc W base args ds gs before hval hW hL

theorem said : Rows.FnExactReadOfSaid :=
  OpenClaim.holds_of_cond 5 Tryz.f5 rfl rfl rfl rfl rfl rfl rfl ⟨rfl, rfl, rfl, rfl, rfl⟩ rfl rfl rfl rfl rfl (by kernel_rfl) Tryz.func5 (by kernel_rfl)
    (of_decide_eq_true (by kernel_rfl)) (by unfold Func.isWrapper; first | (rw [if_pos (by decide +kernel)]; kernel_rfl) | (rw [if_neg (by decide +kernel)]; exact ⟨rfl, rfl⟩))
    (fun os started H enc _ F => by rw [OpenClaim.pre_eq_preRow]; exact lifted os started H enc F)

theorem stands (t : TypeId) (h : t ∈ Tryz.f5.params) : Tryz.prog.wantsStandIn t = false := by
  rw [Tryz.params5] at h
  match t, (by simpa using h : t = 39 ∨ t = 3) with
  | 39, _ => exact (show Tryz.prog.wantsStandIn 39 = false by kernel_rfl)
  | 3, _ => exact (show Tryz.prog.wantsStandIn 3 = false by kernel_rfl)

theorem plain (f : FuncId) (fn : Func) (hf : Tryz.pinned.checked.prog.funcNamed Rows.fnExactReadOfRow.func = some f) (hfn : Tryz.pinned.checked.prog.funcs[f]? = some fn) :
    true = Tryz.pinned.checked.prog.looks [] ∧ ∀ (j : Nat) t, fn.params[j]? = some t → Tryz.pinned.checked.prog.wantsStandIn t = false := by
  obtain rfl : f = 5 := Option.some.inj ((show Tryz.prog.funcNamed Rows.fnExactReadOfRow.func = some 5 by kernel_rfl).symm.trans hf) |>.symm
  obtain rfl : fn = Tryz.f5 := (Option.some.inj (Tryz.func5.symm.trans hfn)).symm
  exact ⟨by kernel_rfl, fun j t ht => stands t (Array.mem_of_getElem? ht)⟩

theorem card : Rows.FnExactReadOfCardSaid :=
  Claim7.holds_tied_plain_at .later [] _ _ _ _ said (fun _ h => by cases h) (by kernel_rfl) (fun _ h => by cases h) fnExactReadOf_row_tie rfl ⟨rfl, rfl⟩ (by kernel_rfl) rfl plain (by kernel_rfl)
end Go.Proofs.YtcjgjkejhkhknacGreatDoor.fnExactReadOf
namespace Go.Proofs.YtcjgjkejhkhknacGreatDoor
theorem fnExactReadOf_holds : Rows.FnExactReadOfCardSaid := fnExactReadOf.card
end Go.Proofs.YtcjgjkejhkhknacGreatDoor
