/-
  IMeth; LastC
-/
import Derived.Test.YtcnaahajaaifjacGreatIIns
import Derived.Test.YtcnaahajaaifjacGreatPk12
/-
  dropVol.
-/
namespace Go.Proofs.YtcnaahajaaifjacGreat
open Go.RowKit
open Words

theorem KIn.grownV {lo hi : Nat} {v : Value} {rs : List Kw} {W y : World} {row : Option Nat} (h : KIn lo hi v rs W) (hg : W.grownBy y row) (hr : ∀ g, row = some g → ∃ cs, W.heap[g]? = some (.cells cs 69 (0, 0))) : KIn lo hi v rs y := by
  have far : ∀ {t : TypeId} {lo hi n : Nat} {u : Value} {xs : List Value}, t ≠ 69 → Sli t lo hi u n xs W → Sli t lo hi u n xs y := fun ht hs => hs.grown hg (fun g e e2 => by
    obtain ⟨cs, q⟩ := hr g e2
    exact sli_ne hs q ht e)
  exact ⟨far (by decide) h.1, fun r hrr => ⟨far (by decide) (h.2.1 r hrr).1, (h.2.1 r hrr).2⟩, h.2.2⟩
theorem KnH.grown {w W y : World} {kv : Value} {M : List Kn} {row : Option Nat} (h : KnH w W kv M) (hg : W.grownBy y row) (hr : ∀ g, row = some g → ∃ cs, W.heap[g]? = some (.cells cs 69 (0, 0))) : KnH w y kv M := by
  obtain ⟨ad, len, cap, rs, rfl, h3, h4, h5, h6⟩ := h
  refine ⟨ad, len, cap, rs, rfl, h3, h4, h5, ?_⟩
  rcases h6 with h | ⟨lo, hi, q1, q2, q3, q4⟩
  · exact .inl h
  · exact .inr ⟨lo, hi, q1, Nat.le_trans q2 hg.size, q3.grownV hg hr, q4⟩
/-- The volumes' row is worked on. -/
theorem OpD.grown {w W y : World} {p : Nat} {s : Sto} {kv vv vv' : Value} {vs : List (Int × Int)} (h : OpD w W p s kv vv) (hg : W.grownBy y vv.ownBlock) (ho : y.ownsRow w.heap.size 69 2 vv' vs.length (vlcells vs)) : y.heap[p]? = some (.cells #[kv, vv, .int .i64 s.next] 96 (0, 0)) ∧ OpD w (y.setCell ⟨p, 1, none⟩ vv') p ⟨vs, s.kns, s.next⟩ kv vv' := by
  obtain ⟨h1, h2, h3, h4, h5⟩ := h
  have hk : ∀ g, vv.ownBlock = some g → ∃ cs, W.heap[g]? = some (.cells cs 69 (0, 0)) := fun g e => (own_kind h4 g e).2.2
  have hp := (Array.getElem?_eq_some_iff.1 h3).1
  have e : y.heap[p]? = some (.cells #[kv, vv, .int .i64 s.next] 96 (0, 0)) := (hg.block p hp (fun e => by
    obtain ⟨cs, q⟩ := hk p e.symm
    rw [h3] at q
    injection q with q
    injection q with _ q
    simp at q)).trans h3
  have hb := h1.grown hg h1.size (fun q hq => (h4.lt q hq).1)
  exact ⟨e, hb.setCell (p := ⟨p, 1, none⟩) h2 _, h2, row_set e 1 _, own_other ho e (by decide), (h5.grown hg hk).other e (by decide) (by decide)⟩
theorem OpD.open {w W : World} {p : Nat} {s : Sto} {kv vv : Value} (h : OpD w W p s kv vv) : ∃ va vc, vv = .slice va s.vols.length vc ∧ VlRow W va s.vols.length s.vols ∧ (0 < s.vols.length → ∃ g, va = some ⟨g, 0, none⟩) := by
  obtain ⟨h1, h2, h3, h4, h5⟩ := h
  obtain ⟨va, vc, rfl, hv⟩ := VlRow.of_own rfl h4
  refine ⟨va, vc, rfl, hv, fun h0 => ?_⟩
  obtain ⟨va', vc', e, hh⟩ := (Sli.of h4).form
  injection e with e1 e2 e3
  obtain ⟨g, e4, -⟩ := hh h0
  exact ⟨g, by rw [e1, e4]⟩
/-- What a method that may refuse answers. -/
def MtOut (w : World) (p : Nat) (ok : Bool) (s : Sto) (e : Ending) (w' : World) : Prop := e = .returned (.bool ok) ∧ OpS w w' p s
/-- A store without the k'th volume. -/
def dropS (s : Sto) (k : Nat) : Sto := ⟨s.vols.take k ++ s.vols.drop (k + 1), s.kns, s.next⟩
set_option maxHeartbeats 1000000 in
set_option maxRecDepth 100000 in
theorem idropV (p : Nat) (s : Sto) (id : Int) (w W : World) (hn : s.vols.length ≤ 1048576) (hasc : s.vols.Pairwise (fun u v => u.1 < v.1)) (h : OpS w W p s) :
    Calls Tryz.prog 67 #[.pointer (some ⟨p, 0, none⟩), .int .i64 id] W fun e w' => match atV s.vols id with
      | none => MtOut w p false s e w'
      | some k => MtOut w p true (dropS s k) e w' := by
  obtain ⟨kv, vv, hd⟩ := h.d
  obtain ⟨va, vc, rfl, hv, hva⟩ := hd.open
  obtain ⟨n, hnn⟩ : ∃ n, s.vols.length = n := ⟨_, rfl⟩
  rw [hnn] at hv hn hva hd
  have HNN := hide hnn
  have BA : Hid (Below W.heap.size W (W.alloc (.cells #[.int .i64 id] 3))) := (Below.refl _ _).alloc (Nat.le_refl _) _
  have HD := hide (hd.below BA.out)
  have HV := hide (hv.below BA.out)
  have HC := hide (heap_alloc_new W (.cells #[.int .i64 id] 3))
  have HA := hide hasc
  clear h hd hv hnn hasc
  have CASE : ∀ o, atV s.vols id = o → Calls Tryz.prog 67 #[.pointer (some ⟨p, 0, none⟩), .int .i64 id] W fun e w' => match o with
      | none => MtOut w p false s e w'
      | some k => MtOut w p true (dropS s k) e w' := by
    intro o ho
    have HOE := hide ho
    clear ho
    go_enter Tryz.func67, Tryz.ntmps67
    go_wp2_with fail
    generalize W.alloc (.cells #[.int .i64 id] 3) = wb at BA HD HV HC ⊢
    obtain ⟨-, c1, -, -, f1, -⟩ := ops_cells HD.out.2.2.1
    obtain ⟨cb, hcb⟩ : ∃ cb, W.heap.size = cb := ⟨_, rfl⟩
    rw [hcb] at HC ⊢
    have c2 : wb.cell? ⟨cb, 0, none⟩ = some (.int .i64 id) := cell_of_row _ _ 0 _ _ _ HC.out
    clear hcb BA
    have BD : Hid (Below wb.heap.size wb wb.drew) := (Below.refl _ _).drew
    have CV := hide (ivolAt va n vc s.vols id wb.drew hn (HV.out.below BD.out))
    rw [HOE.out] at CV
    have KP := hide (show wb.drew.cell? ⟨p, 1, none⟩ = some (.slice va n vc) ∧ wb.drew.cell? ⟨cb, 0, none⟩ = some (.int .i64 id) from ⟨c1, c2⟩)
    cases o with
    | none =>
      unfold volP at CV
      go_region_held3 (fun w' => w'.cell? ⟨p, 1, none⟩ = some (.slice va n vc) ∧ w'.cell? ⟨cb, 0, none⟩ = some (.int .i64 id)) (first | exact KP.out | go_keep) ((go_at_call 81; (with_reducible refine Calls.mono CV.out ?_); rintro en w1 ⟨rfl, rfl⟩))
      have FIN : Hid (MtOut w p false s (.returned (.bool false)) wb.drew) := ⟨rfl, (HD.out.below BD.out).s⟩
      go_wp2
      go_ret
      exact FIN.out
    | some k =>
      obtain ⟨v, hk, hid⟩ := atV_some HOE.out
      obtain ⟨g, rfl⟩ := hva (by have := (List.getElem?_eq_some_iff.1 hk).1; have := HNN.out; omega)
      have ev : volP (some ⟨g, 0, none⟩) (some k) = .pointer (some ⟨g, k * 2, none⟩) := by simp [volP]
      rw [ev] at CV
      go_region_held3 (fun w' => w'.cell? ⟨p, 1, none⟩ = some (.slice (some ⟨g, 0, none⟩) n vc) ∧ w'.cell? ⟨cb, 0, none⟩ = some (.int .i64 id)) (first | exact KP.out | go_keep) ((go_at_call 81; (with_reducible refine Calls.mono CV.out ?_); rintro en w1 ⟨rfl, rfl⟩))
      have HD2 := hide (HD.out.below BD.out)
      have HOW := hide HD2.out.2.2.2.1
      rw [HNN.out] at HOW
      have CD := hide (idelF w.heap.size g n vc cb k id s.vols v wb.drew HNN.out hn HOW.out HC.out hk hid (fun j u hj e => asc_uniq HA.out hj hk (by omega)))
      have d1 : wb.drew.cell? ⟨p, 1, none⟩ = some (.slice (some ⟨g, 0, none⟩) n vc) := c1
      have HKL := hide (List.getElem?_eq_some_iff.1 hk).1
      clear ev CV KP c1 c2 f1 hk
      go_wp2_with fail
      refine CD.out.mono ?_
      rintro e w2 ⟨c', rfl, o2, g2⟩
      obtain ⟨hp2, hop⟩ := HD2.out.grown (vs := s.vols.take k ++ s.vols.drop (k + 1)) g2 (by
        have e : (s.vols.take k ++ s.vols.drop (k + 1)).length = n - 1 := by have := HKL.out; have := HNN.out; simp; omega
        rw [e]
        exact o2)
      obtain ⟨-, e1, -, -, f1, -⟩ := ops_cells hp2
      have FIN : Hid (MtOut w p true (dropS s k) (.returned (.bool true)) (w2.setCell ⟨p, 1, none⟩ (.slice (some ⟨g, 0, none⟩) (n - 1) c'))) := ⟨rfl, hop.s⟩
      clear o2 g2 hp2 hop CD
      go_wp2
      go_ret
      exact FIN.out
  exact CASE _ rfl
end Go.Proofs.YtcnaahajaaifjacGreat

/-
  A region that draws, whose last operation waits for all the others, for some of them by way of another one.
-/
namespace Go.Proofs.YtcnaahajaaifjacGreat
open Go Go.RowKit

/-- Does one operation wait for another? -/
def waitB (o : Oper) (i : Nat) : Bool := o.after.any fun e => Region.binds .any e && e.on == i
def lastC (ops : Array Oper) (o : Oper) : Bool :=
  ((List.range ops.size).all fun i => waitB o i || (List.range ops.size).any fun j => waitB o j && (match ops[j]? with | some oj => waitB oj i | none => false)) &&
  ((List.range ops.size).all fun j => match ops[j]? with
    | some oj => (oj.after.all fun e => !Region.binds .any e || decide (e.on < j)) && (match oj.guard with | none => true | some (k, _) => decide (k < ops.size))
    | none => true) &&
  (o.after.all fun e => !Region.binds .any e || decide (e.on < ops.size)) &&
  o.guard.isNone
theorem waitB_spec {o : Oper} {i : Nat} (h : waitB o i = true) : ∃ e ∈ o.after, Region.binds .any e = true ∧ e.on = i := by
  unfold waitB at h
  simp only [Array.any_eq_true', Bool.and_eq_true, beq_iff_eq] at h
  obtain ⟨e, he, hb, ho⟩ := h
  exact ⟨e, he, hb, ho⟩
theorem lastC_spec {ops : Array Oper} {o : Oper} (h : lastC ops o = true) : (∀ i, i < ops.size → (∃ e ∈ o.after, Region.binds .any e = true ∧ e.on = i) ∨ ∃ j oj, ops[j]? = some oj ∧ (∃ e ∈ o.after, Region.binds .any e = true ∧ e.on = j) ∧ ∃ e ∈ oj.after, Region.binds .any e = true ∧ e.on = i) ∧ (∀ j oj, ops[j]? = some oj → (∀ e ∈ oj.after, Region.binds .any e = true → e.on < j) ∧ ∀ k b, oj.guard = some (k, b) → k < ops.size) ∧ o.guard = none ∧ ∀ e ∈ o.after, Region.binds .any e = true → e.on < ops.size := by
  unfold lastC at h
  simp only [Bool.and_eq_true, List.all_eq_true, List.mem_range, Option.isNone_iff_eq_none, Bool.or_eq_true, List.any_eq_true] at h
  obtain ⟨⟨⟨h1, h2⟩, h4⟩, h3⟩ := h
  refine ⟨fun i hi => ?_, fun j oj hj => ?_, h3, fun e he hb => ?_⟩
  · rcases h1 i hi with q | ⟨j, hj, q1, q2⟩
    · exact .inl (waitB_spec q)
    · cases hjo : ops[j]? with
      | none => rw [hjo] at q2; cases q2
      | some oj =>
        rw [hjo] at q2
        exact .inr ⟨j, oj, hjo, waitB_spec q1, waitB_spec q2⟩
  · have hlt := (Array.getElem?_eq_some_iff.1 hj).1
    have := h2 j hlt
    rw [hj] at this
    simp only [Bool.and_eq_true, Array.all_eq_true_iff_forall_mem, Bool.or_eq_true, Bool.not_eq_true', decide_eq_true_eq] at this
    refine ⟨fun e he hb => ?_, fun k b hg => ?_⟩
    · rcases this.1 e he with q | q
      · rw [hb] at q; cases q
      · exact q
    · have q := this.2
      rw [hg] at q
      simpa using q
  · have := Array.all_eq_true_iff_forall_mem.1 h4 e he
    simp only [Bool.or_eq_true, Bool.not_eq_true', decide_eq_true_eq] at this
    rcases this with q | q
    · rw [hb] at q; cases q
    · exact q
/-- What has come up has all that it waits for behind it. -/
def ShutB (ops : Array Oper) (listed : Array Bool) : Prop := ∀ j oj, ops[j]? = some oj → listed.getD j false = true → ∀ e ∈ oj.after, Region.binds .any e = true → listed.getD e.on false = true
theorem shut_none (ops : Array Oper) (n : Nat) : ShutB ops (Array.replicate n false) := by
  intro j oj _ h
  rw [Array.getD_eq_getD_getElem?] at h
  by_cases hj : j < n
  · rw [Array.getElem?_eq_getElem (by simpa using hj)] at h
    simp at h
  · rw [Array.getElem?_eq_none (by simpa using hj)] at h
    cases h
theorem ShutB.step {ops : Array Oper} {listed : Array Bool} {j : Nat} (h : ShutB ops listed) (hr : j ∈ Region.ready .any ops listed) : ShutB ops (listed.setIfInBounds j true) := by
  rw [mem_ready] at hr
  obtain ⟨q1, oj, q2, q3⟩ := hr
  have up : ∀ k, listed.getD k false = true → (listed.setIfInBounds j true).getD k false = true := fun k hk => by
    by_cases e : j = k
    · subst e
      rw [Array.getD_eq_getD_getElem?] at hk ⊢
      by_cases hl : j < listed.size
      · rw [Array.getElem?_setIfInBounds_self_of_lt hl]; rfl
      · rw [Array.getElem?_eq_none (by omega)] at hk; cases hk
    · rw [getD_set_ne false e]; exact hk
  intro k ok hk hl e he hb
  by_cases ej : j = k
  · subst ej
    rw [q2] at hk
    cases hk
    exact up _ (q3 e he hb)
  · rw [getD_set_ne false ej] at hl
    exact up _ (h k ok hk hl e he hb)
theorem wpAny_lastC {P : Program} {ops : Array Oper} {o : Oper} {Q : Exit → Act → World → Prop} (h : lastC ops o = true) : ∀ (fuel : Nat) (listed : Array Bool) (a : Act) (w : World), listed.size = ops.size → ShutB ops listed →
    wpAny P .any ops (Qlast P o Q) fuel listed a w → wpAny P .any (ops.push o) Q (fuel + 1) (listed.push false) a w := by
  obtain ⟨h1, h2, h3, h4⟩ := lastC_spec h
  have rd : ∀ (listed : Array Bool) (j : Nat), listed.size = ops.size → ShutB ops listed → j ∈ Region.ready .any (ops.push o) (listed.push false) → (j < ops.size ∧ j ∈ Region.ready .any ops listed) ∨ (j = ops.size ∧ ∀ i, i < ops.size → listed.getD i false = true) := by
    intro listed j hs hcl hj
    rw [mem_ready] at hj
    obtain ⟨q1, oj, q2, q3⟩ := hj
    by_cases hlt : j < ops.size
    · left
      rw [Array.getElem?_push_lt hlt] at q2
      rw [getD_push (by omega)] at q1
      refine ⟨hlt, mem_ready.2 ⟨q1, oj, by rw [Array.getElem?_eq_getElem hlt]; exact q2, fun e he hb => ?_⟩⟩
      have := q3 e he hb
      rwa [getD_push_false] at this
    · right
      have hj2 : j < (ops.push o).size := (Array.getElem?_eq_some_iff.1 q2).1
      simp only [Array.size_push] at hj2
      have e : j = ops.size := by omega
      subst e
      simp only [Array.getElem?_push_size, Option.some.injEq] at q2
      subst q2
      refine ⟨rfl, fun i hi => ?_⟩
      rcases h1 i hi with ⟨e, he, hb, ho⟩ | ⟨t, ot, ht, ⟨e, he, hb, ho⟩, e', he', hb', ho'⟩
      · have := q3 e he hb
        rw [getD_push_false, ho] at this
        exact this
      · have := q3 e he hb
        rw [getD_push_false, ho] at this
        have := hcl t ot ht this e' he' hb'
        rw [ho'] at this
        exact this
  have last : ∀ (listed : Array Bool), listed.size = ops.size → (∀ i, i < ops.size → listed.getD i false = true) → Region.ready .any ops listed = [] := by
    intro listed hs hall
    rw [List.eq_nil_iff_forall_not_mem]
    intro j hj
    rw [mem_ready] at hj
    obtain ⟨q1, oj, q2, -⟩ := hj
    have hlt := (Array.getElem?_eq_some_iff.1 q2).1
    have := hall j hlt
    have hl2 : j < listed.size := by omega
    simp [hl2] at q1 this
    rw [q1] at this
    cases this
  have stepN : ∀ (fuel : Nat) (listed : Array Bool) (a : Act) (w : World), listed.size = ops.size → (∀ i, i < ops.size → listed.getD i false = true) → wpList P #[] Q [o] a w → wpOp P (ops.push o) Q ops.size (wpAny P .any (ops.push o) Q fuel ((listed.push false).setIfInBounds ops.size true)) a w := by
    intro fuel listed a w hs hall hq
    have hdone : Region.ready .any (ops.push o) ((listed.push false).setIfInBounds ops.size true) = [] := by
      rw [List.eq_nil_iff_forall_not_mem]
      intro j hj
      rw [mem_ready] at hj
      obtain ⟨q1, oj, q2, -⟩ := hj
      have hlt := (Array.getElem?_eq_some_iff.1 q2).1
      simp only [Array.size_push] at hlt
      by_cases e : ops.size = j
      · subst e
        have : ops.size < (listed.push false).size := by simp [hs]
        rw [Array.getD_eq_getD_getElem?, Array.getElem?_setIfInBounds_self_of_lt this] at q1
        cases q1
      · rw [getD_set_ne true e, getD_push (by omega)] at q1
        have hl := hall j (by omega)
        have hl2 : j < listed.size := by omega
        simp [hl2] at q1 hl
        rw [q1] at hl
        cases hl
    unfold wpOp
    simp only [Array.getElem?_push_size, Region.wanted, h3, if_true]
    simp only [wpList, Region.wanted, h3, if_true] at hq
    exact hq.imp (Oper.wp_mono (fun a' w' hk => wpAny_done hdone hk fuel)) id
  have isR : ∀ (listed : Array Bool), listed.size = ops.size → (∀ i, i < ops.size → listed.getD i false = true) → ops.size ∈ Region.ready .any (ops.push o) (listed.push false) := by
    intro listed hs hall
    rw [mem_ready]
    refine ⟨by simp [← hs], o, by simp, fun e he hb => ?_⟩
    rw [getD_push_false]
    exact hall e.on (h4 e he hb)
  have up : ∀ (listed : Array Bool) (j : Nat), listed.size = ops.size → j ∈ Region.ready .any ops listed → j ∈ Region.ready .any (ops.push o) (listed.push false) := by
    intro listed j hs hj
    rw [mem_ready] at hj ⊢
    obtain ⟨q1, oj, q2, q3⟩ := hj
    have hlt := (Array.getElem?_eq_some_iff.1 q2).1
    refine ⟨by rw [getD_push (by omega)]; exact q1, oj, by rw [Array.getElem?_push_lt hlt, ← Array.getElem?_eq_getElem hlt]; exact q2, fun e he hb => ?_⟩
    rw [getD_push_false]
    exact q3 e he hb
  have yl : ∀ (tmps : Array Value) (k : Nat), k < ops.size → yielded (ops.push o) tmps k = yielded ops tmps k := by
    intro tmps k hk
    unfold yielded
    rw [Array.getElem?_push_lt hk, ← Array.getElem?_eq_getElem hk]
  have wn : ∀ (oj : Oper) (j : Nat) (tmps : Array Value), ops[j]? = some oj → Region.wanted oj (yielded (ops.push o) tmps) = Region.wanted oj (yielded ops tmps) := by
    intro oj j tmps hj
    unfold Region.wanted
    cases hg : oj.guard with
    | none => rfl
    | some kb =>
      obtain ⟨k, b⟩ := kb
      simp only
      rw [yl tmps k ((h2 j oj hj).2 k b hg)]
  have opU : ∀ (j : Nat) (K : Act → World → Prop) (a : Act) (w : World), j < ops.size → wpOp P ops (Qlast P o Q) j K a w → wpOp P (ops.push o) Q j K a w := by
    intro j K a w hj hq
    have hjo : ops[j]? = some ops[j] := Array.getElem?_eq_getElem hj
    unfold wpOp at *
    rw [Array.getElem?_push_lt hj]
    rw [hjo] at hq
    simp only at hq ⊢
    rw [wn _ j a.tmps hjo]
    split
    · rename_i hw
      simp only [hw, if_true] at hq
      exact hq.imp (fun q => upon_last q) (fun q => ⟨q.1, LetsOut.last q.2⟩)
    · rename_i hw
      simp only [hw] at hq
      exact hq
  intro fuel
  induction fuel with
  | zero =>
    intro listed a w hs hcl H
    have hall := ready_all hs (fun j oj hj => (h2 j oj hj).1) H.1
    refine ⟨fun hr => ?_, fun j hj => ?_⟩
    · have := isR listed hs hall
      rw [hr] at this
      cases this
    · rcases rd listed j hs hcl hj with ⟨-, q⟩ | ⟨rfl, q⟩
      · rw [H.1] at q; cases q
      · exact stepN 0 listed a w hs q H.2
  | succ fuel ih =>
    intro listed a w hs hcl H
    refine ⟨fun hr => ?_, fun j hj => ?_⟩
    · cases hrr : Region.ready .any ops listed with
      | nil =>
        have := isR listed hs (ready_all hs (fun j oj hj => (h2 j oj hj).1) hrr)
        rw [hr] at this
        cases this
      | cons k ks =>
        have := up listed k hs (by rw [hrr]; simp)
        rw [hr] at this
        cases this
    · rcases rd listed j hs hcl hj with ⟨hlt, q⟩ | ⟨rfl, q⟩
      · have h5 := opU j _ a w hlt (H.2 j q)
        refine wpOp_mono (fun a' w' hk => ?_) h5
        have h6 := ih (listed.setIfInBounds j true) a' w' (by simpa using hs) (hcl.step q) hk
        have e : (listed.push false).setIfInBounds j true = (listed.setIfInBounds j true).push false := by
          apply Array.ext'
          rw [Array.toList_setIfInBounds, Array.toList_push, Array.toList_push, Array.toList_setIfInBounds, List.set_append_left _ _ (by rw [Array.length_toList]; omega)]
        rw [e]
        exact h6
      · exact stepN (fuel + 1) listed a w hs q (H.1 (last listed hs q))
/-- A region that draws, its last operation behind the others. -/
theorem wp_region_lastC {P : Program} {id : Nat} {l : List Oper} {o : Oper} {Q : Exit → Act → World → Prop} {S : World → Prop} {a : Act} {w : World} (hm : P.follows .mixedOrders = true) (h : lastC l.toArray o = true) (hS : S w.drew)
    (hh : S w.drew → wpAnyH P .any l.toArray (Qlast P o Q) S l.length (Array.replicate l.length false) a w.drew) : (Code.region id (l ++ [o]).toArray true).wp P Q a w := by
  refine wp_region_any hm ?_
  have e1 : (l ++ [o]).toArray = l.toArray.push o := by simp
  have e2 : (l ++ [o]).toArray.size = l.length + 1 := by simp
  rw [e2, e1]
  have e3 : Array.replicate (l.length + 1) false = (Array.replicate l.length false).push false := by rw [Array.replicate_succ]
  rw [e3]
  exact wpAny_lastC h l.length _ a _ (by simp) (shut_none _ _) (wpAny_of_held _ _ _ _ (hh hS))
theorem wp_region_lastC2 {P : Program} {id : Nat} (n : Nat) {l : List Oper} {o : Oper} {Q : Exit → Act → World → Prop} {S : World → Prop} {a : Act} {w : World} (hm : P.follows .mixedOrders = true) (ho : l.drop n = [o]) (h : lastC l.dropLast.toArray o = true) (hS : S w.drew)
    (hh : S w.drew → wpAnyH P .any l.dropLast.toArray (Qlast P o Q) S l.dropLast.length (Array.replicate l.dropLast.length false) a w.drew) : (Code.region id l.toArray true).wp P Q a w := by
  have e : l = l.dropLast ++ [o] := by
    have := List.take_append_drop n l
    rw [ho] at this
    rw [← this, List.dropLast_concat]
  have := wp_region_lastC (id := id) (Q := Q) (S := S) hm h hS hh
  rw [← e] at this
  exact this
end Go.Proofs.YtcnaahajaaifjacGreat
