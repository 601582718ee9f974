/-
  spec.l11Copy.
-/
import Derived.Test.YtcnaahajaaifjacGreatPk7
import Derived.Test.YtcnaahajaaifjacGreatPk12
import Derived.Deep.RegionHeld3
import Derived.Deep.DeepCutAuto
import Derived.Laws.AppendOwnNone
namespace Go.Proofs.YtcnaahajaaifjacGreat
open Go.RowKit
open Words

theorem infoArc : (Tryz.prog.info? 34).map (·.size) = some 1 := by kernel_rfl
/-- A copy under way. -/
def CpSt (w W : World) (z : Nat) (av ov : Value) (ss : List Kw) : Prop := W.heap[z]? = some (.cells #[av] 34 (0, 0)) ∧ W.heap[z + 1]? = some (.cells #[.slice none 0 0] 34 (0, 0)) ∧ W.heap[z + 2]? = some (.cells #[ov] 34 (0, 0)) ∧ KOwn W (z + 3) ov ss ∧ Below z w W

theorem KOwn.cellB {W : World} {B : Nat} {v : Value} {rs : List Kw} (h : KOwn W B v rs) {g : Nat} (hg : g < B) (i : Nat) (u : Value) : KOwn (W.setCell ⟨g, i, none⟩ u) B v rs := by
  have e : (W.setCell ⟨g, i, none⟩ u).heap.size = W.heap.size := by simp [World.setCell]
  refine ⟨own_cell h.1 hg i u, fun r hr => ⟨?_, (h.2.1 r hr).2⟩, h.2.2⟩
  rw [e]
  exact (h.2.1 r hr).1.grown (grown_cell _ g i _) (fun q hq e2 => by
    have := ((h.2.1 r hr).1.lt q hq).1
    cases e2
    omega)
theorem kn_new (W : World) (lf : Bool) (v : Value) : ∀ (j : Nat) (u : Value), [Value.bool lf, v][j]? = some u → (W.alloc (.cells #[.bool lf, v] 84)).cell? ((⟨W.heap.size, 0, none⟩ : Addr).add j) = some u := by
  intro j u hj
  match j, hj with
  | 0, hj | 1, hj =>
    simp at hj
    subst hj
    simp [Addr.add]
theorem kn_one (lf : Bool) (va : Option Addr) (n c : Nat) : ∀ u ∈ [Value.bool lf, Value.slice va n c], u.oneCell' = true := by
  intro u hu
  simp at hu
  rcases hu with h | h <;> subst h <;> rfl
theorem icells_one (l : List Int) : ∀ u ∈ icells l, u.oneCell' = true := by
  intro u hu
  obtain ⟨x, -, rfl⟩ := List.mem_map.1 hu
  rfl
theorem icells_back {l : List Int} {j : Nat} {u : Value} (h : (icells l)[j]? = some u) : ∃ x, l[j]? = some x ∧ u = .int .i64 x := by
  rw [icells, List.getElem?_map] at h
  obtain ⟨x, hx, rfl⟩ := Option.map_eq_some_iff.1 h
  exact ⟨x, hx, rfl⟩
theorem IRow.cells {w : World} {b off len : Nat} {ls : List Int} (h : IRow w (some ⟨b, off, none⟩) len ls) (j : Nat) (u : Value) (hj : (icells ls)[j]? = some u) : w.cell? ((⟨b, off, none⟩ : Addr).add j) = some u := by
  obtain ⟨x, hx, rfl⟩ := icells_back hj
  obtain ⟨b', off', e, -, c⟩ := h.at hx
  injection e with e
  injection e with e1 e2
  subst e1 e2
  have ea : (⟨b, off, none⟩ : Addr).add j = ⟨b, off + j, none⟩ := by simp only [Addr.add]; split <;> simp_all
  rw [ea]
  exact c

/-- 'append(v, xs...)' of a row of numbers, wherever it lies; or of none. -/
theorem step_append_sl (w : World) {ops : Array Oper} {o : Oper} {a : Act} {K : Act → World → Prop} {Q : Exit → Act → World → Prop} {E : Prop} (hgd : o.guard = none) (s x : Operand)
    (ho : o.op = .call { callee := .builtin .append, args := #[s, x], argTypes := #[81, 81] })
    (base : Nat) (i : TypeInfo) (hi : Tryz.prog.info? 3 = some i) (hz : i.zero = some (.int .i64 0)) (hsize : i.size = 1) (hby : i.bytes = 8)
    (v : Value) (n : Nat) (xs : List Value) (hs : a.eval s = v) (hown : w.ownsRow base 3 1 v n xs)
    (ls : List Int) (m : Nat) (hm : ls.length = m) (u : Value) (hx : a.eval x = u) (hsl : ISl w u ls) (h63 : n + m ≤ maxLen) (hbytes : (n + m) * 8 ≤ 140737488355328) (hbase : base ≤ w.heap.size)
    (h : ∀ v' w', w'.ownsRow base 3 1 v' (n + m) (xs ++ icells ls) → w.grownBy w' v.ownBlock → K (a.put o.dst v') w') :
    if Region.wanted o (yielded ops a.tmps) = true then Oper.wp Tryz.prog o a w K Q else E := by
  subst hm
  obtain ⟨ad, c, rfl, h0, hr⟩ := hsl
  cases ls with
  | nil =>
    cases ad with
    | none =>
      rw [h0 rfl] at hx
      have hw : Region.wanted o (yielded ops a.tmps) = true := by simp [Region.wanted, hgd]
      rw [if_pos hw]
      have hrun := run_append_owned_none (P := Tryz.prog) (w := w) base 81 o.type 3 i 1 Tryz.underlying81 hi v n xs hown
      unfold Oper.wp execOp
      simp only [ho, resolve, invoke, builtin, Sem.run_bind, Sem.run_pure, Result.andThen_ok, List.map_toArray, List.map_cons, List.map_nil, hs, hx, List.length_nil, hrun]
      exact h v w (by simpa [icells] using hown) (World.grownBy.refl _ _)
    | some q => exact step_append_own w hgd s x 81 ho base 3 i (.int .i64 0) 1 8 Tryz.underlying81 hi hz hsize hby rfl (by decide) v n xs hs hown q 0 c [] hx rfl (fun _ _ e => by simp at e) (fun _ e => by cases e) h63 hbytes hbase h
  | cons y l =>
    obtain ⟨b, off, e, -, hc⟩ := hr.2.2 (by simp)
    subst e
    exact step_append_own w hgd s x 81 ho base 3 i (.int .i64 0) 1 8 Tryz.underlying81 hi hz hsize hby rfl (by decide) v n xs hs hown ⟨b, off, none⟩ _ c (icells (y :: l)) hx (by simp [icells]) hr.cells (icells_one _) h63 hbytes hbase h

set_option maxHeartbeats 2000000 in
set_option maxRecDepth 100000 in
theorem skcopy (ad : Option Addr) (len cap : Nat) (rs : List Kw) (w : World) (hl : len ≤ 1048578) (hll : ∀ r ∈ rs, r.2.2.length ≤ 1048576) (h : KnRd w ad len rs) :
    Calls Tryz.prog 32 #[.agg #[.slice ad len cap]] w fun e w' => ∃ v, e = .returned v ∧ KOut w (rs.map ktell) v w' := by
  have za : (w.alloc (.cells #[.slice ad len cap] 34)).heap.size = w.heap.size + 1 := by simp
  have zb : ((w.alloc (.cells #[.slice ad len cap] 34)).alloc (.cells #[.slice none 0 0] 34)).heap.size = w.heap.size + 1 + 1 := by simp
  have R0 := heap_alloc_new w (.cells #[.slice ad len cap] 34)
  have R1 := heap_alloc_new (w.alloc (.cells #[.slice ad len cap] 34)) (.cells #[.slice none 0 0] 34)
  have R2 := heap_alloc_new ((w.alloc (.cells #[.slice ad len cap] 34)).alloc (.cells #[.slice none 0 0] 34)) (.cells #[.slice none 0 0] 34)
  rw [za] at R1
  rw [zb] at R2
  have S0 : Hid (CpSt w (((w.alloc (.cells #[.slice ad len cap] 34)).alloc (.cells #[.slice none 0 0] 34)).alloc (.cells #[.slice none 0 0] 34)) w.heap.size (.slice ad len cap) (.slice none 0 0) []) :=
    ⟨(Below.heap_alloc _ _ _ (by simp; omega)).trans ((Below.heap_alloc _ _ _ (by simp)).trans R0), (Below.heap_alloc _ _ _ (by simp)).trans R1, R2, KOwn.nil _ _, (((Below.refl _ _).alloc (Nat.le_refl _) _).alloc (by simp) _).alloc (by simp; omega) _⟩
  have H := hide h
  have H1 := hide h.1
  have HLL := hide hll
  clear za zb R0 R1 R2 h hll
  go_enter Tryz.func32, Tryz.ntmps32
  go_wp2
  generalize ((w.alloc (.cells #[.slice ad len cap] 34)).alloc (.cells #[.slice none 0 0] 34)).alloc (.cells #[.slice none 0 0] 34) = wa at S0 ⊢
  obtain ⟨z, hz⟩ : ∃ z, w.heap.size = z := ⟨_, rfl⟩
  rw [hz] at S0 ⊢
  have HZ := hide hz
  clear hz
  go_loopw [4] (fun iv W => ∃ (k : Nat) (ov : Value) (ss : List Kw), k ≤ len ∧ iv = .int .i64 k ∧ ss.length ≤ k ∧ Hid (ss.map ktell = (rs.map ktell).take k) ∧ Hid (CpSt w W z (.slice ad len cap) ov ss)) (fun iv _ => len - (intOf iv).toNat)
  case atStart => exact ⟨0, _, [], Nat.zero_le _, rfl, Nat.zero_le _, by show _ = _; simp, S0⟩
  case round =>
    obtain ⟨k, ov, ss, hk, rfl, hsk, HT, HS⟩ := hrel
    clear S0
    have a0 := cell_of_row _ _ 0 _ _ _ HS.out.1
    have o0 := cell_of_row _ _ 0 _ _ _ HS.out.2.2.1
    have fo := frozen_of_row _ _ 0 _ _ HS.out.2.2.1
    by_cases hlt : (k : Int) < len
    · obtain ⟨r, hr⟩ : ∃ r, rs[k]? = some r := ⟨_, List.getElem?_eq_getElem (by have := H1.out; omega)⟩
      obtain ⟨b, off, e, hb⟩ := H.out.adr (by omega)
      subst e
      have KR := hide (H.out.below (by rw [HZ.out]; exact HS.out.2.2.2.2))
      obtain ⟨c0, c1⟩ := KR.out.cell hr
      have hlr := HLL.out r (List.mem_of_getElem? hr)
      obtain ⟨ka, kc, hkv, hk0, kr⟩ := KR.out.2.2.1 r (List.mem_of_getElem? hr)
      obtain ⟨lf, kv, ls⟩ := r
      simp only at c0 c1 hlr hkv kr
      subst hkv
      have KSL : Hid (ISl wr (.slice ka ls.length kc) ls) := ⟨ka, kc, rfl, hk0, kr⟩
      have HT2 : Hid (ss.map ktell ++ [⟨lf, ls⟩] = (rs.map ktell).take (k + 1)) := by
        show _ = _
        rw [HT.out, List.take_add_one, kw_at hr]
        rfl
      have k0 : (0 : Int) ≤ k := by omega
      obtain ⟨kl, hkl⟩ : ∃ kl, ls.length = kl := ⟨_, rfl⟩
      rw [hkl] at c1 hlr KSL
      clear kr hr hb HT hk0
      obtain ⟨oa, oc, hov⟩ := HS.out.2.2.2.1.form
      subst hov
      obtain ⟨sn, hsn⟩ : ∃ sn, ss.length = sn := ⟨_, rfl⟩
      rw [hsn] at HS o0 hsk
      have HSN := hide hsn
      obtain ⟨i0, hi0, hz0, hz1, hz2⟩ := info_parts infoInt
      have I0 := hide hi0
      have Y0 := hide hz0
      have Y1 := hide hz1
      have Y2 := hide hz2
      clear hi0 hz0 hz1 hz2
      obtain ⟨j0, hi0, hz0, hz1, hz2⟩ := info_parts infoKn
      have J0 := hide hi0
      have X0 := hide hz0
      have X1 := hide hz1
      have X2 := hide hz2
      clear hi0 hz0 hz1 hz2 hsn
      have HKL := hide hkl
      clear hkl
      have hz3 : Hid (z + 3 ≤ wr.heap.size) := by have := (Array.getElem?_eq_some_iff.1 HS.out.2.2.1).1; show _ ≤ _; omega
      have hbz : Hid (b < z) := by have := HZ.out; obtain ⟨b', o', e, q⟩ := H.out.adr (by omega); cases e; show _ < _; omega
      have KS : Hid (∀ W, Below (z + 2) wr W → W.cell? ⟨z, 0, none⟩ = some (.slice (some ⟨b, off, none⟩) len cap) ∧ W.cell? ⟨b, off + k * 2, none⟩ = some (.bool lf) ∧ W.cell? ⟨b, off + k * 2 + 1, none⟩ = some (.slice ka kl kc)) := fun W hW =>
        ⟨(hW.cell (show z < z + 2 by omega)).trans a0, (hW.cell (show b < z + 2 by have := hbz.out; omega)).trans c0, (hW.cell (show b < z + 2 by have := hbz.out; omega)).trans c1⟩
      have OS : Hid (∀ W, Below (z + 3) wr W → W.cell? ⟨z + 1 + 1, 0, none⟩ = some (.slice oa sn oc)) := fun W hW => (hW.cell (show z + 2 < z + 3 by omega)).trans o0
      have oA : (wr.alloc (.cells #[] 3)).cell? ⟨z + 1 + 1, 0, none⟩ = some (.slice oa sn oc) := OS.out _ (((Below.refl _ _).alloc (Nat.le_refl _) _).mono hz3.out)
      have oW : wr.cell? ⟨z + 1 + 1, 0, none⟩ = some (.slice oa sn oc) := o0
      have OWR : Hid (wr.ownsRow (z + 3) 84 2 (.slice oa sn oc) sn (kncells ss)) := by have := HS.out.2.2.2.1.1; rw [HSN.out] at this; exact this
      have BA : Hid (Below wr.heap.size wr (wr.alloc (.cells #[] 3)).drew) := ((Below.refl _ _).alloc (Nat.le_refl _) _).drew
      have OE : Hid ((wr.alloc (.cells #[] 3)).drew.ownsRow wr.heap.size 3 1 (.slice (some ⟨wr.heap.size, 0, none⟩) 0 0) 0 []) := ⟨rfl, .inr ⟨wr.heap.size, 0, #[], rfl, Nat.le_refl _, heap_alloc_new wr _, Nat.le_refl _, by unfold maxLen; omega, rfl, rfl⟩⟩
      have C1 := hide (KSL.out.below BA.out)
      have HS1 := hide BA.out.size
      go_wp2_with fail
      refine wp_region_last2 20 (S := fun w' => w'.cell? ⟨z, 0, none⟩ = some (.slice (some ⟨b, off, none⟩) len cap) ∧ w'.cell? ⟨b, off + k * 2, none⟩ = some (.bool lf) ∧ w'.cell? ⟨b, off + k * 2 + 1, none⟩ = some (.slice ka kl kc) ∧ w'.cell? ⟨z + 1 + 1, 0, none⟩ = some (.slice oa sn oc)) (by kernel_rfl) rfl (by kernel_rfl) (by first | go_keep | exact ⟨a0, c0, c1, o0⟩) (fun hHeld => ?_)
      simp only [List.dropLast_cons_cons, List.dropLast_singleton, List.length_cons, List.length_nil, Nat.reduceAdd]
      refine takeL 0 (v := ?_) rfl (by kernel_rfl) (by kernel_rfl) (by kernel_rfl) (fun _ _ _ h => h) (by rfl) (by assumption) ?_ ?_
      rotate_left 1
      · (intro w hSw; (try dsimp only at hSw); go_simp; all_goals with_reducible rfl)
      simp only [Act.put, List.setIfInBounds_toArray, List.set_cons_zero, List.set_cons_succ]
      refine takeL 1 (v := ?_) rfl (by kernel_rfl) (by kernel_rfl) (by kernel_rfl) (fun _ _ _ h => h) (by rfl) (by assumption) ?_ ?_
      rotate_left 1
      · (intro w hSw; (try dsimp only at hSw); go_simp; all_goals with_reducible rfl)
      simp only [Act.put, List.setIfInBounds_toArray, List.set_cons_zero, List.set_cons_succ]
      refine takeL 2 (v := ?_) rfl (by kernel_rfl) (by kernel_rfl) (by kernel_rfl) (fun _ _ _ h => h) (by rfl) (by assumption) ?_ ?_
      rotate_left 1
      · (intro w hSw; (try dsimp only at hSw); go_simp; all_goals with_reducible rfl)
      simp only [Act.put, List.setIfInBounds_toArray, List.set_cons_zero, List.set_cons_succ]
      refine takeL 3 (v := ?_) rfl (by kernel_rfl) (by kernel_rfl) (by kernel_rfl) (fun _ _ _ h => h) (by rfl) (by assumption) ?_ ?_
      rotate_left 1
      · (intro w hSw; (try dsimp only at hSw); go_simp; all_goals with_reducible rfl)
      simp only [Act.put, List.setIfInBounds_toArray, List.set_cons_zero, List.set_cons_succ]
      refine takeL 4 (v := ?_) rfl (by kernel_rfl) (by kernel_rfl) (by kernel_rfl) (fun _ _ _ h => h) (by rfl) (by assumption) ?_ ?_
      rotate_left 1
      · (intro w hSw; (try dsimp only at hSw); go_simp; all_goals with_reducible rfl)
      simp only [Act.put, List.setIfInBounds_toArray, List.set_cons_zero, List.set_cons_succ]
      refine takeL 5 (v := ?_) rfl (by kernel_rfl) (by kernel_rfl) (by kernel_rfl) (fun _ _ _ h => h) (by rfl) (by assumption) ?_ ?_
      rotate_left 1
      · (intro w hSw; (try dsimp only at hSw); go_simp; all_goals with_reducible rfl)
      simp only [Act.put, List.setIfInBounds_toArray, List.set_cons_zero, List.set_cons_succ]
      refine takeL 6 (v := ?_) rfl (by kernel_rfl) (by kernel_rfl) (by kernel_rfl) (fun _ _ _ h => h) (by rfl) (by assumption) ?_ ?_
      rotate_left 1
      · (intro w hSw; (try dsimp only at hSw); go_simp; all_goals with_reducible rfl)
      simp only [Act.put, List.setIfInBounds_toArray, List.set_cons_zero, List.set_cons_succ]
      refine takeL 7 (v := ?_) rfl (by kernel_rfl) (by kernel_rfl) (by kernel_rfl) (fun _ _ _ h => h) (by rfl) (by assumption) ?_ ?_
      rotate_left 1
      · (intro w hSw; (try dsimp only at hSw); go_simp; all_goals with_reducible rfl)
      simp only [Act.put, List.setIfInBounds_toArray, List.set_cons_zero, List.set_cons_succ]
      refine takeL 9 (v := ?_) rfl (by kernel_rfl) (by kernel_rfl) (by kernel_rfl) (fun _ _ _ h => h) (by rfl) (by assumption) ?_ ?_
      rotate_left 1
      · (intro w hSw; (try dsimp only at hSw); go_simp; all_goals with_reducible rfl)
      simp only [Act.put, List.setIfInBounds_toArray, List.set_cons_zero, List.set_cons_succ]
      refine takeL 10 (v := ?_) rfl (by kernel_rfl) (by kernel_rfl) (by kernel_rfl) (fun _ _ _ h => h) (by rfl) (by assumption) ?_ ?_
      rotate_left 1
      · (intro w hSw; (try dsimp only at hSw); go_simp; all_goals with_reducible rfl)
      simp only [Act.put, List.setIfInBounds_toArray, List.set_cons_zero, List.set_cons_succ]
      refine takeL 11 (v := ?_) rfl (by kernel_rfl) (by kernel_rfl) (by kernel_rfl) (fun _ _ _ h => h) (by rfl) (by assumption) ?_ ?_
      rotate_left 1
      · (intro w hSw; (try dsimp only at hSw); go_simp; all_goals with_reducible rfl)
      simp only [Act.put, List.setIfInBounds_toArray, List.set_cons_zero, List.set_cons_succ]
      refine takeL 12 (v := ?_) rfl (by kernel_rfl) (by kernel_rfl) (by kernel_rfl) (fun _ _ _ h => h) (by rfl) (by assumption) ?_ ?_
      rotate_left 1
      · (intro w hSw; (try dsimp only at hSw); go_simp; all_goals with_reducible rfl)
      simp only [Act.put, List.setIfInBounds_toArray, List.set_cons_zero, List.set_cons_succ]
      refine takeL 13 (v := ?_) rfl (by kernel_rfl) (by kernel_rfl) (by kernel_rfl) (fun _ _ _ h => h) (by rfl) (by assumption) ?_ ?_
      rotate_left 1
      · (intro w hSw; (try dsimp only at hSw); go_simp; all_goals with_reducible rfl)
      simp only [Act.put, List.setIfInBounds_toArray, List.set_cons_zero, List.set_cons_succ]
      refine takeL 14 (v := ?_) rfl (by kernel_rfl) (by kernel_rfl) (by kernel_rfl) (fun _ _ _ h => h) (by rfl) (by assumption) ?_ ?_
      rotate_left 1
      · (intro w hSw; (try dsimp only at hSw); go_simp; all_goals with_reducible rfl)
      simp only [Act.put, List.setIfInBounds_toArray, List.set_cons_zero, List.set_cons_succ]
      refine oneL 8 rfl (by kernel_rfl) (fun K hK => ?_)
      go_simp
      refine hK.out _ _ (by first | go_keep | exact ⟨(KS.out _ (BA.out.mono (by have := hz3.out; omega))).1, (KS.out _ (BA.out.mono (by have := hz3.out; omega))).2.1, (KS.out _ (BA.out.mono (by have := hz3.out; omega))).2.2, oA⟩) (fun hHeld2 => ?_)
      clear hK K hHeld
      have hHeld := hHeld2
      clear hHeld2
      (try simp only [Act.put, List.setIfInBounds_toArray, List.set_cons_zero, List.set_cons_succ])
      refine oneL 15 rfl (by kernel_rfl) (fun K hK => ?_)
      refine step_append_sl _ (by rfl) (.tmp 21) (.tmp 27) (by rfl) wr.heap.size i0 I0.out Y0.out Y1.out Y2.out _ 0 [] (by simp [Act.eval]) OE.out ls kl HKL.out _ (by simp [Act.eval]) C1.out (by unfold maxLen; omega) (by omega) HS1.out ?_
      intro v1 w1 o1 g1
      have B1 : Hid (Below wr.heap.size wr w1) := BA.out.grown g1 HS1.out (fun q hq => (OE.out.lt q hq).1)
      have BZ1 : Hid (Below (z + 3) wr w1) := B1.out.mono hz3.out
      rw [List.nil_append, Nat.zero_add] at o1
      obtain ⟨va, vc, hv1, -⟩ := (Sli.of o1).form
      subst hv1
      have O1 := hide o1
      have BC : Hid (Below w1.heap.size w1 (w1.alloc (.cells #[.bool lf, .slice va kl vc] 84))) := (Below.refl _ _).alloc (Nat.le_refl _) _
      have B2 : Hid (Below wr.heap.size wr (w1.alloc (.cells #[.bool lf, .slice va kl vc] 84))) := B1.out.trans (BC.out.mono B1.out.size)
      have OW2 := hide (own_below OWR.out B2.out)
      have oB : w1.cell? ⟨z + 1 + 1, 0, none⟩ = some (.slice oa sn oc) := OS.out _ BZ1.out
      have oC : (w1.alloc (.cells #[.bool lf, .slice va kl vc] 84)).cell? ⟨z + 1 + 1, 0, none⟩ = some (.slice oa sn oc) := OS.out _ (B2.out.mono hz3.out)
      have HS2 : Hid (z + 3 ≤ (w1.alloc (.cells #[.bool lf, .slice va kl vc] 84)).heap.size) := Nat.le_trans hz3.out B2.out.size
      clear o1 g1
      refine hK.out _ _ (by exact ⟨(KS.out _ (BZ1.out.mono (by omega))).1, (KS.out _ (BZ1.out.mono (by omega))).2.1, (KS.out _ (BZ1.out.mono (by omega))).2.2, OS.out _ BZ1.out⟩) (fun hHeld2 => ?_)
      clear hK K hHeld
      have hHeld := hHeld2
      clear hHeld2
      (try simp only [Act.put, List.setIfInBounds_toArray, List.set_cons_zero, List.set_cons_succ])
      refine takeL 16 (v := ?_) rfl (by kernel_rfl) (by kernel_rfl) (by kernel_rfl) (fun _ _ _ h => h) (by rfl) (by assumption) ?_ ?_
      rotate_left 1
      · (intro w hSw; (try dsimp only at hSw); go_simp; all_goals with_reducible rfl)
      simp only [Act.put, List.setIfInBounds_toArray, List.set_cons_zero, List.set_cons_succ]
      refine oneL 17 rfl (by kernel_rfl) (fun K hK => ?_)
      go_simp
      refine hK.out _ _ (by exact ⟨(KS.out _ (B2.out.mono (by have := hz3.out; omega))).1, (KS.out _ (B2.out.mono (by have := hz3.out; omega))).2.1, (KS.out _ (B2.out.mono (by have := hz3.out; omega))).2.2, OS.out _ (B2.out.mono hz3.out)⟩) (fun hHeld2 => ?_)
      clear hK K hHeld
      have hHeld := hHeld2
      clear hHeld2
      (try simp only [Act.put, List.setIfInBounds_toArray, List.set_cons_zero, List.set_cons_succ])
      refine oneL 18 rfl (by kernel_rfl) (fun K hK => ?_)
      refine step_append_own _ (by rfl) (.tmp 14) (.tmp 30) 32 (by rfl) (z + 3) 84 j0 (.agg #[.bool false, .slice none 0 0]) 2 32 Tryz.underlying32 J0.out X0.out X1.out X2.out rfl (by decide) _ sn (kncells ss) (by simp [Act.eval]) OW2.out ⟨w1.heap.size, 0, none⟩ 1 1 [.bool lf, .slice va kl vc] (by simp [Act.eval]) rfl (kn_new _ _ _) (kn_one _ _ _ _) (by unfold maxLen; omega) (by omega) HS2.out ?_
      intro u2 w2 o2 g2
      have BZ2 : Hid (Below (z + 3) wr w2) := (B2.out.mono hz3.out).grown g2 HS2.out (fun q hq => (OW2.out.lt q hq).1)
      obtain ⟨ua, uc, hu2, -⟩ := (Sli.of o2).form
      subst hu2
      have O2 := hide o2
      have G2 := hide g2
      have oD : w2.cell? ⟨z + 1 + 1, 0, none⟩ = some (.slice oa sn oc) := OS.out _ BZ2.out
      have BZ3 : Hid (Below (z + 2) wr (w2.setCell ⟨z + 1 + 1, 0, none⟩ (.slice ua (sn + 1) uc))) := (BZ2.out.mono (by omega)).setCell (p := ⟨z + 1 + 1, 0, none⟩) (by show z + 2 ≤ z + 1 + 1; omega) _
      have fo2 : w2.frozen? ⟨z + 1 + 1, 0, none⟩ = false := frozen_of_row _ _ 0 _ _ ((BZ2.out.block (z + 2) (by omega)).trans HS.out.2.2.1)
      clear o2 g2
      refine hK.out _ _ (by exact ⟨(KS.out _ (BZ2.out.mono (by omega))).1, (KS.out _ (BZ2.out.mono (by omega))).2.1, (KS.out _ (BZ2.out.mono (by omega))).2.2, OS.out _ BZ2.out⟩) (fun hHeld2 => ?_)
      clear hK K hHeld
      have hHeld := hHeld2
      clear hHeld2
      (try simp only [Act.put, List.setIfInBounds_toArray, List.set_cons_zero, List.set_cons_succ])
      refine takeL 19 (v := ?_) rfl (by kernel_rfl) (by kernel_rfl) (by kernel_rfl) (fun _ _ _ h => h) (by rfl) (by assumption) ?_ ?_
      rotate_left 1
      · (intro w hSw; (try dsimp only at hSw); go_simp; all_goals with_reducible rfl)
      simp only [Act.put, List.setIfInBounds_toArray, List.set_cons_zero, List.set_cons_succ]
      refine wpAnyH_done (by kernel_rfl) ?_ _
      refine last_go ?_
      go_wp2_with fail
      all_goals
        have SN : Hid (CpSt w (w2.setCell ⟨z + 1 + 1, 0, none⟩ (.slice ua (sn + 1) uc)) z (.slice (some ⟨b, off, none⟩) len cap) (.slice ua (sn + 1) uc) (ss ++ [(lf, .slice va kl vc, ls)])) := by
          have o2 := O2.out
          have hr2 : Sli 3 wr.heap.size (w1.alloc (.cells #[.bool lf, .slice va kl vc] 84)).heap.size (.slice va kl vc) ls.length (icells ls) (w1.alloc (.cells #[.bool lf, .slice va kl vc] 84)) := by
            rw [HKL.out]
            exact ((Sli.of O1.out).blw BC.out).up BC.out.size
          have ho : w2.ownsRow (z + 3) 84 2 (.slice ua (sn + 1) uc) (ss ++ [(lf, Value.slice va kl vc, ls)]).length (kncells (ss ++ [(lf, Value.slice va kl vc, ls)])) := by
            rw [← kncells_snoc, List.length_append, HSN.out]
            exact o2
          have hK := KOwn.snoc (r := (lf, Value.slice va kl vc, ls)) HS.out.2.2.2.1 B2.out hz3.out hr2 (by simp only; have := HKL.out; unfold maxLen; omega) G2.out ho
          refine ⟨row_set_ne ((BZ2.out.block z (by omega)).trans HS.out.1) (by omega) _ _, row_set_ne ((BZ2.out.block (z + 1) (by omega)).trans HS.out.2.1) (by omega) _ _, ?_, hK.cellB (show z + 1 + 1 < z + 3 by omega) _ _, ((HS.out.2.2.2.2.trans (BZ2.out.mono (by omega))).setCell (p := ⟨z + 1 + 1, 0, none⟩) (by show z ≤ z + 1 + 1; omega) _)⟩
          exact (row_set ((BZ2.out.block (z + 2) (by omega)).trans HS.out.2.2.1) 0 _)
        have HT3 : Hid ((ss ++ [(lf, Value.slice va kl vc, ls)]).map ktell = (rs.map ktell).take (k + 1)) := by
          show _ = _
          rw [List.map_append]
          exact HT2.out
        have hs3 : (ss ++ [(lf, Value.slice va kl vc, ls)]).length ≤ k + 1 := by rw [List.length_append, HSN.out]; simp; omega
        generalize ss ++ [(lf, Value.slice va kl vc, ls)] = ss2 at SN HT3 hs3
        generalize w2.setCell ⟨z + 1 + 1, 0, none⟩ (.slice ua (sn + 1) uc) = w3 at SN ⊢
        clear O1 O2 G2 BC B2 OW2 HS2 BZ1 BZ2 BZ3 oB oC oD oA oW fo2 KS OS OWR BA OE C1 HS1 HS HT2
        go_wp2
        go_roundw
        case rel => exact ⟨k + 1, _, ss2, by omega, by go_num, hs3, HT3, SN⟩
        case measure => simp [intOf]; omega
    · obtain ⟨oa, oc, hov⟩ := HS.out.2.2.2.1.form
      subst hov
      have r0 := cell_of_row _ _ 0 _ _ _ HS.out.2.1
      have f0 := frozen_of_row _ _ 0 _ _ HS.out.2.1
      have o1 : wr.cell? ⟨z + 1 + 1, 0, none⟩ = some (.slice oa ss.length oc) := o0
      have ET : Hid (ss.map ktell = rs.map ktell) := by
        show _ = _
        rw [HT.out, List.take_of_length_le (by rw [List.length_map]; have := H1.out; omega)]
      go_wp2
      refine bodyPost_ret (results_cell_row rfl _ _ (z + 1) 34 _ (0, 0) _ rfl (row_set HS.out.2.1 0 (.slice oa ss.length oc)) Tryz.underlying34 rfl infoArc) rfl ⟨_, rfl, .slice oa ss.length oc, ss, rfl, ?_, ET.out, ?_⟩
      · rw [HZ.out]
        exact (HS.out.2.2.2.1.cellB (show z + 1 < z + 3 by omega) _ _).down (by omega)
      · rw [HZ.out]
        exact HS.out.2.2.2.2.setCell (p := ⟨z + 1, 0, none⟩) (by show z ≤ z + 1; omega) _
end Go.Proofs.YtcnaahajaaifjacGreat
