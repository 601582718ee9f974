/-
  Gate; SCopyS
-/
import Derived.Test.YtcnaahajaaifjacGreatPk12
import Derived.Test.YtcnaahajaaifjacGreatKnCp
import Derived.Deep.RegionHeld3
/-
  A region that draws, walked operation by operation: one whose guard says no is passed over first.
-/
namespace Go.Proofs.YtcnaahajaaifjacGreat
open Go Go.RowKit

theorem wp_region_ops {P : Program} {id : Nat} {l : List Oper} {Q : Exit → Act → World → Prop} (S : World → Prop) {a : Act} {w : World} (hm : P.follows .mixedOrders = true) (hS : S w.drew)
    (hh : S w.drew → wpAnyH P .any l.toArray Q S l.length (Array.replicate l.length false) a w.drew) : (Code.region id l.toArray true).wp P Q a w := by
  refine wp_region_any hm ?_
  have e2 : l.toArray.size = l.length := by simp
  rw [e2]
  exact wpAny_of_held _ _ _ _ (hh hS)
/-- An operation whose guard says no. -/
theorem skipL {P : Program} {l : List Oper} {Q : Exit → Act → World → Prop} {S : World → Prop} (i : Nat) {oi : Oper} {rest : List Oper} {fuel : Nat} {listed : Array Bool} {a : Act} {w : World} (hd : l.drop i = oi :: rest)
    (hs : Region.noSelect l.toArray = true) (hf : Region.free .any l.toArray listed i = true) (hr : (Region.ready .any l.toArray listed).contains i = true)
    (hQ : ∀ c a w, Q (.panic c) (a.put oi.dst undef) w → Q (.panic c) a w) (hg : Region.wanted oi (yielded l.toArray a.tmps) = false) (hS : S w)
    (h : wpAnyH P .any l.toArray Q S fuel (listed.setIfInBounds i true) (a.put oi.dst undef) w) : wpAnyH P .any l.toArray Q S (fuel + 1) listed a w := by
  have hi : l.toArray[i]? = some oi := by
    have : l[i]? = (l.drop i)[0]? := by simp
    rw [List.getElem?_toArray, this, hd]
    rfl
  exact wpAnyH_take hi hs hf hr hQ (Or.inr ⟨hg, rfl⟩) hS h
/-- All have come up. -/
theorem doneL {P : Program} {l : List Oper} {Q : Exit → Act → World → Prop} {S : World → Prop} {fuel : Nat} {listed : Array Bool} {a : Act} {w : World} (hr : Region.ready .any l.toArray listed = []) (h : Q .normal a w) : wpAnyH P .any l.toArray Q S fuel listed a w := wpAnyH_done hr h fuel
end Go.Proofs.YtcnaahajaaifjacGreat

/-
  spec.l12Copy.
-/
namespace Go.Proofs.YtcnaahajaaifjacGreat
open Go.RowKit
open Words

/-- What answers a store: volumes and knots in blocks apart. -/
def StOut (w : World) (s : Sto) (v : Value) (w' : World) : Prop :=
  ∃ vv kv lo1 hi1 lo2 hi2, v = .agg #[vv, kv, .int .i64 s.next] ∧ Sli 69 lo1 hi1 vv s.vols.length (vlcells s.vols) w' ∧ Kns lo2 hi2 kv s.kns w' ∧ w.heap.size ≤ lo1 ∧ hi1 ≤ w'.heap.size ∧ w.heap.size ≤ lo2 ∧ hi2 ≤ w'.heap.size ∧ (hi1 ≤ lo2 ∨ hi2 ≤ lo1) ∧ Below w.heap.size w w'
/-- A store's value whose row of volumes has room for them. -/
def VCap (v : Value) : Prop := ∃ a n c k x, v = .agg #[.slice a n c, k, x] ∧ n ≤ c
theorem own_cap {w : World} {B size n m c : Nat} {e : TypeId} {a : Option Addr} {xs : List Value} (h : w.ownsRow B e size (.slice a n c) m xs) : n ≤ c := by
  rcases h.2 with ⟨h1, h2⟩ | ⟨g, cap, cur, h1, h2, h3, h4, -⟩
  · injection h1 with e1 e2 e3
    omega
  · injection h1 with e1 e2 e3
    omega
/-- 'append(v, xs...)' of a row of volumes, wherever it lies; or of none. -/
theorem step_append_vl (w : World) {ops : Array Oper} {o : Oper} {a : Act} {K : Act → World → Prop} {Q : Exit → Act → World → Prop} {E : Prop} (hgd : o.guard = none) (s x : Operand)
    (ho : o.op = .call { callee := .builtin .append, args := #[s, x], argTypes := #[31, 31] })
    (base : Nat) (i : TypeInfo) (hi : Tryz.prog.info? 69 = some i) (hz : i.zero = some (.agg #[.int .i64 0, .int .i64 0])) (hsize : i.size = 2) (hby : i.bytes = 16)
    (v : Value) (n : Nat) (xs : List Value) (hs : a.eval s = v) (hown : w.ownsRow base 69 2 v n xs)
    (ls : List (Int × Int)) (m : Nat) (hm : ls.length = m) (u : Value) (hx : a.eval x = u) (hsl : VlSl w u ls) (h63 : n + m ≤ maxLen) (hbytes : (n + m) * 16 ≤ 140737488355328) (hbase : base ≤ w.heap.size)
    (h : ∀ v' w', w'.ownsRow base 69 2 v' (n + m) (xs ++ vlcells ls) → w.grownBy w' v.ownBlock → K (a.put o.dst v') w') :
    if Region.wanted o (yielded ops a.tmps) = true then Oper.wp Tryz.prog o a w K Q else E := by
  subst hm
  obtain ⟨ad, c, rfl, h0, hr⟩ := hsl
  cases ls with
  | nil =>
    cases ad with
    | none =>
      rw [h0 rfl] at hx
      have hw : Region.wanted o (yielded ops a.tmps) = true := by simp [Region.wanted, hgd]
      rw [if_pos hw]
      have hrun := run_append_owned_none (P := Tryz.prog) (w := w) base 31 o.type 69 i 2 Tryz.underlying31 hi v n xs hown
      unfold Oper.wp execOp
      simp only [ho, resolve, invoke, builtin, Sem.run_bind, Sem.run_pure, Result.andThen_ok, List.map_toArray, List.map_cons, List.map_nil, hs, hx, List.length_nil, hrun]
      exact h v w (by simpa [vlcells] using hown) (World.grownBy.refl _ _)
    | some q => exact step_append_own w hgd s x 31 ho base 69 i (.agg #[.int .i64 0, .int .i64 0]) 2 16 Tryz.underlying31 hi hz hsize hby rfl (by decide) v n xs hs hown q 0 c [] hx rfl (fun _ _ e => by simp at e) (fun _ e => by cases e) h63 hbytes hbase h
  | cons y l =>
    obtain ⟨b, off, e, -, hc⟩ := hr.2.2.2 (by simp)
    subst e
    exact step_append_own w hgd s x 31 ho base 69 i (.agg #[.int .i64 0, .int .i64 0]) 2 16 Tryz.underlying31 hi hz hsize hby rfl (by decide) v n xs hs hown ⟨b, off, none⟩ _ c (vlcells (y :: l)) hx (vlcells_len _) (fun j u hj => by rw [addr_off3v]; exact hr.cells j u hj) (vlcells_one _) h63 hbytes hbase h

set_option maxHeartbeats 1000000 in
set_option maxRecDepth 100000 in
theorem scopyS (va : Option Addr) (vl vc : Nat) (ad : Option Addr) (len cap : Nat) (nx : Int) (vs : List (Int × Int)) (rs : List Kw) (w : World) (hvl : vl ≤ 1048576) (hl : len ≤ 1048578) (hll : ∀ r ∈ rs, r.2.2.length ≤ 1048576) (hvc : va = none → vc = 0) (h : VlRow w va vl vs) (hk : KnRd w ad len rs) :
    Calls Tryz.prog 17 #[.agg (SBox va vl vc ad len cap nx)] w fun e w' => ∃ v, e = .returned v ∧ StOut w ⟨vs, rs.map ktell, nx⟩ v w' ∧ VCap v := by
  obtain ⟨i0, hi, hz0, hz1, hz2⟩ := info_parts infoVl
  have I0 := hide hi
  have Y0 := hide hz0
  have Y1 := hide hz1
  have Y2 := hide hz2
  clear hi hz0 hz1 hz2
  have HVL := hide h.1
  have HL := hide hll
  have T0 := hide (Tk.two w #[.slice va vl vc, .slice ad len cap, .int .i64 nx] #[.slice none 0 0, .slice none 0 0, .int .i64 0] 36 36)
  have VB0 := hide h
  have KB0 := hide hk
  have HVC := hide hvc
  clear h hk hll hvc
  unfold SBox
  go_enter Tryz.func17, Tryz.ntmps17
  go_wp2_with fail
  generalize (w.alloc (.cells #[.slice va vl vc, .slice ad len cap, .int .i64 nx] 36)).alloc (.cells #[.slice none 0 0, .slice none 0 0, .int .i64 0] 36) = wb at T0 ⊢
  have x0 : wb.cell? ⟨w.heap.size, 0, none⟩ = some (.slice va vl vc) := T0.out.at 1 0 rfl rfl
  have x1 : wb.cell? ⟨w.heap.size, 1, none⟩ = some (.slice ad len cap) := T0.out.at 1 1 rfl rfl
  have x2 : wb.cell? ⟨w.heap.size, 2, none⟩ = some (.int .i64 nx) := T0.out.at 1 2 rfl rfl
  have XB := hide (World.block_lt_of_cell? wb _ x0)
  have XR := hide (T0.out.get 0 rfl)
  have KB := hide (KB0.out.below T0.out.1)
  have BW := hide T0.out.1
  obtain ⟨z, hz⟩ : ∃ z, w.heap.size = z := ⟨_, rfl⟩
  rw [hz] at x0 x1 x2 XB XR ⊢
  have HZW := hide hz
  clear hz
  have KK : Hid (∀ W, Below wb.heap.size wb W → W.cell? ⟨z, 0, none⟩ = some (.slice va vl vc) ∧ W.cell? ⟨z, 1, none⟩ = some (.slice ad len cap) ∧ W.cell? ⟨z, 2, none⟩ = some (.int .i64 nx)) := fun W H => ⟨(H.cell (show z < wb.heap.size from XB.out)).trans x0, (H.cell (show z < wb.heap.size from XB.out)).trans x1, (H.cell (show z < wb.heap.size from XB.out)).trans x2⟩
  have BD : Hid (Below wb.heap.size wb wb.drew) := (Below.refl _ _).drew
  have BD1 : Hid (Below wb.heap.size wb (wb.alloc (.cells #[] 69)).drew) := ((Below.refl _ _).alloc (Nat.le_refl _) _).drew
  have OE : Hid ((wb.alloc (.cells #[] 69)).drew.ownsRow wb.heap.size 69 2 (.slice (some ⟨wb.heap.size, 0, none⟩) 0 0) 0 []) := ⟨rfl, .inr ⟨wb.heap.size, 0, #[], rfl, Nat.le_refl _, heap_alloc_new wb _, Nat.le_refl _, by unfold maxLen; omega, rfl, rfl⟩⟩
  have SL1 : Hid (VlSl (wb.alloc (.cells #[] 69)).drew (.slice va vl vc) vs) := ⟨va, vc, by rw [HVL.out], HVC.out, by rw [HVL.out]; exact (VB0.out.below T0.out.1).below BD1.out⟩
  have HS1 := hide BD1.out.size
  refine wp_region_last2 10 (S := fun w' => w'.cell? ⟨z, 0, none⟩ = some (.slice va vl vc) ∧ w'.cell? ⟨z, 1, none⟩ = some (.slice ad len cap) ∧ w'.cell? ⟨z, 2, none⟩ = some (.int .i64 nx)) (by kernel_rfl) rfl (by kernel_rfl) (KK.out _ BD.out) (fun hHeld => ?_)
  simp only [List.dropLast_cons_cons, List.dropLast_singleton, List.length_cons, List.length_nil, Nat.reduceAdd]
  refine takeL 1 (v := ?_) rfl (by kernel_rfl) (by kernel_rfl) (by kernel_rfl) (fun _ _ _ h => h) (by rfl) (by assumption) ?_ ?_
  rotate_left 1
  · (intro w hSw; (try dsimp only at hSw); go_simp; all_goals with_reducible rfl)
  simp only [Act.put, List.setIfInBounds_toArray, List.set_cons_zero, List.set_cons_succ]
  refine takeL 2 (v := ?_) rfl (by kernel_rfl) (by kernel_rfl) (by kernel_rfl) (fun _ _ _ h => h) (by rfl) (by assumption) ?_ ?_
  rotate_left 1
  · (intro w hSw; (try dsimp only at hSw); go_simp; all_goals with_reducible rfl)
  simp only [Act.put, List.setIfInBounds_toArray, List.set_cons_zero, List.set_cons_succ]
  refine takeL 4 (v := ?_) rfl (by kernel_rfl) (by kernel_rfl) (by kernel_rfl) (fun _ _ _ h => h) (by rfl) (by assumption) ?_ ?_
  rotate_left 1
  · (intro w hSw; (try dsimp only at hSw); go_simp; all_goals with_reducible rfl)
  simp only [Act.put, List.setIfInBounds_toArray, List.set_cons_zero, List.set_cons_succ]
  refine takeL 5 (v := ?_) rfl (by kernel_rfl) (by kernel_rfl) (by kernel_rfl) (fun _ _ _ h => h) (by rfl) (by assumption) ?_ ?_
  rotate_left 1
  · (intro w hSw; (try dsimp only at hSw); go_simp; all_goals with_reducible rfl)
  simp only [Act.put, List.setIfInBounds_toArray, List.set_cons_zero, List.set_cons_succ]
  refine takeL 7 (v := ?_) rfl (by kernel_rfl) (by kernel_rfl) (by kernel_rfl) (fun _ _ _ h => h) (by rfl) (by assumption) ?_ ?_
  rotate_left 1
  · (intro w hSw; (try dsimp only at hSw); go_simp; all_goals with_reducible rfl)
  simp only [Act.put, List.setIfInBounds_toArray, List.set_cons_zero, List.set_cons_succ]
  refine takeL 8 (v := ?_) rfl (by kernel_rfl) (by kernel_rfl) (by kernel_rfl) (fun _ _ _ h => h) (by rfl) (by assumption) ?_ ?_
  rotate_left 1
  · (intro w hSw; (try dsimp only at hSw); go_simp; all_goals with_reducible rfl)
  simp only [Act.put, List.setIfInBounds_toArray, List.set_cons_zero, List.set_cons_succ]
  refine oneL 0 rfl (by kernel_rfl) (fun K hK => ?_)
  go_simp
  refine hK.out _ _ (KK.out _ BD1.out) (fun hHeld2 => ?_)
  clear hK K hHeld
  have hHeld := hHeld2
  clear hHeld2
  (try simp only [Act.put, List.setIfInBounds_toArray, List.set_cons_zero, List.set_cons_succ])
  refine oneL 3 rfl (by kernel_rfl) (fun K hK => ?_)
  refine step_append_vl _ (by rfl) (.tmp 3) (.tmp 5) (by rfl) wb.heap.size i0 I0.out Y0.out Y1.out Y2.out _ 0 [] (by simp [Act.eval]) OE.out vs vl HVL.out _ (by simp [Act.eval]) SL1.out (by unfold maxLen; omega) (by omega) HS1.out ?_
  intro v1 w1 o1 g1
  rw [List.nil_append, Nat.zero_add] at o1
  have B1 : Hid (Below wb.heap.size wb w1) := BD1.out.grown g1 HS1.out (fun q hq => (OE.out.lt q hq).1)
  have P1 := hide (Sli.of o1)
  have O1 := hide o1
  obtain ⟨ua, uc, hv1, -⟩ := (Sli.of o1).form
  subst hv1
  have HCAP := hide (own_cap o1)
  refine hK.out _ _ (KK.out _ B1.out) (fun hHeld2 => ?_)
  clear hK K hHeld
  have hHeld := hHeld2
  clear hHeld2
  (try simp only [Act.put, List.setIfInBounds_toArray, List.set_cons_zero, List.set_cons_succ])
  refine oneL 6 rfl (by kernel_rfl) (fun K hK => ?_)
  go_simp
  refine (skcopy ad len cap rs w1 hl HL.out (KB.out.below B1.out)).mono ?_
  rintro en w2 ⟨kv0, rfl, kv, ss, rfl, ko, hss, b2⟩
  have B2 := hide (B1.out.trans (b2.mono B1.out.size))
  have O2 := hide (own_below O1.out b2)
  have K2 := hide ko
  have HSS := hide hss
  have HB2 := hide b2
  obtain ⟨ka, kc, hkv⟩ := ko.form
  subst hkv
  obtain ⟨sn, hsn⟩ : ∃ sn, ss.length = sn := ⟨_, rfl⟩
  rw [hsn] at K2 ⊢
  clear ko hss b2 hsn
  refine hK.out _ _ (KK.out _ B2.out) (fun hHeld2 => ?_)
  clear hK K hHeld
  have hHeld := hHeld2
  clear hHeld2
  (try simp only [Act.put, List.setIfInBounds_toArray, List.set_cons_zero, List.set_cons_succ])
  refine takeL 9 (v := ?_) rfl (by kernel_rfl) (by kernel_rfl) (by kernel_rfl) (fun _ _ _ h => h) (by rfl) (by assumption) ?_ ?_
  rotate_left 1
  · (intro w hSw; (try dsimp only at hSw); go_simp; all_goals with_reducible rfl)
  simp only [Act.put, List.setIfInBounds_toArray, List.set_cons_zero, List.set_cons_succ]
  refine doneL (by kernel_rfl) (last_go ?_)
  clear hHeld
  have hzb : Hid (z + 1 < wb.heap.size) := (Array.getElem?_eq_some_iff.1 XR.out).1
  have R2 : Hid (w2.heap[z + 1]? = some (.cells #[.slice none 0 0, .slice none 0 0, .int .i64 0] 36 (0, 0))) := (B2.out.block (z + 1) hzb.out).trans XR.out
  have r0 := cell_of_row _ _ 0 _ _ _ R2.out
  have r1 := cell_of_row _ _ 1 _ _ _ R2.out
  have r2 := cell_of_row _ _ 2 _ _ _ R2.out
  have f0 := frozen_of_row _ _ 0 _ _ R2.out
  have f1 := frozen_of_row _ _ 1 _ _ R2.out
  have f2 := frozen_of_row _ _ 2 _ _ R2.out
  have R3 : Hid ((((w2.setCell ⟨z + 1, 0, none⟩ (.slice ua vl uc)).setCell ⟨z + 1, 1, none⟩ (.slice ka sn kc)).setCell ⟨z + 1, 2, none⟩ (.int .i64 nx)).heap[z + 1]? = some (.cells #[.slice ua vl uc, .slice ka sn kc, .int .i64 nx] 36 (0, 0))) := heap_setCell_same _ _ 2 _ _ _ (heap_setCell_same _ _ 1 _ _ _ (heap_setCell_same _ _ 0 _ _ _ R2.out))
  have FIN : Hid (StOut w ⟨vs, rs.map ktell, nx⟩ (.agg #[.slice ua vl uc, .slice ka sn kc, .int .i64 nx]) (((w2.setCell ⟨z + 1, 0, none⟩ (.slice ua vl uc)).setCell ⟨z + 1, 1, none⟩ (.slice ka sn kc)).setCell ⟨z + 1, 2, none⟩ (.int .i64 nx))) := by
    have h1 := hzb.out
    have h2 := B1.out.size
    have h3 := BW.out.size
    have hsz : (((w2.setCell ⟨z + 1, 0, none⟩ (.slice ua vl uc)).setCell ⟨z + 1, 1, none⟩ (.slice ka sn kc)).setCell ⟨z + 1, 2, none⟩ (.int .i64 nx)).heap.size = w2.heap.size := by simp [World.setCell]
    have hs2 := HB2.out.size
    have hq : ∀ g, g ≠ z + 1 → (((w2.setCell ⟨z + 1, 0, none⟩ (.slice ua vl uc)).setCell ⟨z + 1, 1, none⟩ (.slice ka sn kc)).setCell ⟨z + 1, 2, none⟩ (.int .i64 nx)).heap[g]? = w2.heap[g]? := fun g hg => (Below.heap_setCell _ _ _ _ hg).trans ((Below.heap_setCell _ _ _ _ hg).trans (Below.heap_setCell _ _ _ _ hg))
    refine ⟨_, _, wb.heap.size, w1.heap.size, w1.heap.size, w2.heap.size, rfl, ?_, ⟨ss, HSS.out, ?_⟩, by omega, by omega, by omega, by omega, .inl (Nat.le_refl _), ?_⟩
    · refine Sli.loc _ _ _ _ _ _ w1 _ (fun g g1 g2 => ?_) (by rw [HVL.out]; exact P1.out)
      exact (hq g (by omega)).trans (HB2.out.block g g2)
    · exact KIn.loc _ _ _ _ w2 _ (fun g g1 g2 => hq g (by omega)) K2.out.kns
    · have hzz := HZW.out
      exact (((BW.out.trans (B2.out.mono h3)).setCell (p := ⟨z + 1, 0, none⟩) (by show _ ≤ z + 1; omega) _).setCell (p := ⟨z + 1, 1, none⟩) (by show _ ≤ z + 1; omega) _).setCell (p := ⟨z + 1, 2, none⟩) (by show _ ≤ z + 1; omega) _
  go_wp2
  exact bodyPost_ret (results_cell_row rfl _ _ (z + 1) 36 _ (0, 0) _ rfl R3.out Tryz.underlying36 rfl infoSto) rfl ⟨_, rfl, FIN.out, ⟨_, _, _, _, _, rfl, HCAP.out⟩⟩
end Go.Proofs.YtcnaahajaaifjacGreat
