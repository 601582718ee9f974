/-
  ToSto; ToStoT; SHas; SNeed
-/
import Derived.Test.YtcjgjkejhkhknabGreatDoorPq53
import Derived.Test.YtcjgjkejhkhknabGreatDoorPq2
import Derived.Test.YtcjgjkejhkhknabGreatDoorPq41
import Derived.Test.YtcjgjkejhkhknabGreatDoorPq15
import Derived.Deep.QuietTactic
import Derived.BigQuiet
/-
  The laws' own toStore.
-/
namespace Go.Proofs.YtcjgjkejhkhknabGreatDoor
open Go.RowKit
open Words

theorem Tk.setC {w wi : World} {hs hs' : List Hold} {lo hi b : Nat} {cs cs' : Array Value} {t : TypeId} (h : Tk w wi hs) (n : Nat) (hn : hs[n]? = some (lo, hi, Cel b cs t)) (hb : w.heap.size ≤ b) (k : Nat) (u : Value) (hc : cs.setIfInBounds k u = cs') (hh : ∀ x ∈ hs', x ∈ hs ∧ (x.2.1 ≤ b ∨ b + 1 ≤ x.1)) :
    Tk w (wi.setCell ⟨b, k, none⟩ u) ((b, b + 1, Cel b cs' t) :: hs') := by
  have hz : (wi.setCell ⟨b, k, none⟩ u).heap.size = wi.heap.size := by simp [World.setCell]
  have h0 : wi.heap[b]? = some (.cells cs t (0, 0)) := h.get n hn
  refine ⟨h.1.setCell (p := ⟨b, k, none⟩) hb u, fun x hx => ?_⟩
  rcases List.mem_cons.1 hx with rfl | hx
  · refine ⟨?_, Cel.loc _ _ _, ?_⟩
    · have := (Array.getElem?_eq_some_iff.1 h0).1
      show b + 1 ≤ _
      omega
    · subst hc
      exact heap_setCell_same _ _ k _ _ _ h0
  · obtain ⟨x1, x2⟩ := hh x hx
    obtain ⟨y1, y2, y3⟩ := h.2 x x1
    exact ⟨by omega, y2, y2 _ _ (fun g g1 g2 => Below.heap_setCell _ _ _ _ (show g ≠ b by omega)) y3⟩
set_option maxHeartbeats 1000000 in
set_option maxRecDepth 100000 in
theorem toSto_any (va : Option Addr) (vl vc : Nat) (ad : Option Addr) (len cap : Nat) (nx : Int) (vs : List (Int × Int)) (rs : List Kw) (w : World) (hvl : vl ≤ 1048576) (hl : len ≤ 1048576) (hll : ∀ r ∈ rs, r.2.2.length ≤ 1048576) (h : VlRow w va vl vs) (hk : KnRd w ad len rs) :
    Calls Tryz.prog 14 #[.agg #[.slice va vl vc, .slice ad len cap, .int .i64 nx]] w fun e w' => ∃ g1 g2 : Nat, e = .returned (.agg #[.slice (some ⟨g1, 0, none⟩) vl vl, .slice (some ⟨g2, 0, none⟩) len len, .int .i64 nx]) ∧ StOut w ⟨vs, rs.map ktell, nx⟩ (.agg #[.slice (some ⟨g1, 0, none⟩) vl vl, .slice (some ⟨g2, 0, none⟩) len len, .int .i64 nx]) w' := by
  have HVL := hide h.1
  have HL := hide hll
  have T0 := hide (Tk.three w #[.slice va vl vc, .slice ad len cap, .int .i64 nx] #[.slice none 0 0, .slice none 0 0, .int .i64 0] #[.slice none 0 0, .slice none 0 0, .int .i64 0] 41 49 49)
  have VB0 := hide h
  have KB0 := hide hk
  clear h hk hll
  go_enter Tryz.func14, Tryz.ntmps14
  go_wp2_with fail
  generalize ((w.alloc (.cells #[.slice va vl vc, .slice ad len cap, .int .i64 nx] 41)).alloc (.cells #[.slice none 0 0, .slice none 0 0, .int .i64 0] 49)).alloc (.cells #[.slice none 0 0, .slice none 0 0, .int .i64 0] 49) = wb at T0 ⊢
  refine (toVls_any va vl vc vs wb hvl (VB0.out.below T0.out.1)).mono ?_
  rintro e w1 ⟨g1, rfl, o1, b1⟩
  have hz0 := T0.out.hi 0 rfl
  have t1 := T0.out.add b1 (Sli.loc 107 wb.heap.size w1.heap.size (.slice (some ⟨g1, 0, none⟩) vl vl) vs.length (vlcells vs)) (Sli.of o1)
  have f1 : w1.frozen? ⟨w.heap.size + 1 + 1, 0, none⟩ = false := t1.fr 1 0 rfl
  have c1 : w1.cell? ⟨w.heap.size + 1 + 1, 0, none⟩ = some (.slice none 0 0) := t1.at 1 0 rfl rfl
  have T1 := hide (t1.setC 1 rfl (by omega) 0 (.slice (some ⟨g1, 0, none⟩) vl vl) (cs' := #[.slice (some ⟨g1, 0, none⟩) vl vl, .slice none 0 0, .int .i64 0]) rfl (hs' := [(wb.heap.size, w1.heap.size, Sli 107 wb.heap.size w1.heap.size (.slice (some ⟨g1, 0, none⟩) vl vl) vs.length (vlcells vs)), (w.heap.size + 1, w.heap.size + 1 + 1, Cel (w.heap.size + 1) #[.slice none 0 0, .slice none 0 0, .int .i64 0] 49), (w.heap.size, w.heap.size + 1, Cel w.heap.size #[.slice va vl vc, .slice ad len cap, .int .i64 nx] 41)]) (by
    intro x hx
    simp only [List.mem_cons, List.not_mem_nil, or_false] at hx
    rcases hx with rfl | rfl | rfl
    · exact ⟨by simp, .inr (by show _ ≤ _; omega)⟩
    · exact ⟨by simp, .inl (show w.heap.size + 1 + 1 ≤ w.heap.size + 1 + 1 from Nat.le_refl _)⟩
    · exact ⟨by simp, .inl (show w.heap.size + 1 ≤ w.heap.size + 1 + 1 by omega)⟩))
  have BB := hide b1
  have HZ0 := hide hz0
  clear t1 o1 b1 hz0
  have c2 : (w1.setCell ⟨w.heap.size + 1 + 1, 0, none⟩ (.slice (some ⟨g1, 0, none⟩) vl vl)).cell? ⟨w.heap.size, 1, none⟩ = some (.slice ad len cap) := T1.out.at 3 1 rfl rfl
  go_wp2_with fail
  generalize w1.setCell ⟨w.heap.size + 1 + 1, 0, none⟩ (.slice (some ⟨g1, 0, none⟩) vl vl) = w2 at T1 c2 ⊢
  clear f1 c1 c2
  refine (toAr_any ad len cap rs w2 hl HL.out (KB0.out.below T1.out.1)).mono ?_
  rintro e w3 ⟨g2, ss, rfl, hx, ht, b3⟩
  have t3 := T1.out.add b3 (Kns.loc w2.heap.size w3.heap.size (.slice (some ⟨g2, 0, none⟩) len len) (rs.map ktell)) ⟨ss, ht, hx.kns⟩
  have hz2 : Hid (w1.heap.size ≤ w2.heap.size) := T1.out.hi 1 rfl
  have hz1 : Hid (wb.heap.size ≤ w1.heap.size) := BB.out.size
  have f3 : w3.frozen? ⟨w.heap.size + 1 + 1, 1, none⟩ = false := t3.fr 1 1 rfl
  have c3 : w3.cell? ⟨w.heap.size + 1 + 1, 1, none⟩ = some (.slice none 0 0) := t3.at 1 1 rfl rfl
  have t4 := t3.setC 1 rfl (by omega) 1 (.slice (some ⟨g2, 0, none⟩) len len) (cs' := #[.slice (some ⟨g1, 0, none⟩) vl vl, .slice (some ⟨g2, 0, none⟩) len len, .int .i64 0]) rfl (hs' := [(w2.heap.size, w3.heap.size, Kns w2.heap.size w3.heap.size (.slice (some ⟨g2, 0, none⟩) len len) (rs.map ktell)), (wb.heap.size, w1.heap.size, Sli 107 wb.heap.size w1.heap.size (.slice (some ⟨g1, 0, none⟩) vl vl) vs.length (vlcells vs)), (w.heap.size + 1, w.heap.size + 1 + 1, Cel (w.heap.size + 1) #[.slice none 0 0, .slice none 0 0, .int .i64 0] 49), (w.heap.size, w.heap.size + 1, Cel w.heap.size #[.slice va vl vc, .slice ad len cap, .int .i64 nx] 41)]) (by
    intro x hx
    have h0 := HZ0.out
    have h1 := hz1.out
    have h2 := hz2.out
    simp only [List.mem_cons, List.not_mem_nil, or_false] at hx
    rcases hx with rfl | rfl | rfl | rfl
    · exact ⟨by simp, .inr (by show _ ≤ _; omega)⟩
    · exact ⟨by simp, .inr (by show _ ≤ _; omega)⟩
    · exact ⟨by simp, .inl (show w.heap.size + 1 + 1 ≤ w.heap.size + 1 + 1 from Nat.le_refl _)⟩
    · exact ⟨by simp, .inl (show w.heap.size + 1 ≤ w.heap.size + 1 + 1 by omega)⟩)
  have T4 := hide t4
  clear t3 t4 T1
  generalize HW4 : w3.setCell ⟨w.heap.size + 1 + 1, 1, none⟩ (.slice (some ⟨g2, 0, none⟩) len len) = w4 at T4
  have c4 : w4.cell? ⟨w.heap.size, 2, none⟩ = some (.int .i64 nx) := T4.out.at 4 2 rfl rfl
  have f4 : w4.frozen? ⟨w.heap.size + 1 + 1, 2, none⟩ = false := T4.out.fr 0 2 rfl
  have d4 : w4.cell? ⟨w.heap.size + 1 + 1, 2, none⟩ = some (.int .i64 0) := T4.out.at 0 2 rfl rfl
  have t5 := T4.out.setC 0 rfl (by omega) 2 (.int .i64 nx) (cs' := #[.slice (some ⟨g1, 0, none⟩) vl vl, .slice (some ⟨g2, 0, none⟩) len len, .int .i64 nx]) rfl (hs' := [(w2.heap.size, w3.heap.size, Kns w2.heap.size w3.heap.size (.slice (some ⟨g2, 0, none⟩) len len) (rs.map ktell)), (wb.heap.size, w1.heap.size, Sli 107 wb.heap.size w1.heap.size (.slice (some ⟨g1, 0, none⟩) vl vl) vs.length (vlcells vs)), (w.heap.size + 1, w.heap.size + 1 + 1, Cel (w.heap.size + 1) #[.slice none 0 0, .slice none 0 0, .int .i64 0] 49)]) (by
    intro x hx
    have h0 := HZ0.out
    have h1 := hz1.out
    have h2 := hz2.out
    simp only [List.mem_cons, List.not_mem_nil, or_false] at hx
    rcases hx with rfl | rfl | rfl
    · exact ⟨by simp, .inr (by show _ ≤ _; omega)⟩
    · exact ⟨by simp, .inr (by show _ ≤ _; omega)⟩
    · exact ⟨by simp, .inl (show w.heap.size + 1 + 1 ≤ w.heap.size + 1 + 1 from Nat.le_refl _)⟩)
  have T5 := hide t5
  clear t5 T4
  generalize HW5 : w4.setCell ⟨w.heap.size + 1 + 1, 2, none⟩ (.int .i64 nx) = w5 at T5
  have e0 : w5.cell? ⟨w.heap.size + 1 + 1, 0, none⟩ = some (.slice (some ⟨g1, 0, none⟩) vl vl) := T5.out.at 0 0 rfl rfl
  have e1 : w5.cell? ⟨w.heap.size + 1 + 1, 1, none⟩ = some (.slice (some ⟨g2, 0, none⟩) len len) := T5.out.at 0 1 rfl rfl
  have e2 : w5.cell? ⟨w.heap.size + 1 + 1, 2, none⟩ = some (.int .i64 nx) := T5.out.at 0 2 rfl rfl
  have k0 : w5.cell? ⟨w.heap.size + 1, 0, none⟩ = some (.slice none 0 0) := T5.out.at 3 0 rfl rfl
  have k1 : w5.cell? ⟨w.heap.size + 1, 1, none⟩ = some (.slice none 0 0) := T5.out.at 3 1 rfl rfl
  have k2 : w5.cell? ⟨w.heap.size + 1, 2, none⟩ = some (.int .i64 0) := T5.out.at 3 2 rfl rfl
  have j0 : w5.frozen? ⟨w.heap.size + 1, 0, none⟩ = false := T5.out.fr 3 0 rfl
  have j1 : w5.frozen? ⟨w.heap.size + 1, 1, none⟩ = false := T5.out.fr 3 1 rfl
  have j2 : w5.frozen? ⟨w.heap.size + 1, 2, none⟩ = false := T5.out.fr 3 2 rfl
  have R5 := hide (sto_row3 (a := .slice (some ⟨g1, 0, none⟩) vl vl) (b := .slice (some ⟨g2, 0, none⟩) len len) (c := .int .i64 nx) (T5.out.get 3 rfl))
  have FIN : Hid (StOut w ⟨vs, rs.map ktell, nx⟩ (.agg #[.slice (some ⟨g1, 0, none⟩) vl vl, .slice (some ⟨g2, 0, none⟩) len len, .int .i64 nx]) (((w5.setCell ⟨w.heap.size + 1, 0, none⟩ (.slice (some ⟨g1, 0, none⟩) vl vl)).setCell ⟨w.heap.size + 1, 1, none⟩ (.slice (some ⟨g2, 0, none⟩) len len)).setCell ⟨w.heap.size + 1, 2, none⟩ (.int .i64 nx))) := by
    have h0 := HZ0.out
    have h1 := hz1.out
    have h2 := hz2.out
    have h3 := T5.out.hi 1 rfl
    have h4 := T5.out.hi 2 rfl
    exact st_fin (s := ⟨vs, rs.map ktell, nx⟩) (by omega) (T5.out.get 2 rfl) (T5.out.get 1 rfl) ⟨by omega, .inr (by omega)⟩ ⟨by omega, .inr (by omega)⟩ h4 h3 (.inl (by omega)) T5.out.1
  subst HW5
  subst HW4
  clear T5 T0
  go_wp2
  exact bodyPost_ret (results_cell_row rfl _ _ (w.heap.size + 1) 49 _ (0, 0) _ rfl R5.out Tryz.underlying49 rfl infoSto) rfl ⟨_, _, rfl, FIN.out⟩
end Go.Proofs.YtcjgjkejhkhknabGreatDoor

/-
  toStore, held.
-/
namespace Go.Proofs.YtcjgjkejhkhknabGreatDoor
open Go.RowKit
open Words

theorem tosto_tk {w wi : World} {hs : List Hold} {va : Option Addr} {vl vc : Nat} {ad : Option Addr} {len cap : Nat} {nx : Int} {vs : List (Int × Int)} {rs : List Kw} {s : Sto} (T : Tk w wi hs) (H : VlRow w va vl vs) (K : KnRd w ad len rs) (hvl : vl ≤ 1048576) (hl : len ≤ 1048576) (hll : ∀ r ∈ rs, r.2.2.length ≤ 1048576) (hM : s = ⟨vs, rs.map ktell, nx⟩) :
    Calls Tryz.prog 14 #[.agg #[.slice va vl vc, .slice ad len cap, .int .i64 nx]] wi fun e w' => ∃ g1 g2 : Nat, e = .returned (.agg #[.slice (some ⟨g1, 0, none⟩) vl vl, .slice (some ⟨g2, 0, none⟩) len len, .int .i64 nx]) ∧ Tk w w' ((wi.heap.size, w'.heap.size, Sts wi.heap.size w'.heap.size (.agg #[.slice (some ⟨g1, 0, none⟩) vl vl, .slice (some ⟨g2, 0, none⟩) len len, .int .i64 nx]) s) :: hs) ∧ wi.heap.size ≤ w'.heap.size := by
  refine (toSto_any va vl vc ad len cap nx vs rs wi hvl hl hll (H.below T.1) (K.below T.1)).mono ?_
  rintro e w' ⟨g1, g2, rfl, h⟩
  subst hM
  exact ⟨g1, g2, rfl, T.add h.blw (Sts.loc _ _ _ _) h.sts, h.blw.size⟩
end Go.Proofs.YtcjgjkejhkhknabGreatDoor

/-
  spec.l11Has.
-/
namespace Go.Proofs.YtcjgjkejhkhknabGreatDoor
open Go.RowKit
open Words

/-- Rows of bools. -/
def flcells (l : List Bool) : List Value := l.map .bool
theorem flcells_set (l : List Bool) (k : Nat) (b : Bool) : (flcells l).set k (.bool b) = flcells (l.set k b) := by simp [flcells, List.map_set]
theorem flcells_get {l : List Bool} {k : Nat} {b : Bool} (h : l[k]? = some b) : (flcells l)[k]? = some (.bool b) := by rw [flcells, List.getElem?_map, h]; rfl
theorem infoBl : (Tryz.prog.info? 4).map (fun i => (i.zero, i.size, i.bytes)) = some (some (.bool false), 1, 1) := by kernel_rfl
/-- The knots that a tree has, its children up to k. -/
def hasK (l : List Kn) (m : Nat) (k i : Nat) : Bool := decide (m = i) || (List.range k).any (fun j => decide (kidAt l (m : Int) j = i))
theorem hasK_succ (l : List Kn) (m k i : Nat) : hasK l m (k + 1) i = (hasK l m k i || decide (kidAt l (m : Int) k = i)) := by
  rw [hasK, hasK, List.range_succ, List.any_append, Bool.or_assoc]
  simp
theorem hasB_neg (l : List Kn) {r : Int} (h : r < 0) (i : Nat) : hasB l r i = false := by rw [hasB, decide_eq_false (by omega), Bool.false_and]
theorem hasB_pos (l : List Kn) (m i : Nat) : hasB l (m : Int) i = hasK l m 4 i := by
  rw [hasB, hasK, decide_eq_true (by omega), Bool.true_and]
  congr 1
  rw [decide_eq_decide]
  omega
theorem map_set {n k : Nat} {f f' : Nat → Bool} (hf : ∀ i, i ≠ k → f' i = f i) (hk : f' k = true) : ((List.range n).map f).set k true = (List.range n).map f' := by
  apply List.ext_getElem?
  intro i
  rw [List.getElem?_set]
  by_cases e : k = i
  · subst e
    by_cases h : k < n
    · simp [h, hk]
    · simp [h]
  · rw [if_neg e, List.getElem?_map, List.getElem?_map]
    by_cases h : i < n
    · simp [h, hf i (Ne.symm e)]
    · simp [h]
theorem map_same {n : Nat} {f f' : Nat → Bool} (hf : ∀ i, i < n → f' i = f i) : (List.range n).map f = (List.range n).map f' := List.map_congr_left (fun i hi => (hf i (List.mem_range.1 hi)).symm)
/-- A row of bools of the call's own. -/
def FlOut (w : World) (len : Nat) (bs : List Bool) (e : Ending) (w' : World) : Prop := ∃ g, e = .returned (.slice (some ⟨g, 0, none⟩) len len) ∧ w.heap.size ≤ g ∧ g < w'.heap.size ∧ Flt 4 g (flcells bs) w' ∧ Below w.heap.size w w'

end Go.Proofs.YtcjgjkejhkhknabGreatDoor

/-
  spec.l13Needed, spec.l13On, spec.NeededOn.
-/
namespace Go.Proofs.YtcjgjkejhkhknabGreatDoor
open Go.RowKit
open Words Sums

theorem stin_form {w : World} {v : Value} {s : Sto} (h : StIn w v s) : ∃ va vl vc ad len cap, v = .agg #[.slice va vl vc, .slice ad len cap, .int .i64 s.next] := by
  obtain ⟨va, vl, vc, ad, len, cap, rs, h1, -⟩ := h
  exact ⟨va, vl, vc, ad, len, cap, h1⟩
/-- A row of bools of the call's own. -/
def Nd (w W : World) (g : Nat) (xs : List Value) : Prop := Below w.heap.size w W ∧ w.heap.size ≤ g ∧ Flt 4 g xs W
theorem Nd.next {w W W' : World} {g : Nat} {xs : List Value} (h : Nd w W g xs) (b : Below W.heap.size W W') : Nd w W' g xs := ⟨h.1.trans (b.mono h.1.size), h.2.1, h.2.2.below b⟩
theorem Nd.drewN {w W : World} {g : Nat} {xs : List Value} (h : Nd w W g xs) (n : Nat) : Nd w (W.drewN n) g xs := h.next (below_drewN (Below.refl _ _) n)
theorem Nd.put {w W : World} {g k : Nat} {xs : List Value} (h : Nd w W g xs) (u : Value) : Nd w (W.setCell ⟨g, k, none⟩ u) g (xs.set k u) := ⟨h.1.setCell (p := ⟨g, k, none⟩) h.2.1 _, h.2.1, h.2.2.set k u⟩
theorem Nd.lt {w W : World} {g : Nat} {xs : List Value} (h : Nd w W g xs) : g < W.heap.size := by
  obtain ⟨cs, h1, -⟩ := h.2.2
  exact (Array.getElem?_eq_some_iff.1 h1).1
theorem nd_step {R : List Bool} {n k : Nat} {b : Bool} (hR : R.length = n) (hk : R[k]? = some b) : ((flcells R).take k ++ (List.replicate n (Value.bool false)).drop k).set k (.bool b) = (flcells R).take (k + 1) ++ (List.replicate n (Value.bool false)).drop (k + 1) := by
  have hl := (List.getElem?_eq_some_iff.1 hk).1
  have hf : (flcells R)[k]? = some (.bool b) := flcells_get hk
  have hfl : (flcells R).length = n := by simp [flcells, hR]
  rw [List.set_append_right _ _ (by rw [List.length_take]; omega), List.length_take, Nat.min_eq_left (by omega), Nat.sub_self, List.drop_eq_getElem_cons (by rw [List.length_replicate]; omega), List.set_cons_zero, List.take_add_one, hf, List.append_assoc]
  rfl
/-- Behind a search: what is left, or all. -/
def Look1 (M : List Fnd) (L : List Int) (base c : Int) (z : Int) (row : List Bool) : Prop :=
  (∃ k : Nat, z + 1 = k ∧ newP (M.drop k) c = none ∧ row = rowS M L base) ∨ (z = -2 ∧ row = rowS M (L ++ [c]) base)
theorem look_end {M : List Fnd} {L : List Int} {base c z : Int} {row : List Bool} (h : Look1 M L base c z row) (hz : z < 0) : row = rowS M (L ++ [c]) base := by
  rcases h with ⟨k, e, hn, hr⟩ | ⟨-, hr⟩
  · have : k = 0 := by omega
    subst this
    rw [List.drop_zero] at hn
    rw [hr, rowS_none L base hn]
  · exact hr

set_option maxHeartbeats 4000000 in
set_option maxRecDepth 100000 in
theorem sneeded (ad : Option Addr) (len cap : Nat) (M : List Fnd) (la : Option Addr) (ll lc : Nat) (live : List Int) (base : Int) (w : World) (hl : len ≤ 1099511627776) (hll : ll ≤ 1000000000000000000) (h : FdRd w ad len M) (hi : IRow w la ll live) :
    Calls Tryz.prog 29 #[.slice ad len cap, .slice la ll lc, .int .i64 base] w (FlOut w len (rowS M live base)) := by
  obtain ⟨i0, hi0, hz0, hz1, hz2⟩ := info_parts infoBl
  have HR := hide h
  have HI := hide hi
  have HN := hide (show M.length = len from h.1)
  have HNL := hide hi.1
  clear h hi
  go_enter Tryz.func29, Tryz.ntmps29
  go_wp2_with (at_make; refine wpList_make_full _ rfl _ _ 69 rfl w.heap.size 4 i0 (.bool false) 1 Tryz.underlying69 hi0 hz0 hz1 .i64 .i64 _ _ len rfl rfl rfl rfl (by rw [hz2]; omega) (by unfold maxLen; omega) (by simp) ?_)
  intro w1 hown hgrow
  rw [toList_madeCells_one] at hown
  clear hi0 hz0 hz1 hz2
  have BG : Below w.heap.size w w1 := (Below.refl _ _).grown hgrow (Nat.le_refl _) (fun k hk => by cases hk)
  have N0 : Hid (Nd w w1 w.heap.size (List.replicate len (Value.bool false))) := ⟨BG, Nat.le_refl _, (Sli.of hown).flt⟩
  clear hown hgrow BG
  obtain ⟨R0, hR0⟩ : ∃ R0, rowS M [] base = R0 := ⟨_, rfl⟩
  have HR0 := hide hR0
  have HRL : Hid (R0.length = len) := by show _ = _; rw [← hR0, rowS_len]; exact HN.out
  clear hR0
  go_wp2
  go_loopw [8] (fun iv wr => ∃ k : Nat, iv = .int .i64 k ∧ k ≤ len ∧ Hid (Nd w wr w.heap.size ((flcells R0).take k ++ (List.replicate len (Value.bool false)).drop k))) (fun iv _ => len - (intOf iv).toNat)
  case atStart => exact ⟨0, rfl, Nat.zero_le _, by simpa using N0⟩
  case round =>
    rename World => wr
    obtain ⟨k, rfl, hk, N1⟩ := hrel
    clear N0
    have hk0 : (0 : Int) ≤ k := by omega
    by_cases hlt : (k : Int) < len
    · obtain ⟨x, hx⟩ : ∃ x, M[k]? = some x := ⟨_, List.getElem?_eq_getElem (by have := HN.out; omega)⟩
      obtain ⟨rb, ro, rfl, -, c0, c1, c2, c3, c4, c5, c6, c7, d4⟩ := (HR.out.below N1.out.1).all hx
      have hb : R0[k]? = some (x.page.kind == 2 && decide (base ≤ x.page.tx)) := by rw [← HR0.out, rowS_nil, List.getElem?_map, hx]; rfl
      have N2 := hide (N1.out.put (k := k) (.bool (x.page.kind == 2 && decide (base ≤ x.page.tx))))
      rw [nd_step HRL.out hb] at N2
      obtain ⟨xb, xl, pk, pq, px, pp, pc, pt⟩ := x
      simp only at c0 c1 c2 c3 c4 c5 c6 c7 d4 N2
      have kc : wr.cell? ⟨w.heap.size, k, none⟩ = some (.bool false) := N1.out.2.2.cell (by
        have hfl : (flcells R0).length = len := by simp [flcells, HRL.out]
        rw [List.getElem?_append_right (by rw [List.length_take]; omega), List.length_take, Nat.min_eq_left (by omega), Nat.sub_self, List.getElem?_drop, Nat.add_zero]
        rw [List.getElem?_replicate, if_pos (by omega)])
      have kf := N1.out.2.2.frozen k
      clear hx hb
      by_cases q1 : (pk == 2) = true
      · rw [q1, Bool.true_and] at N2
        by_cases q2 : base ≤ px
        · rw [decide_eq_true q2] at N2
          go_wp2
          go_roundw
          case rel => exact ⟨k + 1, by go_num, by omega, N2⟩
          case measure => simp [intOf]; omega
        · rw [decide_eq_false q2] at N2
          go_wp2
          go_roundw
          case rel => exact ⟨k + 1, by go_num, by omega, N2⟩
          case measure => simp [intOf]; omega
      · have q1 : (pk == 2) = false := by simpa using q1
        rw [q1, Bool.false_and] at N2
        go_wp2
        go_roundw
        case rel => exact ⟨k + 1, by go_num, by omega, N2⟩
        case measure => simp [intOf]; omega
    · have ek : k = len := by omega
      have N2 : Hid (Nd w wr w.heap.size (flcells (rowS M (live.take 0) base))) := by
        have := N1.out
        rw [ek, List.take_of_length_le (by simp [flcells, HRL.out]), List.drop_eq_nil_of_le (by simp), List.append_nil, ← HR0.out] at this
        exact this
      clear N1 ek HR0 HRL
      go_wp2
      go_loopw [9] (fun iv wr => ∃ k : Nat, iv = .int .i64 k ∧ k ≤ ll ∧ Hid (Nd w wr w.heap.size (flcells (rowS M (live.take k) base)))) (fun iv _ => ll - (intOf iv).toNat)
      case atStart => exact ⟨0, rfl, Nat.zero_le _, N2⟩
      case round =>
        rename World => wr2
        obtain ⟨k2, rfl, hk2, N3⟩ := hrel
        clear N2
        have hk20 : (0 : Int) ≤ k2 := by omega
        by_cases hlt2 : (k2 : Int) < ll
        · obtain ⟨c, hc⟩ : ∃ c, live[k2]? = some c := ⟨_, List.getElem?_eq_getElem (by have := HNL.out; omega)⟩
          obtain ⟨lb, lo, hla, -, -⟩ := HI.out.at hc
          subst hla
          have HC : Hid (∀ W, Below w.heap.size w W → W.cell? ⟨lb, lo + k2, none⟩ = some (.int .i64 c)) := by
            intro W hW
            obtain ⟨lb', lo', e, -, q⟩ := (HI.out.below hW).at hc
            injection e with e
            injection e with e1 e2
            subst e1 e2
            exact q
          have HTK : Hid (live.take (k2 + 1) = live.take k2 ++ [c]) := by show _ = _; rw [List.take_add_one, hc]; rfl
          have L0 : Hid (Look1 M (live.take k2) base c ((len : Int) - 1) (rowS M (live.take k2) base)) := .inl ⟨len, by omega, by rw [List.drop_eq_nil_of_le (by have := HN.out; omega)]; rfl, rfl⟩
          clear hc
          go_wp2
          go_loopw [10] (fun iv wr => ∃ (z : Int) (row : List Bool), iv = .int .i64 z ∧ -2 ≤ z ∧ z < len ∧ Hid (Look1 M (live.take k2) base c z row) ∧ Hid (Nd w wr w.heap.size (flcells row))) (fun iv _ => (intOf iv + 2).toNat)
          case atStart => exact ⟨(len : Int) - 1, _, by go_num, by omega, by omega, L0, N3⟩
          case round =>
            rename World => wr3
            obtain ⟨z, row, rfl, z1, z2, HL, N4⟩ := hrel
            clear L0 N3
            by_cases hz : 0 ≤ z
            · obtain ⟨j, rfl⟩ : ∃ j : Nat, z = (j : Int) := ⟨z.toNat, by omega⟩
              obtain ⟨x, hx⟩ : ∃ x, M[j]? = some x := ⟨_, List.getElem?_eq_getElem (by have := HN.out; omega)⟩
              obtain ⟨hrow, hnew⟩ : row = rowS M (live.take k2) base ∧ newP (M.drop (j + 1)) c = none := by
                rcases HL.out with ⟨k', e, hn, hr⟩ | ⟨e, -⟩
                · have : k' = j + 1 := by omega
                  subst this
                  exact ⟨hr, hn⟩
                · omega
              obtain ⟨rb, ro, rfl, -, c0, c1, c2, c3, c4, c5, c6, c7, d4⟩ := (HR.out.below N4.out.1).all hx
              have cl := HC.out _ N4.out.1
              by_cases hd : isData c x = true
              · have L1 : Hid (Look1 M (live.take k2) base c (-2) (row.set j true)) := .inr ⟨rfl, by rw [hrow, rowS_set _ _ hx hd hnew]⟩
                have hrl : row.length = len := by rw [hrow, rowS_len]; exact HN.out
                unfold isData at hd
                rw [Bool.and_eq_true] at hd
                obtain ⟨q1, q2⟩ := hd
                obtain ⟨xb, xl, pk, pq, px, pp, pc, pt⟩ := x
                simp only at c0 c1 c2 c3 c4 c5 c6 c7 d4 q1 q2
                have N5 : Hid (∀ n, Nd w (wr3.drewN n) w.heap.size (flcells row)) := fun n => N4.out.drewN n
                obtain ⟨bj, hbj⟩ : ∃ bj, row[j]? = some bj := ⟨_, List.getElem?_eq_getElem (by omega)⟩
                have KC : Hid (∀ n, (wr3.drewN n).cell? ⟨w.heap.size, j, none⟩ = some (.bool bj)) := fun n => (N5.out n).2.2.cell (flcells_get hbj)
                have KF : Hid (∀ n, (wr3.drewN n).frozen? ⟨w.heap.size, j, none⟩ = false) := fun n => (N5.out n).2.2.frozen j
                have N6 : Hid (∀ n, Nd w ((wr3.drewN n).setCell ⟨w.heap.size, j, none⟩ (.bool true)) w.heap.size (flcells (row.set j true))) := fun n => by
                  have := (N5.out n).put (k := j) (.bool true)
                  rw [flcells_set] at this
                  exact this
                clear hx hrow hnew hrl HL hbj N4
                go_wp2
                go_quiet (fail)
                have kc := KC.out
                have kf := KF.out
                clear KC KF N5
                go_wp2
                go_roundw
                case rel => exact ⟨-2, row.set j true, by go_num, by omega, by omega, L1, N6.out _⟩
                case measure => simp [intOf]; omega
              · have hd : isData c x = false := by simpa using hd
                have L1 : Hid (Look1 M (live.take k2) base c ((j : Int) - 1) row) := .inl ⟨j, by omega, by rw [List.drop_eq_getElem_cons (List.getElem?_eq_some_iff.1 hx).1, (List.getElem?_eq_some_iff.1 hx).2, newP_cons, hnew, hd]; rfl, hrow⟩
                have N5 : Hid (∀ n, Nd w (wr3.drewN n) w.heap.size (flcells row)) := fun n => N4.out.drewN n
                unfold isData at hd
                obtain ⟨xb, xl, pk, pq, px, pp, pc, pt⟩ := x
                simp only at c0 c1 c2 c3 c4 c5 c6 c7 d4 hd
                by_cases q1 : (pk == 1) = true
                · have q2 : (px == c) = false := by rw [q1, Bool.true_and] at hd; exact hd
                  clear hx hrow hnew HL N4 hd
                  go_wp2
                  go_quiet (fail)
                  go_wp2
                  go_roundw
                  case rel => exact ⟨(j : Int) - 1, row, by go_num, by omega, by omega, L1, N5.out _⟩
                  case measure => simp [intOf]; omega
                · have q1 : (pk == 1) = false := by simpa using q1
                  clear hx hrow hnew HL N4 hd
                  go_wp2
                  go_quiet (fail)
                  go_wp2
                  go_roundw
                  case rel => exact ⟨(j : Int) - 1, row, by go_num, by omega, by omega, L1, N5.out _⟩
                  case measure => simp [intOf]; omega
            · have hrow := look_end HL.out (by omega)
              have N5 : Hid (Nd w wr3 w.heap.size (flcells (rowS M (live.take (k2 + 1)) base))) := by rw [HTK.out, ← hrow]; exact N4
              clear hrow HL N4
              go_wp2
              go_roundw
              case rel => exact ⟨k2 + 1, by go_num, by omega, N5⟩
              case measure => simp [intOf]; omega
        · have N4 : Hid (Nd w wr2 w.heap.size (flcells (rowS M live base))) := by
            have := N3.out
            rw [List.take_of_length_le (by have := HNL.out; omega)] at this
            exact this
          clear N3
          go_wp2
          go_ret
          exact ⟨w.heap.size, rfl, Nat.le_refl _, N4.out.lt, N4.out.2.2, N4.out.1⟩

set_option maxHeartbeats 1000000 in
set_option maxRecDepth 100000 in
theorem son (ad : Option Addr) (len cap : Nat) (M : List Fnd) (g n c : Nat) (row : List Bool) (b : Int) (w : World) (hl : len ≤ 1099511627776) (hn : row.length = len) (he : n = len) (h : FdRd w ad len M) (hg : Flt 4 g (flcells row) w) :
    Calls Tryz.prog 28 #[.slice ad len cap, .slice (some ⟨g, 0, none⟩) n c, .int .i64 b] w fun e w' => e = .returned (.int .i64 ((onS M row b : Nat) : Int)) ∧ w' = w := by
  subst he
  have HR := hide h
  have HN := hide (show M.length = n from h.1)
  have HRL := hide hn
  have HG := hide hg
  clear h hn hg
  go_enter Tryz.func28, Tryz.ntmps28
  go_wp2
  go_loopw [7, 8] (fun nv iv wr => ∃ (k q : Nat), nv = .int .i64 q ∧ iv = .int .i64 k ∧ k ≤ n ∧ q ≤ k ∧ Hid (onS (M.take k) (row.take k) b = q) ∧ wr = w) (fun _ iv _ => n - (intOf iv).toNat)
  case atStart => exact ⟨0, 0, rfl, rfl, Nat.zero_le _, Nat.le_refl _, (by show _ = _; simp [onS]), rfl⟩
  case round =>
    obtain ⟨k, q, rfl, rfl, hk, hq, HQ, rfl⟩ := hrel
    have hk0 : (0 : Int) ≤ k := by omega
    by_cases hlt : (k : Int) < n
    · obtain ⟨x, hx⟩ : ∃ x, M[k]? = some x := ⟨_, List.getElem?_eq_getElem (by have := HN.out; omega)⟩
      obtain ⟨r, hr⟩ : ∃ r, row[k]? = some r := ⟨_, List.getElem?_eq_getElem (by have := HRL.out; omega)⟩
      obtain ⟨rb, ro, rfl, -, c0, -⟩ := HR.out.all hx
      have hc := HG.out.cell (flcells_get hr)
      have HS := hide (onS_succ b hx hr)
      obtain ⟨xb, xl, pk, pq, px, pp, pc, pt⟩ := x
      simp only at c0 HS
      rw [HQ.out] at HS
      clear hx hr HQ
      cases r with
      | true =>
        rw [Bool.true_and] at HS
        by_cases q1 : (xb == b) = true
        · rw [q1] at HS
          have HS2 : Hid (onS (M.take (k + 1)) (row.take (k + 1)) b = q + 1) := HS
          clear HS
          go_wp2
          go_roundw
          case rel => exact ⟨k + 1, q + 1, by go_num, by go_num, by omega, by omega, HS2, trivial⟩
          case measure => simp [intOf]; omega
        · have q1 : (xb == b) = false := by simpa using q1
          rw [q1] at HS
          have HS2 : Hid (onS (M.take (k + 1)) (row.take (k + 1)) b = q) := HS
          clear HS
          go_wp2
          go_roundw
          case rel => exact ⟨k + 1, q, rfl, by go_num, by omega, by omega, HS2, trivial⟩
          case measure => simp [intOf]; omega
      | false =>
        rw [Bool.false_and] at HS
        have HS2 : Hid (onS (M.take (k + 1)) (row.take (k + 1)) b = q) := HS
        clear HS
        go_wp2
        go_roundw
        case rel => exact ⟨k + 1, q, rfl, by go_num, by omega, by omega, HS2, trivial⟩
        case measure => simp [intOf]; omega
    · have HO : Hid (onS M row b = q) := by
        have := HQ.out
        rw [List.take_of_length_le (by have := HN.out; omega), List.take_of_length_le (by have := HRL.out; omega)] at this
        exact this
      clear HQ
      go_wp2
      go_ret
      rw [HO.out]
      exact ⟨rfl, rfl⟩

set_option maxHeartbeats 1000000 in
set_option maxRecDepth 100000 in
theorem sneededOn (v : Value) (rs : List Rw) (sv : Value) (s : Sto) (base b : Int) (w : World) (hl : rs.length ≤ 1048576) (hll : ∀ r ∈ rs, r.2.2.2.length ≤ 1048576) (htx : TxB rs) (ha : FlashRd w v rs) (hs : StIn w sv s) :
    Calls Tryz.prog 13 #[.agg #[v], sv, .int .i64 base, .int .i64 b] w fun e w' => e = .returned (.int .i64 ((neededP (scanF (rs.map tellOf)) (liveS s) base b : Nat) : Int)) ∧ Below w.heap.size w w' := by
  obtain ⟨M, hM⟩ : ∃ M, scanF (rs.map tellOf) = M := ⟨_, rfl⟩
  have hfit := hs.fit
  have hlb := live_bound s
  obtain ⟨va, vl, vc, ad0, len0, cap0, rfl⟩ := stin_form hs
  have bA : Below w.heap.size w (w.alloc (.cells #[v] 30)) := (Below.refl _ _).alloc (Nat.le_refl _) _
  have hzA : (w.alloc (.cells #[v] 30)).heap.size = w.heap.size + 1 := by simp
  have kA : (w.alloc (.cells #[v] 30)).cell? ⟨w.heap.size, 0, none⟩ = some v := cell_of_row _ _ 0 _ _ _ (heap_alloc_new w (.cells #[v] 30))
  generalize hwa : w.alloc (.cells #[v] 30) = wa at bA hzA kA
  have bB : Below wa.heap.size wa (wa.alloc (.cells #[.slice va vl vc, .slice ad0 len0 cap0, .int .i64 s.next] 49)) := (Below.refl _ _).alloc (Nat.le_refl _) _
  have kB : ∀ (k : Nat) (u : Value), #[Value.slice va vl vc, .slice ad0 len0 cap0, .int .i64 s.next][k]? = some u → (wa.alloc (.cells #[.slice va vl vc, .slice ad0 len0 cap0, .int .i64 s.next] 49)).cell? ⟨wa.heap.size, k, none⟩ = some u := fun k u hu => by
    exact (cell_of_row _ _ k _ _ _ (heap_alloc_new wa (.cells #[.slice va vl vc, .slice ad0 len0 cap0, .int .i64 s.next] 49))).trans hu
  generalize hwb : wa.alloc (.cells #[.slice va vl vc, .slice ad0 len0 cap0, .int .i64 s.next] 49) = wb at bB kB
  have bW : Below w.heap.size w wb := bA.trans (bB.mono bA.size)
  have k0 : wb.cell? ⟨w.heap.size, 0, none⟩ = some v := (bB.cell (World.block_lt_of_cell? wa _ kA)).trans kA
  have s0 := kB 0 _ rfl
  have s1 := kB 1 _ rfl
  have s2 := kB 2 _ rfl
  have C := hide (sscanO v rs wb hl hll htx (ha.below bW))
  have HS := hide (hs.below bW)
  have BW := hide bW
  unfold ScOut at C
  rw [hM] at C ⊢
  have HLB : Hid ((liveS s).length ≤ 16 * 1048576) := by have := hfit.1; show _ ≤ _; omega
  have HL1 := hide (fun W (h : StIn W (.agg #[.slice va vl vc, .slice ad0 len0 cap0, .int .i64 s.next]) s) => sliveOf _ s W h)
  clear hl hll htx ha hs bA hM hfit hlb hzA kA kB bW
  go_enter Tryz.func13, Tryz.ntmps13
  go_wp2_with fail
  clear hwa hwb bB
  refine C.out.mono ?_
  rintro e w1 ⟨ad, cap, rfl, h1, h2, h3⟩
  have e0 := (h3.cell (World.block_lt_of_cell? wb _ s0)).trans s0
  have e1 := (h3.cell (World.block_lt_of_cell? wb _ s1)).trans s1
  have e2 := (h3.cell (World.block_lt_of_cell? wb _ s2)).trans s2
  have HR := hide h1
  have H1 := hide (HS.out.below h3)
  have B1 := hide (BW.out.trans (h3.mono BW.out.size))
  clear C h1 h3 HS BW k0 s0 s1 s2
  go_wp2_with fail
  refine (HL1.out _ H1.out).mono ?_
  rintro e w2 ⟨lv, rfl, ho, b2⟩
  obtain ⟨la, lc, rfl, hir, -, -⟩ := IHas.of ho (by have := HLB.out; unfold maxLen; omega) b2
  have HI := hide hir
  have B2 := hide (B1.out.trans (b2.mono B1.out.size))
  have HR2 := hide (HR.out.below b2)
  clear ho hir b2 HL1 H1 B1 HR e0 e1 e2
  go_wp2_with fail
  refine (sneeded ad M.length cap M la (liveS s).length lc (liveS s) base w2 h2 (by have := HLB.out; omega) HR2.out HI.out).mono ?_
  rintro e w3 ⟨g, rfl, g1, g2, g3, g4⟩
  have HR3 := hide (HR2.out.below g4)
  have HG := hide g3
  have B3 := hide (B2.out.trans (g4.mono B2.out.size))
  clear g1 g2 g3 g4 HR2 B2
  go_wp2_with fail
  refine (son ad M.length cap M g M.length M.length (rowS M (liveS s) base) b w3 h2 (rowS_len _ _ _) rfl HR3.out HG.out).mono ?_
  rintro e w4 ⟨rfl, rfl⟩
  go_wp2
  go_ret
  exact ⟨rfl, B3.out⟩
end Go.Proofs.YtcjgjkejhkhknabGreatDoor
