/-
  What the laws hold: stores.
-/
import Derived.Test.YtcnaahajaaifjabPk8
import Derived.Test.YtcnaahajaaifjabPk29
import Derived.Test.YtcnaahajaaifjabPk31
import Derived.Test.YtcnaahajaaifjabPk32
namespace Go.Proofs.Ytcnaahajaaifjab
open Go.RowKit
open Words

/-- A store that is not too great to be marked. -/
def OkS (s : Sto) : Prop := s.vols.length ≤ 1048576 ∧ OkK s.kns ∧ s.kns.length ≤ 1048576 ∧ kend (1 + s.vols.length * 2) s.kns ≤ 1000000000
theorem OkS.fit {s : Sto} (h : OkS s) : s.Fit := ⟨h.1, h.2.2.1, h.2.1.2.1⟩
theorem OkS.of {s : Sto} (h1 : s.vols.length ≤ 1048576) (h2 : s.kns.length ≤ 1048576) (h3 : kkids s.kns ≤ 1048576) : OkS s :=
  ⟨h1, OkK.of h2 h3, h2, by rw [kend_eq]; omega⟩
theorem kkids_le {l : List Kn} {b : Nat} (h : ∀ k ∈ l, k.kids.length ≤ b) : kkids l ≤ l.length * b := by
  unfold kkids
  induction l with
  | nil => simp
  | cons q l ih =>
    rw [List.map_cons, List.sum_cons, List.length_cons, Nat.succ_mul]
    have := ih (fun k hk => h k (List.mem_cons_of_mem _ hk))
    have := h q List.mem_cons_self
    omega
theorem right_oks {s : Sto} (h : s.Right) : OkS s := by
  have h1 := h.few
  have h2 := right_small h
  refine OkS.of (by omega) (by omega) ?_
  have : kkids s.kns ≤ s.kns.length * 4 := kkids_le (fun k hk => by
    obtain ⟨i, hi, e⟩ := List.mem_iff_getElem.1 hk
    have := knB_len (arB_at h.ar (i := i) (x := k) (by rw [← e]; exact List.getElem?_eq_getElem hi))
    omega)
  omega
theorem enter_oks {s : Sto} (h : OkS s) (r : Rc) : OkS (enterS s r).1 := by
  by_cases hb : stoB s = true
  · exact right_oks (enter_right ((stoB_iff s).1 hb) r)
  · rw [enterS, if_neg (fun q => hb q.1)]; exact h
theorem eqvl_tk {w wi : World} {hs : List Hold} {a b : Value} {M : List (Int × Int)} {n l1 h1 l2 h2 : Nat} (T : Tk w wi hs) (n1 n2 : Nat) (hn : M.length = n) (hM : n ≤ 1048576) (e1 : hs[n1]? = some (l1, h1, Sli 57 l1 h1 a n (vlcells M))) (e2 : hs[n2]? = some (l2, h2, Sli 57 l2 h2 b n (vlcells M))) :
    Calls Try.prog 45 #[a, b] wi fun e w' => e = .returned (.bool true) ∧ Tk w w' hs ∧ wi.heap.size ≤ w'.heap.size := by
  have x1 := T.get n1 e1
  have x2 := T.get n2 e2
  rw [← hn] at x1 x2
  refine (eqVls_same a b M l1 h1 l2 h2 wi (by omega) x1 x2).mono ?_
  rintro e w' ⟨rfl, hb⟩
  exact ⟨rfl, T.below hb, hb.size⟩
set_option maxHeartbeats 400000 in
set_option maxRecDepth 100000 in
theorem eqsto_tk {w wi : World} {hs : List Hold} {v u : Value} {s : Sto} {l1 h1 l2 h2 : Nat} (T : Tk w wi hs) (n1 n2 : Nat) (ho : OkS s) (e1 : hs[n1]? = some (l1, h1, Sts l1 h1 v s)) (e2 : hs[n2]? = some (l2, h2, Sts l2 h2 u s)) :
    Calls Try.prog 13 #[v, u] wi fun e w' => e = .returned (.bool true) ∧ Tk w w' hs ∧ wi.heap.size ≤ w'.heap.size := by
  have k1 := T.hi n1 e1
  have k2 := T.hi n2 e2
  obtain ⟨vv, kv, a1, b1, a2, b2, rfl, x1, x2, -, p2, -, p4, -⟩ := T.get n1 e1
  obtain ⟨uu, lv, c1, d1, c2, d2, rfl, y1, y2, -, q2, -, q4, -⟩ := T.get n2 e2
  have T1 := (((T.put (show b1 ≤ wi.heap.size by omega) (Sli.loc _ _ _ _ _ _) x1).put (show d1 ≤ wi.heap.size by omega) (Sli.loc _ _ _ _ _ _) y1).put (show b2 ≤ wi.heap.size by omega) (Kns.loc _ _ _ _) x2).put (show d2 ≤ wi.heap.size by omega) (Kns.loc _ _ _ _) y2
  obtain ⟨va, vc, rfl, -⟩ := x1.form
  obtain ⟨ua, uc, rfl, -⟩ := y1.form
  obtain ⟨ad, cap, rfl⟩ := x2.form
  obtain ⟨bd, cbp, rfl⟩ := y2.form
  obtain ⟨vs, kns, nx⟩ := s
  obtain ⟨o1, o2, -, -⟩ := ho
  simp only at T1 o1 o2 ⊢
  obtain ⟨vl, hvl⟩ : ∃ n, vs.length = n := ⟨_, rfl⟩
  obtain ⟨len, hlen⟩ : ∃ n, kns.length = n := ⟨_, rfl⟩
  rw [hvl, hlen] at T1 ⊢
  have T2 := hide ((T1.cell #[.slice va vl vc, .slice ad len cap, .int .i64 nx] 35).celln (alloc_size rfl _) #[.slice ua vl uc, .slice bd len cbp, .int .i64 nx] 35)
  have HV := hide hvl
  have HO2 := hide o2
  rw [hvl] at o1
  have HO1 := hide o1
  have hnn : (nx != nx) = false := by simp
  clear T T1 x1 x2 y1 y2 k1 k2 p2 p4 q2 q4 hvl hlen o1 o2 e1 e2
  go_enter Try.func13, Try.ntmps13
  go_wp2_with fail
  generalize (wi.alloc (.cells #[.slice va vl vc, .slice ad len cap, .int .i64 nx] 35)).alloc (.cells #[.slice ua vl uc, .slice bd len cbp, .int .i64 nx] 35) = wb at T2 ⊢
  refine (eqvl_tk T2.out 5 4 HV.out HO1.out rfl rfl).mono ?_
  rintro e w1 ⟨rfl, t1, s1⟩
  have T3 := hide t1
  have m1 : w1.cell? ⟨wi.heap.size, 1, none⟩ = some (.slice ad len cap) := T3.out.at 1 1 rfl rfl
  have m2 : w1.cell? ⟨wi.heap.size + 1, 1, none⟩ = some (.slice bd len cbp) := T3.out.at 0 1 rfl rfl
  clear t1 T2
  go_wp2_with fail
  refine (eqar_tk T3.out 3 2 HO2.out rfl rfl).mono ?_
  rintro e w2 ⟨rfl, t2, s2⟩
  have T4 := hide t2
  have m3 : w2.cell? ⟨wi.heap.size, 2, none⟩ = some (.int .i64 nx) := T4.out.at 1 2 rfl rfl
  have m4 : w2.cell? ⟨wi.heap.size + 1, 2, none⟩ = some (.int .i64 nx) := T4.out.at 0 2 rfl rfl
  clear t2 T3 m1 m2
  go_wp2
  go_ret
  exact ⟨rfl, T4.out.drop (fun x hx => by simp only [List.mem_cons]; exact .inr (.inr (.inr (.inr (.inr (.inr hx)))))), by have := T4.out.hi 0 rfl; omega⟩
/-- A store that is marked. -/
def MSt (lo hi : Nat) (v : Value) (m : Nat) : World → Prop := fun W => ∃ va n vc kv nx, ∃ ys : List Vw, ∃ l1 h1 l2 h2, v = .agg #[.slice va n vc, kv, .int .i64 nx] ∧ n ≤ 1048576 ∧ ys.length ≤ 1048580 ∧ (∀ y ∈ ys, y.2.2.1 ≤ 1048576) ∧ vend (1 + n * 2) ys = m ∧ Sli 57 l1 h1 (.slice va n vc) n (mkFlat patVl 1 n) W ∧ VIn l2 h2 kv (vmk (1 + n * 2) ys) W ∧ lo ≤ l1 ∧ h1 ≤ hi ∧ lo ≤ l2 ∧ h2 ≤ hi
theorem MSt.loc (lo hi : Nat) (v : Value) (m : Nat) : Loc lo hi (MSt lo hi v m) := by
  rintro w w' hk ⟨va, n, vc, kv, nx, ys, l1, h1, l2, h2, e, g1, g2, g3, g4, g5, g6, g7, g8, g9, g10⟩
  exact ⟨va, n, vc, kv, nx, ys, l1, h1, l2, h2, e, g1, g2, g3, g4, Sli.loc _ _ _ _ _ _ w w' (fun g q1 q2 => hk g (by omega) (by omega)) g5, VIn.loc _ _ _ _ w w' (fun g q1 q2 => hk g (by omega) (by omega)) g6, g7, g8, g9, g10⟩
theorem marksto_tk {w wi : World} {hs hs' : List Hold} {v : Value} {s : Sto} {m lo hi : Nat} (T : Tk w wi hs) (n1 : Nat) (ho : OkS s) (hm : kend (1 + s.vols.length * 2) s.kns = m) (hlo : w.heap.size ≤ lo) (e1 : hs[n1]? = some (lo, hi, Sts lo hi v s)) (hh : ∀ x ∈ hs', x ∈ hs ∧ (x.2.1 ≤ lo ∨ hi ≤ x.1)) :
    Calls Try.prog 21 #[v, .int .i64 1] wi fun e w' => e = .returned (.int .i64 (m : Int)) ∧ Tk w w' ((lo, hi, MSt lo hi v m) :: hs') ∧ wi.heap.size ≤ w'.heap.size := by
  have hz := T.hi n1 e1
  obtain ⟨vv, kv, a1, b1, a2, b2, rfl, x1, x2, p1, p2, p3, p4, p5⟩ := T.get n1 e1
  obtain ⟨va, vc, rfl, -⟩ := x1.form
  obtain ⟨rs, hr, hx⟩ := x2
  obtain ⟨q1, q2⟩ := ho.2.1.row hr
  have hll : ∀ y ∈ rs.map vOf, y.2.2.1 ≤ 1048576 ∧ y.2.2.2.length = y.2.2.1 := by
    intro y hy
    obtain ⟨r, hr2, rfl⟩ := List.mem_map.1 hy
    exact ⟨q2 r hr2, by simp [vOf, icells]⟩
  have he : vend (1 + s.vols.length * 2) (rs.map vOf) = m := by rw [vend_kend, hr, hm]
  refine (markSto_any a1 b1 a2 b2 va s.vols.length vc kv s.next (vlcells s.vols) (rs.map vOf) wi ho.1 (vlcells_len _) (by rw [List.length_map]; exact q1) hll (by rw [he, ← hm]; exact ho.2.2.2) (by omega) (by omega) p5 x1 hx.v).mono ?_
  rintro e w' ⟨rfl, hy1, hy2, hk⟩
  rw [he]
  have hk2 : Kept2 wi w' (Apt lo hi) := ⟨hk.out.1, hk.out.2.1, hk.out.2.2.1, hk.out.2.2.2.1, fun i hi ho => hk.out.2.2.2.2 i hi ⟨by unfold Apt at ho ⊢; omega, by unfold Apt at ho ⊢; omega⟩⟩
  refine ⟨rfl, T.touch hk2 hlo hz (MSt.loc _ _ _ _) ?_ hh, hk2.2.2.2.1⟩
  exact ⟨va, s.vols.length, vc, kv, s.next, rs.map vOf, a1, b1, a2, b2, rfl, ho.1, by rw [List.length_map]; exact q1, fun y hy => (hll y hy).1, he, hy1.out, hy2.out, p1, p2, p3, p4⟩
theorem marksto_sp {w wi : World} {hs hs' : List Hold} {v : Value} {s : Sto} {m lo hi : Nat} (T : Tk w wi hs) (n1 : Nat) (ho : OkS s) (hm : kend (1 + s.vols.length * 2) s.kns = m) (hlo : w.heap.size ≤ lo) (e1 : hs[n1]? = some (lo, hi, Sts lo hi v s)) (hh : ∀ x ∈ hs', x ∈ hs ∧ (x.2.1 ≤ lo ∨ hi ≤ x.1)) :
    Calls Try.prog 21 #[v, .int .i64 1] wi fun e w' => e = .returned (.int .i64 (m : Int)) ∧ Tk w w' hs' ∧ wi.heap.size ≤ w'.heap.size := by
  refine (marksto_tk T n1 ho hm hlo e1 hh).mono ?_
  rintro e w' ⟨rfl, h2, h3⟩
  exact ⟨rfl, h2.drop (fun x hx => List.mem_cons_of_mem _ hx), h3⟩
end Go.Proofs.Ytcnaahajaaifjab
