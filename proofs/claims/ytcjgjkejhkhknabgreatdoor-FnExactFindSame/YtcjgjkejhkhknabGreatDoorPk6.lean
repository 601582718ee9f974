/-
  StoM3; SRoots; VlApp; StApp; LastOp
-/
import Derived.Test.YtcjgjkejhkhknabGreatDoorPk5
import Derived.Test.YtcjgjkejhkhknabGreatDoorPk0
import Derived.Test.YtcjgjkejhkhknabGreatDoorPk2
import Derived.Test.YtcjgjkejhkhknabGreatDoorPk1
import Derived.Deep.AppendLies
import Derived.Maps.AppendAt
import Derived.Orders
import Derived.OrdersHeld
import Derived.Tactics
import Derived.Deep.RegionHeld
/-
  The records of a store make it again, in plain words.
-/
namespace Go.Proofs.YtcjgjkejhkhknabGreatDoor
namespace Words

theorem all_none (l : List Kn) : allT l (-1) = List.replicate 16 0 := by
  have : ∀ s : Int, getT l (-1) s = 0 := by
    intro s
    rw [getT]
    split
    · rw [getP, if_pos (by omega)]
    · rfl
  unfold allT
  simp only [this]
  rfl
theorem all_len (l : List Kn) (r : Int) : (allT l r).length = 16 := by simp [allT]
theorem all_at (l : List Kn) (r : Int) {i : Nat} (hi : i < 16) : (allT l r)[i]? = some (getT l r (i : Int)) := by
  unfold allT
  rw [List.getElem?_map, List.getElem?_range hi]
  rfl
theorem get_pos {l : List Kn} {r : Int} (h : TrOk l r) {i : Nat} (hi : i ≤ 15) : 0 ≤ getP l r i := by
  have := (lf_at h.1 h.2 (show i / 4 < 4 by omega) (show i % 4 < 4 by omega)).2
  rwa [show 4 * (i / 4) + i % 4 = i by omega] at this
theorem tell_len (s : Sto) : (tellS s).length = s.vols.length := by simp [tellS]
theorem tell_at {s : Sto} {k : Nat} {v : Int × Int} (h : s.vols[k]? = some v) : (tellS s)[k]? = some (v.1, allT s.kns v.2) := by
  rw [tellS, List.getElem?_map, h]
  rfl
theorem asc_uniq {l : List (Int × Int)} (h : l.Pairwise (fun u v => u.1 < v.1)) {i j : Nat} {u v : Int × Int} (hi : l[i]? = some u) (hj : l[j]? = some v) (e : u.1 = v.1) : i = j := by
  obtain ⟨i1, i2⟩ := List.getElem?_eq_some_iff.1 hi
  obtain ⟨j1, j2⟩ := List.getElem?_eq_some_iff.1 hj
  have hp := List.pairwise_iff_getElem.1 h
  rcases Nat.lt_trichotomy i j with hl | hl | hl
  · have := hp i j i1 j1 hl
    rw [i2, j2] at this
    omega
  · exact hl
  · have := hp j i j1 i1 hl
    rw [i2, j2] at this
    omega
theorem atV_at {l : List (Int × Int)} (h : l.Pairwise (fun u v => u.1 < v.1)) {j : Nat} {v : Int × Int} (hj : l[j]? = some v) : atV l v.1 = some j := by
  obtain ⟨k, hk⟩ := atV_of (List.mem_of_getElem? hj) rfl
  obtain ⟨u, hu, e⟩ := atV_some hk
  rw [hk, asc_uniq h hu hj e]
theorem rootV_at {l : List (Int × Int)} (h : l.Pairwise (fun u v => u.1 < v.1)) {v : Int × Int} (hv : v ∈ l) : rootV l v.1 = some v.2 := by
  obtain ⟨i, hi, e⟩ := List.mem_iff_getElem.1 hv
  have h2 : l[i]? = some v := by rw [← e]; exact List.getElem?_eq_getElem hi
  rw [rootV, atV_at h h2, Option.bind_some, h2]
  rfl
theorem atV_no {l : List (Int × Int)} {id : Int} (h : ∀ v ∈ l, v.1 ≠ id) : atV l id = none := by
  cases e : atV l id with
  | none => rfl
  | some k =>
    obtain ⟨v, hv, h2⟩ := atV_some e
    exact absurd h2 (h v (List.mem_of_getElem? hv))
/-- What a sector has is what is told of it. -/
theorem chunk_told {s : Sto} (h : s.Right) {id : Int} {L : List Int} (hm : (id, L) ∈ tellS s) {i : Nat} (hi : i < 16) : some (chunkS s id (i : Int)) = L[i]? := by
  obtain ⟨v, hv, e⟩ := List.mem_map.1 hm
  injection e with e1 e2
  subst e1
  subst e2
  rw [chunkS, rootV_at h.asc hv, all_at _ _ hi]
/-- A new volume at the end. -/
theorem step_vol {n : Sto} (h : n.Right) {id : Int} (hid : 1 ≤ id ∧ id ≤ 9) (hl : n.vols.length < 3) (hn : ∀ v ∈ n.vols, v.1 < id) :
    ∃ m, enterS n ⟨2, id, 0, 0⟩ = (m, true) ∧ m.Right ∧ tellS m = tellS n ++ [(id, List.replicate 16 0)] ∧ m.next = n.next := by
  have hne : ∀ v ∈ n.vols, v.1 ≠ id := fun v hv => by have := hn v hv; omega
  have hr : (Rc.mk 2 id 0 0).Right := by
    unfold Rc.Right
    dsimp only
    omega
  have hv : insV n.vols id (-1) = n.vols ++ [(id, -1)] := by
    rw [insV, List.filter_eq_self.2 (fun v hv => by simpa using hn v hv), List.filter_eq_nil_iff.2 (fun v hv => by have := hn v hv; simp; omega)]
  refine ⟨⟨insV n.vols id (-1), n.kns, n.next⟩, ?_, ins_right h hid hne hl (root_none _) (none_less h.toNear), ?_, rfl⟩
  · rw [enterS, if_pos ⟨(stoB_iff n).2 h, hr⟩]
    simp only [show ¬((2 : Int) = 1) by omega, if_false, if_true, volE, Int.lt_irrefl, atV_no hne, Option.isSome_none, Bool.false_or, decide_eq_true_eq]
    rw [if_neg (by omega)]
  · unfold tellS
    show (insV n.vols id (-1)).map _ = _
    rw [hv, List.map_append, List.map_cons, List.map_nil, all_none]
/-- A sector put into the last volume. -/
theorem step_put {n : Sto} (h : n.Right) {id : Int} {L : List Int} {t : List (Int × List Int)} (ht : tellS n = t ++ [(id, L)]) {i : Nat} {c : Int} (hi : i ≤ 15) (hc : 1 ≤ c ∧ c < n.next) :
    ∃ m, enterS n ⟨4, id, (i : Int), c⟩ = (m, true) ∧ m.Right ∧ tellS m = t ++ [(id, L.set i c)] ∧ m.next = n.next := by
  have hl : n.vols.length = t.length + 1 := by rw [← tell_len, ht]; simp
  have hv := List.getElem?_eq_getElem (show t.length < n.vols.length by omega)
  generalize n.vols[t.length] = v at hv
  have h1 := tell_at hv
  rw [ht, List.getElem?_append_right (Nat.le_refl _), Nat.sub_self] at h1
  injection h1 with h1
  injection h1 with e1 e2
  subst e1
  subst e2
  have hm := List.mem_of_getElem? hv
  have hid := h.ids v hm
  have hnx := h.nx
  have hr : (Rc.mk 4 v.1 (i : Int) c).Right := by
    unfold Rc.Right
    dsimp only
    omega
  obtain ⟨nr, tl⟩ := put_near h.toNear hv hi (show 0 ≤ c by omega) (show c < 1000000000 by omega)
  refine ⟨putE n t.length v ⟨4, v.1, (i : Int), c⟩, ?_, swept_right nr, ?_, ?_⟩
  · rw [enterS, if_pos ⟨(stoB_iff n).2 h, hr⟩]
    simp only [show ¬((4 : Int) = 1) by omega, show ¬((4 : Int) = 2) by omega, show ¬((4 : Int) = 3) by omega, if_false, atV_at h.asc hv, hv, Option.getD_some]
    rw [if_neg (by omega)]
  · rw [putE, swept_tell nr, tl, ht, List.set_append_right _ _ (Nat.le_refl _), Nat.sub_self]
    rfl
  · show (if n.next ≤ c then c + 1 else n.next) = n.next
    rw [if_neg (by omega)]
theorem enterGo_app (s : Sto) (a b : List Rc) : enterGo s (a ++ b) = (enterGo s a).bind (fun n => enterGo n b) := by
  induction a generalizing s with
  | nil => rfl
  | cons r a ih =>
    rw [List.cons_append, enterGo, enterGo]
    split
    · exact ih _
    · rfl
theorem enterGo_one {s m : Sto} {r : Rc} (h : enterS s r = (m, true)) : enterGo s [r] = some m := by
  rw [enterGo, h, if_pos rfl, enterGo]
theorem baseK_succ (id : Int) (L : List Int) (k : Nat) : baseK id L (k + 1) = baseK id L k ++ (if 0 < (L[k]?).getD 0 then [⟨4, id, (k : Int), (L[k]?).getD 0⟩] else []) := by
  rw [baseK, baseK, List.range_succ, List.filterMap_append]
  congr 1
  simp only [List.filterMap_cons, List.filterMap_nil]
  split
  · rename_i h; split at h
    · cases h
    · rename_i h2; rw [if_neg h2]
  · rename_i x h; split at h
    · rename_i h2; injection h with h; rw [if_pos h2, h]
    · cases h
/-- The sectors of a volume, put one by one. -/
theorem puts {n : Sto} (h : n.Right) {id : Int} {L : List Int} {t : List (Int × List Int)} (ht : tellS n = t ++ [(id, List.replicate 16 0)]) (hL : L.length = 16) (hc : ∀ c ∈ L, 0 ≤ c ∧ c < n.next) :
    ∀ k, k ≤ 16 → ∃ m, enterGo n (baseK id L k) = some m ∧ m.Right ∧ tellS m = t ++ [(id, L.take k ++ List.replicate (16 - k) 0)] ∧ m.next = n.next := by
  intro k
  induction k with
  | zero => intro _; exact ⟨n, rfl, h, ht, rfl⟩
  | succ k ih =>
    intro hk
    obtain ⟨m, h1, h2, h3, h4⟩ := ih (by omega)
    have e := List.getElem?_eq_getElem (show k < L.length by omega)
    have hx := hc _ (List.mem_of_getElem? e)
    have et : L.take (k + 1) = L.take k ++ [L[k]] := by rw [List.take_succ_eq_append_getElem (by omega)]
    have er : List.replicate (16 - k) (0 : Int) = 0 :: List.replicate (16 - (k + 1)) 0 := by rw [show 16 - k = (16 - (k + 1)) + 1 by omega, List.replicate_succ]
    rw [baseK_succ, e, Option.getD_some]
    generalize L[k] = c at hx et
    by_cases h0 : 0 < c
    · rw [if_pos h0, enterGo_app, h1, Option.bind_some]
      obtain ⟨m2, g1, g2, g3, g4⟩ := step_put h2 h3 (show k ≤ 15 by omega) (show 1 ≤ c ∧ c < m.next by rw [h4]; omega)
      refine ⟨m2, enterGo_one g1, g2, ?_, g4.trans h4⟩
      rw [g3, er, List.set_append_right _ _ (by simp; omega), List.length_take, show k - min k L.length = 0 by omega, et, List.append_assoc]
      rfl
    · rw [if_neg h0, List.append_nil]
      refine ⟨m, h1, h2, ?_, h4⟩
      have : c = 0 := by omega
      subst this
      rw [h3, er, et, List.append_assoc]
      rfl
/-- The volumes, one by one. -/
theorem vols_again {s : Sto} (h : s.Right) : ∀ k, k ≤ s.vols.length → ∃ m, enterGo ⟨[], [], s.next⟩ ((s.vols.take k).flatMap (baseV s.kns)) = some m ∧ m.Right ∧ tellS m = (tellS s).take k ∧ m.next = s.next := by
  intro k
  induction k with
  | zero => intro _; exact ⟨⟨[], [], s.next⟩, rfl, base_right h.nx, rfl, rfl⟩
  | succ k ih =>
    intro hk
    obtain ⟨m, h1, h2, h3, h4⟩ := ih (by omega)
    have e := List.getElem?_eq_getElem (show k < s.vols.length by omega)
    have et : s.vols.take (k + 1) = s.vols.take k ++ [s.vols[k]] := by rw [List.take_succ_eq_append_getElem (by omega)]
    have ev := tell_at e
    obtain ⟨t1, t2⟩ := List.getElem?_eq_some_iff.1 ev
    have hm := List.mem_of_getElem? e
    have hp := List.pairwise_iff_getElem.1 h.asc
    have hlt : ∀ u ∈ m.vols, u.1 < (s.vols[k]).1 := by
      intro u hu
      have : (u.1, allT m.kns u.2) ∈ (tellS s).take k := by rw [← h3]; exact List.mem_map.2 ⟨u, hu, rfl⟩
      obtain ⟨i, hi, e2⟩ := List.mem_iff_getElem.1 this
      rw [List.getElem_take] at e2
      have hik : i < k := by rw [List.length_take] at hi; omega
      simp only [tellS, List.getElem_map] at e2
      injection e2 with e3 e4
      rw [← e3]
      exact hp i k (by omega) (by omega) hik
    have hml : m.vols.length = k := by
      rw [← tell_len, h3, List.length_take, tell_len]; omega
    have hf := h.few
    generalize s.vols[k] = v at *
    obtain ⟨m1, g1, g2, g3, g4⟩ := step_vol h2 (h.ids v hm) (by omega) hlt
    have hcs : ∀ c ∈ allT s.kns v.2, 0 ≤ c ∧ c < m1.next := by
      intro c hc
      obtain ⟨i, hi, e2⟩ := List.mem_iff_getElem.1 hc
      rw [all_len] at hi
      have e3 := all_at s.kns v.2 hi
      rw [List.getElem?_eq_getElem (by rw [all_len]; exact hi), e2] at e3
      injection e3 with e3
      have tk : TrOk s.kns v.2 := ⟨h.ar, h.root v hm⟩
      rw [e3, getT_ok tk (by omega), g4, h4]
      exact ⟨get_pos tk (by omega), h.less v hm i (by omega)⟩
    obtain ⟨m2, q1, q2, q3, q4⟩ := puts g2 g3 (all_len _ _) hcs 16 (Nat.le_refl _)
    refine ⟨m2, ?_, q2, ?_, by rw [q4, g4, h4]⟩
    · rw [et, List.flatMap_append, enterGo_app, h1, Option.bind_some]
      show enterGo m (baseV s.kns v ++ []) = _
      rw [List.append_nil, baseV, enterGo, g1, if_pos rfl]
      exact q1
    · rw [q3, h3, List.take_succ_eq_append_getElem t1, t2, List.take_of_length_le (l := allT s.kns v.2) (by rw [all_len]; omega)]
      simp
/-- The records of a right store make it again, from whatever right store on. -/
theorem base_again {s x : Sto} (h : s.Right) (hx : x.Right) : ∃ m, enterGo x (baseS s) = some m ∧ m.Right ∧ tellS m = tellS s ∧ m.next = s.next := by
  obtain ⟨m, h1, h2, h3, h4⟩ := vols_again h _ (Nat.le_refl _)
  rw [List.take_of_length_le (Nat.le_refl _)] at h1
  rw [List.take_of_length_le (by rw [tell_len]; omega)] at h3
  have hn := h.nx
  have hr : (Rc.mk 1 0 s.next 0).Right := by
    unfold Rc.Right
    dsimp only
    omega
  refine ⟨m, ?_, h2, h3, h4⟩
  have e : enterS x ⟨1, 0, s.next, 0⟩ = (⟨[], [], s.next⟩, true) := by
    rw [enterS, if_pos ⟨(stoB_iff x).2 hx, hr⟩, if_pos rfl]
    dsimp only
    rw [if_neg (by omega)]
  rw [baseS, enterGo, e, if_pos rfl]
  exact h1
end Words
end Go.Proofs.YtcjgjkejhkhknabGreatDoor

/-
  spec.l12Roots and spec.l12At: the roots of a store's volumes, and where one is.
-/
namespace Go.Proofs.YtcjgjkejhkhknabGreatDoor
open Go.RowKit
open Words

theorem infoSto : (Tryz.prog.info? 49).map (·.size) = some 3 := by kernel_rfl
/-- A store that came in, in a block of its own. -/
abbrev SBox (va : Option Addr) (vl vc : Nat) (ad : Option Addr) (len cap : Nat) (nx : Int) : Array Value := #[.slice va vl vc, .slice ad len cap, .int .i64 nx]
theorem sbox_at (w : World) (a b c : Value) : (w.alloc (.cells #[a, b, c] 49)).cell? ⟨w.heap.size, 0, none⟩ = some a ∧ (w.alloc (.cells #[a, b, c] 49)).cell? ⟨w.heap.size, 1, none⟩ = some b ∧ (w.alloc (.cells #[a, b, c] 49)).cell? ⟨w.heap.size, 2, none⟩ = some c := by
  have h := heap_alloc_new w (.cells #[a, b, c] 49)
  exact ⟨cell_of_row _ _ 0 _ _ _ h, cell_of_row _ _ 1 _ _ _ h, cell_of_row _ _ 2 _ _ _ h⟩
theorem roots_take {vs : List (Int × Int)} {k : Nat} {v : Int × Int} (h : vs[k]? = some v) : rootsV (vs.take k) ++ [v.2] = rootsV (vs.take (k + 1)) := by
  obtain ⟨h1, h2⟩ := List.getElem?_eq_some_iff.1 h
  rw [List.take_succ_eq_append_getElem h1, h2]
  simp [rootsV]

def atI : Option Nat → Int
  | some k => k
  | none => -1
end Go.Proofs.YtcjgjkejhkhknabGreatDoor

/-
  append([]Vol{}, list...).
-/
namespace Go.Proofs.YtcjgjkejhkhknabGreatDoor
open Go.RowKit
open Words

/-- A slice of volumes, wherever it lies. -/
def VlSl (W : World) (v : Value) (ls : List (Int × Int)) : Prop := ∃ a c, v = .slice a ls.length c ∧ (a = none → c = 0) ∧ VlRow W a ls.length ls
theorem VlSl.below {W W' : World} {v : Value} {ls : List (Int × Int)} (h : VlSl W v ls) (b : Below W.heap.size W W') : VlSl W' v ls := by
  obtain ⟨a, c, e, h1, h2⟩ := h
  exact ⟨a, c, e, h1, h2.below b⟩
theorem VlSl.of {lo hi : Nat} {v : Value} {ls : List (Int × Int)} {W : World} (h : Sli 107 lo hi v ls.length (vlcells ls) W) (hm : ls.length ≤ maxLen) (hh : hi ≤ W.heap.size) : VlSl W v ls := by
  rcases h with ⟨rfl, h0⟩ | ⟨g, cap, rfl, h1, h2, h3⟩
  · exact ⟨none, 0, by rw [h0], fun _ => rfl, rfl, hm, by simp, fun h => by omega⟩
  · refine ⟨_, _, rfl, (fun e => by cases e), rfl, hm, by simp, fun _ => ⟨g, 0, rfl, by omega, fun i t hi => ?_⟩⟩
    have hc := fun j v hj => h3.cell (vlcells_at ls i t hi j v hj)
    refine ⟨?_, ?_⟩
    · simpa using hc 0 _ rfl
    · simpa using hc 1 _ rfl
theorem VlSl.one {W : World} {v : Value} {ls : List (Int × Int)} (h : VlSl W v ls) : v.oneCell' = true := by
  obtain ⟨a, c, rfl, -⟩ := h
  rfl

theorem addr_off3v (b off j : Nat) : (⟨b, off, none⟩ : Addr).add j = ⟨b, off + j, none⟩ := by
  simp only [Addr.add]
  split <;> simp_all
theorem empty_vols (w : World) : (w.alloc (.cells #[] 107)).ownsRow w.heap.size 107 2 (.slice (some ⟨w.heap.size, 0, none⟩) 0 0) 0 (vlcells []) :=
  ⟨rfl, .inr ⟨w.heap.size, 0, #[], rfl, Nat.le_refl _, heap_alloc_new w _, Nat.le_refl _, by unfold maxLen; omega, rfl, rfl⟩⟩
theorem vlcells_back (M : List (Int × Int)) (i : Nat) (v : Value) (h : (vlcells M)[i]? = some v) : ∃ x, M[i / 2]? = some x ∧ (vlcell x)[i % 2]? = some v := by
  have hl := (List.getElem?_eq_some_iff.1 h).1
  rw [vlcells_len] at hl
  obtain ⟨x, hx⟩ : ∃ x, M[i / 2]? = some x := ⟨_, List.getElem?_eq_getElem (by omega)⟩
  obtain ⟨u, hu⟩ : ∃ u, (vlcell x)[i % 2]? = some u := ⟨_, List.getElem?_eq_getElem (by show i % 2 < 2; omega)⟩
  have := vlcells_at M (i / 2) x hx (i % 2) u hu
  rw [show i / 2 * 2 + i % 2 = i by omega, h] at this
  cases this
  exact ⟨x, hx, hu⟩
theorem VlRow.cells {w : World} {b off len : Nat} {ls : List (Int × Int)} (h : VlRow w (some ⟨b, off, none⟩) len ls) (j : Nat) (u : Value) (hj : (vlcells ls)[j]? = some u) : w.cell? ⟨b, off + j, none⟩ = some u := by
  obtain ⟨x, hx, hu⟩ := vlcells_back ls j u hj
  obtain ⟨b', off', e, -, c0, c1⟩ := h.at hx
  injection e with e
  injection e with e1 e2
  subst e1
  subst e2
  have hm : j = j / 2 * 2 + j % 2 := by omega
  have h4 : j % 2 < 2 := by omega
  generalize j % 2 = m at hm h4 hu
  rw [hm, ← Nat.add_assoc]
  match m, h4, hu with
  | 0, _, hu => simp only [vlcell] at hu; simp at hu; subst hu; simpa using c0
  | 1, _, hu => simp only [vlcell] at hu; simp at hu; subst hu; exact c1
/-- append([]Vol{}, ls...), wherever they lie. -/
theorem vol_append_rd (w : World) {ops : Array Oper} {rest : List Oper} {o : Oper} {a : Act} {Q : Exit → Act → World → Prop} (hg : o.guard = none) (s x : Operand)
    (hop : o.op = Op.call { callee := Callee.builtin Builtin.append, args := #[s, x], argTypes := #[44, 44] }) (g : Nat) (hs : a.eval s = .slice (some ⟨g, 0, none⟩) 0 0)
    (hown : w.ownsRow g 107 2 (.slice (some ⟨g, 0, none⟩) 0 0) 0 (vlcells [])) (v : Value) (ls : List (Int × Int)) (hx : a.eval x = v) (hl : ls.length ≤ 1048576)
    (hsrc : VlSl w v ls)
    (hK : ∀ v' w', w'.ownsRow g 107 2 v' ls.length (vlcells ls) → w.grownBy w' (some g) → wpList Tryz.prog ops Q rest (a.put o.dst v') w') : wpList Tryz.prog ops Q (o :: rest) a w := by
  obtain ⟨i0, hi, hz0, hz1, hz2⟩ := info_parts infoVl
  obtain ⟨ao, c, rfl, hc0, hrow⟩ := hsrc
  have hgl := (own_block_lt hown g rfl).2
  by_cases h0 : ls.length = 0
  · have hls : ls = [] := List.eq_nil_of_length_eq_zero h0
    subst hls
    refine wpList_append_fits_any w hg s x _ hop g _ i0 2 Tryz.underlying44 hi hz1 g 0 0 [] hs hown ao 0 c [] hx rfl ?_ (by simp) (by simp) (Nat.le_refl _) (fun w' h1 h2 => hK _ w' h1 h2)
    exact fun hn => ⟨rfl, hc0 hn⟩
  · obtain ⟨b, off, rfl, -, -⟩ := hrow.2.2.2 (by omega)
    refine wpList_append_own w hg s x _ hop g _ i0 (.agg #[.int .i64 0, .int .i64 0]) 2 16 Tryz.underlying44 hi hz0 hz1 hz2 rfl (by decide) _ 0 [] hs hown ⟨b, off, none⟩ ls.length c (vlcells ls) hx (vlcells_len ls) (fun j u hj => by rw [addr_off3v]; exact hrow.cells j u hj) (vlcells_one ls) (by unfold maxLen; omega) (by omega) (by omega) ?_
    intro v' w' h1 h2 _
    rw [Nat.zero_add] at h1
    exact hK v' w' h1 h2
end Go.Proofs.YtcjgjkejhkhknabGreatDoor

/-
  append at a step of a region that draws.
-/
namespace Go.Proofs.YtcjgjkejhkhknabGreatDoor
open Go.RowKit

/-- append onto a row of the call's own, at a step of a region that draws: however many are appended. -/
theorem step_append_own {P : Program} (w : World) {ops : Array Oper} {o : Oper} {a : Act} {K : Act → World → Prop} {Q : Exit → Act → World → Prop} {E : Prop} (hgd : o.guard = none) (s x : Operand) (t : TypeId)
    (ho : o.op = .call { callee := .builtin .append, args := #[s, x], argTypes := #[t, t] })
    (base : Nat) (e : TypeId) (i : TypeInfo) (z : Value) (size bytes : Nat) (ht : P.underlying t = some (.slice e)) (hi : P.info? e = some i) (hz : i.zero = some z)
    (hsize : i.size = size) (hby : i.bytes = bytes) (hzs : z.cells.size = size) (hsz : 0 < size)
    (v : Value) (n : Nat) (xs : List Value) (hs : a.eval s = v) (hown : w.ownsRow base e size v n xs)
    (ad : Addr) (m c : Nat) (news : List Value) (hx : a.eval x = .slice (some ad) m c) (hl : news.length = m * size) (hnews : ∀ j u, news[j]? = some u → w.cell? (ad.add j) = some u) (h1 : ∀ u ∈ news, u.oneCell' = true)
    (h63 : n + m ≤ maxLen) (hbytes : (n + m) * bytes ≤ 140737488355328) (hbase : base ≤ w.heap.size)
    (h : ∀ v' w', w'.ownsRow base e size v' (n + m) (xs ++ news) → w.grownBy w' v.ownBlock → K (a.put o.dst v') w') :
    if Region.wanted o (yielded ops a.tmps) = true then Oper.wp P o a w K Q else E := by
  have hw : Region.wanted o (yielded ops a.tmps) = true := by simp [Region.wanted, hgd]
  rw [if_pos hw]
  obtain ⟨v', w', hr, h2, h3, _, _⟩ := run_append_own_at (P := P) w base t o.type e i z size bytes ht hi hz hsize hby hzs hsz v n xs hown ad m c news hl hnews h1 h63 hbytes hbase
  unfold Oper.wp execOp
  simp only [ho, resolve, invoke, builtin, Sem.run_bind, Sem.run_pure, Result.andThen_ok, List.map_toArray, List.map_cons, List.map_nil, hs, hx, hr]
  exact h v' w' h2 h3
end Go.Proofs.YtcjgjkejhkhknabGreatDoor

/-
  A region that draws, whose last operation waits for all the others: that one is carried out behind them.
-/
namespace Go.Proofs.YtcjgjkejhkhknabGreatDoor
open Go Go.RowKit

/-- The last one waits for each of the others; each of those waits for earlier ones alone. -/
def lastB (ops : Array Oper) (o : Oper) : Bool :=
  ((List.range ops.size).all fun i => o.after.any fun e => Region.binds .any e && e.on == i) &&
  ((List.range ops.size).all fun j => match ops[j]? with
    | some oj => (oj.after.all fun e => !Region.binds .any e || decide (e.on < j)) && (match oj.guard with | none => true | some (k, _) => decide (k < ops.size))
    | none => true) &&
  (o.after.all fun e => !Region.binds .any e || decide (e.on < ops.size)) &&
  o.guard.isNone
/-- What follows the others: the last one, and then Q. -/
def Qlast (P : Program) (o : Oper) (Q : Exit → Act → World → Prop) : Exit → Act → World → Prop
  | .normal, a, w => wpList P #[] Q [o] a w
  | e, a, w => Q e a w
theorem LetsOut.last {P : Program} {o : Oper} {Q : Exit → Act → World → Prop} (h : LetsOut (Qlast P o Q)) : LetsOut Q := by
  obtain ⟨a, w, h⟩ := h
  exact ⟨a, w, h⟩
theorem upon_last {P : Program} {o oi : Oper} {Q : Exit → Act → World → Prop} {a : Act} {K : Act → World → Prop} {r : Result Next} (h : oi.upon P a K (Qlast P o Q) r) : oi.upon P a K Q r := by
  cases r with
  | ok n w' =>
    cases n <;> simp only [Oper.upon] at h ⊢ <;>
      first
        | exact h
        | exact Calls.mono h (fun e w'' he => by
            cases e
            · exact he
            · exact he
            · exact LetsOut.last he)
  | halt x w' => cases x <;> simp only [Oper.upon] at h ⊢ <;> exact h
theorem lastB_spec {ops : Array Oper} {o : Oper} (h : lastB ops o = true) : (∀ i, i < ops.size → ∃ e ∈ o.after, Region.binds .any e = true ∧ e.on = i) ∧ (∀ j oj, ops[j]? = some oj → (∀ e ∈ oj.after, Region.binds .any e = true → e.on < j) ∧ ∀ k b, oj.guard = some (k, b) → k < ops.size) ∧ o.guard = none ∧ ∀ e ∈ o.after, Region.binds .any e = true → e.on < ops.size := by
  unfold lastB at h
  simp only [Bool.and_eq_true, List.all_eq_true, List.mem_range, Array.any_eq_true', Option.isNone_iff_eq_none, beq_iff_eq] at h
  obtain ⟨⟨⟨h1, h2⟩, h4⟩, h3⟩ := h
  refine ⟨fun i hi => ?_, fun j oj hj => ?_, h3, fun e he hb => ?_⟩
  · obtain ⟨e, he, hb, ho⟩ := h1 i hi
    exact ⟨e, he, hb, ho⟩
  · have hlt := (Array.getElem?_eq_some_iff.1 hj).1
    have := h2 j hlt
    rw [hj] at this
    simp only [Bool.and_eq_true, Array.all_eq_true_iff_forall_mem, Bool.or_eq_true, Bool.not_eq_true', decide_eq_true_eq] at this
    refine ⟨fun e he hb => ?_, fun k b hg => ?_⟩
    · rcases this.1 e he with q | q
      · rw [hb] at q; cases q
      · exact q
    · have q := this.2
      rw [hg] at q
      simpa using q
  · have := Array.all_eq_true_iff_forall_mem.1 h4 e he
    simp only [Bool.or_eq_true, Bool.not_eq_true', decide_eq_true_eq] at this
    rcases this with q | q
    · rw [hb] at q; cases q
    · exact q
/-- Where none may come up, all have. -/
theorem ready_all {ops : Array Oper} {listed : Array Bool} (hs : listed.size = ops.size) (hw : ∀ j oj, ops[j]? = some oj → ∀ e ∈ oj.after, Region.binds .any e = true → e.on < j) (hr : Region.ready .any ops listed = []) : ∀ i, i < ops.size → listed.getD i false = true := by
  intro i
  induction i using Nat.strongRecOn with
  | ind i ih =>
    intro hi
    cases hl : listed.getD i false with
    | true => rfl
    | false =>
      have hm : i ∈ Region.ready .any ops listed := by
        rw [mem_ready]
        refine ⟨?_, ops[i], Array.getElem?_eq_getElem hi, fun e he hb => ?_⟩
        · have hi2 : i < listed.size := by omega
          simp [hi2] at hl ⊢
          exact hl
        · have := hw i _ (Array.getElem?_eq_getElem hi) e he hb
          exact ih e.on this (by omega)
      rw [hr] at hm
      cases hm
theorem getD_push {listed : Array Bool} {d : Bool} {i : Nat} (h : i < listed.size) : (listed.push false).getD i d = listed.getD i d := by
  simp [Array.getElem?_push, h, Nat.ne_of_lt h]
theorem getD_push_false {listed : Array Bool} {i : Nat} : (listed.push false).getD i false = listed.getD i false := by
  by_cases h : i < listed.size
  · exact getD_push h
  · by_cases e : i = listed.size
    · subst e; simp
    · simp [Array.getElem?_push, e]
theorem wpAny_last {P : Program} {ops : Array Oper} {o : Oper} {Q : Exit → Act → World → Prop} (h : lastB ops o = true) : ∀ (fuel : Nat) (listed : Array Bool) (a : Act) (w : World), listed.size = ops.size →
    wpAny P .any ops (Qlast P o Q) fuel listed a w → wpAny P .any (ops.push o) Q (fuel + 1) (listed.push false) a w := by
  obtain ⟨h1, h2, h3, h4⟩ := lastB_spec h
  have rd : ∀ (listed : Array Bool) (j : Nat), listed.size = ops.size → j ∈ Region.ready .any (ops.push o) (listed.push false) → (j < ops.size ∧ j ∈ Region.ready .any ops listed) ∨ (j = ops.size ∧ ∀ i, i < ops.size → listed.getD i false = true) := by
    intro listed j hs hj
    rw [mem_ready] at hj
    obtain ⟨q1, oj, q2, q3⟩ := hj
    by_cases hlt : j < ops.size
    · left
      rw [Array.getElem?_push_lt hlt] at q2
      rw [getD_push (by omega)] at q1
      refine ⟨hlt, mem_ready.2 ⟨q1, oj, by rw [Array.getElem?_eq_getElem hlt]; exact q2, fun e he hb => ?_⟩⟩
      have := q3 e he hb
      rwa [getD_push_false] at this
    · right
      have hj2 : j < (ops.push o).size := (Array.getElem?_eq_some_iff.1 q2).1
      simp only [Array.size_push] at hj2
      have e : j = ops.size := by omega
      subst e
      simp only [Array.getElem?_push_size, Option.some.injEq] at q2
      subst q2
      refine ⟨rfl, fun i hi => ?_⟩
      obtain ⟨e, he, hb, ho⟩ := h1 i hi
      have := q3 e he hb
      rw [getD_push_false, ho] at this
      exact this
  have last : ∀ (listed : Array Bool), listed.size = ops.size → (∀ i, i < ops.size → listed.getD i false = true) → Region.ready .any ops listed = [] := by
    intro listed hs hall
    rw [List.eq_nil_iff_forall_not_mem]
    intro j hj
    rw [mem_ready] at hj
    obtain ⟨q1, oj, q2, -⟩ := hj
    have hlt := (Array.getElem?_eq_some_iff.1 q2).1
    have := hall j hlt
    have hl2 : j < listed.size := by omega
    simp [hl2] at q1 this
    rw [q1] at this
    cases this
  have stepN : ∀ (fuel : Nat) (listed : Array Bool) (a : Act) (w : World), listed.size = ops.size → (∀ i, i < ops.size → listed.getD i false = true) → wpList P #[] Q [o] a w → wpOp P (ops.push o) Q ops.size (wpAny P .any (ops.push o) Q fuel ((listed.push false).setIfInBounds ops.size true)) a w := by
    intro fuel listed a w hs hall hq
    have hdone : Region.ready .any (ops.push o) ((listed.push false).setIfInBounds ops.size true) = [] := by
      rw [List.eq_nil_iff_forall_not_mem]
      intro j hj
      rw [mem_ready] at hj
      obtain ⟨q1, oj, q2, -⟩ := hj
      have hlt := (Array.getElem?_eq_some_iff.1 q2).1
      simp only [Array.size_push] at hlt
      by_cases e : ops.size = j
      · subst e
        have : ops.size < (listed.push false).size := by simp [hs]
        rw [Array.getD_eq_getD_getElem?, Array.getElem?_setIfInBounds_self_of_lt this] at q1
        cases q1
      · rw [getD_set_ne true e, getD_push (by omega)] at q1
        have hl := hall j (by omega)
        have hl2 : j < listed.size := by omega
        simp [hl2] at q1 hl
        rw [q1] at hl
        cases hl
    unfold wpOp
    simp only [Array.getElem?_push_size, Region.wanted, h3, if_true]
    simp only [wpList, Region.wanted, h3, if_true] at hq
    exact hq.imp (Oper.wp_mono (fun a' w' hk => wpAny_done hdone hk fuel)) id
  have isR : ∀ (listed : Array Bool), listed.size = ops.size → (∀ i, i < ops.size → listed.getD i false = true) → ops.size ∈ Region.ready .any (ops.push o) (listed.push false) := by
    intro listed hs hall
    rw [mem_ready]
    refine ⟨by simp [← hs], o, by simp, fun e he hb => ?_⟩
    rw [getD_push_false]
    exact hall e.on (h4 e he hb)
  have up : ∀ (listed : Array Bool) (j : Nat), listed.size = ops.size → j ∈ Region.ready .any ops listed → j ∈ Region.ready .any (ops.push o) (listed.push false) := by
    intro listed j hs hj
    rw [mem_ready] at hj ⊢
    obtain ⟨q1, oj, q2, q3⟩ := hj
    have hlt := (Array.getElem?_eq_some_iff.1 q2).1
    refine ⟨by rw [getD_push (by omega)]; exact q1, oj, by rw [Array.getElem?_push_lt hlt, ← Array.getElem?_eq_getElem hlt]; exact q2, fun e he hb => ?_⟩
    rw [getD_push_false]
    exact q3 e he hb
  have yl : ∀ (tmps : Array Value) (k : Nat), k < ops.size → yielded (ops.push o) tmps k = yielded ops tmps k := by
    intro tmps k hk
    unfold yielded
    rw [Array.getElem?_push_lt hk, ← Array.getElem?_eq_getElem hk]
  have wn : ∀ (oj : Oper) (j : Nat) (tmps : Array Value), ops[j]? = some oj → Region.wanted oj (yielded (ops.push o) tmps) = Region.wanted oj (yielded ops tmps) := by
    intro oj j tmps hj
    unfold Region.wanted
    cases hg : oj.guard with
    | none => rfl
    | some kb =>
      obtain ⟨k, b⟩ := kb
      simp only
      rw [yl tmps k ((h2 j oj hj).2 k b hg)]
  have opU : ∀ (j : Nat) (K : Act → World → Prop) (a : Act) (w : World), j < ops.size → wpOp P ops (Qlast P o Q) j K a w → wpOp P (ops.push o) Q j K a w := by
    intro j K a w hj hq
    have hjo : ops[j]? = some ops[j] := Array.getElem?_eq_getElem hj
    unfold wpOp at *
    rw [Array.getElem?_push_lt hj]
    rw [hjo] at hq
    simp only at hq ⊢
    rw [wn _ j a.tmps hjo]
    split
    · rename_i hw
      simp only [hw, if_true] at hq
      exact hq.imp (fun q => upon_last q) (fun q => ⟨q.1, LetsOut.last q.2⟩)
    · rename_i hw
      simp only [hw] at hq
      exact hq
  intro fuel
  induction fuel with
  | zero =>
    intro listed a w hs H
    have hall := ready_all hs (fun j oj hj => (h2 j oj hj).1) H.1
    refine ⟨fun hr => ?_, fun j hj => ?_⟩
    · have := isR listed hs hall
      rw [hr] at this
      cases this
    · rcases rd listed j hs hj with ⟨-, q⟩ | ⟨rfl, q⟩
      · rw [H.1] at q; cases q
      · exact stepN 0 listed a w hs q H.2
  | succ fuel ih =>
    intro listed a w hs H
    refine ⟨fun hr => ?_, fun j hj => ?_⟩
    · cases hrr : Region.ready .any ops listed with
      | nil =>
        have := isR listed hs (ready_all hs (fun j oj hj => (h2 j oj hj).1) hrr)
        rw [hr] at this
        cases this
      | cons k ks =>
        have := up listed k hs (by rw [hrr]; simp)
        rw [hr] at this
        cases this
    · rcases rd listed j hs hj with ⟨hlt, q⟩ | ⟨rfl, q⟩
      · have h5 := opU j _ a w hlt (H.2 j q)
        refine wpOp_mono (fun a' w' hk => ?_) h5
        have h6 := ih (listed.setIfInBounds j true) a' w' (by simpa using hs) hk
        have e : (listed.push false).setIfInBounds j true = (listed.setIfInBounds j true).push false := by
          apply Array.ext'
          rw [Array.toList_setIfInBounds, Array.toList_push, Array.toList_push, Array.toList_setIfInBounds, List.set_append_left _ _ (by rw [Array.length_toList]; omega)]
        rw [e]
        exact h6
      · exact stepN (fuel + 1) listed a w hs q (H.1 (last listed hs q))
/-- A region that draws, its last operation behind the others. -/
theorem wp_region_last {P : Program} {id : Nat} {l : List Oper} {o : Oper} {Q : Exit → Act → World → Prop} {S : World → Prop} {a : Act} {w : World} (hm : P.follows .mixedOrders = true) (h : lastB l.toArray o = true) (hS : S w.drew)
    (hh : S w.drew → wpAnyH P .any l.toArray (Qlast P o Q) S l.length (Array.replicate l.length false) a w.drew) : (Code.region id (l ++ [o]).toArray true).wp P Q a w := by
  refine wp_region_any hm ?_
  have e1 : (l ++ [o]).toArray = l.toArray.push o := by simp
  have e2 : (l ++ [o]).toArray.size = l.length + 1 := by simp
  rw [e2, e1]
  have e3 : Array.replicate (l.length + 1) false = (Array.replicate l.length false).push false := by rw [Array.replicate_succ]
  rw [e3]
  exact wpAny_last h l.length _ a _ (by simp) (wpAny_of_held _ _ _ _ (hh hS))
theorem wp_region_last2 {P : Program} {id : Nat} (n : Nat) {l : List Oper} {o : Oper} {Q : Exit → Act → World → Prop} {S : World → Prop} {a : Act} {w : World} (hm : P.follows .mixedOrders = true) (ho : l.drop n = [o]) (h : lastB l.dropLast.toArray o = true) (hS : S w.drew)
    (hh : S w.drew → wpAnyH P .any l.dropLast.toArray (Qlast P o Q) S l.dropLast.length (Array.replicate l.dropLast.length false) a w.drew) : (Code.region id l.toArray true).wp P Q a w := by
  have e : l = l.dropLast ++ [o] := by
    have := List.take_append_drop n l
    rw [ho] at this
    rw [← this, List.dropLast_concat]
  have := wp_region_last (id := id) (Q := Q) (S := S) hm h hS hh
  rw [← e] at this
  exact this
/-- An operation that reads alone, taken first; found by what is left of the list. -/
theorem takeL {P : Program} {l : List Oper} {Q : Exit → Act → World → Prop} {S : World → Prop} (i : Nat) {oi : Oper} {rest : List Oper} {v : Value} {fuel : Nat} {listed : Array Bool} {a : Act} {w : World} (hd : l.drop i = oi :: rest)
    (hs : Region.noSelect l.toArray = true) (hf : Region.free .any l.toArray listed i = true) (hr : (Region.ready .any l.toArray listed).contains i = true)
    (hQ : ∀ c a w, Q (.panic c) (a.put oi.dst v) w → Q (.panic c) a w) (hg : Region.wanted oi (yielded l.toArray a.tmps) = true) (hS : S w) (hy : ∀ w, S w → (execOp a.eval oi).run P w = .ok (.value v) w)
    (h : wpAnyH P .any l.toArray Q S fuel (listed.setIfInBounds i true) (a.put oi.dst v) w) : wpAnyH P .any l.toArray Q S (fuel + 1) listed a w := by
  have hi : l.toArray[i]? = some oi := by
    have : l[i]? = (l.drop i)[0]? := by simp
    rw [List.getElem?_toArray, this, hd]
    rfl
  exact wpAnyH_take hi hs hf hr hQ (Or.inl ⟨hg, hy⟩) hS h
/-- The one that may come up. -/
theorem oneL {P : Program} {l : List Oper} {Q : Exit → Act → World → Prop} {S : World → Prop} (i : Nat) {oi : Oper} {rest : List Oper} {fuel : Nat} {listed : Array Bool} {a : Act} {w : World} (hd : l.drop i = oi :: rest) (hr : Region.ready .any l.toArray listed = [i])
    (h : ∀ K' : Act → World → Prop, Shut (∀ a w, S w → (S w → wpAnyH P .any l.toArray Q S fuel (listed.setIfInBounds i true) a w) → K' a w) → if Region.wanted oi (yielded l.toArray a.tmps) = true then Oper.wp P oi a w K' Q else K' (a.put oi.dst undef) w) :
    wpAnyH P .any l.toArray Q S (fuel + 1) listed a w := by
  have hi : l.toArray[i]? = some oi := by
    have : l[i]? = (l.drop i)[0]? := by simp
    rw [List.getElem?_toArray, this, hd]
    rfl
  exact wpAnyH_ready hr (by simp) (AllReadyH.cons hi h AllReadyH.nil)
theorem last_go {P : Program} {o : Oper} {Q : Exit → Act → World → Prop} {a : Act} {w : World} (h : wpList P #[] Q [o] a w) : Qlast P o Q .normal a w := h
end Go.Proofs.YtcjgjkejhkhknabGreatDoor
