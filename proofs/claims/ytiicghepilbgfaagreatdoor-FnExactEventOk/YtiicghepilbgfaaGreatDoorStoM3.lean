/-
  The records of a store make it again, in plain words.
-/
import Derived.Test.YtiicghepilbgfaaGreatDoorStoM2
namespace Go.Proofs.YtiicghepilbgfaaGreatDoor
namespace Words

theorem all_none (l : List Kn) : allT l (-1) = List.replicate 16 0 := by
  have : ∀ s : Int, getT l (-1) s = 0 := by
    intro s
    rw [getT]
    split
    · rw [getP, if_pos (by omega)]
    · rfl
  unfold allT
  simp only [this]
  rfl
theorem all_len (l : List Kn) (r : Int) : (allT l r).length = 16 := by simp [allT]
theorem all_at (l : List Kn) (r : Int) {i : Nat} (hi : i < 16) : (allT l r)[i]? = some (getT l r (i : Int)) := by
  unfold allT
  rw [List.getElem?_map, List.getElem?_range hi]
  rfl
theorem get_pos {l : List Kn} {r : Int} (h : TrOk l r) {i : Nat} (hi : i ≤ 15) : 0 ≤ getP l r i := by
  have := (lf_at h.1 h.2 (show i / 4 < 4 by omega) (show i % 4 < 4 by omega)).2
  rwa [show 4 * (i / 4) + i % 4 = i by omega] at this
theorem tell_len (s : Sto) : (tellS s).length = s.vols.length := by simp [tellS]
theorem tell_at {s : Sto} {k : Nat} {v : Int × Int} (h : s.vols[k]? = some v) : (tellS s)[k]? = some (v.1, allT s.kns v.2) := by
  rw [tellS, List.getElem?_map, h]
  rfl
theorem asc_uniq {l : List (Int × Int)} (h : l.Pairwise (fun u v => u.1 < v.1)) {i j : Nat} {u v : Int × Int} (hi : l[i]? = some u) (hj : l[j]? = some v) (e : u.1 = v.1) : i = j := by
  obtain ⟨i1, i2⟩ := List.getElem?_eq_some_iff.1 hi
  obtain ⟨j1, j2⟩ := List.getElem?_eq_some_iff.1 hj
  have hp := List.pairwise_iff_getElem.1 h
  rcases Nat.lt_trichotomy i j with hl | hl | hl
  · have := hp i j i1 j1 hl
    rw [i2, j2] at this
    omega
  · exact hl
  · have := hp j i j1 i1 hl
    rw [i2, j2] at this
    omega
theorem atV_at {l : List (Int × Int)} (h : l.Pairwise (fun u v => u.1 < v.1)) {j : Nat} {v : Int × Int} (hj : l[j]? = some v) : atV l v.1 = some j := by
  obtain ⟨k, hk⟩ := atV_of (List.mem_of_getElem? hj) rfl
  obtain ⟨u, hu, e⟩ := atV_some hk
  rw [hk, asc_uniq h hu hj e]
theorem rootV_at {l : List (Int × Int)} (h : l.Pairwise (fun u v => u.1 < v.1)) {v : Int × Int} (hv : v ∈ l) : rootV l v.1 = some v.2 := by
  obtain ⟨i, hi, e⟩ := List.mem_iff_getElem.1 hv
  have h2 : l[i]? = some v := by rw [← e]; exact List.getElem?_eq_getElem hi
  rw [rootV, atV_at h h2, Option.bind_some, h2]
  rfl
theorem atV_no {l : List (Int × Int)} {id : Int} (h : ∀ v ∈ l, v.1 ≠ id) : atV l id = none := by
  cases e : atV l id with
  | none => rfl
  | some k =>
    obtain ⟨v, hv, h2⟩ := atV_some e
    exact absurd h2 (h v (List.mem_of_getElem? hv))
/-- What a sector has is what is told of it. -/
theorem chunk_told {s : Sto} (h : s.Right) {id : Int} {L : List Int} (hm : (id, L) ∈ tellS s) {i : Nat} (hi : i < 16) : some (chunkS s id (i : Int)) = L[i]? := by
  obtain ⟨v, hv, e⟩ := List.mem_map.1 hm
  injection e with e1 e2
  subst e1
  subst e2
  rw [chunkS, rootV_at h.asc hv, all_at _ _ hi]
/-- A new volume at the end. -/
theorem step_vol {n : Sto} (h : n.Right) {id : Int} (hid : 1 ≤ id ∧ id ≤ 9) (hl : n.vols.length < 3) (hn : ∀ v ∈ n.vols, v.1 < id) :
    ∃ m, enterS n ⟨2, id, 0, 0⟩ = (m, true) ∧ m.Right ∧ tellS m = tellS n ++ [(id, List.replicate 16 0)] ∧ m.next = n.next := by
  have hne : ∀ v ∈ n.vols, v.1 ≠ id := fun v hv => by have := hn v hv; omega
  have hr : (Rc.mk 2 id 0 0).Right := by
    unfold Rc.Right
    dsimp only
    omega
  have hv : insV n.vols id (-1) = n.vols ++ [(id, -1)] := by
    rw [insV, List.filter_eq_self.2 (fun v hv => by simpa using hn v hv), List.filter_eq_nil_iff.2 (fun v hv => by have := hn v hv; simp; omega)]
  refine ⟨⟨insV n.vols id (-1), n.kns, n.next⟩, ?_, ins_right h hid hne hl (root_none _) (none_less h.toNear), ?_, rfl⟩
  · rw [enterS, if_pos ⟨(stoB_iff n).2 h, hr⟩]
    simp only [show ¬((2 : Int) = 1) by omega, if_false, if_true, volE, Int.lt_irrefl, atV_no hne, Option.isSome_none, Bool.false_or, decide_eq_true_eq]
    rw [if_neg (by omega)]
  · unfold tellS
    show (insV n.vols id (-1)).map _ = _
    rw [hv, List.map_append, List.map_cons, List.map_nil, all_none]
/-- A sector put into the last volume. -/
theorem step_put {n : Sto} (h : n.Right) {id : Int} {L : List Int} {t : List (Int × List Int)} (ht : tellS n = t ++ [(id, L)]) {i : Nat} {c : Int} (hi : i ≤ 15) (hc : 1 ≤ c ∧ c < n.next) :
    ∃ m, enterS n ⟨4, id, (i : Int), c⟩ = (m, true) ∧ m.Right ∧ tellS m = t ++ [(id, L.set i c)] ∧ m.next = n.next := by
  have hl : n.vols.length = t.length + 1 := by rw [← tell_len, ht]; simp
  have hv := List.getElem?_eq_getElem (show t.length < n.vols.length by omega)
  generalize n.vols[t.length] = v at hv
  have h1 := tell_at hv
  rw [ht, List.getElem?_append_right (Nat.le_refl _), Nat.sub_self] at h1
  injection h1 with h1
  injection h1 with e1 e2
  subst e1
  subst e2
  have hm := List.mem_of_getElem? hv
  have hid := h.ids v hm
  have hnx := h.nx
  have hr : (Rc.mk 4 v.1 (i : Int) c).Right := by
    unfold Rc.Right
    dsimp only
    omega
  obtain ⟨nr, tl⟩ := put_near h.toNear hv hi (show 0 ≤ c by omega) (show c < 1000000000 by omega)
  refine ⟨putE n t.length v ⟨4, v.1, (i : Int), c⟩, ?_, swept_right nr, ?_, ?_⟩
  · rw [enterS, if_pos ⟨(stoB_iff n).2 h, hr⟩]
    simp only [show ¬((4 : Int) = 1) by omega, show ¬((4 : Int) = 2) by omega, show ¬((4 : Int) = 3) by omega, if_false, atV_at h.asc hv, hv, Option.getD_some]
    rw [if_neg (by omega)]
  · rw [putE, swept_tell nr, tl, ht, List.set_append_right _ _ (Nat.le_refl _), Nat.sub_self]
    rfl
  · show (if n.next ≤ c then c + 1 else n.next) = n.next
    rw [if_neg (by omega)]
theorem enterGo_app (s : Sto) (a b : List Rc) : enterGo s (a ++ b) = (enterGo s a).bind (fun n => enterGo n b) := by
  induction a generalizing s with
  | nil => rfl
  | cons r a ih =>
    rw [List.cons_append, enterGo, enterGo]
    split
    · exact ih _
    · rfl
theorem enterGo_one {s m : Sto} {r : Rc} (h : enterS s r = (m, true)) : enterGo s [r] = some m := by
  rw [enterGo, h, if_pos rfl, enterGo]
theorem baseK_succ (id : Int) (L : List Int) (k : Nat) : baseK id L (k + 1) = baseK id L k ++ (if 0 < (L[k]?).getD 0 then [⟨4, id, (k : Int), (L[k]?).getD 0⟩] else []) := by
  rw [baseK, baseK, List.range_succ, List.filterMap_append]
  congr 1
  simp only [List.filterMap_cons, List.filterMap_nil]
  split
  · rename_i h; split at h
    · cases h
    · rename_i h2; rw [if_neg h2]
  · rename_i x h; split at h
    · rename_i h2; injection h with h; rw [if_pos h2, h]
    · cases h
/-- The sectors of a volume, put one by one. -/
theorem puts {n : Sto} (h : n.Right) {id : Int} {L : List Int} {t : List (Int × List Int)} (ht : tellS n = t ++ [(id, List.replicate 16 0)]) (hL : L.length = 16) (hc : ∀ c ∈ L, 0 ≤ c ∧ c < n.next) :
    ∀ k, k ≤ 16 → ∃ m, enterGo n (baseK id L k) = some m ∧ m.Right ∧ tellS m = t ++ [(id, L.take k ++ List.replicate (16 - k) 0)] ∧ m.next = n.next := by
  intro k
  induction k with
  | zero => intro _; exact ⟨n, rfl, h, ht, rfl⟩
  | succ k ih =>
    intro hk
    obtain ⟨m, h1, h2, h3, h4⟩ := ih (by omega)
    have e := List.getElem?_eq_getElem (show k < L.length by omega)
    have hx := hc _ (List.mem_of_getElem? e)
    have et : L.take (k + 1) = L.take k ++ [L[k]] := by rw [List.take_succ_eq_append_getElem (by omega)]
    have er : List.replicate (16 - k) (0 : Int) = 0 :: List.replicate (16 - (k + 1)) 0 := by rw [show 16 - k = (16 - (k + 1)) + 1 by omega, List.replicate_succ]
    rw [baseK_succ, e, Option.getD_some]
    generalize L[k] = c at hx et
    by_cases h0 : 0 < c
    · rw [if_pos h0, enterGo_app, h1, Option.bind_some]
      obtain ⟨m2, g1, g2, g3, g4⟩ := step_put h2 h3 (show k ≤ 15 by omega) (show 1 ≤ c ∧ c < m.next by rw [h4]; omega)
      refine ⟨m2, enterGo_one g1, g2, ?_, g4.trans h4⟩
      rw [g3, er, List.set_append_right _ _ (by simp; omega), List.length_take, show k - min k L.length = 0 by omega, et, List.append_assoc]
      rfl
    · rw [if_neg h0, List.append_nil]
      refine ⟨m, h1, h2, ?_, h4⟩
      have : c = 0 := by omega
      subst this
      rw [h3, er, et, List.append_assoc]
      rfl
/-- The volumes, one by one. -/
theorem vols_again {s : Sto} (h : s.Right) : ∀ k, k ≤ s.vols.length → ∃ m, enterGo ⟨[], [], s.next⟩ ((s.vols.take k).flatMap (baseV s.kns)) = some m ∧ m.Right ∧ tellS m = (tellS s).take k ∧ m.next = s.next := by
  intro k
  induction k with
  | zero => intro _; exact ⟨⟨[], [], s.next⟩, rfl, base_right h.nx, rfl, rfl⟩
  | succ k ih =>
    intro hk
    obtain ⟨m, h1, h2, h3, h4⟩ := ih (by omega)
    have e := List.getElem?_eq_getElem (show k < s.vols.length by omega)
    have et : s.vols.take (k + 1) = s.vols.take k ++ [s.vols[k]] := by rw [List.take_succ_eq_append_getElem (by omega)]
    have ev := tell_at e
    obtain ⟨t1, t2⟩ := List.getElem?_eq_some_iff.1 ev
    have hm := List.mem_of_getElem? e
    have hp := List.pairwise_iff_getElem.1 h.asc
    have hlt : ∀ u ∈ m.vols, u.1 < (s.vols[k]).1 := by
      intro u hu
      have : (u.1, allT m.kns u.2) ∈ (tellS s).take k := by rw [← h3]; exact List.mem_map.2 ⟨u, hu, rfl⟩
      obtain ⟨i, hi, e2⟩ := List.mem_iff_getElem.1 this
      rw [List.getElem_take] at e2
      have hik : i < k := by rw [List.length_take] at hi; omega
      simp only [tellS, List.getElem_map] at e2
      injection e2 with e3 e4
      rw [← e3]
      exact hp i k (by omega) (by omega) hik
    have hml : m.vols.length = k := by
      rw [← tell_len, h3, List.length_take, tell_len]; omega
    have hf := h.few
    generalize s.vols[k] = v at *
    obtain ⟨m1, g1, g2, g3, g4⟩ := step_vol h2 (h.ids v hm) (by omega) hlt
    have hcs : ∀ c ∈ allT s.kns v.2, 0 ≤ c ∧ c < m1.next := by
      intro c hc
      obtain ⟨i, hi, e2⟩ := List.mem_iff_getElem.1 hc
      rw [all_len] at hi
      have e3 := all_at s.kns v.2 hi
      rw [List.getElem?_eq_getElem (by rw [all_len]; exact hi), e2] at e3
      injection e3 with e3
      have tk : TrOk s.kns v.2 := ⟨h.ar, h.root v hm⟩
      rw [e3, getT_ok tk (by omega), g4, h4]
      exact ⟨get_pos tk (by omega), h.less v hm i (by omega)⟩
    obtain ⟨m2, q1, q2, q3, q4⟩ := puts g2 g3 (all_len _ _) hcs 16 (Nat.le_refl _)
    refine ⟨m2, ?_, q2, ?_, by rw [q4, g4, h4]⟩
    · rw [et, List.flatMap_append, enterGo_app, h1, Option.bind_some]
      show enterGo m (baseV s.kns v ++ []) = _
      rw [List.append_nil, baseV, enterGo, g1, if_pos rfl]
      exact q1
    · rw [q3, h3, List.take_succ_eq_append_getElem t1, t2, List.take_of_length_le (l := allT s.kns v.2) (by rw [all_len]; omega)]
      simp
/-- The records of a right store make it again, from whatever right store on. -/
theorem base_again {s x : Sto} (h : s.Right) (hx : x.Right) : ∃ m, enterGo x (baseS s) = some m ∧ m.Right ∧ tellS m = tellS s ∧ m.next = s.next := by
  obtain ⟨m, h1, h2, h3, h4⟩ := vols_again h _ (Nat.le_refl _)
  rw [List.take_of_length_le (Nat.le_refl _)] at h1
  rw [List.take_of_length_le (by rw [tell_len]; omega)] at h3
  have hn := h.nx
  have hr : (Rc.mk 1 0 s.next 0).Right := by
    unfold Rc.Right
    dsimp only
    omega
  refine ⟨m, ?_, h2, h3, h4⟩
  have e : enterS x ⟨1, 0, s.next, 0⟩ = (⟨[], [], s.next⟩, true) := by
    rw [enterS, if_pos ⟨(stoB_iff x).2 hx, hr⟩, if_pos rfl]
    dsimp only
    rw [if_neg (by omega)]
  rw [baseS, enterGo, e, if_pos rfl]
  exact h1
end Words
end Go.Proofs.YtiicghepilbgfaaGreatDoor
