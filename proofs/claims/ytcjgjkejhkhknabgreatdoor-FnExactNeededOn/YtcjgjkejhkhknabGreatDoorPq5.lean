/-
  StoM2; StoM3
-/
import Derived.Test.YtcjgjkejhkhknabGreatDoorPq4
/-
  What records do to a store, in plain words.
-/
namespace Go.Proofs.YtcjgjkejhkhknabGreatDoor
namespace Words

theorem insV_len {l : List (Int × Int)} {id r : Int} (h : ∀ v ∈ l, v.1 ≠ id) : (insV l id r).length = l.length + 1 := by
  rw [insV, List.length_append, List.length_cons]
  have key : (l.filter (fun v => decide (v.1 < id))).length + (l.filter (fun v => decide (id < v.1))).length = l.length := by
    induction l with
    | nil => rfl
    | cons v l ih =>
      have i := ih (fun u hu => h u (List.mem_cons_of_mem _ hu))
      have hv := h v List.mem_cons_self
      rw [List.filter_cons, List.filter_cons]
      by_cases hlt : v.1 < id
      · rw [if_pos (by simpa using hlt), if_neg (by simp; omega), List.length_cons, List.length_cons]; omega
      · rw [if_neg (by simpa using hlt), if_pos (by simp; omega), List.length_cons, List.length_cons]; omega
  omega
theorem insV_mem {l : List (Int × Int)} {id r : Int} {v : Int × Int} (h : v ∈ insV l id r) : v = (id, r) ∨ v ∈ l := by
  rw [insV, List.mem_append, List.mem_cons, List.mem_filter, List.mem_filter] at h
  rcases h with h | h | h
  · exact .inr h.1
  · exact .inl h
  · exact .inr h.1
theorem insV_old {l : List (Int × Int)} {id r : Int} {v : Int × Int} (h : v ∈ l) (hn : v.1 ≠ id) : v ∈ insV l id r := by
  rw [insV, List.mem_append, List.mem_cons, List.mem_filter, List.mem_filter]
  by_cases hlt : v.1 < id
  · exact .inl ⟨h, by simpa using hlt⟩
  · exact .inr (.inr ⟨h, by simp; omega⟩)
theorem insV_new {l : List (Int × Int)} {id r : Int} : (id, r) ∈ insV l id r := by
  rw [insV, List.mem_append, List.mem_cons]
  exact .inr (.inl rfl)
theorem insV_asc {l : List (Int × Int)} {id r : Int} (h : l.Pairwise (fun u v => u.1 < v.1)) : (insV l id r).Pairwise (fun u v => u.1 < v.1) := by
  rw [insV, List.pairwise_append, List.pairwise_cons]
  refine ⟨h.filter _, ⟨?_, h.filter _⟩, ?_⟩
  · intro v hv
    simpa using (List.mem_filter.1 hv).2
  · intro u hu v hv
    have h1 : u.1 < id := by simpa using (List.mem_filter.1 hu).2
    rcases List.mem_cons.1 hv with e | e
    · rw [e]; exact h1
    · have : id < v.1 := by simpa using (List.mem_filter.1 e).2
      omega
/-- A volume more. -/
theorem ins_right {s : Sto} (h : s.Right) {id q : Int} (hid : 1 ≤ id ∧ id ≤ 9) (hn : ∀ v ∈ s.vols, v.1 ≠ id) (hl : s.vols.length < 3) (hq : rootB s.kns q = true) (hg : ∀ k : Nat, k ≤ 15 → getP s.kns q k < s.next) : (Sto.mk (insV s.vols id q) s.kns s.next).Right := by
  refine ⟨⟨?_, h.ar, h.nx, ?_, insV_asc h.asc, ?_, ?_⟩, ?_⟩
  · show (insV s.vols id q).length ≤ 3
    rw [insV_len hn]; omega
  · intro v hv
    rcases insV_mem hv with e | e
    · rw [e]; exact hid
    · exact h.ids v e
  · intro v hv
    rcases insV_mem hv with e | e
    · rw [e]; exact hq
    · exact h.root v e
  · intro v hv
    rcases insV_mem hv with e | e
    · rw [e]; exact hg
    · exact h.less v e
  · intro j hj
    have := h.used j hj
    rw [swU, List.any_eq_true] at this ⊢
    obtain ⟨r, hr, hb⟩ := this
    obtain ⟨v, hv, rfl⟩ := List.mem_map.1 hr
    exact ⟨v.2, List.mem_map.2 ⟨v, insV_old hv (hn v hv), rfl⟩, hb⟩
/-- A volume less. -/
theorem drop_near {s : Sto} (h : s.Near) (k : Nat) : (Sto.mk (s.vols.take k ++ s.vols.drop (k + 1)) s.kns s.next).Near := by
  have sub : (s.vols.take k ++ s.vols.drop (k + 1)).Sublist s.vols := by
    rw [← List.eraseIdx_eq_take_drop_succ]
    exact List.eraseIdx_sublist _ _
  exact ⟨Nat.le_trans sub.length_le h.few, h.ar, h.nx, fun v hv => h.ids v (sub.subset hv), h.asc.sublist sub, fun v hv => h.root v (sub.subset hv), fun v hv => h.less v (sub.subset hv)⟩
theorem set_ids {l : List (Int × Int)} {k : Nat} {v : Int × Int} {q : Int} (hk : l[k]? = some v) : (l.set k (v.1, q)).map (·.1) = l.map (·.1) := by
  rw [List.map_set]
  obtain ⟨h1, h2⟩ := List.getElem?_eq_some_iff.1 hk
  have : (l.map (·.1))[k]'(by simpa using h1) = v.1 := by rw [List.getElem_map, h2]
  show (l.map (·.1)).set k v.1 = _
  rw [← this]
  exact List.set_getElem_self _
/-- A sector put. -/
theorem put_near {s : Sto} (h : s.Near) {k : Nat} {v : Int × Int} (hk : s.vols[k]? = some v) {i : Nat} {c : Int} (hi : i ≤ 15) (h0 : 0 ≤ c) (hc : c < 1000000000) :
    (Sto.mk (s.vols.set k (v.1, putR s.kns v.2 (i : Int) c)) (putL s.kns v.2 (i : Int) c) (if s.next ≤ c then c + 1 else s.next)).Near ∧
      tellS (Sto.mk (s.vols.set k (v.1, putR s.kns v.2 (i : Int) c)) (putL s.kns v.2 (i : Int) c) (if s.next ≤ c then c + 1 else s.next)) = (tellS s).set k (v.1, (allT s.kns v.2).set i c) := by
  have hm := List.mem_of_getElem? hk
  have ht : TrOk s.kns v.2 := ⟨h.ar, h.root v hm⟩
  obtain ⟨e1, e2⟩ := pt_put (n := c) ht hi h0
  rw [e1, e2]
  have hn : s.next ≤ (if s.next ≤ c then c + 1 else s.next) ∧ c < (if s.next ≤ c then c + 1 else s.next) ∧ (if s.next ≤ c then c + 1 else s.next) ≤ 1000000000 := by
    have := h.nx
    split <;> omega
  generalize (if s.next ≤ c then c + 1 else s.next) = nx at hn ⊢
  have hnx := h.nx
  refine ⟨⟨by show (s.vols.set k _).length ≤ 3; rw [List.length_set]; exact h.few, (pt_ok ht hi h0).1, ⟨by show 1 ≤ nx; omega, hn.2.2⟩, ?_, ?_, ?_, ?_⟩, ?_⟩
  · intro u hu
    rcases List.mem_or_eq_of_mem_set hu with e | e
    · exact h.ids u e
    · rw [e]; exact h.ids v hm
  · have := h.asc
    rw [← List.pairwise_map (f := fun (x : Int × Int) => x.1) (R := fun a b => a < b)] at this ⊢
    show ((s.vols.set k _).map _).Pairwise _
    rw [set_ids hk]
    exact this
  · intro u hu
    rcases List.mem_or_eq_of_mem_set hu with e | e
    · exact (pt_old ht hi h0 (h.root u e)).2
    · rw [e]; exact (pt_ok ht hi h0).2
  · intro u hu j hj
    show getP (pt s.kns v.2 i c) u.2 j < nx
    rcases List.mem_or_eq_of_mem_set hu with e | e
    · have a := pt_keep ht hi h0 (h.root u e) hj
      rw [getT_ok (pt_old ht hi h0 (h.root u e)) hj, getT_ok ⟨h.ar, h.root u e⟩ hj] at a
      rw [a]
      have := h.less u e j hj
      omega
    · rw [e]
      have a := pt_get ht hi h0 hj
      rw [getT_ok (pt_ok ht hi h0) hj, getT_ok ht hj] at a
      rw [a]
      split
      · omega
      · have := h.less v hm j hj
        omega
  · unfold tellS
    show (s.vols.set k _).map _ = _
    rw [List.map_set]
    have ea : s.vols.map (fun u => (u.1, allT (pt s.kns v.2 i c) u.2)) = s.vols.map (fun u => (u.1, allT s.kns u.2)) :=
      List.map_congr_left fun u hu => by rw [all_keep ht hi h0 (h.root u hu)]
    rw [ea]
    congr 1
    show (v.1, allT (pt s.kns v.2 i c) (ptR s.kns)) = _
    congr 1
    refine List.ext_getElem? fun j => ?_
    rw [List.getElem?_set]
    unfold allT
    simp only [List.getElem?_map, List.length_map, List.length_range]
    by_cases hj : j < 16
    · rw [List.getElem?_range hj]
      simp only [Option.map_some]
      rw [pt_get ht hi h0 (by omega)]
      by_cases e : i = j
      · subst e
        rw [if_pos rfl, if_pos rfl, if_pos (by omega)]
      · rw [if_neg (Ne.symm e), if_neg e]
    · rw [List.getElem?_eq_none (by simp; omega)]
      simp only [Option.map_none]
      by_cases e : i = j
      · omega
      · rw [if_neg e]
theorem none_less {s : Sto} (h : s.Near) : ∀ k : Nat, k ≤ 15 → getP s.kns (-1) k < s.next := by
  intro k _
  rw [getP, if_pos (by omega)]
  have := h.nx
  omega
theorem root_none (l : List Kn) : rootB l (-1) = true := by simp [rootB]
theorem rootV_some {s : Sto} {id q : Int} (e : rootV s.vols id = some q) : (id, q) ∈ s.vols := by
  rw [rootV] at e
  cases ha : atV s.vols id with
  | none => rw [ha] at e; cases e
  | some k =>
    rw [ha] at e
    obtain ⟨v, hv, hid⟩ := atV_some ha
    simp only [Option.bind_some, hv, Option.map_some, Option.some.injEq] at e
    have := List.mem_of_getElem? hv
    rw [← hid, ← e]
    exact this
theorem new_right : stoNew.Right := by
  refine ⟨⟨by decide, rfl, by decide, ?_, List.Pairwise.nil, ?_, ?_⟩, ?_⟩
  all_goals intro v hv; first | cases hv | (exact absurd hv (Nat.not_lt_zero _))
theorem base_right {n : Int} (h : 1 ≤ n ∧ n ≤ 1000000000) : (Sto.mk [] [] n).Right := by
  refine ⟨⟨by show 0 ≤ 3; omega, rfl, h, ?_, List.Pairwise.nil, ?_, ?_⟩, ?_⟩
  all_goals intro v hv; first | cases hv | (exact absurd hv (Nat.not_lt_zero _))
/-- Whatever record comes, a right store stays right. -/
theorem enter_right {s : Sto} (h : s.Right) (r : Rc) : (enterS s r).1.Right := by
  unfold enterS
  split
  · rename_i hb
    obtain ⟨-, ⟨ha, hr⟩⟩ := hb
    split
    · refine base_right ?_
      split <;> omega
    · rename_i hk1
      split
      · rename_i hk2
        unfold volE
        split
        · exact h
        · rename_i q hq
          split
          · exact h
          · rename_i hc
            simp only [Bool.or_eq_true, decide_eq_true_eq, not_or, Bool.not_eq_true, Option.isSome_eq_false_iff, Option.isNone_iff_eq_none] at hc
            have hf := h.few
            have hqr : rootB s.kns q = true ∧ ∀ k : Nat, k ≤ 15 → getP s.kns q k < s.next := by
              split at hq
              · have hm := rootV_some hq
                exact ⟨h.root _ hm, h.less _ hm⟩
              · injection hq with hq
                subst hq
                exact ⟨root_none _, none_less h.toNear⟩
            exact ins_right h (by omega) (atV_none hc.1) (by omega) hqr.1 hqr.2
      · split
        · exact h
        · rename_i k ha2
          split
          · exact h
          · split
            · exact swept_right (drop_near h.toNear k)
            · rename_i hcn hk3
              obtain ⟨v, hv, -⟩ := atV_some ha2
              rw [hv, Option.getD_some]
              have hi : r.arg.toNat ≤ 15 := by omega
              have := (put_near h.toNear hv (c := r.chunk) hi (by omega) (by omega)).1
              rw [show ((r.arg.toNat : Nat) : Int) = r.arg by omega] at this
              exact swept_right this
  · exact h
end Words
end Go.Proofs.YtcjgjkejhkhknabGreatDoor

/-
  The records of a store make it again, in plain words.
-/
namespace Go.Proofs.YtcjgjkejhkhknabGreatDoor
namespace Words

theorem all_none (l : List Kn) : allT l (-1) = List.replicate 16 0 := by
  have : ∀ s : Int, getT l (-1) s = 0 := by
    intro s
    rw [getT]
    split
    · rw [getP, if_pos (by omega)]
    · rfl
  unfold allT
  simp only [this]
  rfl
theorem all_len (l : List Kn) (r : Int) : (allT l r).length = 16 := by simp [allT]
theorem all_at (l : List Kn) (r : Int) {i : Nat} (hi : i < 16) : (allT l r)[i]? = some (getT l r (i : Int)) := by
  unfold allT
  rw [List.getElem?_map, List.getElem?_range hi]
  rfl
theorem get_pos {l : List Kn} {r : Int} (h : TrOk l r) {i : Nat} (hi : i ≤ 15) : 0 ≤ getP l r i := by
  have := (lf_at h.1 h.2 (show i / 4 < 4 by omega) (show i % 4 < 4 by omega)).2
  rwa [show 4 * (i / 4) + i % 4 = i by omega] at this
theorem tell_len (s : Sto) : (tellS s).length = s.vols.length := by simp [tellS]
theorem tell_at {s : Sto} {k : Nat} {v : Int × Int} (h : s.vols[k]? = some v) : (tellS s)[k]? = some (v.1, allT s.kns v.2) := by
  rw [tellS, List.getElem?_map, h]
  rfl
theorem asc_uniq {l : List (Int × Int)} (h : l.Pairwise (fun u v => u.1 < v.1)) {i j : Nat} {u v : Int × Int} (hi : l[i]? = some u) (hj : l[j]? = some v) (e : u.1 = v.1) : i = j := by
  obtain ⟨i1, i2⟩ := List.getElem?_eq_some_iff.1 hi
  obtain ⟨j1, j2⟩ := List.getElem?_eq_some_iff.1 hj
  have hp := List.pairwise_iff_getElem.1 h
  rcases Nat.lt_trichotomy i j with hl | hl | hl
  · have := hp i j i1 j1 hl
    rw [i2, j2] at this
    omega
  · exact hl
  · have := hp j i j1 i1 hl
    rw [i2, j2] at this
    omega
theorem atV_at {l : List (Int × Int)} (h : l.Pairwise (fun u v => u.1 < v.1)) {j : Nat} {v : Int × Int} (hj : l[j]? = some v) : atV l v.1 = some j := by
  obtain ⟨k, hk⟩ := atV_of (List.mem_of_getElem? hj) rfl
  obtain ⟨u, hu, e⟩ := atV_some hk
  rw [hk, asc_uniq h hu hj e]
theorem rootV_at {l : List (Int × Int)} (h : l.Pairwise (fun u v => u.1 < v.1)) {v : Int × Int} (hv : v ∈ l) : rootV l v.1 = some v.2 := by
  obtain ⟨i, hi, e⟩ := List.mem_iff_getElem.1 hv
  have h2 : l[i]? = some v := by rw [← e]; exact List.getElem?_eq_getElem hi
  rw [rootV, atV_at h h2, Option.bind_some, h2]
  rfl
theorem atV_no {l : List (Int × Int)} {id : Int} (h : ∀ v ∈ l, v.1 ≠ id) : atV l id = none := by
  cases e : atV l id with
  | none => rfl
  | some k =>
    obtain ⟨v, hv, h2⟩ := atV_some e
    exact absurd h2 (h v (List.mem_of_getElem? hv))
/-- What a sector has is what is told of it. -/
theorem chunk_told {s : Sto} (h : s.Right) {id : Int} {L : List Int} (hm : (id, L) ∈ tellS s) {i : Nat} (hi : i < 16) : some (chunkS s id (i : Int)) = L[i]? := by
  obtain ⟨v, hv, e⟩ := List.mem_map.1 hm
  injection e with e1 e2
  subst e1
  subst e2
  rw [chunkS, rootV_at h.asc hv, all_at _ _ hi]
/-- A new volume at the end. -/
theorem step_vol {n : Sto} (h : n.Right) {id : Int} (hid : 1 ≤ id ∧ id ≤ 9) (hl : n.vols.length < 3) (hn : ∀ v ∈ n.vols, v.1 < id) :
    ∃ m, enterS n ⟨2, id, 0, 0⟩ = (m, true) ∧ m.Right ∧ tellS m = tellS n ++ [(id, List.replicate 16 0)] ∧ m.next = n.next := by
  have hne : ∀ v ∈ n.vols, v.1 ≠ id := fun v hv => by have := hn v hv; omega
  have hr : (Rc.mk 2 id 0 0).Right := by
    unfold Rc.Right
    dsimp only
    omega
  have hv : insV n.vols id (-1) = n.vols ++ [(id, -1)] := by
    rw [insV, List.filter_eq_self.2 (fun v hv => by simpa using hn v hv), List.filter_eq_nil_iff.2 (fun v hv => by have := hn v hv; simp; omega)]
  refine ⟨⟨insV n.vols id (-1), n.kns, n.next⟩, ?_, ins_right h hid hne hl (root_none _) (none_less h.toNear), ?_, rfl⟩
  · rw [enterS, if_pos ⟨(stoB_iff n).2 h, hr⟩]
    simp only [show ¬((2 : Int) = 1) by omega, if_false, if_true, volE, Int.lt_irrefl, atV_no hne, Option.isSome_none, Bool.false_or, decide_eq_true_eq]
    rw [if_neg (by omega)]
  · unfold tellS
    show (insV n.vols id (-1)).map _ = _
    rw [hv, List.map_append, List.map_cons, List.map_nil, all_none]
/-- A sector put into the last volume. -/
theorem step_put {n : Sto} (h : n.Right) {id : Int} {L : List Int} {t : List (Int × List Int)} (ht : tellS n = t ++ [(id, L)]) {i : Nat} {c : Int} (hi : i ≤ 15) (hc : 1 ≤ c ∧ c < n.next) :
    ∃ m, enterS n ⟨4, id, (i : Int), c⟩ = (m, true) ∧ m.Right ∧ tellS m = t ++ [(id, L.set i c)] ∧ m.next = n.next := by
  have hl : n.vols.length = t.length + 1 := by rw [← tell_len, ht]; simp
  have hv := List.getElem?_eq_getElem (show t.length < n.vols.length by omega)
  generalize n.vols[t.length] = v at hv
  have h1 := tell_at hv
  rw [ht, List.getElem?_append_right (Nat.le_refl _), Nat.sub_self] at h1
  injection h1 with h1
  injection h1 with e1 e2
  subst e1
  subst e2
  have hm := List.mem_of_getElem? hv
  have hid := h.ids v hm
  have hnx := h.nx
  have hr : (Rc.mk 4 v.1 (i : Int) c).Right := by
    unfold Rc.Right
    dsimp only
    omega
  obtain ⟨nr, tl⟩ := put_near h.toNear hv hi (show 0 ≤ c by omega) (show c < 1000000000 by omega)
  refine ⟨putE n t.length v ⟨4, v.1, (i : Int), c⟩, ?_, swept_right nr, ?_, ?_⟩
  · rw [enterS, if_pos ⟨(stoB_iff n).2 h, hr⟩]
    simp only [show ¬((4 : Int) = 1) by omega, show ¬((4 : Int) = 2) by omega, show ¬((4 : Int) = 3) by omega, if_false, atV_at h.asc hv, hv, Option.getD_some]
    rw [if_neg (by omega)]
  · rw [putE, swept_tell nr, tl, ht, List.set_append_right _ _ (Nat.le_refl _), Nat.sub_self]
    rfl
  · show (if n.next ≤ c then c + 1 else n.next) = n.next
    rw [if_neg (by omega)]
theorem enterGo_app (s : Sto) (a b : List Rc) : enterGo s (a ++ b) = (enterGo s a).bind (fun n => enterGo n b) := by
  induction a generalizing s with
  | nil => rfl
  | cons r a ih =>
    rw [List.cons_append, enterGo, enterGo]
    split
    · exact ih _
    · rfl
theorem enterGo_one {s m : Sto} {r : Rc} (h : enterS s r = (m, true)) : enterGo s [r] = some m := by
  rw [enterGo, h, if_pos rfl, enterGo]
theorem baseK_succ (id : Int) (L : List Int) (k : Nat) : baseK id L (k + 1) = baseK id L k ++ (if 0 < (L[k]?).getD 0 then [⟨4, id, (k : Int), (L[k]?).getD 0⟩] else []) := by
  rw [baseK, baseK, List.range_succ, List.filterMap_append]
  congr 1
  simp only [List.filterMap_cons, List.filterMap_nil]
  split
  · rename_i h; split at h
    · cases h
    · rename_i h2; rw [if_neg h2]
  · rename_i x h; split at h
    · rename_i h2; injection h with h; rw [if_pos h2, h]
    · cases h
/-- The sectors of a volume, put one by one. -/
theorem puts {n : Sto} (h : n.Right) {id : Int} {L : List Int} {t : List (Int × List Int)} (ht : tellS n = t ++ [(id, List.replicate 16 0)]) (hL : L.length = 16) (hc : ∀ c ∈ L, 0 ≤ c ∧ c < n.next) :
    ∀ k, k ≤ 16 → ∃ m, enterGo n (baseK id L k) = some m ∧ m.Right ∧ tellS m = t ++ [(id, L.take k ++ List.replicate (16 - k) 0)] ∧ m.next = n.next := by
  intro k
  induction k with
  | zero => intro _; exact ⟨n, rfl, h, ht, rfl⟩
  | succ k ih =>
    intro hk
    obtain ⟨m, h1, h2, h3, h4⟩ := ih (by omega)
    have e := List.getElem?_eq_getElem (show k < L.length by omega)
    have hx := hc _ (List.mem_of_getElem? e)
    have et : L.take (k + 1) = L.take k ++ [L[k]] := by rw [List.take_succ_eq_append_getElem (by omega)]
    have er : List.replicate (16 - k) (0 : Int) = 0 :: List.replicate (16 - (k + 1)) 0 := by rw [show 16 - k = (16 - (k + 1)) + 1 by omega, List.replicate_succ]
    rw [baseK_succ, e, Option.getD_some]
    generalize L[k] = c at hx et
    by_cases h0 : 0 < c
    · rw [if_pos h0, enterGo_app, h1, Option.bind_some]
      obtain ⟨m2, g1, g2, g3, g4⟩ := step_put h2 h3 (show k ≤ 15 by omega) (show 1 ≤ c ∧ c < m.next by rw [h4]; omega)
      refine ⟨m2, enterGo_one g1, g2, ?_, g4.trans h4⟩
      rw [g3, er, List.set_append_right _ _ (by simp; omega), List.length_take, show k - min k L.length = 0 by omega, et, List.append_assoc]
      rfl
    · rw [if_neg h0, List.append_nil]
      refine ⟨m, h1, h2, ?_, h4⟩
      have : c = 0 := by omega
      subst this
      rw [h3, er, et, List.append_assoc]
      rfl
/-- The volumes, one by one. -/
theorem vols_again {s : Sto} (h : s.Right) : ∀ k, k ≤ s.vols.length → ∃ m, enterGo ⟨[], [], s.next⟩ ((s.vols.take k).flatMap (baseV s.kns)) = some m ∧ m.Right ∧ tellS m = (tellS s).take k ∧ m.next = s.next := by
  intro k
  induction k with
  | zero => intro _; exact ⟨⟨[], [], s.next⟩, rfl, base_right h.nx, rfl, rfl⟩
  | succ k ih =>
    intro hk
    obtain ⟨m, h1, h2, h3, h4⟩ := ih (by omega)
    have e := List.getElem?_eq_getElem (show k < s.vols.length by omega)
    have et : s.vols.take (k + 1) = s.vols.take k ++ [s.vols[k]] := by rw [List.take_succ_eq_append_getElem (by omega)]
    have ev := tell_at e
    obtain ⟨t1, t2⟩ := List.getElem?_eq_some_iff.1 ev
    have hm := List.mem_of_getElem? e
    have hp := List.pairwise_iff_getElem.1 h.asc
    have hlt : ∀ u ∈ m.vols, u.1 < (s.vols[k]).1 := by
      intro u hu
      have : (u.1, allT m.kns u.2) ∈ (tellS s).take k := by rw [← h3]; exact List.mem_map.2 ⟨u, hu, rfl⟩
      obtain ⟨i, hi, e2⟩ := List.mem_iff_getElem.1 this
      rw [List.getElem_take] at e2
      have hik : i < k := by rw [List.length_take] at hi; omega
      simp only [tellS, List.getElem_map] at e2
      injection e2 with e3 e4
      rw [← e3]
      exact hp i k (by omega) (by omega) hik
    have hml : m.vols.length = k := by
      rw [← tell_len, h3, List.length_take, tell_len]; omega
    have hf := h.few
    generalize s.vols[k] = v at *
    obtain ⟨m1, g1, g2, g3, g4⟩ := step_vol h2 (h.ids v hm) (by omega) hlt
    have hcs : ∀ c ∈ allT s.kns v.2, 0 ≤ c ∧ c < m1.next := by
      intro c hc
      obtain ⟨i, hi, e2⟩ := List.mem_iff_getElem.1 hc
      rw [all_len] at hi
      have e3 := all_at s.kns v.2 hi
      rw [List.getElem?_eq_getElem (by rw [all_len]; exact hi), e2] at e3
      injection e3 with e3
      have tk : TrOk s.kns v.2 := ⟨h.ar, h.root v hm⟩
      rw [e3, getT_ok tk (by omega), g4, h4]
      exact ⟨get_pos tk (by omega), h.less v hm i (by omega)⟩
    obtain ⟨m2, q1, q2, q3, q4⟩ := puts g2 g3 (all_len _ _) hcs 16 (Nat.le_refl _)
    refine ⟨m2, ?_, q2, ?_, by rw [q4, g4, h4]⟩
    · rw [et, List.flatMap_append, enterGo_app, h1, Option.bind_some]
      show enterGo m (baseV s.kns v ++ []) = _
      rw [List.append_nil, baseV, enterGo, g1, if_pos rfl]
      exact q1
    · rw [q3, h3, List.take_succ_eq_append_getElem t1, t2, List.take_of_length_le (l := allT s.kns v.2) (by rw [all_len]; omega)]
      simp
/-- The records of a right store make it again, from whatever right store on. -/
theorem base_again {s x : Sto} (h : s.Right) (hx : x.Right) : ∃ m, enterGo x (baseS s) = some m ∧ m.Right ∧ tellS m = tellS s ∧ m.next = s.next := by
  obtain ⟨m, h1, h2, h3, h4⟩ := vols_again h _ (Nat.le_refl _)
  rw [List.take_of_length_le (Nat.le_refl _)] at h1
  rw [List.take_of_length_le (by rw [tell_len]; omega)] at h3
  have hn := h.nx
  have hr : (Rc.mk 1 0 s.next 0).Right := by
    unfold Rc.Right
    dsimp only
    omega
  refine ⟨m, ?_, h2, h3, h4⟩
  have e : enterS x ⟨1, 0, s.next, 0⟩ = (⟨[], [], s.next⟩, true) := by
    rw [enterS, if_pos ⟨(stoB_iff x).2 hx, hr⟩, if_pos rfl]
    dsimp only
    rw [if_neg (by omega)]
  rw [baseS, enterGo, e, if_pos rfl]
  exact h1
end Words
end Go.Proofs.YtcjgjkejhkhknabGreatDoor
