/-
  What records do to a store, in plain words.
-/
import Derived.Test.YtiicghepilbgfaaGreatDoorStoM
namespace Go.Proofs.YtiicghepilbgfaaGreatDoor
namespace Words

theorem insV_len {l : List (Int × Int)} {id r : Int} (h : ∀ v ∈ l, v.1 ≠ id) : (insV l id r).length = l.length + 1 := by
  rw [insV, List.length_append, List.length_cons]
  have key : (l.filter (fun v => decide (v.1 < id))).length + (l.filter (fun v => decide (id < v.1))).length = l.length := by
    induction l with
    | nil => rfl
    | cons v l ih =>
      have i := ih (fun u hu => h u (List.mem_cons_of_mem _ hu))
      have hv := h v List.mem_cons_self
      rw [List.filter_cons, List.filter_cons]
      by_cases hlt : v.1 < id
      · rw [if_pos (by simpa using hlt), if_neg (by simp; omega), List.length_cons, List.length_cons]; omega
      · rw [if_neg (by simpa using hlt), if_pos (by simp; omega), List.length_cons, List.length_cons]; omega
  omega
theorem insV_mem {l : List (Int × Int)} {id r : Int} {v : Int × Int} (h : v ∈ insV l id r) : v = (id, r) ∨ v ∈ l := by
  rw [insV, List.mem_append, List.mem_cons, List.mem_filter, List.mem_filter] at h
  rcases h with h | h | h
  · exact .inr h.1
  · exact .inl h
  · exact .inr h.1
theorem insV_old {l : List (Int × Int)} {id r : Int} {v : Int × Int} (h : v ∈ l) (hn : v.1 ≠ id) : v ∈ insV l id r := by
  rw [insV, List.mem_append, List.mem_cons, List.mem_filter, List.mem_filter]
  by_cases hlt : v.1 < id
  · exact .inl ⟨h, by simpa using hlt⟩
  · exact .inr (.inr ⟨h, by simp; omega⟩)
theorem insV_new {l : List (Int × Int)} {id r : Int} : (id, r) ∈ insV l id r := by
  rw [insV, List.mem_append, List.mem_cons]
  exact .inr (.inl rfl)
theorem insV_asc {l : List (Int × Int)} {id r : Int} (h : l.Pairwise (fun u v => u.1 < v.1)) : (insV l id r).Pairwise (fun u v => u.1 < v.1) := by
  rw [insV, List.pairwise_append, List.pairwise_cons]
  refine ⟨h.filter _, ⟨?_, h.filter _⟩, ?_⟩
  · intro v hv
    simpa using (List.mem_filter.1 hv).2
  · intro u hu v hv
    have h1 : u.1 < id := by simpa using (List.mem_filter.1 hu).2
    rcases List.mem_cons.1 hv with e | e
    · rw [e]; exact h1
    · have : id < v.1 := by simpa using (List.mem_filter.1 e).2
      omega
/-- A volume more. -/
theorem ins_right {s : Sto} (h : s.Right) {id q : Int} (hid : 1 ≤ id ∧ id ≤ 9) (hn : ∀ v ∈ s.vols, v.1 ≠ id) (hl : s.vols.length < 3) (hq : rootB s.kns q = true) (hg : ∀ k : Nat, k ≤ 15 → getP s.kns q k < s.next) : (Sto.mk (insV s.vols id q) s.kns s.next).Right := by
  refine ⟨⟨?_, h.ar, h.nx, ?_, insV_asc h.asc, ?_, ?_⟩, ?_⟩
  · show (insV s.vols id q).length ≤ 3
    rw [insV_len hn]; omega
  · intro v hv
    rcases insV_mem hv with e | e
    · rw [e]; exact hid
    · exact h.ids v e
  · intro v hv
    rcases insV_mem hv with e | e
    · rw [e]; exact hq
    · exact h.root v e
  · intro v hv
    rcases insV_mem hv with e | e
    · rw [e]; exact hg
    · exact h.less v e
  · intro j hj
    have := h.used j hj
    rw [swU, List.any_eq_true] at this ⊢
    obtain ⟨r, hr, hb⟩ := this
    obtain ⟨v, hv, rfl⟩ := List.mem_map.1 hr
    exact ⟨v.2, List.mem_map.2 ⟨v, insV_old hv (hn v hv), rfl⟩, hb⟩
/-- A volume less. -/
theorem drop_near {s : Sto} (h : s.Near) (k : Nat) : (Sto.mk (s.vols.take k ++ s.vols.drop (k + 1)) s.kns s.next).Near := by
  have sub : (s.vols.take k ++ s.vols.drop (k + 1)).Sublist s.vols := by
    rw [← List.eraseIdx_eq_take_drop_succ]
    exact List.eraseIdx_sublist _ _
  exact ⟨Nat.le_trans sub.length_le h.few, h.ar, h.nx, fun v hv => h.ids v (sub.subset hv), h.asc.sublist sub, fun v hv => h.root v (sub.subset hv), fun v hv => h.less v (sub.subset hv)⟩
theorem set_ids {l : List (Int × Int)} {k : Nat} {v : Int × Int} {q : Int} (hk : l[k]? = some v) : (l.set k (v.1, q)).map (·.1) = l.map (·.1) := by
  rw [List.map_set]
  obtain ⟨h1, h2⟩ := List.getElem?_eq_some_iff.1 hk
  have : (l.map (·.1))[k]'(by simpa using h1) = v.1 := by rw [List.getElem_map, h2]
  show (l.map (·.1)).set k v.1 = _
  rw [← this]
  exact List.set_getElem_self _
/-- A sector put. -/
theorem put_near {s : Sto} (h : s.Near) {k : Nat} {v : Int × Int} (hk : s.vols[k]? = some v) {i : Nat} {c : Int} (hi : i ≤ 15) (h0 : 0 ≤ c) (hc : c < 1000000000) :
    (Sto.mk (s.vols.set k (v.1, putR s.kns v.2 (i : Int) c)) (putL s.kns v.2 (i : Int) c) (if s.next ≤ c then c + 1 else s.next)).Near ∧
      tellS (Sto.mk (s.vols.set k (v.1, putR s.kns v.2 (i : Int) c)) (putL s.kns v.2 (i : Int) c) (if s.next ≤ c then c + 1 else s.next)) = (tellS s).set k (v.1, (allT s.kns v.2).set i c) := by
  have hm := List.mem_of_getElem? hk
  have ht : TrOk s.kns v.2 := ⟨h.ar, h.root v hm⟩
  obtain ⟨e1, e2⟩ := pt_put (n := c) ht hi h0
  rw [e1, e2]
  have hn : s.next ≤ (if s.next ≤ c then c + 1 else s.next) ∧ c < (if s.next ≤ c then c + 1 else s.next) ∧ (if s.next ≤ c then c + 1 else s.next) ≤ 1000000000 := by
    have := h.nx
    split <;> omega
  generalize (if s.next ≤ c then c + 1 else s.next) = nx at hn ⊢
  have hnx := h.nx
  refine ⟨⟨by show (s.vols.set k _).length ≤ 3; rw [List.length_set]; exact h.few, (pt_ok ht hi h0).1, ⟨by show 1 ≤ nx; omega, hn.2.2⟩, ?_, ?_, ?_, ?_⟩, ?_⟩
  · intro u hu
    rcases List.mem_or_eq_of_mem_set hu with e | e
    · exact h.ids u e
    · rw [e]; exact h.ids v hm
  · have := h.asc
    rw [← List.pairwise_map (f := fun (x : Int × Int) => x.1) (R := fun a b => a < b)] at this ⊢
    show ((s.vols.set k _).map _).Pairwise _
    rw [set_ids hk]
    exact this
  · intro u hu
    rcases List.mem_or_eq_of_mem_set hu with e | e
    · exact (pt_old ht hi h0 (h.root u e)).2
    · rw [e]; exact (pt_ok ht hi h0).2
  · intro u hu j hj
    show getP (pt s.kns v.2 i c) u.2 j < nx
    rcases List.mem_or_eq_of_mem_set hu with e | e
    · have a := pt_keep ht hi h0 (h.root u e) hj
      rw [getT_ok (pt_old ht hi h0 (h.root u e)) hj, getT_ok ⟨h.ar, h.root u e⟩ hj] at a
      rw [a]
      have := h.less u e j hj
      omega
    · rw [e]
      have a := pt_get ht hi h0 hj
      rw [getT_ok (pt_ok ht hi h0) hj, getT_ok ht hj] at a
      rw [a]
      split
      · omega
      · have := h.less v hm j hj
        omega
  · unfold tellS
    show (s.vols.set k _).map _ = _
    rw [List.map_set]
    have ea : s.vols.map (fun u => (u.1, allT (pt s.kns v.2 i c) u.2)) = s.vols.map (fun u => (u.1, allT s.kns u.2)) :=
      List.map_congr_left fun u hu => by rw [all_keep ht hi h0 (h.root u hu)]
    rw [ea]
    congr 1
    show (v.1, allT (pt s.kns v.2 i c) (ptR s.kns)) = _
    congr 1
    refine List.ext_getElem? fun j => ?_
    rw [List.getElem?_set]
    unfold allT
    simp only [List.getElem?_map, List.length_map, List.length_range]
    by_cases hj : j < 16
    · rw [List.getElem?_range hj]
      simp only [Option.map_some]
      rw [pt_get ht hi h0 (by omega)]
      by_cases e : i = j
      · subst e
        rw [if_pos rfl, if_pos rfl, if_pos (by omega)]
      · rw [if_neg (Ne.symm e), if_neg e]
    · rw [List.getElem?_eq_none (by simp; omega)]
      simp only [Option.map_none]
      by_cases e : i = j
      · omega
      · rw [if_neg e]
theorem none_less {s : Sto} (h : s.Near) : ∀ k : Nat, k ≤ 15 → getP s.kns (-1) k < s.next := by
  intro k _
  rw [getP, if_pos (by omega)]
  have := h.nx
  omega
theorem root_none (l : List Kn) : rootB l (-1) = true := by simp [rootB]
theorem rootV_some {s : Sto} {id q : Int} (e : rootV s.vols id = some q) : (id, q) ∈ s.vols := by
  rw [rootV] at e
  cases ha : atV s.vols id with
  | none => rw [ha] at e; cases e
  | some k =>
    rw [ha] at e
    obtain ⟨v, hv, hid⟩ := atV_some ha
    simp only [Option.bind_some, hv, Option.map_some, Option.some.injEq] at e
    have := List.mem_of_getElem? hv
    rw [← hid, ← e]
    exact this
theorem new_right : stoNew.Right := by
  refine ⟨⟨by decide, rfl, by decide, ?_, List.Pairwise.nil, ?_, ?_⟩, ?_⟩
  all_goals intro v hv; first | cases hv | (exact absurd hv (Nat.not_lt_zero _))
theorem base_right {n : Int} (h : 1 ≤ n ∧ n ≤ 1000000000) : (Sto.mk [] [] n).Right := by
  refine ⟨⟨by show 0 ≤ 3; omega, rfl, h, ?_, List.Pairwise.nil, ?_, ?_⟩, ?_⟩
  all_goals intro v hv; first | cases hv | (exact absurd hv (Nat.not_lt_zero _))
/-- Whatever record comes, a right store stays right. -/
theorem enter_right {s : Sto} (h : s.Right) (r : Rc) : (enterS s r).1.Right := by
  unfold enterS
  split
  · rename_i hb
    obtain ⟨-, ⟨ha, hr⟩⟩ := hb
    split
    · refine base_right ?_
      split <;> omega
    · rename_i hk1
      split
      · rename_i hk2
        unfold volE
        split
        · exact h
        · rename_i q hq
          split
          · exact h
          · rename_i hc
            simp only [Bool.or_eq_true, decide_eq_true_eq, not_or, Bool.not_eq_true, Option.isSome_eq_false_iff, Option.isNone_iff_eq_none] at hc
            have hf := h.few
            have hqr : rootB s.kns q = true ∧ ∀ k : Nat, k ≤ 15 → getP s.kns q k < s.next := by
              split at hq
              · have hm := rootV_some hq
                exact ⟨h.root _ hm, h.less _ hm⟩
              · injection hq with hq
                subst hq
                exact ⟨root_none _, none_less h.toNear⟩
            exact ins_right h (by omega) (atV_none hc.1) (by omega) hqr.1 hqr.2
      · split
        · exact h
        · rename_i k ha2
          split
          · exact h
          · split
            · exact swept_right (drop_near h.toNear k)
            · rename_i hcn hk3
              obtain ⟨v, hv, -⟩ := atV_some ha2
              rw [hv, Option.getD_some]
              have hi : r.arg.toNat ≤ 15 := by omega
              have := (put_near h.toNear hv (c := r.chunk) hi (by omega) (by omega)).1
              rw [show ((r.arg.toNat : Nat) : Int) = r.arg by omega] at this
              exact swept_right this
  · exact h
end Words
end Go.Proofs.YtiicghepilbgfaaGreatDoor
