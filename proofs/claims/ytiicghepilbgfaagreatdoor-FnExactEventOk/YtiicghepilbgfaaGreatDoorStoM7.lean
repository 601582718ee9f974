/-
  What is entered, told by what a store tells: for the drawn laws.
-/
import Derived.Test.YtiicghepilbgfaaGreatDoorStoM4
import Derived.Test.YtiicghepilbgfaaGreatDoorStoM6
namespace Go.Proofs.YtiicghepilbgfaaGreatDoor
namespace Words

theorem enter_no {s : Sto} {r : Rc} (h : (enterS s r).2 = false) : (enterS s r).1 = s := by
  unfold enterS volE at h ⊢
  split
  · rename_i hb
    rw [if_pos hb] at h
    split
    · rename_i h1
      rw [if_pos h1] at h
      cases h
    · rename_i h1
      rw [if_neg h1] at h
      split
      · rename_i h2
        rw [if_pos h2] at h
        split
        · rfl
        · rename_i q hq
          rw [hq] at h
          simp only at h
          split
          · rfl
          · rename_i h3
            rw [if_neg h3] at h
            cases h
      · rename_i h2
        rw [if_neg h2] at h
        cases ha : atV s.vols r.vol with
        | none => rfl
        | some k =>
          rw [ha] at h
          simp only at h ⊢
          split
          · rfl
          · rename_i h3
            rw [if_neg h3] at h
            split
            · rename_i h4
              rw [if_pos h4] at h
              cases h
            · rename_i h4
              rw [if_neg h4] at h
              cases h
  · rfl
/-- What a yes says. -/
theorem enter_yes {s : Sto} {r : Rc} (h : (enterS s r).2 = true) : s.Right ∧ r.Right := by
  unfold enterS at h
  split at h
  · rename_i hb
    exact ⟨(stoB_iff s).1 hb.1, hb.2⟩
  · cases h
theorem enter_base {s : Sto} {r : Rc} (h : (enterS s r).2 = true) (hk : r.kind = 1) : (enterS s r).1.vols = [] := by
  have h2 := enter_yes h
  rw [enterS, if_pos ⟨(stoB_iff s).2 h2.1, h2.2⟩, if_pos hk]
theorem tell_uniq {s : Sto} (h : s.Right) {id : Int} {L M : List Int} (h1 : (id, L) ∈ tellS s) (h2 : (id, M) ∈ tellS s) : L = M := by
  obtain ⟨u, hu, e1⟩ := List.mem_map.1 h1
  obtain ⟨v, hv, e2⟩ := List.mem_map.1 h2
  injection e1 with a1 a2
  injection e2 with b1 b2
  obtain ⟨i, hi, ei⟩ := List.mem_iff_getElem.1 hu
  obtain ⟨j, hj, ej⟩ := List.mem_iff_getElem.1 hv
  have := asc_uniq h.asc (i := i) (j := j) (u := u) (v := v) (by rw [← ei]; exact List.getElem?_eq_getElem hi) (by rw [← ej]; exact List.getElem?_eq_getElem hj) (by omega)
  subst this
  rw [← a2, ← b2, ← ei, ← ej]
theorem chunk_no {s : Sto} {id : Int} (h : ∀ v ∈ s.vols, v.1 ≠ id) (i : Int) : chunkS s id i = 0 := by
  rw [chunkS, rootV, atV_no h]
  rfl
theorem vol_tell {s : Sto} {v : Int × Int} (h : v ∈ s.vols) : (v.1, allT s.kns v.2) ∈ tellS s := List.mem_map.2 ⟨v, h, rfl⟩
/-- A put or a trim. -/
theorem enter_put {s : Sto} {r : Rc} (h : (enterS s r).2 = true) (hk : r.kind = 4 ∨ r.kind = 5) : ∃ k v, s.vols[k]? = some v ∧ v.1 = r.vol ∧ 0 ≤ r.arg ∧ r.arg ≤ 15 ∧ 0 ≤ r.chunk ∧ (r.kind = 5 → r.chunk = 0) ∧
    tellS (enterS s r).1 = (tellS s).set k (v.1, (allT s.kns v.2).set r.arg.toNat r.chunk) ∧ (enterS s r).1.next = (if s.next ≤ r.chunk then r.chunk + 1 else s.next) ∧ (enterS s r).1.kns.length ≤ s.kns.length + 2 := by
  obtain ⟨hs, hr⟩ := enter_yes h
  have hr2 := hr
  unfold Rc.Right at hr2
  have hbb := (stoB_iff s).2 hs
  have e1 : ¬ r.kind = 1 := by omega
  have e2 : ¬ r.kind = 2 := by omega
  have e3 : ¬ r.kind = 3 := by omega
  rw [enterS, if_pos ⟨hbb, hr⟩, if_neg e1, if_neg e2] at h ⊢
  cases ha : atV s.vols r.vol with
  | none => rw [ha] at h; cases h
  | some k =>
    rw [ha] at h
    simp only at h ⊢
    by_cases hc : r.chunk = 1000000000
    · rw [if_pos hc] at h; cases h
    · rw [if_neg hc, if_neg e3]
      obtain ⟨v, hv, hid⟩ := atV_some ha
      rw [hv, Option.getD_some]
      have hi : r.arg.toNat ≤ 15 := by omega
      obtain ⟨nr, tl⟩ := put_near hs.toNear hv (c := r.chunk) hi (by omega) (by omega)
      have ht : TrOk s.kns v.2 := ⟨hs.ar, hs.root v (List.mem_of_getElem? hv)⟩
      have hp := (pt_put (n := r.chunk) ht hi (by omega)).1
      rw [show ((r.arg.toNat : Nat) : Int) = r.arg by omega] at nr tl hp
      refine ⟨k, v, hv, hid, by omega, by omega, by omega, by omega, ?_, rfl, ?_⟩
      · show tellS (putE s k v r) = _
        rw [putE, swept_tell nr, tl]
      · show (putE s k v r).kns.length ≤ _
        rw [putE, swept_kns nr]
        refine Nat.le_trans sw_less ?_
        show (putL s.kns v.2 r.arg r.chunk).length ≤ _
        rw [hp, pt]
        simp
theorem put_chunk {s : Sto} {r : Rc} (h : (enterS s r).2 = true) (hk : r.kind = 4 ∨ r.kind = 5) : chunkS (enterS s r).1 r.vol r.arg = r.chunk ∧ r.chunk < (enterS s r).1.next ∧ s.next ≤ (enterS s r).1.next := by
  obtain ⟨k, v, hv, hid, h0, h15, hc, -, ht, hn, -⟩ := enter_put h hk
  have hR := enter_right (enter_yes h).1 r
  have hl := (List.getElem?_eq_some_iff.1 hv).1
  have hm : (v.1, (allT s.kns v.2).set r.arg.toNat r.chunk) ∈ tellS (enterS s r).1 := by
    rw [ht]
    exact List.mem_iff_getElem?.2 ⟨k, by rw [List.getElem?_set_self (by rw [tell_len]; exact hl)]⟩
  have := chunk_told hR hm (i := r.arg.toNat) (by omega)
  rw [show ((r.arg.toNat : Nat) : Int) = r.arg by omega, hid, List.getElem?_set_self (by rw [all_len]; omega)] at this
  injection this with this
  refine ⟨this, ?_, ?_⟩ <;> rw [hn] <;> split <;> omega
theorem enter_drop {s : Sto} {r : Rc} (h : (enterS s r).2 = true) (hk : r.kind = 3) : (enterS s r).1.vols.length + 1 = s.vols.length := by
  obtain ⟨hs, hr⟩ := enter_yes h
  have hbb := (stoB_iff s).2 hs
  rw [enterS, if_pos ⟨hbb, hr⟩, if_neg (by omega), if_neg (by omega)] at h ⊢
  cases ha : atV s.vols r.vol with
  | none => rw [ha] at h; cases h
  | some k =>
    rw [ha] at h
    simp only at h ⊢
    by_cases hc : r.chunk = 1000000000
    · rw [if_pos hc] at h; cases h
    · rw [if_neg hc, if_pos hk]
      obtain ⟨v, hv, hid⟩ := atV_some ha
      have hl := (List.getElem?_eq_some_iff.1 hv).1
      show (dropE s k).vols.length + 1 = _
      rw [dropE, swept_vols (drop_near hs.toNear k), List.length_map]
      simp
      omega
/-- A new volume. -/
theorem enter_vol {s : Sto} {r : Rc} (h : (enterS s r).2 = true) (hk : r.kind = 2) : ∃ q, (enterS s r).1 = ⟨insV s.vols r.vol q, s.kns, s.next⟩ ∧ (∀ v ∈ s.vols, v.1 ≠ r.vol) ∧ s.vols.length < 3 ∧ (0 < r.arg → (r.arg, q) ∈ s.vols) ∧ (¬ 0 < r.arg → q = -1) := by
  obtain ⟨hs, hr⟩ := enter_yes h
  have hbb := (stoB_iff s).2 hs
  rw [enterS, if_pos ⟨hbb, hr⟩, if_neg (by omega), if_pos hk, volE] at h ⊢
  have hf := hs.few
  split at h
  · cases h
  · rename_i q hq
    by_cases hc : ((atV s.vols r.vol).isSome || decide (s.vols.length = 3)) = true
    · rw [if_pos hc] at h; cases h
    · rw [if_neg hc]
      simp only [Bool.or_eq_true, decide_eq_true_eq, not_or, Bool.not_eq_true, Option.isSome_eq_false_iff, Option.isNone_iff_eq_none] at hc
      refine ⟨q, rfl, atV_none hc.1, by omega, fun ha => ?_, fun ha => ?_⟩
      · rw [if_pos ha] at hq
        exact rootV_some hq
      · rw [if_neg ha] at hq
        injection hq with hq
        exact hq.symm
theorem getT_none (l : List Kn) (i : Nat) (hi : i < 16) : getT l (-1) (i : Int) = 0 := by
  have h1 := all_at l (-1) hi
  rw [all_none, List.getElem?_replicate, if_pos hi] at h1
  injection h1 with h1
  exact h1.symm
theorem vol_chunk {s : Sto} {r : Rc} (h : (enterS s r).2 = true) (hk : r.kind = 2) {i : Nat} (hi : i < 16) : (0 < r.arg → chunkS (enterS s r).1 r.vol (i : Int) = chunkS s r.arg (i : Int)) ∧ (¬ 0 < r.arg → chunkS (enterS s r).1 r.vol (i : Int) = 0) := by
  have hR := enter_right (enter_yes h).1 r
  obtain ⟨q, e, hn, hl, ha, hb⟩ := enter_vol h hk
  rw [e] at hR ⊢
  have hq : chunkS ⟨insV s.vols r.vol q, s.kns, s.next⟩ r.vol (i : Int) = getT s.kns q (i : Int) := by
    rw [chunkS, rootV_at hR.asc (v := (r.vol, q)) insV_new]
  rw [hq]
  refine ⟨fun h0 => ?_, fun h0 => ?_⟩
  · rw [chunkS, rootV_at (enter_yes h).1.asc (ha h0)]
  · rw [hb h0, getT_none _ _ hi]
theorem vol_len {s : Sto} {r : Rc} (h : (enterS s r).2 = true) (hk : r.kind = 2) : (enterS s r).1.vols.length = s.vols.length + 1 := by
  obtain ⟨q, e, hn, -⟩ := enter_vol h hk
  rw [e]
  exact insV_len hn
/-- Numbers of volumes, and the next chunk's, of what drawn records make. -/
def Sto.Drn (s : Sto) : Prop := s.Right ∧ (∀ v ∈ s.vols, v.1 ≤ 3) ∧ s.next ≤ 10
theorem new_drn : stoNew.Drn := ⟨new_right, fun v hv => (List.not_mem_nil hv).elim, by show (1 : Int) ≤ 10; omega⟩
theorem swept_ids {s : Sto} (h : s.Near) {v : Int × Int} (hv : v ∈ (sweptS s).vols) : ∃ u ∈ s.vols, u.1 = v.1 := by
  rw [swept_vols h] at hv
  obtain ⟨u, hu, rfl⟩ := List.mem_map.1 hv
  exact ⟨u, hu, rfl⟩
theorem enter_ids {s : Sto} (h : s.Right) (r : Rc) : ∀ v ∈ (enterS s r).1.vols, v.1 = r.vol ∨ ∃ u ∈ s.vols, u.1 = v.1 := by
  cases hb : (enterS s r).2 with
  | false => rw [enter_no hb]; exact fun v hv => .inr ⟨v, hv, rfl⟩
  | true =>
    have hr := (enter_yes hb).2
    have hr2 := hr
    unfold Rc.Right at hr2
    by_cases k1 : r.kind = 1
    · rw [enter_base hb k1]; intro v hv; exact (List.not_mem_nil hv).elim
    by_cases k2 : r.kind = 2
    · obtain ⟨q, e, -⟩ := enter_vol hb k2
      rw [e]
      intro v hv
      rcases insV_mem hv with e | e
      · rw [e]; exact .inl rfl
      · exact .inr ⟨v, e, rfl⟩
    by_cases k3 : r.kind = 3
    · rw [enterS, if_pos ⟨(stoB_iff s).2 h, hr⟩, if_neg k1, if_neg k2] at hb ⊢
      cases ha : atV s.vols r.vol with
      | none => rw [ha] at hb; cases hb
      | some k =>
        rw [ha] at hb
        simp only at hb ⊢
        by_cases hc : r.chunk = 1000000000
        · rw [if_pos hc] at hb; cases hb
        · rw [if_neg hc, if_pos k3]
          intro v hv
          obtain ⟨u, hu, e⟩ := swept_ids (drop_near h.toNear k) hv
          refine .inr ⟨u, ?_, e⟩
          rcases List.mem_append.1 hu with q | q
          · exact List.mem_of_mem_take q
          · exact List.mem_of_mem_drop q
    · obtain ⟨k, v, hv, hid, -, -, -, -, ht, -⟩ := enter_put hb (by omega)
      intro u hu
      have := vol_tell hu
      rw [ht] at this
      rcases List.mem_or_eq_of_mem_set this with e | e
      · obtain ⟨x, hx, e2⟩ := List.mem_map.1 e
        injection e2 with e2 _
        exact .inr ⟨x, hx, e2⟩
      · injection e with e _
        exact .inl (by rw [e, hid])
theorem enter_next {s : Sto} (r : Rc) (hk : r.kind ≠ 1) : (enterS s r).1.next = s.next ∨ (enterS s r).1.next = r.chunk + 1 := by
  cases hb : (enterS s r).2 with
  | false => rw [enter_no hb]; exact .inl rfl
  | true =>
    obtain ⟨h, hr⟩ := enter_yes hb
    have hr2 := hr
    unfold Rc.Right at hr2
    by_cases k2 : r.kind = 2
    · obtain ⟨q, e, -⟩ := enter_vol hb k2
      rw [e]
      exact .inl rfl
    by_cases k3 : r.kind = 3
    · rw [enterS, if_pos ⟨(stoB_iff s).2 h, hr⟩, if_neg hk, if_neg k2] at hb ⊢
      cases ha : atV s.vols r.vol with
      | none => rw [ha] at hb; cases hb
      | some k =>
        rw [ha] at hb
        simp only at hb ⊢
        by_cases hc : r.chunk = 1000000000
        · rw [if_pos hc] at hb; cases hb
        · rw [if_neg hc, if_pos k3]
          exact .inl rfl
    · obtain ⟨k, v, hv, hid, -, -, -, -, -, hn, -⟩ := enter_put hb (by omega)
      rw [hn]
      split
      · exact .inr rfl
      · exact .inl rfl
theorem enter_drn {s : Sto} (h : s.Drn) {r : Rc} (hk : r.kind ≠ 1) (hv : r.vol ≤ 3) (hc : r.chunk ≤ 9) : (enterS s r).1.Drn := by
  refine ⟨enter_right h.1 r, fun v hm => ?_, ?_⟩
  · rcases enter_ids h.1 r v hm with e | ⟨u, hu, e⟩
    · omega
    · have := h.2.1 u hu; omega
  · rcases enter_next r hk with e | e <;> rw [e]
    · exact h.2.2
    · omega
theorem all_one (s : Sto) (r : Rc) : enterAllS s [r] = enterS s r := by
  rw [enterAllS, enterGo]
  cases hb : (enterS s r).2 with
  | false =>
    rw [if_neg (by decide)]
    simp only
    exact Prod.ext (enter_no hb).symm hb.symm
  | true => rw [if_pos rfl, enterGo]; simp only; rw [← hb]
/-- Of records one of which is refused nothing is entered. -/
theorem whole_no {s : Sto} (h : s.Drn) {r : Rc} (hv : r.vol ≤ 3) : enterAllS s [r, ⟨3, 8, 0, 0⟩] = (s, false) := by
  rw [enterAllS, enterGo]
  cases hb : (enterS s r).2 with
  | false => rw [if_neg (by decide)]
  | true =>
    rw [if_pos rfl, enterGo]
    have hn : (enterS (enterS s r).1 ⟨3, 8, 0, 0⟩).2 = false := by
      cases hc : (enterS (enterS s r).1 ⟨3, 8, 0, 0⟩).2 with
      | false => rfl
      | true =>
        obtain ⟨hs, hr⟩ := enter_yes hc
        have ha : atV (enterS s r).1.vols 8 = none := atV_no fun v hm => by
          rcases enter_ids h.1 r v hm with e | ⟨u, hu, e⟩
          · omega
          · have := h.2.1 u hu; omega
        rw [enterS, if_pos ⟨(stoB_iff _).2 hs, hr⟩, if_neg (by decide), if_neg (by decide)] at hc
        simp only at hc
        rw [ha] at hc
        cases hc
    rw [hn, if_neg (by decide)]
theorem same_self (s : Sto) : sameS s s = true := by simp [sameS]
theorem same_of {a b : Sto} (h1 : tellS a = tellS b) (h2 : a.next = b.next) : sameS a b = true := by simp [sameS, h1, h2]
theorem base_parts {s x : Sto} (h : s.Right) (hx : x.Right) (k : Nat) : ∃ c d, enterGo x ((baseS s).take k) = some c ∧ enterGo c ((baseS s).drop k) = some d ∧ sameS d s = true := by
  obtain ⟨m, e, -, h1, h2⟩ := base_again h hx
  rw [← List.take_append_drop k (baseS s), enterGo_app] at e
  cases hc : enterGo x ((baseS s).take k) with
  | none => rw [hc] at e; cases e
  | some c =>
    rw [hc] at e
    exact ⟨c, m, rfl, e, same_of h1 h2⟩
theorem go_fit {s m : Sto} (h : s.Right) : ∀ {l : List Rc}, enterGo s l = some m → m.Right := by
  intro l
  induction l generalizing s with
  | nil => intro e; injection e with e; rw [← e]; exact h
  | cons r l ih =>
    intro e
    rw [enterGo] at e
    split at e
    · exact ih (enter_right h r) e
    · cases e
theorem refs_tell (s : Sto) {c : Int} (h : 0 < c) : refsS s c = ((tellS s).map (fun p => p.2.count c)).sum := by
  rw [refsS, if_pos h, tellS, List.map_map]
  rfl
theorem sum_noughts : ∀ {l : List Nat}, (∀ x ∈ l, x = 0) → l.sum = 0 := by
  intro l
  induction l with
  | nil => intro _; rfl
  | cons a l ih =>
    intro h
    rw [List.sum_cons, h a (List.mem_cons_self ..), ih (fun x hx => h x (List.mem_cons_of_mem _ hx))]
theorem sum_one : ∀ {l : List Nat} {k : Nat}, k < l.length → (∀ x ∈ l, x = 0) → (l.set k 1).sum = 1 := by
  intro l
  induction l with
  | nil => intro k hk; exact absurd hk (Nat.not_lt_zero _)
  | cons a l ih =>
    intro k hk h
    cases k with
    | zero =>
      rw [List.set_cons_zero, List.sum_cons, sum_noughts (fun x hx => h x (List.mem_cons_of_mem _ hx))]
    | succ k =>
      rw [List.set_cons_succ, List.sum_cons, h a (List.mem_cons_self ..), ih (by simpa using hk) (fun x hx => h x (List.mem_cons_of_mem _ hx))]
theorem tell_less {s : Sto} (h : s.Right) {p : Int × List Int} (hp : p ∈ tellS s) : ∀ c ∈ p.2, c < s.next := by
  obtain ⟨v, hv, rfl⟩ := List.mem_map.1 hp
  intro c hc
  obtain ⟨i, hi, e⟩ := List.mem_iff_getElem.1 hc
  have hi2 : i < 16 := by simpa [all_len] using hi
  have := all_at s.kns v.2 hi2
  rw [List.getElem?_eq_getElem hi] at this
  injection this with this
  have e2 : c = getT s.kns v.2 (i : Int) := by rw [← e]; exact this
  rw [e2, getT_ok ⟨h.ar, h.root v hv⟩ (by omega)]
  exact h.less v hv i (by omega)
theorem count_once : ∀ {l : List Int} {i : Nat} {c : Int}, c ∉ l → i < l.length → (l.set i c).count c = 1 := by
  intro l
  induction l with
  | nil => intro i c _ h; exact absurd h (Nat.not_lt_zero _)
  | cons a l ih =>
    intro i c hc hi
    have hca : a ≠ c := fun e => hc (by rw [e]; exact List.mem_cons_self ..)
    have hcl : c ∉ l := fun e => hc (List.mem_cons_of_mem _ e)
    cases i with
    | zero =>
      rw [List.set_cons_zero, List.count_cons_self, List.count_eq_zero.2 hcl]
    | succ i =>
      rw [List.set_cons_succ, List.count_cons_of_ne hca, ih hcl (by simpa using hi)]
/-- A clone, and what is put into the volume then. -/
theorem clone_all {s : Sto} (h : s.Drn) {v : Int × Int} (hv : v ∈ s.vols) (h3 : s.vols.length ≠ 3) {p : Nat} (hp : p < 16) : ∃ n m, enterS s ⟨2, 9, v.1, 0⟩ = (n, true) ∧ enterS n ⟨4, v.1, (p : Int), s.next⟩ = (m, true) ∧ n.Right ∧ m.Right ∧ n.kns.length = s.kns.length ∧ m.kns.length ≤ s.kns.length + 2 ∧ refsS m s.next = 1 ∧
    ∀ i : Nat, i < 16 → chunkS n 9 (i : Int) = chunkS s v.1 (i : Int) ∧ chunkS m 9 (i : Int) = chunkS s v.1 (i : Int) ∧ (i ≠ p → chunkS m v.1 (i : Int) = chunkS s v.1 (i : Int)) := by
  obtain ⟨hs, hid, hnx⟩ := h
  have hi1 := hs.ids v hv
  have hi3 := hid v hv
  have hn1 := hs.nx
  have hf := hs.few
  have hne : ∀ u ∈ s.vols, u.1 ≠ 9 := fun u hu => by have := hid u hu; omega
  have hr1 : (Rc.mk 2 9 v.1 0).Right := by unfold Rc.Right; dsimp only; omega
  have e1 : enterS s ⟨2, 9, v.1, 0⟩ = (⟨insV s.vols 9 v.2, s.kns, s.next⟩, true) := by
    rw [enterS, if_pos ⟨(stoB_iff s).2 hs, hr1⟩, if_neg (show ¬ (2 : Int) = 1 by decide), if_pos rfl, volE]
    simp only
    rw [if_pos (by omega), rootV_at hs.asc hv]
    simp only
    rw [atV_no hne, if_neg (by simp; omega)]
  obtain ⟨n, hn⟩ : ∃ n : Sto, n = ⟨insV s.vols 9 v.2, s.kns, s.next⟩ := ⟨_, rfl⟩
  rw [← hn] at e1
  have nR : n.Right := by have := enter_right hs ⟨2, 9, v.1, 0⟩; rw [e1] at this; exact this
  have nv : n.vols = insV s.vols 9 v.2 := by rw [hn]
  have nk : n.kns = s.kns := by rw [hn]
  have nn : n.next = s.next := by rw [hn]
  have m9 : (9, v.2) ∈ n.vols := by rw [nv]; exact insV_new
  have mv : v ∈ n.vols := by rw [nv]; exact insV_old hv (hne v hv)
  obtain ⟨k, hk⟩ := List.mem_iff_getElem?.1 mv
  have hr2 : (Rc.mk 4 v.1 (p : Int) s.next).Right := by unfold Rc.Right; dsimp only; omega
  have e2 : (enterS n ⟨4, v.1, (p : Int), s.next⟩).2 = true := by
    rw [enterS, if_pos ⟨(stoB_iff n).2 nR, hr2⟩, if_neg (show ¬ (4 : Int) = 1 by decide), if_neg (show ¬ (4 : Int) = 2 by decide)]
    simp only
    rw [atV_at nR.asc hk]
    simp only
    rw [if_neg (by omega), if_neg (by decide)]
  obtain ⟨m, hm⟩ : ∃ m, (enterS n ⟨4, v.1, (p : Int), s.next⟩).1 = m := ⟨_, rfl⟩
  have mR : m.Right := by rw [← hm]; exact enter_right nR _
  obtain ⟨k2, u, hu, hid2, -, -, -, -, ht, -, hl⟩ := enter_put e2 (.inl rfl)
  simp only at hid2 ht hl
  have ek : k2 = k := asc_uniq nR.asc hu hk hid2
  subst ek
  have eu : u = v := by rw [hu] at hk; injection hk
  subst eu
  rw [hm] at ht hl
  rw [Int.toNat_natCast] at ht
  have cn : ∀ i : Nat, i < 16 → chunkS n 9 (i : Int) = chunkS s u.1 (i : Int) := by
    intro i hi
    rw [chunkS, chunkS, rootV_at nR.asc (v := (9, u.2)) m9, rootV_at hs.asc hv, nk]
  have cv : ∀ i : Nat, i < 16 → chunkS n u.1 (i : Int) = chunkS s u.1 (i : Int) := by
    intro i hi
    rw [chunkS, chunkS, rootV_at nR.asc mv, rootV_at hs.asc hv, nk]
  have hkl := (List.getElem?_eq_some_iff.1 hk).1
  refine ⟨n, m, e1, Prod.ext hm e2, nR, mR, by rw [nk], by rw [nk] at hl; exact hl, ?_, fun i hi => ⟨cn i hi, ?_, fun hip => ?_⟩⟩
  · rw [refs_tell m (by omega), ht, List.map_set]
    have hc : s.next ∉ allT n.kns u.2 := fun hc => by
      have := tell_less nR (vol_tell mv) _ hc
      rw [nn] at this
      omega
    simp only
    rw [count_once hc (by rw [all_len]; exact hp)]
    refine sum_one (by rw [List.length_map, tell_len]; exact hkl) ?_
    intro x hx
    obtain ⟨q, hq, rfl⟩ := List.mem_map.1 hx
    refine List.count_eq_zero.2 fun hc2 => ?_
    have := tell_less nR hq _ hc2
    rw [nn] at this
    omega
  · rw [← cn i hi]
    have hm9 : (9, allT n.kns u.2) ∈ tellS m := by
      rw [ht]
      obtain ⟨j, hj⟩ := List.mem_iff_getElem?.1 m9
      refine List.mem_iff_getElem?.2 ⟨j, ?_⟩
      rw [List.getElem?_set_ne, tell_at hj]
      intro e
      rw [e, hj] at hk
      injection hk with hk
      rw [← hk] at hi3
      simp at hi3
    have a := chunk_told mR hm9 hi
    have b := chunk_told nR (vol_tell m9) hi
    rw [← a] at b
    injection b with b
    exact b.symm
  · rw [← cv i hi]
    have hmv : (u.1, (allT n.kns u.2).set p s.next) ∈ tellS m := by
      rw [ht]
      exact List.mem_iff_getElem?.2 ⟨k2, List.getElem?_set_self (by rw [tell_len]; exact hkl)⟩
    have a := chunk_told mR hmv hi
    have b := chunk_told nR (vol_tell mv) hi
    rw [List.getElem?_set_ne (Ne.symm hip), ← b] at a
    injection a with a
end Words
end Go.Proofs.YtiicghepilbgfaaGreatDoor
