/-
  What is entered, by what the program makes of it ahead of the sweep.
-/
import Derived.Test.YtiicghepilbgfaaGreatDoorStoM5
namespace Go.Proofs.YtiicghepilbgfaaGreatDoor
namespace Words

theorem swU_nil (l : List Kn) (i : Nat) : swU l [] i = false := rfl
theorem swL_nil (l : List Kn) : swL l [] = [] := by
  have : (swL l []).length = 0 := by
    rw [swL_len]
    have : ∀ n, swN (swU l []) n = 0 := by
      intro n
      induction n with
      | zero => rfl
      | succ n ih => rw [swN_succ, ih, swU_nil]; rfl
    exact this _
  exact List.eq_nil_of_length_eq_zero this
theorem base_swept {s : Sto} (h : s.Right) (n : Int) : sweptS ⟨[], s.kns, n⟩ = ⟨[], [], n⟩ := by
  have hb : swB s.kns (rootsV []) = true := swB_of ⟨h.ar, fun r hr => by cases hr⟩
  unfold sweptS
  rw [sweepL, if_pos hb]
  show Sto.mk _ (swL s.kns []) _ = _
  rw [swL_nil]
  rfl
theorem put_kids {s : Sto} (h : s.Right) (r sec c : Int) : ∀ x ∈ putL s.kns r sec c, x.kids.length ≤ 1048576 := by
  have four : ∀ l : List Kn, arB l = true → ∀ x ∈ l, x.kids.length ≤ 1048576 := fun l ha x hx => by
    obtain ⟨i, hi, e⟩ := List.mem_iff_getElem.1 hx
    have := knB_len (arB_at ha (i := i) (x := x) (by rw [← e]; exact List.getElem?_eq_getElem hi))
    omega
  unfold putL
  split
  · rename_i hp
    rw [putB, askB] at hp
    simp only [Bool.and_eq_true, decide_eq_true_eq] at hp
    obtain ⟨⟨⟨h1, h2⟩, h3, h4⟩, h5⟩ := hp
    exact four _ (put_right h1 h2 (by omega) h5)
  · exact four _ h.ar
/-- A store s' ahead of the sweep, for what is entered. -/
def EntS (s : Sto) (r : Rc) (ok : Bool) (t : Sto) : Prop := (ok = false ∧ (enterS s r) = (s, false)) ∨ (ok = true ∧ enterS s r = (sweptS t, true) ∧ t.vols.length ≤ 1048576)
theorem ent_base {s : Sto} (h : s.Right) {arg : Int} (hr : (Rc.mk 1 0 arg 0).Right) : EntS s ⟨1, 0, arg, 0⟩ true ⟨[], s.kns, if arg < 1 then 1 else arg⟩ := by
  refine .inr ⟨rfl, ?_, by simp⟩
  rw [enterS, if_pos ⟨(stoB_iff s).2 h, hr⟩, if_pos rfl, base_swept h]
  have h0 := hr.1.1
  simp only at h0 ⊢
  have e : (if arg = 0 then (1 : Int) else arg) = if arg < 1 then 1 else arg := by
    by_cases e : arg = 0
    · subst e; rfl
    · rw [if_neg e, if_neg (by omega)]
  rw [e]
theorem ent_vol_no {s : Sto} (h : s.Right) {vol arg : Int} (hr : (Rc.mk 2 vol arg 0).Right) (hn : (atV s.vols vol).isSome = true ∨ s.vols.length = 3 ∨ (arg ≠ 0 ∧ rootV s.vols arg = none)) (t : Sto) : EntS s ⟨2, vol, arg, 0⟩ false t := by
  refine .inl ⟨rfl, ?_⟩
  rw [enterS, if_pos ⟨(stoB_iff s).2 h, hr⟩, if_neg (by simp), if_pos rfl, volE]
  have h0 := hr.1.1
  simp only at h0 ⊢
  split
  · rfl
  · rename_i q hq
    rcases hn with e | e | ⟨e1, e2⟩
    · rw [e]; rfl
    · rw [decide_eq_true e, Bool.or_true]; rfl
    · rw [if_pos (by omega), e2] at hq
      cases hq
theorem ent_vol {s : Sto} (h : s.Right) {vol arg q : Int} (hr : (Rc.mk 2 vol arg 0).Right) (h1 : atV s.vols vol = none) (h2 : s.vols.length ≠ 3) (hq : arg = 0 ∧ q = -1 ∨ arg ≠ 0 ∧ rootV s.vols arg = some q) : EntS s ⟨2, vol, arg, 0⟩ true ⟨insV s.vols vol q, s.kns, s.next⟩ := by
  have hl := h.few
  have h0 := hr.1.1
  simp only at h0
  have hin : (Sto.mk (insV s.vols vol q) s.kns s.next).Right := by
    have hv : 1 ≤ vol ∧ vol ≤ 9 := by
      rcases hr.2 with ⟨e, -⟩ | ⟨e, -⟩
      · simp at e
      · exact e
    refine ins_right h hv (atV_none h1) (by omega) ?_ ?_
    · rcases hq with ⟨-, rfl⟩ | ⟨-, e⟩
      · exact root_none _
      · exact h.root _ (rootV_some e)
    · rcases hq with ⟨-, rfl⟩ | ⟨-, e⟩
      · exact none_less h.toNear
      · exact h.less _ (rootV_some e)
  refine .inr ⟨rfl, ?_, by have := hin.few; exact Nat.le_trans this (by omega)⟩
  rw [swept_same hin, enterS, if_pos ⟨(stoB_iff s).2 h, hr⟩, if_neg (by simp), if_pos rfl, volE]
  have e : (if 0 < arg then rootV s.vols arg else some (-1)) = some q := by
    rcases hq with ⟨rfl, rfl⟩ | ⟨e1, e2⟩
    · rfl
    · rw [if_pos (by omega)]; exact e2
  simp only [e, h1]
  rw [decide_eq_false h2]
  rfl
theorem ent_drop_no {s : Sto} (h : s.Right) {vol : Int} (hr : (Rc.mk 3 vol 0 0).Right) (hn : atV s.vols vol = none) (t : Sto) : EntS s ⟨3, vol, 0, 0⟩ false t := by
  refine .inl ⟨rfl, ?_⟩
  rw [enterS, if_pos ⟨(stoB_iff s).2 h, hr⟩, if_neg (by simp), if_neg (by simp)]
  simp only [hn]
theorem ent_drop {s : Sto} (h : s.Right) {vol : Int} {k : Nat} (hr : (Rc.mk 3 vol 0 0).Right) (hn : atV s.vols vol = some k) : EntS s ⟨3, vol, 0, 0⟩ true ⟨s.vols.take k ++ s.vols.drop (k + 1), s.kns, s.next⟩ := by
  refine .inr ⟨rfl, ?_, by have := h.few; simp; omega⟩
  rw [enterS, if_pos ⟨(stoB_iff s).2 h, hr⟩, if_neg (by simp), if_neg (by simp)]
  simp only [hn]
  rw [if_neg (by decide), if_pos trivial]
  rfl
theorem ent_put_no {s : Sto} (h : s.Right) {kind vol arg chunk : Int} (hk : kind = 4 ∨ kind = 5) (hr : (Rc.mk kind vol arg chunk).Right) (hn : atV s.vols vol = none ∨ chunk = 1000000000) (t : Sto) : EntS s ⟨kind, vol, arg, chunk⟩ false t := by
  refine .inl ⟨rfl, ?_⟩
  rw [enterS, if_pos ⟨(stoB_iff s).2 h, hr⟩, if_neg (by show ¬ kind = 1; omega), if_neg (by show ¬ kind = 2; omega)]
  simp only
  split
  · rfl
  · rename_i k hk2
    rcases hn with e | e
    · rw [e] at hk2; cases hk2
    · rw [if_pos e]
theorem ent_put {s : Sto} (h : s.Right) {kind vol arg chunk : Int} {k : Nat} {v : Int × Int} (hk : kind = 4 ∨ kind = 5) (hr : (Rc.mk kind vol arg chunk).Right) (hc : chunk ≠ 1000000000) (hn : atV s.vols vol = some k) (hv : s.vols[k]? = some v) : EntS s ⟨kind, vol, arg, chunk⟩ true ⟨s.vols.set k (v.1, putR s.kns v.2 arg chunk), putL s.kns v.2 arg chunk, if s.next < chunk + 1 then chunk + 1 else s.next⟩ := by
  refine .inr ⟨rfl, ?_, by have := h.few; simp; omega⟩
  rw [enterS, if_pos ⟨(stoB_iff s).2 h, hr⟩, if_neg (by show ¬ kind = 1; omega), if_neg (by show ¬ kind = 2; omega)]
  simp only [hn]
  rw [if_neg hc, if_neg (by omega), hv, Option.getD_some, putE]
  have e : (if s.next ≤ chunk then chunk + 1 else s.next) = if s.next < chunk + 1 then chunk + 1 else s.next := by
    by_cases e : s.next ≤ chunk
    · rw [if_pos e, if_pos (by omega)]
    · rw [if_neg e, if_neg (by omega)]
  simp only
  rw [e]
end Words
end Go.Proofs.YtiicghepilbgfaaGreatDoor
