/-
  impl's partsByTx: begin, add, isWhole.
-/
import Derived.Test.YtogfdhfmamabiaaPMap2
namespace Go.Proofs.Ytogfdhfmamabiaa
open Go.RowKit
open Words

set_option maxHeartbeats 1000000 in
set_option maxRecDepth 100000 in
theorem ibegin (lo B : Nat) (G : Gm) (ps : List Pg) (p : Pg) (w : World) (h : PM lo w B G) (ho : OutB ps G) :
    Calls Try.prog 42 #[.map (some B), pgVal p] w fun e w' => e = .returned (.tuple #[]) ∧ ∃ G', PM lo w' B G' ∧ OutB (ps ++ [p]) G' ∧ Below lo w w' := by
  obtain ⟨k, sq, tx, pt, ct, t⟩ := p
  unfold pgVal
  simp only
  have hlo := h.lt
  have bA : Below w.heap.size w (w.alloc (.cells #[.int .i64 k, .int .i64 sq, .int .i64 tx, .int .i64 pt, .int .i64 ct, .string t] 40)) := (Below.refl _ _).alloc (Nat.le_refl _) _
  have P1 := hide (h.below bA)
  have B1 := hide (bA.mono hlo)
  have HO := hide ho
  have hlk := P1.out.look tx false
  have hnn : ∀ (W : World) (m : Option Nat), (binOp .neq 82 (.map m) (.map none)).run Try.prog W = .ok (.bool (!m.isNone)) W := fun W m => run_neq_map_nil W _ _ _ m tyPg
  simp only [Bool.false_eq_true, if_false] at hlk
  clear h ho bA hlo
  by_cases hk : (k != 2) = true
  · have HN : Hid (¬ (k = 2 ∧ pt = 0 ∧ at? G tx = none)) := fun hh => by have := hh.1; subst this; simp at hk
    go_enter Try.func42, Try.ntmps42
    go_wp2
    refine bodyPost_ret (results_none rfl _ _ _) rfl ?_
    exact ⟨rfl, G, P1.out, HO.out.skip HN.out, B1.out⟩
  · have hk' : (k != 2) = false := by simpa using hk
    have hk2 : k = 2 := by simpa using hk'
    by_cases hp : (pt != 0) = true
    · have HN : Hid (¬ (k = 2 ∧ pt = 0 ∧ at? G tx = none)) := fun hh => by have := hh.2.1; subst this; simp at hp
      clear hk hk2
      go_enter Try.func42, Try.ntmps42
      go_wp2
      refine bodyPost_ret (results_none rfl _ _ _) rfl ?_
      exact ⟨rfl, G, P1.out, HO.out.skip HN.out, B1.out⟩
    · have hp' : (pt != 0) = false := by simpa using hp
      have hp2 : pt = 0 := by simpa using hp'
      cases hg : at? G tx with
      | some bl =>
        obtain ⟨b, l⟩ := bl
        rw [hg] at hlk
        simp only [Option.map_some, Option.getD_some, outV] at hlk
        have HN : Hid (¬ (k = 2 ∧ pt = 0 ∧ at? G tx = none)) := fun hh => by rw [hg] at hh; cases hh.2.2
        clear hk hk2 hp hp2 hg
        go_enter Try.func42, Try.ntmps42
        go_wp2
        refine bodyPost_ret (results_none rfl _ _ _) rfl ?_
        exact ⟨rfl, G, P1.out, HO.out.skip HN.out, B1.out⟩
      | none =>
        rw [hg] at hlk
        simp only [Option.map_none, Option.getD_none] at hlk
        have hmm := @run_makeMap Try.prog
        obtain ⟨W2, W3, e2, e3, PN, bN⟩ := P1.out.begin hg ⟨k, sq, tx, pt, ct, t⟩
        have PN' := hide PN
        have BN := hide (B1.out.trans bN)
        have ON := hide (HO.out.begin (q := ⟨k, sq, tx, pt, ct, t⟩) (w.alloc (.cells #[.int .i64 k, .int .i64 sq, .int .i64 tx, .int .i64 pt, .int .i64 ct, .string t] 40)).heap.size hk2 hp2 hg)
        unfold pgVal at e2
        simp only at e2
        rw [show (w.alloc (.cells #[.int .i64 k, .int .i64 sq, .int .i64 tx, .int .i64 pt, .int .i64 ct, .string t] 40)).heap.size = w.heap.size + 1 by simp] at e2 e3
        clear PN bN hk hk2 hp hp2 hg
        go_enter Try.func42, Try.ntmps42
        go_wp2
        go_end0
        exact ⟨rfl, _, PN'.out, ON.out, BN.out⟩

set_option maxHeartbeats 2000000 in
set_option maxRecDepth 100000 in
theorem iadd (lo B : Nat) (G : Gm) (ps0 ps : List Pg) (p : Pg) (w : World) (h : PM lo w B G) (ho : OutA ps0 ps G) :
    Calls Try.prog 43 #[.map (some B), pgVal p] w fun e w' => e = .returned (.tuple #[]) ∧ ∃ G', PM lo w' B G' ∧ OutA ps0 (ps ++ [p]) G' ∧ Below lo w w' := by
  obtain ⟨k, sq, tx, pt, ct, t⟩ := p
  have HSK := hide (fun hn => ho.skip (q := ⟨k, sq, tx, pt, ct, t⟩) hn)
  simp only at HSK
  unfold pgVal
  simp only
  have hlo := h.lt
  have bA : Below w.heap.size w (w.alloc (.cells #[.int .i64 k, .int .i64 sq, .int .i64 tx, .int .i64 pt, .int .i64 ct, .string t] 40)) := (Below.refl _ _).alloc (Nat.le_refl _) _
  have P1 := hide (h.below bA)
  have B1 := hide (bA.mono hlo)
  have hlk := P1.out.look tx true
  simp only [if_true] at hlk
  cases hg : at? G tx with
  | none =>
    rw [hg] at hlk
    simp only [Option.map_none, Option.getD_none, Option.isSome_none] at hlk
    have ON := hide (HSK.out (fun b l p0 e => by rw [hg] at e; cases e))
    clear h ho bA hlo hg HSK
    go_enter Try.func43, Try.ntmps43
    go_wp2
    refine bodyPost_ret (results_none rfl _ _ _) rfl ?_
    exact ⟨rfl, G, P1.out, ON.out, B1.out⟩
  | some bl =>
    obtain ⟨b, l⟩ := bl
    rw [hg] at hlk
    simp only [Option.map_some, Option.getD_some, Option.isSome_some, outV] at hlk
    obtain ⟨p0, hp0⟩ : ∃ p0, at? l 0 = some p0 := by
      have := ho.2 tx
      cases e : first0 ps0 tx with
      | none => rw [e] at this; have h' : at? G tx = none := this; rw [hg] at h'; cases h'
      | some q =>
        rw [e] at this
        obtain ⟨b', l', g1, g2⟩ := this
        rw [hg] at g1
        cases g1
        exact ⟨q, g2.zero⟩
    have SK : Hid (¬ (k = 2 ∧ ct = p0.count ∧ 0 ≤ pt ∧ pt < ct ∧ at? l pt = none) → OutA ps0 (ps ++ [⟨k, sq, tx, pt, ct, t⟩]) G) := fun hn => HSK.out (fun b' l' q e1 e2 => by
      rw [hg] at e1
      cases e1
      rw [hp0] at e2
      cases e2
      exact hn)
    have q3 := (P1.out.at hg).2.2
    have hl0 := inLook q3 0 false
    rw [hp0] at hl0
    simp only [Option.map_some, Option.getD_some, Bool.false_eq_true, if_false, pgVal] at hl0
    have hf4 := pgFld4
    have OA := hide ho
    clear h ho bA hlo HSK
    obtain ⟨c0, hc0⟩ : ∃ c0, p0.count = c0 := ⟨_, rfl⟩
    have HZ := hide hp0
    rw [hc0] at hl0 SK
    have HC0 := hide hc0
    clear hc0 hp0
    by_cases hk : (k != 2) = true
    · have ON := hide (SK.out (fun hh => by have := hh.1; subst this; simp at hk))
      clear SK OA HZ q3 hg
      go_enter Try.func43, Try.ntmps43
      go_wp2
      refine bodyPost_ret (results_none rfl _ _ _) rfl ?_
      exact ⟨rfl, G, P1.out, ON.out, B1.out⟩
    have hk' : (k != 2) = false := by simpa using hk
    have hk2 : k = 2 := by simpa using hk'
    by_cases hc : (ct != c0) = true
    · have ON := hide (SK.out (fun hh => by have := hh.2.1; subst this; simp at hc))
      clear SK OA HZ q3 hg hk hk2
      go_enter Try.func43, Try.ntmps43
      go_wp2
      refine bodyPost_ret (results_none rfl _ _ _) rfl ?_
      exact ⟨rfl, G, P1.out, ON.out, B1.out⟩
    have hc' : (ct != c0) = false := by simpa using hc
    have hc2 : ct = c0 := by simpa using hc'
    by_cases hp : pt < 0
    · have ON := hide (SK.out (fun hh => by omega))
      clear SK OA HZ q3 hg hk hk2 hc hc2
      go_enter Try.func43, Try.ntmps43
      go_wp2
      refine bodyPost_ret (results_none rfl _ _ _) rfl ?_
      exact ⟨rfl, G, P1.out, ON.out, B1.out⟩
    by_cases hq : pt < ct
    · have hq' : ¬ (pt ≥ ct) := by omega
      have hlp := inLook q3 pt true
      simp only [if_true] at hlp
      cases hat : at? l pt with
      | some q =>
        rw [hat] at hlp
        simp only [Option.map_some, Option.getD_some, Option.isSome_some, pgVal] at hlp
        have ON := hide (SK.out (fun hh => by rw [hat] at hh; cases hh.2.2.2.2))
        have P2 := hide (P1.out.below ((Below.refl _ _).alloc (Nat.le_refl _) (.cells #[.int .i64 q.kind, .int .i64 q.seq, .int .i64 q.tx, .int .i64 q.part, .int .i64 q.count, .string q.text] 40)))
        have B2 := hide (B1.out.alloc (by have := B1.out.size; have := P1.out.lt; omega) (.cells #[.int .i64 q.kind, .int .i64 q.seq, .int .i64 q.tx, .int .i64 q.part, .int .i64 q.count, .string q.text] 40))
        clear SK OA HZ q3 hg hk hk2 hc hc2 hat
        go_enter Try.func43, Try.ntmps43
        go_wp2
        go_end0
        exact ⟨rfl, G, P2.out, ON.out, B2.out⟩
      | none =>
        rw [hat] at hlp
        simp only [Option.map_none, Option.getD_none, Option.isSome_none] at hlp
        have P2 := hide (P1.out.below ((Below.refl _ _).alloc (Nat.le_refl _) (.cells #[.int .i64 0, .int .i64 0, .int .i64 0, .int .i64 0, .int .i64 0, .string ⟨#[]⟩] 40)))
        have B2 := hide (B1.out.alloc (by have := B1.out.size; have := P1.out.lt; omega) (.cells #[.int .i64 0, .int .i64 0, .int .i64 0, .int .i64 0, .int .i64 0, .string ⟨#[]⟩] 40))
        obtain ⟨W1, e1, PN, bN⟩ := P2.out.add hg hat ⟨k, sq, tx, pt, ct, t⟩
        have PN' := hide PN
        have BN := hide (B2.out.trans bN)
        have ON := hide (OA.out.add (q := ⟨k, sq, tx, pt, ct, t⟩) hg HZ.out hk2 (by show ct = _; rw [HC0.out]; exact hc2) (by show 0 ≤ pt; omega) hq hat)
        unfold pgVal at e1
        simp only at e1
        clear SK OA HZ q3 hg hk hk2 hc hc2 hat PN bN
        go_enter Try.func43, Try.ntmps43
        go_wp2
        go_end0
        exact ⟨rfl, _, PN'.out, ON.out, BN.out⟩
    · have hq' : pt ≥ ct := by omega
      have ON := hide (SK.out (fun hh => by omega))
      clear SK OA HZ q3 hg hk hk2 hc hc2
      go_enter Try.func43, Try.ntmps43
      go_wp2
      refine bodyPost_ret (results_none rfl _ _ _) rfl ?_
      exact ⟨rfl, G, P1.out, ON.out, B1.out⟩

set_option maxHeartbeats 1000000 in
set_option maxRecDepth 100000 in
theorem iwhole0 (lo B : Nat) (G : Gm) (x : Int) (w : World) (h : PM lo w B G) (hg : at? G x = none) :
    Calls Try.prog 44 #[.map (some B), .int .i64 x] w fun e w' => e = .returned (.bool false) ∧ w' = w := by
  have hlk := h.look x true
  rw [hg] at hlk
  simp only [Option.map_none, Option.getD_none, Option.isSome_none, if_true] at hlk
  clear h hg
  go_enter Try.func44, Try.ntmps44
  go_wp2
  go_ret
  exact ⟨rfl, rfl⟩
set_option maxHeartbeats 1000000 in
set_option maxRecDepth 100000 in
theorem iwhole1 (lo B : Nat) (G : Gm) (x : Int) (b : Nat) (l : List (Int × Pg)) (p : Pg) (w : World) (h : PM lo w B G) (hg : at? G x = some (b, l)) (hz : at? l 0 = some p) :
    Calls Try.prog 44 #[.map (some B), .int .i64 x] w fun e w' => e = .returned (.bool (decide ((l.length : Int) = if p.count < 1 then 1 else p.count))) ∧ w' = w := by
  have hlk := h.look x true
  rw [hg] at hlk
  simp only [Option.map_some, Option.getD_some, Option.isSome_some, if_true, outV] at hlk
  have q3 := (h.at hg).2.2
  have hl0 := inLook q3 0 false
  rw [hz] at hl0
  simp only [Option.map_some, Option.getD_some, Bool.false_eq_true, if_false, pgVal] at hl0
  have hf4 := pgFld4
  have hln := fun ty => q3.len tyPg ty
  rw [inL_len] at hln
  obtain ⟨c0, hc0⟩ : ∃ c0, p.count = c0 := ⟨_, rfl⟩
  rw [hc0] at hl0
  rw [hc0]
  obtain ⟨n, hn⟩ : ∃ n, l.length = n := ⟨_, rfl⟩
  rw [hn] at hln
  rw [hn]
  clear h hg hz q3 hc0 hn
  go_enter Try.func44, Try.ntmps44
  go_wp2
  all_goals
    go_ret
    exact ⟨rfl, rfl⟩
end Go.Proofs.Ytogfdhfmamabiaa
