/-
  TMath; ZMath; ChM
-/
import Derived.Test.YtcjgjkejhkhknabGreatDoorPk4
import Derived.Test.YtcjgjkejhkhknabGreatDoorPk21
/-
  Plain facts on tokens of a text: no Go in them.
-/
namespace Go.Proofs.YtcjgjkejhkhknabGreatDoor.Pack

/-- How many bytes, at most f, two texts begin with in common. -/
def mlen : Nat → List UInt8 → List UInt8 → Nat
  | 0, _, _ => 0
  | f + 1, a :: al, b :: bs => if a = b then mlen f al bs + 1 else 0
  | _ + 1, _, _ => 0
theorem mlen_le (f : Nat) (a b : List UInt8) : mlen f a b ≤ f ∧ mlen f a b ≤ b.length := by
  induction f generalizing a b with
  | zero => simp [mlen]
  | succ f ih =>
    cases a with
    | nil => simp [mlen]
    | cons x al =>
      cases b with
      | nil => simp [mlen]
      | cons y bs =>
        unfold mlen
        split
        · have := ih al bs
          simp only [List.length_cons]
          omega
        · simp
theorem mlen_same (f : Nat) (a b : List UInt8) (i : Nat) (h : i < mlen f a b) : a[i]? = b[i]? ∧ i < b.length := by
  induction f generalizing a b i with
  | zero => simp [mlen] at h
  | succ f ih =>
    cases a with
    | nil => simp [mlen] at h
    | cons x al =>
      cases b with
      | nil => simp [mlen] at h
      | cons y bs =>
        unfold mlen at h
        split at h
        · rename_i e
          subst e
          cases i with
          | zero => simp
          | succ i =>
            have := ih al bs i (by omega)
            simp only [List.getElem?_cons_succ, List.length_cons]
            exact ⟨this.1, by omega⟩
        · omega

/-- The longest match of the k nearest places, the nearest of several: its size and how far back. -/
def best (s : List UInt8) (at_ : Nat) : Nat → Nat × Nat
  | 0 => (0, 0)
  | k + 1 => if 4 ≤ mlen 31 (s.drop (at_ - (k + 1))) (s.drop at_) ∧ (best s at_ k).1 < mlen 31 (s.drop (at_ - (k + 1))) (s.drop at_) then (mlen 31 (s.drop (at_ - (k + 1))) (s.drop at_), k + 1) else best s at_ k
theorem best_of (s : List UInt8) (at_ k : Nat) : best s at_ k = (0, 0) ∨ (4 ≤ (best s at_ k).1 ∧ (best s at_ k).1 ≤ 31 ∧ 0 < (best s at_ k).2 ∧ (best s at_ k).2 ≤ k ∧ (best s at_ k).1 = mlen 31 (s.drop (at_ - (best s at_ k).2)) (s.drop at_)) := by
  induction k with
  | zero => left; rfl
  | succ k ih =>
    unfold best
    split
    · rename_i h
      right
      have := (mlen_le 31 (s.drop (at_ - (k + 1))) (s.drop at_)).1
      exact ⟨h.1, this, Nat.succ_pos k, Nat.le_refl _, rfl⟩
    · rcases ih with h | h
      · left; exact h
      · right; exact ⟨h.1, h.2.1, h.2.2.1, by omega, h.2.2.2.2⟩

/-- One step: the place behind it, and the tokens. -/
def stepT (s : List UInt8) (st : Nat × List (Nat × Nat × List UInt8)) : Nat × List (Nat × Nat × List UInt8) :=
  if 0 < (best s st.1 st.1).1 then (st.1 + (best s st.1 st.1).1, st.2 ++ [((best s st.1 st.1).2, (best s st.1 st.1).1, [])])
  else match st.2.getLast? with
    | some (0, z, t) => if t.length < 31 then (st.1 + 1, st.2.dropLast ++ [(0, z, t ++ [s.getD st.1 0])]) else (st.1 + 1, st.2 ++ [(0, 0, [s.getD st.1 0])])
    | _ => (st.1 + 1, st.2 ++ [(0, 0, [s.getD st.1 0])])
def stepsT : Nat → List UInt8 → Nat × List (Nat × Nat × List UInt8)
  | 0, _ => (0, [])
  | n + 1, s => if (stepsT n s).1 < s.length then stepT s (stepsT n s) else stepsT n s
/-- The tokens of a text. -/
def toks (s : List UInt8) : List (Nat × Nat × List UInt8) := (stepsT s.length s).2

/-- So many bytes said again from so far back. -/
def again : Nat → Nat → List UInt8 → List UInt8
  | 0, _, out => out
  | n + 1, back, out => again n back (out ++ [out.getD (out.length - back) 0])
/-- A token that is right behind so many bytes. -/
def TokOk (len : Nat) (t : Nat × Nat × List UInt8) : Prop := if t.1 = 0 then (1 ≤ t.2.2.length ∧ t.2.2.length ≤ 31 ∧ t.2.1 = 0) else (t.1 ≤ len ∧ 1 ≤ t.2.1 ∧ t.2.1 ≤ 31 ∧ t.2.2 = [])
abbrev decTok (len : Nat) (t : Nat × Nat × List UInt8) : Decidable (TokOk len t) := by unfold TokOk; exact inferInstance
def tell (out : List UInt8) (t : Nat × Nat × List UInt8) : List UInt8 := if t.1 = 0 then out ++ t.2.2 else again t.2.1 t.1 out
def plainFrom (out : List UInt8) : List (Nat × Nat × List UInt8) → Option (List UInt8)
  | [] => some out
  | t :: r => letI := decTok out.length t; if TokOk out.length t then (if (tell out t).length ≤ 64 then plainFrom (tell out t) r else none) else none
/-- What tokens tell, where they tell something. -/
def plain (l : List (Nat × Nat × List UInt8)) : Option (List UInt8) := plainFrom [] l

theorem plainFrom_append (out : List UInt8) (a b : List (Nat × Nat × List UInt8)) : plainFrom out (a ++ b) = (plainFrom out a).bind fun o => plainFrom o b := by
  induction a generalizing out with
  | nil => rfl
  | cons t a ih =>
    simp only [List.cons_append, plainFrom]
    split
    · split
      · exact ih _
      · rfl
    · rfl
theorem plainFrom_snoc (a : List (Nat × Nat × List UInt8)) (t : Nat × Nat × List UInt8) (o : List UInt8) (h : plain a = some o) (h1 : TokOk o.length t) (h2 : (tell o t).length ≤ 64) : plain (a ++ [t]) = some (tell o t) := by
  unfold plain at *
  rw [plainFrom_append, h]
  simp only [Option.bind_some, plainFrom]
  rw [if_pos h1, if_pos h2]
/-- What a match tells is what stands there. -/
theorem again_take (s : List UInt8) (at_ back n : Nat) (hb : 0 < back) (hk : back ≤ at_) (h : ∀ i, i < n → s[at_ - back + i]? = s[at_ + i]? ∧ at_ + i < s.length) : again n back (s.take at_) = s.take (at_ + n) := by
  induction n generalizing at_ with
  | zero => rfl
  | succ n ih =>
    have h0 := h 0 (by omega)
    have hl : at_ < s.length := by have := h0.2; omega
    have hlen : (s.take at_).length = at_ := by rw [List.length_take]; omega
    have e : s.take at_ ++ [(s.take at_).getD ((s.take at_).length - back) 0] = s.take (at_ + 1) := by
      rw [List.take_succ_eq_append_getElem hl, hlen]
      congr 2
      rw [List.getD_eq_getElem?_getD, List.getElem?_take_of_lt (by omega)]
      have := h0.1
      simp only [Nat.add_zero] at this
      rw [this, List.getElem?_eq_getElem hl]
      rfl
    unfold again
    rw [e, ih (at_ + 1) (by omega) (fun i hi => by
      have := h (i + 1) (by omega)
      rw [show at_ + 1 - back + i = at_ - back + (i + 1) by omega, show at_ + 1 + i = at_ + (i + 1) by omega]
      exact this), show at_ + 1 + n = at_ + (n + 1) by omega]

/-- What the steps keep. -/
def Kept (s : List UInt8) (st : Nat × List (Nat × Nat × List UInt8)) : Prop := st.1 ≤ s.length ∧ plain st.2 = some (s.take st.1) ∧ ∀ t ∈ st.2, t.1 = 0 ∨ 4 ≤ t.2.1
theorem plain_last (a : List (Nat × Nat × List UInt8)) (t : Nat × Nat × List UInt8) (o : List UInt8) (h : plain (a ++ [t]) = some o) : ∃ o', plain a = some o' ∧ TokOk o'.length t ∧ tell o' t = o := by
  unfold plain at *
  rw [plainFrom_append] at h
  cases hp : plainFrom [] a with
  | none => rw [hp] at h; cases h
  | some o' =>
    rw [hp] at h
    simp only [Option.bind_some, plainFrom] at h
    split at h
    · split at h
      · rename_i h1 h2
        cases h
        exact ⟨o', rfl, h1, rfl⟩
      · cases h
    · cases h
theorem take_next (s : List UInt8) (k : Nat) (h : k < s.length) : s.take k ++ [s.getD k 0] = s.take (k + 1) := by
  rw [List.take_succ_eq_append_getElem h, List.getD_eq_getElem?_getD, List.getElem?_eq_getElem h]
  rfl
theorem kept_new (s : List UInt8) (k : Nat) (out : List (Nat × Nat × List UInt8)) (hs : s.length ≤ 64) (hk : k < s.length) (h : Kept s (k, out)) : Kept s (k + 1, out ++ [(0, 0, [s.getD k 0])]) := by
  refine ⟨hk, ?_, ?_⟩
  · have hp := plainFrom_snoc out (0, 0, [s.getD k 0]) _ h.2.1 (by simp [TokOk]) (by simp [tell]; omega)
    rw [hp]
    simp only [tell, if_true]
    exact congrArg some (take_next s k hk)
  · intro t ht
    rcases List.mem_append.1 ht with h' | h'
    · exact h.2.2 t h'
    · simp at h'; subst h'; left; rfl
theorem kept_step (s : List UInt8) (st : Nat × List (Nat × Nat × List UInt8)) (hs : s.length ≤ 64) (hk : st.1 < s.length) (h : Kept s st) : Kept s (stepT s st) ∧ st.1 < (stepT s st).1 := by
  obtain ⟨k, out⟩ := st
  unfold stepT
  simp only
  split
  · rename_i hb
    rcases best_of s k k with h0 | ⟨h4, h31, hb0, hbk, hm⟩
    · rw [h0] at hb; simp at hb
    · have hsame : ∀ i, i < (best s k k).1 → s[k - (best s k k).2 + i]? = s[k + i]? ∧ k + i < s.length := by
        intro i hi
        rw [hm] at hi
        obtain ⟨e1, e2⟩ := mlen_same _ _ _ i hi
        rw [List.getElem?_drop, List.getElem?_drop] at e1
        rw [List.length_drop] at e2
        exact ⟨e1, by omega⟩
      have hle : k + (best s k k).1 ≤ s.length := by
        have := (hsame ((best s k k).1 - 1) (by omega)).2
        omega
      have ht := again_take s k (best s k k).2 (best s k k).1 hb0 hbk hsame
      refine ⟨⟨hle, ?_, ?_⟩, by omega⟩
      · have hl : (s.take k).length = k := by simp at hk ⊢; omega
        have hok : TokOk (s.take k).length ((best s k k).2, (best s k k).1, []) := by
          unfold TokOk
          rw [if_neg (by simp only; omega), hl]
          exact ⟨hbk, by simp only; omega, h31, rfl⟩
        have htell : tell (s.take k) ((best s k k).2, (best s k k).1, []) = s.take (k + (best s k k).1) := by
          unfold tell
          rw [if_neg (by simp only; omega)]
          exact ht
        have := plainFrom_snoc out _ _ h.2.1 hok (by rw [htell, List.length_take]; omega)
        rw [this, htell]
      · intro t ht
        rcases List.mem_append.1 ht with h' | h'
        · exact h.2.2 t h'
        · simp at h'; subst h'; right; exact h4
  · split
    · rename_i z t hlast
      split
      · rename_i ht
        obtain ⟨ini, hini⟩ : ∃ ini, out = ini ++ [(0, z, t)] := by
          obtain ⟨ini, hi⟩ := List.getLast?_eq_some_iff.1 hlast
          exact ⟨ini, hi⟩
        subst hini
        obtain ⟨o', h1, h2, h3⟩ := plain_last ini _ _ h.2.1
        simp only [List.dropLast_concat]
        have h2' := h2
        unfold TokOk at h2'
        rw [if_pos rfl] at h2'
        have htl : tell o' (0, z, t ++ [s.getD k 0]) = s.take (k + 1) := by
          unfold tell at h3 ⊢
          rw [if_pos rfl] at h3 ⊢
          rw [← take_next s k hk, ← h3, List.append_assoc]
        refine ⟨⟨hk, ?_, ?_⟩, Nat.lt_succ_self k⟩
        · have := plainFrom_snoc ini (0, z, t ++ [s.getD k 0]) o' h1 (by
            unfold TokOk
            rw [if_pos rfl]
            simp only [List.length_append, List.length_singleton]
            exact ⟨by omega, by omega, h2'.2.2⟩) (by rw [htl, List.length_take]; omega)
          rw [this, htl]
        · intro t' ht'
          rcases List.mem_append.1 ht' with h' | h'
          · exact h.2.2 t' (List.mem_append_left _ h')
          · simp at h'; subst h'; left; rfl
      · exact ⟨kept_new s k out hs hk h, Nat.lt_succ_self k⟩
    · exact ⟨kept_new s k out hs hk h, Nat.lt_succ_self k⟩
theorem kept_steps (s : List UInt8) (hs : s.length ≤ 64) (n : Nat) : Kept s (stepsT n s) ∧ min n s.length ≤ (stepsT n s).1 := by
  induction n with
  | zero => exact ⟨⟨Nat.zero_le _, rfl, fun t ht => by cases ht⟩, by simp⟩
  | succ n ih =>
    unfold stepsT
    split
    · rename_i h
      have := kept_step s _ hs h ih.1
      exact ⟨this.1, by omega⟩
    · exact ⟨ih.1, by omega⟩
/-- The tokens of a text tell it. -/
theorem plain_toks (s : List UInt8) (hs : s.length ≤ 64) : plain (toks s) = some s ∧ ∀ t ∈ toks s, t.1 = 0 ∨ 4 ≤ t.2.1 := by
  obtain ⟨⟨h1, h2, h3⟩, h4⟩ := kept_steps s hs s.length
  refine ⟨?_, h3⟩
  unfold toks
  rw [h2, List.take_of_length_le (by omega)]
end Go.Proofs.YtcjgjkejhkhknabGreatDoor.Pack

/-
  Plain facts on texts that are packed: no Go in them.
-/
namespace Go.Proofs.YtcjgjkejhkhknabGreatDoor.Pack

/-- The bytes of a token. -/
def zTok (t : Nat × Nat × List UInt8) : List UInt8 := if t.1 = 0 then UInt8.ofNat t.2.2.length :: t.2.2 else [UInt8.ofNat (128 + t.2.1), UInt8.ofNat t.1]
def zOf (s : List UInt8) : List UInt8 := 122 :: (toks s).flatMap zTok
/-- A text packed, where it is not too long. -/
def packL (s : List UInt8) : Option (List UInt8) := if 64 < s.length then none else some (if s.length + 1 ≤ (zOf s).length then 114 :: s else zOf s)
/-- Tokens read from bytes. -/
def readT : Nat → List UInt8 → Option (List (Nat × Nat × List UInt8))
  | _, [] => some []
  | 0, _ :: _ => none
  | f + 1, n :: r =>
    if 128 < n.toNat then (match r with
      | b :: r' => (readT f r').map fun l => (b.toNat, n.toNat - 128, []) :: l
      | [] => none)
    else if n.toNat ≤ r.length then (readT f (r.drop n.toNat)).map fun l => (0, 0, r.take n.toNat) :: l else none
/-- The text of which this is the packed one. -/
def unpackL (t : List UInt8) : Option (List UInt8) :=
  match t with
  | [] => none
  | c :: r => (if c = 122 then (readT r.length r).bind plain else some r).bind fun s => if packL s = some t then some s else none

theorem pack_len (s t : List UInt8) (h : packL s = some t) : t.length ≤ s.length + 1 := by
  unfold packL at h
  split at h
  · cases h
  · cases h
    split
    · simp
    · omega

/-- What a token that tells something looks like. -/
def Fit (t : Nat × Nat × List UInt8) : Prop := (t.1 = 0 ∧ 1 ≤ t.2.2.length ∧ t.2.2.length ≤ 31 ∧ t.2.1 = 0) ∨ (0 < t.1 ∧ t.1 ≤ 64 ∧ 1 ≤ t.2.1 ∧ t.2.1 ≤ 31 ∧ t.2.2 = [])
theorem fit_of (out o : List UInt8) (l : List (Nat × Nat × List UInt8)) (ho : out.length ≤ 64) (h : plainFrom out l = some o) : ∀ t ∈ l, Fit t := by
  induction l generalizing out with
  | nil => intro t ht; cases ht
  | cons a l ih =>
    unfold plainFrom at h
    split at h
    · rename_i hok
      split at h
      · rename_i hlen
        intro t ht
        rcases List.mem_cons.1 ht with e | e
        · subst e
          unfold TokOk at hok
          split at hok
          · rename_i h0
            exact .inl ⟨h0, hok⟩
          · rename_i h0
            exact .inr ⟨by omega, by omega, hok.2⟩
        · exact ih _ hlen h t e
      · cases h
    · cases h

theorem small_byte (n : Nat) (h : n < 256) : (UInt8.ofNat n).toNat = n := by rw [UInt8.toNat_ofNat']; omega
theorem zTok_len (t : Nat × Nat × List UInt8) : 1 ≤ (zTok t).length := by
  unfold zTok
  split <;> simp
theorem readT_of (l : List (Nat × Nat × List UInt8)) (h : ∀ t ∈ l, Fit t) (f : Nat) (hf : (l.flatMap zTok).length ≤ f) : readT f (l.flatMap zTok) = some l := by
  induction l generalizing f with
  | nil =>
    simp only [List.flatMap_nil]
    cases f <;> rfl
  | cons t l ih =>
    have ht := h t (by simp)
    have hl := ih (fun t ht => h t (by simp [ht]))
    rw [List.flatMap_cons] at hf ⊢
    rw [List.length_append] at hf
    have h1 := zTok_len t
    obtain ⟨g, rfl⟩ : ∃ g, f = g + 1 := ⟨f - 1, by omega⟩
    obtain ⟨b, n, x⟩ := t
    rcases ht with ⟨e0, e1, e2, e3⟩ | ⟨e0, e1, e2, e3, e4⟩
    · simp only at e0 e1 e2 e3
      subst e0 e3
      have hz : zTok (0, 0, x) = UInt8.ofNat x.length :: x := rfl
      rw [hz] at hf ⊢
      rw [List.cons_append]
      unfold readT
      rw [small_byte x.length (by omega), if_neg (by omega), if_pos (by simp)]
      rw [List.drop_left, List.take_left, hl g (by simp only [List.length_cons] at hf; omega)]
      rfl
    · simp only at e0 e1 e2 e3 e4
      subst e4
      have hz : zTok (b, n, []) = [UInt8.ofNat (128 + n), UInt8.ofNat b] := by
        unfold zTok
        rw [if_neg (by simp only; omega)]
      rw [hz] at hf ⊢
      rw [List.cons_append]
      unfold readT
      rw [small_byte (128 + n) (by omega), if_pos (by omega)]
      simp only [List.cons_append, List.nil_append]
      rw [hl g (by simp only [List.length_cons, List.length_nil] at hf; omega), small_byte b (by omega)]
      simp
/-- What is packed is unpacked. -/
theorem unpack_pack (s t : List UInt8) (h : packL s = some t) : unpackL t = some s := by
  have hs : s.length ≤ 64 := by
    unfold packL at h
    split at h
    · cases h
    · omega
  obtain ⟨hp, -⟩ := plain_toks s hs
  have h' := h
  unfold packL at h'
  rw [if_neg (by omega)] at h'
  split at h'
  · cases h'
    unfold unpackL
    simp only
    rw [if_neg (by decide)]
    simp only [Option.bind_some]
    rw [if_pos h]
  · cases h'
    show (if (122 : UInt8) = 122 then (readT ((toks s).flatMap zTok).length ((toks s).flatMap zTok)).bind plain else some _).bind _ = _
    rw [if_pos rfl, readT_of _ (fit_of [] s _ (by simp) hp) _ (Nat.le_refl _)]
    simp only [Option.bind_some, hp]
    rw [if_pos h]
/-- What is unpacked was packed so. -/
theorem pack_unpack (s t : List UInt8) (h : unpackL t = some s) : packL s = some t := by
  unfold unpackL at h
  split at h
  · cases h
  · rename_i c r
    cases hx : (if c = 122 then (readT r.length r).bind plain else some r) with
    | none => rw [hx] at h; cases h
    | some x =>
      rw [hx] at h
      simp only [Option.bind_some] at h
      split at h
      · rename_i e
        cases h
        exact e
      · cases h
/-- Sizes and texts of tokens are as many bytes as they tell. -/
def sizes (l : List (Nat × Nat × List UInt8)) : Nat := (l.map fun t => t.2.1 + t.2.2.length).sum
theorem again_len (n back : Nat) (out : List UInt8) : (again n back out).length = out.length + n := by
  induction n generalizing out with
  | zero => rfl
  | succ n ih => unfold again; rw [ih]; simp; omega
theorem sizes_of (out o : List UInt8) (l : List (Nat × Nat × List UInt8)) (h : plainFrom out l = some o) : o.length = out.length + sizes l := by
  induction l generalizing out with
  | nil => cases h; rfl
  | cons t l ih =>
    unfold plainFrom at h
    split at h
    · rename_i hok
      split at h
      · have := ih _ h
        rw [this]
        have hsz : sizes (t :: l) = t.2.1 + t.2.2.length + sizes l := by simp [sizes]
        rw [hsz]
        unfold TokOk at hok
        unfold tell
        split
        · rename_i h0
          rw [if_pos h0] at hok
          rw [List.length_append]
          omega
        · rename_i h0
          rw [if_neg h0] at hok
          rw [again_len, hok.2.2.2]
          simp only [List.length_nil]
          omega
      · cases h
    · cases h
end Go.Proofs.YtcjgjkejhkhknabGreatDoor.Pack

/-
  Chunks on flash, in plain words.
-/
namespace Go.Proofs.YtcjgjkejhkhknabGreatDoor
open Words Sums Pack

/-- A page of a chunk. -/
def isData (c : Int) (x : Fnd) : Bool := x.page.kind == 1 && x.page.tx == c
/-- The newest page of a chunk. -/
def newP (M : List Fnd) (c : Int) : Option Fnd := (M.filter (isData c)).getLast?
def textP (M : List Fnd) (c : Int) : Option (List UInt8) := (newP M c).bind fun x => unpackL x.page.text.data.toList
/-- The first of some chunks that has a text. -/
def sameP (M : List Fnd) (live : List Int) (t : List UInt8) : Int := (live.find? fun c => decide (textP M c = some t)).getD 0
def spotP (M : List Fnd) (c : Int) : Int × Int × Bool := match newP M c with
  | some x => (x.block, x.leaf, true)
  | none => (0, 0, false)
theorem newP_snoc (l : List Fnd) (x : Fnd) (c : Int) : newP (l ++ [x]) c = if isData c x then some x else newP l c := by
  unfold newP
  rw [List.filter_append]
  by_cases h : isData c x = true
  · rw [List.filter_cons_of_pos h, List.filter_nil, List.getLast?_concat, if_pos h]
  · rw [List.filter_cons_of_neg h, List.filter_nil, List.append_nil, if_neg h]
theorem newP_app (l m : List Fnd) (c : Int) : newP (l ++ m) c = (newP m c).or (newP l c) := by
  unfold newP
  rw [List.filter_append, List.getLast?_append]
theorem newP_mem {l : List Fnd} {c : Int} {x : Fnd} (h : newP l c = some x) : x ∈ l ∧ isData c x = true := by
  unfold newP at h
  have := List.mem_of_getLast? h
  rw [List.mem_filter] at this
  exact this
theorem newP_none {l : List Fnd} {c : Int} : newP l c = none ↔ ∀ x ∈ l, isData c x = false := by
  unfold newP
  rw [List.getLast?_eq_none_iff, List.filter_eq_nil_iff]
  simp
theorem newP_succ {M : List Fnd} {k : Nat} {x : Fnd} (h : M[k]? = some x) (c : Int) : newP (M.take (k + 1)) c = if isData c x then some x else newP (M.take k) c := by
  rw [List.take_add_one, h]
  exact newP_snoc _ _ _
theorem newP_cons (x : Fnd) (l : List Fnd) (c : Int) : newP (x :: l) c = (newP l c).or (if isData c x then some x else none) := by
  rw [show x :: l = [x] ++ l from rfl, newP_app]
  congr 1
  exact (newP_snoc [] x c).trans (by split <;> rfl)

/-- Whether a page is needed, by where it lies. -/
def needS (M : List Fnd) (live : List Int) (base : Int) (i : Nat) (x : Fnd) : Bool :=
  (x.page.kind == 2 && decide (base ≤ x.page.tx)) || (x.page.kind == 1 && live.contains x.page.tx && (newP (M.drop (i + 1)) x.page.tx).isNone)
def rowS (M : List Fnd) (live : List Int) (base : Int) : List Bool := M.mapIdx (needS M live base)
def onS (M : List Fnd) (row : List Bool) (b : Int) : Nat := ((M.zip row).filter fun p => p.2 && p.1.block == b).length
def neededP (M : List Fnd) (live : List Int) (base b : Int) : Nat := onS M (rowS M live base) b
theorem rowS_len (M : List Fnd) (live : List Int) (base : Int) : (rowS M live base).length = M.length := by simp [rowS]
theorem rowS_at {M : List Fnd} {i : Nat} {x : Fnd} (live : List Int) (base : Int) (h : M[i]? = some x) : (rowS M live base)[i]? = some (needS M live base i x) := by simp [rowS, h]
theorem rowS_nil (M : List Fnd) (base : Int) : rowS M [] base = M.map fun x => x.page.kind == 2 && decide (base ≤ x.page.tx) := by
  apply List.ext_getElem?
  intro i
  cases h : M[i]? with
  | none => simp [rowS, h]
  | some x => rw [rowS_at _ _ h, List.getElem?_map, h]; simp [needS]
theorem rowS_none {M : List Fnd} {c : Int} (L : List Int) (base : Int) (h : newP M c = none) : rowS M (L ++ [c]) base = rowS M L base := by
  apply List.ext_getElem?
  intro i
  cases hi : M[i]? with
  | none => simp [rowS, hi]
  | some x =>
    rw [rowS_at _ _ hi, rowS_at _ _ hi]
    congr 1
    have := newP_none.1 h x (List.mem_of_getElem? hi)
    unfold isData at this
    unfold needS
    congr 1
    by_cases hk : x.page.kind = 1
    · have ht : ¬ x.page.tx = c := by simpa [hk] using this
      simp [hk, ht]
    · have hk2 : (x.page.kind == 1) = false := by simpa using hk
      simp [hk2]
theorem rowS_set {M : List Fnd} {c : Int} {i : Nat} {x : Fnd} (L : List Int) (base : Int) (hi : M[i]? = some x) (hx : isData c x = true) (hn : newP (M.drop (i + 1)) c = none) : rowS M (L ++ [c]) base = (rowS M L base).set i true := by
  have hx' := hx
  unfold isData at hx'
  simp only [Bool.and_eq_true, beq_iff_eq] at hx'
  apply List.ext_getElem?
  intro j
  rw [List.getElem?_set]
  by_cases e : i = j
  · subst e
    rw [if_pos rfl, rowS_len, if_pos (List.getElem?_eq_some_iff.1 hi).1, rowS_at _ _ hi]
    congr 1
    unfold needS
    simp [hx'.1, hx'.2, hn]
  · rw [if_neg e]
    cases hj : M[j]? with
    | none => simp [rowS, hj]
    | some y =>
      rw [rowS_at _ _ hj, rowS_at _ _ hj]
      congr 1
      unfold needS
      congr 1
      by_cases hk : y.page.kind = 1
      · by_cases ht : y.page.tx = c
        · have hyd : isData c y = true := by unfold isData; simp [hk, ht]
          have hlt : j < i := by
            rcases Nat.lt_or_ge j i with q | q
            · exact q
            · exfalso
              have := newP_none.1 hn y (List.mem_of_getElem? (i := j - (i + 1)) (by rw [List.getElem?_drop, show i + 1 + (j - (i + 1)) = j by omega]; exact hj))
              rw [hyd] at this
              cases this
          have hs : (newP (M.drop (j + 1)) y.page.tx).isNone = false := by
            rw [ht]
            cases hq : newP (M.drop (j + 1)) c with
            | some _ => rfl
            | none =>
              exfalso
              have := newP_none.1 hq x (List.mem_of_getElem? (i := i - (j + 1)) (by rw [List.getElem?_drop, show j + 1 + (i - (j + 1)) = i by omega]; exact hi))
              rw [hx] at this
              cases this
          simp [hs]
        · simp [ht]
      · have hk2 : (y.page.kind == 1) = false := by simpa using hk
        simp [hk2]

/-- Whether a page is needed, by what it is. -/
def fndB (x y : Fnd) : Bool := x.block == y.block && x.leaf == y.leaf && x.page.kind == y.page.kind && x.page.seq == y.page.seq && x.page.tx == y.page.tx && x.page.part == y.page.part && x.page.count == y.page.count && decide (x.page.text.data.toList = y.page.text.data.toList)
theorem fndB_self (x : Fnd) : fndB x x = true := by simp [fndB]
def needI (M : List Fnd) (live : List Int) (base : Int) (x : Fnd) : Bool :=
  if x.page.kind = 2 then decide (base ≤ x.page.tx) else (match newP M x.page.tx with | some y => fndB y x | none => false) && live.contains x.page.tx
/-- No two lie at one place. -/
def Apl (M : List Fnd) : Prop := M.Pairwise fun x y => ¬ (x.block = y.block ∧ x.leaf = y.leaf)
theorem need_same {M : List Fnd} {i : Nat} {x : Fnd} (live : List Int) (base : Int) (ha : Apl M) (hk : x.page.kind = 1 ∨ x.page.kind = 2) (hi : M[i]? = some x) : needS M live base i x = needI M live base x := by
  unfold needS needI
  rcases hk with hk | hk
  · rw [if_neg (by omega)]
    simp only [hk, show ((1 : Int) == 2) = false from rfl, Bool.false_and, Bool.false_or, beq_self_eq_true, Bool.true_and]
    rw [Bool.and_comm]
    congr 1
    have hd : isData x.page.tx x = true := by unfold isData; simp [hk]
    have hsp : M = M.take (i + 1) ++ M.drop (i + 1) := (List.take_append_drop _ _).symm
    have hh := newP_app (M.take (i + 1)) (M.drop (i + 1)) x.page.tx
    rw [← hsp, newP_succ hi, if_pos hd] at hh
    cases hq : newP (M.drop (i + 1)) x.page.tx with
    | none =>
      rw [hq] at hh
      rw [hh]
      simp [fndB_self]
    | some y =>
      rw [hq] at hh
      rw [hh]
      simp only [Option.or, Option.isNone_some]
      have hm := (newP_mem hq).1
      have hne : ¬ (x.block = y.block ∧ x.leaf = y.leaf) := by
        unfold Apl at ha
        rw [hsp, List.pairwise_append] at ha
        refine ha.2.2 x ?_ y hm
        rw [List.take_add_one, hi]
        simp
      cases hb : fndB y x with
      | false => rfl
      | true =>
        unfold fndB at hb
        simp only [Bool.and_eq_true, beq_iff_eq] at hb
        exact absurd ⟨hb.1.1.1.1.1.1.1.symm, hb.1.1.1.1.1.1.2.symm⟩ hne
  · rw [if_pos hk]
    simp [hk]
theorem on_map (f : Fnd → Bool) (b : Int) : ∀ M : List Fnd, onS M (M.map f) b = (M.filter fun x => x.block == b && f x).length
  | [] => rfl
  | x :: M => by
    have ih := on_map f b M
    unfold onS at ih ⊢
    rw [List.map_cons, List.zip_cons_cons, List.filter_cons, List.filter_cons]
    simp only
    rw [Bool.and_comm]
    split <;> simp [ih]
theorem needed_same {M : List Fnd} (live : List Int) (base b : Int) (ha : Apl M) (hk : ∀ x ∈ M, x.page.kind = 1 ∨ x.page.kind = 2) : neededP M live base b = (M.filter fun x => x.block == b && needI M live base x).length := by
  unfold neededP
  have : rowS M live base = M.map (needI M live base) := by
    apply List.ext_getElem?
    intro i
    cases h : M[i]? with
    | none => simp [rowS, h]
    | some x => rw [rowS_at _ _ h, List.getElem?_map, h, need_same live base ha (hk x (List.mem_of_getElem? h)) h]; rfl
  rw [this, on_map]
theorem inSq_perm (x : Fnd) (l : List Fnd) : (inSq x l).Perm (x :: l) := by
  induction l with
  | nil => exact List.Perm.refl _
  | cons y l ih =>
    unfold inSq
    split
    · exact List.Perm.refl _
    · exact (List.Perm.cons y ih).trans (List.Perm.swap x y l)
theorem sortS_perm (l : List Fnd) : (sortS l).Perm l := by
  induction l using snocS_ind with
  | h0 => exact List.Perm.refl _
  | h1 l x ih =>
    rw [sortS_snoc]
    exact (inSq_perm x _).trans ((List.Perm.cons x ih).trans (List.perm_append_singleton x l).symm)
theorem sameP_nil (M : List Fnd) (t : List UInt8) : sameP M [] t = 0 := rfl
theorem sameP_cons (M : List Fnd) (c : Int) (l : List Int) (t : List UInt8) : sameP M (c :: l) t = if textP M c = some t then c else sameP M l t := by
  unfold sameP
  rw [List.find?_cons]
  by_cases h : textP M c = some t
  · simp [h]
  · simp [h]
theorem sameP_drop {M : List Fnd} {live : List Int} {k : Nat} {c : Int} (t : List UInt8) (h : live[k]? = some c) : sameP M (live.drop k) t = if textP M c = some t then c else sameP M (live.drop (k + 1)) t := by
  obtain ⟨hk, e⟩ := List.getElem?_eq_some_iff.1 h
  rw [List.drop_eq_getElem_cons hk, sameP_cons, e]
theorem onS_succ {M : List Fnd} {row : List Bool} {k : Nat} {x : Fnd} {r : Bool} (b : Int) (hx : M[k]? = some x) (hr : row[k]? = some r) : onS (M.take (k + 1)) (row.take (k + 1)) b = onS (M.take k) (row.take k) b + if r && x.block == b then 1 else 0 := by
  have h1 := (List.getElem?_eq_some_iff.1 hx).1
  have h2 := (List.getElem?_eq_some_iff.1 hr).1
  unfold onS
  rw [List.take_add_one, List.take_add_one, hx, hr]
  simp only [Option.toList_some]
  rw [List.zip_append (by rw [List.length_take, List.length_take]; omega), List.filter_append, List.length_append]
  congr 1
  cases r <;> cases hq : (x.block == b) <;> simp [hq]
theorem onS_le (M : List Fnd) (row : List Bool) (b : Int) : onS M row b ≤ M.length := by
  unfold onS
  refine Nat.le_trans (List.length_filter_le _ _) ?_
  rw [List.length_zip]
  omega
theorem scan_count (bs : List Bk) (m : Nat) (h : ∀ b ∈ bs, b.2.2.length ≤ m) : (scanF bs).length ≤ bs.length * m := by
  have hf : ∀ n, (founds bs n).length ≤ n * m := by
    intro n
    induction n with
    | zero => simp [founds]
    | succ n ih =>
      rw [founds, List.length_append, Nat.succ_mul]
      have h1 := foundsAt_len bs n ((bs[n]?).map (fun r => r.2.2.length) |>.getD 0)
      have h2 : ((bs[n]?).map (fun r => r.2.2.length) |>.getD 0) ≤ m := by
        cases e : bs[n]? with
        | none => simp
        | some r => simpa using h r (List.mem_of_getElem? e)
      omega
  unfold scanF
  rw [(sortS_perm _).length_eq]
  exact hf bs.length
theorem scan_apart (bs : List Bk) : Apl (scanF bs) := by
  unfold Apl scanF
  rw [(sortS_perm _).pairwise_iff (fun h hh => h ⟨hh.1.symm, hh.2.symm⟩)]
  rw [founds_pos, List.pairwise_filterMap]
  refine (posN_nodup bs bs.length).imp ?_
  intro p q hne x hx y hy hh
  unfold atQ at hx hy
  cases h1 : leafPg bs p.1 p.2 with
  | none => rw [h1] at hx; cases hx
  | some a =>
    cases h2 : leafPg bs q.1 q.2 with
    | none => rw [h2] at hy; cases hy
    | some c =>
      rw [h1] at hx
      rw [h2] at hy
      simp only [Option.map_some, Option.some.injEq] at hx hy
      subst hx hy
      simp only at hh
      exact hne (Prod.ext (by omega) (by omega))
theorem scan_right {bs : List Bk} {x : Fnd} (h : x ∈ scanF bs) : x.page.Right := by
  obtain ⟨b, l, -, -, -, -, hp⟩ := scan_mem h
  unfold leafPg at hp
  split at hp
  · exact (readPg_right hp).1
  · cases hp
theorem scan_kind {bs : List Bk} {x : Fnd} (h : x ∈ scanF bs) : x.page.kind = 1 ∨ x.page.kind = 2 := by
  rcases (scan_right h).1 with q | q
  · exact .inl q.1
  · exact .inr q.1
end Go.Proofs.YtcjgjkejhkhknabGreatDoor
