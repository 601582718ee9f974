/-
  Plain facts on digests by words of 32 bits: no Go in them.
-/
namespace Go.Proofs.YtaolinlginloaacDoor.Dig

/-- A word turned right; low is a power of two. -/
def rt (x low : Nat) : Nat := x / low + x % low * (2147483648 / low * 2)
/-- The exclusive or of a word turned three times, or twice and shifted. -/
def sig (x a b c : Nat) (last : Bool) : Nat := rt x a ^^^ rt x b ^^^ (if last then x / c else rt x c)

theorem rt_lt (x low : Nat) (hx : x < 4294967296) (h0 : 0 < low) (h : low * (2147483648 / low * 2) = 4294967296) : rt x low < 4294967296 := by
  unfold rt
  generalize hH : 2147483648 / low * 2 = H at h
  have h1 : x % low < low := Nat.mod_lt _ h0
  have h2 : x / low < H := by
    rw [Nat.div_lt_iff_lt_mul h0, Nat.mul_comm]; omega
  have h3 : x % low + 1 ≤ low := h1
  have h4 : (x % low + 1) * H ≤ low * H := Nat.mul_le_mul_right _ h3
  rw [Nat.add_mul] at h4
  omega
theorem xor3_lt (x y z : Nat) (hx : x < 4294967296) (hy : y < 4294967296) (hz : z < 4294967296) : x ^^^ y ^^^ z < 4294967296 :=
  Nat.xor_lt_two_pow (n := 32) (Nat.xor_lt_two_pow (n := 32) hx hy) hz

/-- A number that a word may be turned by. -/
def Low (a : Nat) : Prop := 0 < a ∧ a * (2147483648 / a * 2) = 4294967296
theorem sig_lt (x a b c : Nat) (last : Bool) (hx : x < 4294967296) (ha : Low a) (hb : Low b) (hc : Low c) : sig x a b c last < 4294967296 := by
  unfold sig
  refine xor3_lt _ _ _ (rt_lt x a hx ha.1 ha.2) (rt_lt x b hx hb.1 hb.2) ?_
  cases last
  · exact rt_lt x c hx hc.1 hc.2
  · have := Nat.div_le_self x c
    simp only [if_true]
    omega

/-- The next word of a schedule. -/
def next (w : List Nat) : Nat :=
  (sig (w.getD (w.length - 2) 0) 131072 524288 1024 true + w.getD (w.length - 7) 0 + sig (w.getD (w.length - 15) 0) 128 262144 8 true + w.getD (w.length - 16) 0) % 4294967296
def sched : Nat → List Nat → List Nat
  | 0, w => w
  | n + 1, w => sched n w ++ [next (sched n w)]
theorem sched_len (n : Nat) (w : List Nat) : (sched n w).length = w.length + n := by
  induction n with
  | zero => rfl
  | succ n ih => simp [sched, ih]; omega
theorem sched_lt (n : Nat) (w : List Nat) (hw : ∀ x ∈ w, x < 4294967296) : ∀ x ∈ sched n w, x < 4294967296 := by
  induction n with
  | zero => exact hw
  | succ n ih =>
    intro x hx
    simp only [sched, List.mem_append, List.mem_singleton] at hx
    rcases hx with h | rfl
    · exact ih x h
    · exact Nat.mod_lt _ (by omega)

def ch (e f g : Nat) : Nat := (e &&& f) ^^^ ((4294967295 - e) &&& g)
def maj (a b c : Nat) : Nat := (a &&& b) ^^^ (a &&& c) ^^^ (b &&& c)
def t1 (e f g h k w : Nat) : Nat := (h + sig e 64 2048 33554432 false + ch e f g + k + w) % 4294967296
def t2 (a b c : Nat) : Nat := (sig a 4 8192 4194304 false + maj a b c) % 4294967296
/-- One of the 64 steps. -/
def step (v : List Nat) (k w : Nat) : List Nat :=
  match v with
  | [a, b, c, d, e, f, g, h] => [(t1 e f g h k w + t2 a b c) % 4294967296, a, b, c, (d + t1 e f g h k w) % 4294967296, e, f, g]
  | _ => []
def steps : Nat → List Nat → List Nat → List Nat → List Nat
  | 0, v, _, _ => v
  | n + 1, v, ks, ws => step (steps n v ks ws) (ks.getD n 0) (ws.getD n 0)
def joined (v u : List Nat) : List Nat := List.zipWith (fun x y => (x + y) % 4294967296) v u

def word (l : List UInt8) : Nat := (l.getD 0 0).toNat * 16777216 + (l.getD 1 0).toNat * 65536 + (l.getD 2 0).toNat * 256 + (l.getD 3 0).toNat
def wordsN : Nat → List UInt8 → List Nat
  | 0, _ => []
  | n + 1, l => wordsN n l ++ [word (l.drop (4 * n))]
def words (l : List UInt8) : List Nat := wordsN (l.length / 4) l
def ks : List Nat := [1116352408, 1899447441, 3049323471, 3921009573, 961987163, 1508970993, 2453635748, 2870763221, 3624381080, 310598401, 607225278, 1426881987, 1925078388, 2162078206, 2614888103, 3248222580, 3835390401, 4022224774, 264347078, 604807628, 770255983, 1249150122, 1555081692, 1996064986, 2554220882, 2821834349, 2952996808, 3210313671, 3336571891, 3584528711, 113926993, 338241895, 666307205, 773529912, 1294757372, 1396182291, 1695183700, 1986661051, 2177026350, 2456956037, 2730485921, 2820302411, 3259730800, 3345764771, 3516065817, 3600352804, 4094571909, 275423344, 430227734, 506948616, 659060556, 883997877, 958139571, 1322822218, 1537002063, 1747873779, 1955562222, 2024104815, 2227730452, 2361852424, 2428436474, 2756734187, 3204031479, 3329325298]
/-- A block mixed into a state. -/
def mix (st : List Nat) (block : List UInt8) : List Nat := joined st (steps 64 st ks (sched 48 (words block)))
def mixes : Nat → List Nat → List UInt8 → List Nat
  | 0, st, _ => st
  | n + 1, st, l => mix (mixes n st l) ((l.drop (64 * n)).take 64)
def bytesOf (st : List Nat) : List UInt8 := st.flatMap fun x => [UInt8.ofNat (x / 16777216), UInt8.ofNat (x / 65536 % 256), UInt8.ofNat (x / 256 % 256), UInt8.ofNat (x % 256)]
def first : List Nat := [1779033703, 3144134277, 1013904242, 2773480762, 1359893119, 2600822924, 528734635, 1541459225]

theorem wordsN_len (n : Nat) (l : List UInt8) : (wordsN n l).length = n := by
  induction n with
  | zero => rfl
  | succ n ih => simp [wordsN, ih]
theorem words_len (l : List UInt8) : (words l).length = l.length / 4 := wordsN_len _ _
theorem word_lt (l : List UInt8) : word l < 4294967296 := by
  unfold word
  have h : ∀ k, (l.getD k 0).toNat < 256 := fun k => by have := (l.getD k 0).toNat_lt; omega
  have := h 0; have := h 1; have := h 2; have := h 3
  omega
theorem wordsN_lt (n : Nat) (l : List UInt8) : ∀ x ∈ wordsN n l, x < 4294967296 := by
  induction n with
  | zero => intro x hx; cases hx
  | succ n ih =>
    intro x hx
    simp only [wordsN, List.mem_append, List.mem_singleton] at hx
    rcases hx with h | rfl
    · exact ih x h
    · exact word_lt _
theorem words_lt (l : List UInt8) : ∀ x ∈ words l, x < 4294967296 := wordsN_lt _ _

/-- A state: eight words. -/
def St (v : List Nat) : Prop := v.length = 8 ∧ ∀ x ∈ v, x < 4294967296
theorem St.open {v : List Nat} (h : St v) : ∃ a b c d e f g i, v = [a, b, c, d, e, f, g, i] ∧ a < 4294967296 ∧ b < 4294967296 ∧ c < 4294967296 ∧ d < 4294967296 ∧ e < 4294967296 ∧ f < 4294967296 ∧ g < 4294967296 ∧ i < 4294967296 := by
  obtain ⟨h1, h2⟩ := h
  match v, h1 with
  | [a, b, c, d, e, f, g, i], _ =>
    refine ⟨a, b, c, d, e, f, g, i, rfl, ?_, ?_, ?_, ?_, ?_, ?_, ?_, ?_⟩ <;> exact h2 _ (by simp)
theorem st_of (a b c d e f g i : Nat) (h1 : a < 4294967296) (h2 : b < 4294967296) (h3 : c < 4294967296) (h4 : d < 4294967296) (h5 : e < 4294967296) (h6 : f < 4294967296) (h7 : g < 4294967296) (h8 : i < 4294967296) : St [a, b, c, d, e, f, g, i] := by
  refine ⟨rfl, ?_⟩
  intro x hx
  simp at hx
  omega
theorem step_st {v : List Nat} (h : St v) (k w : Nat) : St (step v k w) := by
  obtain ⟨a, b, c, d, e, f, g, i, rfl, h1, h2, h3, h4, h5, h6, h7, h8⟩ := h.open
  exact st_of _ _ _ _ _ _ _ _ (Nat.mod_lt _ (by omega)) h1 h2 h3 (Nat.mod_lt _ (by omega)) h5 h6 h7
theorem steps_st {v : List Nat} (h : St v) (n : Nat) (ks ws : List Nat) : St (steps n v ks ws) := by
  induction n with
  | zero => exact h
  | succ n ih => exact step_st ih _ _
theorem joined_st {v u : List Nat} (h : St v) (k : St u) : St (joined v u) := by
  obtain ⟨a, b, c, d, e, f, g, i, rfl, -⟩ := h.open
  obtain ⟨a', b', c', d', e', f', g', i', rfl, -⟩ := k.open
  exact st_of _ _ _ _ _ _ _ _ (Nat.mod_lt _ (by omega)) (Nat.mod_lt _ (by omega)) (Nat.mod_lt _ (by omega)) (Nat.mod_lt _ (by omega)) (Nat.mod_lt _ (by omega)) (Nat.mod_lt _ (by omega)) (Nat.mod_lt _ (by omega)) (Nat.mod_lt _ (by omega))
theorem mix_st {st : List Nat} (h : St st) (b : List UInt8) : St (mix st b) := joined_st h (steps_st h _ _ _)
theorem mixes_st {st : List Nat} (h : St st) (n : Nat) (l : List UInt8) : St (mixes n st l) := by
  induction n with
  | zero => exact h
  | succ n ih => exact mix_st ih _
theorem first_st : St first := ⟨rfl, by decide⟩
theorem words_st (l : List UInt8) (h : l.length = 32) : St (words l) := ⟨by rw [words_len, h], words_lt l⟩
theorem bytesOf_len {st : List Nat} (h : St st) : (bytesOf st).length = 32 := by
  obtain ⟨a, b, c, d, e, f, g, i, rfl, -⟩ := h.open
  rfl
/-- The words of a state's bytes are the state. -/
theorem words_bytesOf {st : List Nat} (h : St st) : words (bytesOf st) = st := by
  obtain ⟨a, b, c, d, e, f, g, i, rfl, h1, h2, h3, h4, h5, h6, h7, h8⟩ := h.open
  have key : ∀ x : Nat, x < 4294967296 → ∀ r : List UInt8, word (UInt8.ofNat (x / 16777216) :: UInt8.ofNat (x / 65536 % 256) :: UInt8.ofNat (x / 256 % 256) :: UInt8.ofNat (x % 256) :: r) = x := by
    intro x hx r
    simp [word]
    omega
  have hl : (bytesOf [a, b, c, d, e, f, g, i]).length / 4 = 8 := by rw [bytesOf_len h]
  unfold words
  rw [hl]
  simp only [wordsN, bytesOf, List.flatMap_cons, List.flatMap_nil, List.nil_append, List.cons_append, List.append_nil, Nat.mul_zero, List.drop_zero]
  simp only [Nat.reduceMul, List.drop_succ_cons, List.drop_zero, key _ h1, key _ h2, key _ h3, key _ h4, key _ h5, key _ h6, key _ h7, key _ h8]
end Go.Proofs.YtaolinlginloaacDoor.Dig
