/-
  ScC; DMath; IMath; ImplW
-/
import Derived.Test.YtcjgjkejhkhknabGreatDoorPk33
import Derived.Test.YtcjgjkejhkhknabGreatDoorSScan
import Derived.Test.YtcjgjkejhkhknabGreatDoorPk0
import Derived.Laws.BitsAllLaws
set_option maxHeartbeats 400000
namespace Go.Proofs.YtcjgjkejhkhknabGreatDoor
open Go.RowKit
open Words Sums
def ScOut (w : World) (bs : List Bk) (e : Ending) (w' : World) : Prop :=
 ∃ (ad : Option Addr) (cap : Nat), e = .returned (.slice ad (scanF bs).length cap) ∧ FdRd w' ad (scanF bs).length (scanF bs) ∧ (scanF bs).length ≤ 1099511627776 ∧ Below w.heap.size w w'
theorem scOut {w w' : World} {rs : List Rw} {e : Ending} (hl : rs.length ≤ 1048576) (hll : ∀ r ∈ rs, r.2.2.2.length ≤ 1048576) (h : ∃ u M, e = .returned u ∧ Asc M ∧ Akin (founds (rs.map tellOf) rs.length) M ∧ FRes w' w.heap.size u M ∧ Below w.heap.size w w') : ScOut w (rs.map tellOf) e w' := by
 obtain ⟨u, M, rfl, h1, h2, h3, h4⟩ := h
 have e1 : M = scanF (rs.map tellOf) := scanF_is h1 (by rw [List.length_map]; exact h2)
 obtain ⟨ad, cap, rfl, h5, -⟩ := h3.rd
 subst e1
 refine ⟨ad, cap, rfl, h5, ?_, h4⟩
 refine Nat.le_trans (scan_count (rs.map tellOf) 1048576 (fun b hb => ?_)) ?_
 ·obtain ⟨r, hr, rfl⟩ := List.mem_map.1 hb
  exact hll r hr
 ·rw [List.length_map]
  exact Nat.le_trans (Nat.mul_le_mul_right _ hl) (by decide)
theorem sscanO (v : Value) (rs : List Rw) (w : World) (hl : rs.length ≤ 1048576) (hll : ∀ r ∈ rs, r.2.2.2.length ≤ 1048576) (htx : TxB rs) (ha : FlashRd w v rs) : Calls Tryz.prog 19 #[.agg #[v]] w (ScOut w (rs.map tellOf)) :=
 (sscan_rd v rs w hl hll htx ha).mono (fun _ _ h => scOut hl hll h)
theorem iscanO (v : Value) (rs : List Rw) (w : World) (hl : rs.length ≤ 1048576) (hll : ∀ r ∈ rs, r.2.2.2.length ≤ 1048576) (htx : TxB rs) (ha : FlashRd w v rs) (ht : HalvIn w) : Calls Tryz.prog 22 #[.agg #[v]] w (ScOut w (rs.map tellOf)) :=
 (iscan_rd v rs w hl hll htx ha ht).mono (fun _ _ h => scOut hl hll h)
theorem scan_text {bs : List Bk} : ∀ x ∈ scanF bs, x.page.text.size ≤ 1048576 := fun x hx => by
 have := (scan_right hx).2.2.2.2.2
 omega
end Go.Proofs.YtcjgjkejhkhknabGreatDoor
namespace Go.Proofs.YtcjgjkejhkhknabGreatDoor.Dig
def rt (x low : Nat) : Nat := x / low + x % low * (2147483648 / low * 2)
def sig (x a b c : Nat) (last : Bool) : Nat := rt x a ^^^ rt x b ^^^ (if last then x / c else rt x c)
theorem rt_lt (x low : Nat) (hx : x < 4294967296) (h0 : 0 < low) (h : low * (2147483648 / low * 2) = 4294967296) : rt x low < 4294967296 := by
 unfold rt
 generalize hH : 2147483648 / low * 2 = H at h
 have h1 : x % low < low := Nat.mod_lt _ h0
 have h2 : x / low < H := by
  rw [Nat.div_lt_iff_lt_mul h0, Nat.mul_comm]; omega
 have h3 : x % low + 1 ≤ low := h1
 have h4 : (x % low + 1) * H ≤ low * H := Nat.mul_le_mul_right _ h3
 rw [Nat.add_mul] at h4
 omega
def Low (a : Nat) : Prop := 0 < a ∧ a * (2147483648 / a * 2) = 4294967296
def next (w : List Nat) : Nat :=
 (sig (w.getD (w.length - 2) 0) 131072 524288 1024 true + w.getD (w.length - 7) 0 + sig (w.getD (w.length - 15) 0) 128 262144 8 true + w.getD (w.length - 16) 0) % 4294967296
def sched : Nat → List Nat → List Nat
 | 0, w => w
 | n + 1, w => sched n w ++ [next (sched n w)]
theorem sched_len (n : Nat) (w : List Nat) : (sched n w).length = w.length + n := by
 induction n with
 | zero => rfl
 | succ n ih => simp [sched, ih]; omega
theorem sched_lt (n : Nat) (w : List Nat) (hw : ∀ x ∈ w, x < 4294967296) : ∀ x ∈ sched n w, x < 4294967296 := by
 induction n with
 | zero => exact hw
 | succ n ih =>
  intro x hx
  simp only [sched, List.mem_append, List.mem_singleton] at hx
  rcases hx with h | rfl
  ·exact ih x h
  ·exact Nat.mod_lt _ (by omega)
def ch (e f g : Nat) : Nat := (e &&& f) ^^^ ((4294967295 - e) &&& g)
def maj (a b c : Nat) : Nat := (a &&& b) ^^^ (a &&& c) ^^^ (b &&& c)
def t1 (e f g h k w : Nat) : Nat := (h + sig e 64 2048 33554432 false + ch e f g + k + w) % 4294967296
def t2 (a b c : Nat) : Nat := (sig a 4 8192 4194304 false + maj a b c) % 4294967296
def step (v : List Nat) (k w : Nat) : List Nat :=
 match v with
 | [a, b, c, d, e, f, g, h] => [(t1 e f g h k w + t2 a b c) % 4294967296, a, b, c, (d + t1 e f g h k w) % 4294967296, e, f, g]
 | _ => []
def steps : Nat → List Nat → List Nat → List Nat → List Nat
 | 0, v, _, _ => v
 | n + 1, v, ks, ws => step (steps n v ks ws) (ks.getD n 0) (ws.getD n 0)
def joined (v u : List Nat) : List Nat := List.zipWith (fun x y => (x + y) % 4294967296) v u
def word (l : List UInt8) : Nat := (l.getD 0 0).toNat * 16777216 + (l.getD 1 0).toNat * 65536 + (l.getD 2 0).toNat * 256 + (l.getD 3 0).toNat
def wordsN : Nat → List UInt8 → List Nat
 | 0, _ => []
 | n + 1, l => wordsN n l ++ [word (l.drop (4 * n))]
def words (l : List UInt8) : List Nat := wordsN (l.length / 4) l
def ks : List Nat := [1116352408, 1899447441, 3049323471, 3921009573, 961987163, 1508970993, 2453635748, 2870763221, 3624381080, 310598401, 607225278, 1426881987, 1925078388, 2162078206, 2614888103, 3248222580, 3835390401, 4022224774, 264347078, 604807628, 770255983, 1249150122, 1555081692, 1996064986, 2554220882, 2821834349, 2952996808, 3210313671, 3336571891, 3584528711, 113926993, 338241895, 666307205, 773529912, 1294757372, 1396182291, 1695183700, 1986661051, 2177026350, 2456956037, 2730485921, 2820302411, 3259730800, 3345764771, 3516065817, 3600352804, 4094571909, 275423344, 430227734, 506948616, 659060556, 883997877, 958139571, 1322822218, 1537002063, 1747873779, 1955562222, 2024104815, 2227730452, 2361852424, 2428436474, 2756734187, 3204031479, 3329325298]
def mix (st : List Nat) (block : List UInt8) : List Nat := joined st (steps 64 st ks (sched 48 (words block)))
def mixes : Nat → List Nat → List UInt8 → List Nat
 | 0, st, _ => st
 | n + 1, st, l => mix (mixes n st l) ((l.drop (64 * n)).take 64)
def bytesOf (st : List Nat) : List UInt8 := st.flatMap fun x => [UInt8.ofNat (x / 16777216), UInt8.ofNat (x / 65536 % 256), UInt8.ofNat (x / 256 % 256), UInt8.ofNat (x % 256)]
def first : List Nat := [1779033703, 3144134277, 1013904242, 2773480762, 1359893119, 2600822924, 528734635, 1541459225]
theorem wordsN_len (n : Nat) (l : List UInt8) : (wordsN n l).length = n := by
 induction n with
 | zero => rfl
 | succ n ih => simp [wordsN, ih]
theorem words_len (l : List UInt8) : (words l).length = l.length / 4 := wordsN_len _ _
theorem word_lt (l : List UInt8) : word l < 4294967296 := by
 unfold word
 have h : ∀ k, (l.getD k 0).toNat < 256 := fun k => by have := (l.getD k 0).toNat_lt; omega
 have := h 0; have := h 1; have := h 2; have := h 3
 omega
theorem wordsN_lt (n : Nat) (l : List UInt8) : ∀ x ∈ wordsN n l, x < 4294967296 := by
 induction n with
 | zero => intro x hx; cases hx
 | succ n ih =>
  intro x hx
  simp only [wordsN, List.mem_append, List.mem_singleton] at hx
  rcases hx with h | rfl
  ·exact ih x h
  ·exact word_lt _
def St (v : List Nat) : Prop := v.length = 8 ∧ ∀ x ∈ v, x < 4294967296
theorem St.open {v : List Nat} (h : St v) : ∃ a b c d e f g i, v = [a, b, c, d, e, f, g, i] ∧ a < 4294967296 ∧ b < 4294967296 ∧ c < 4294967296 ∧ d < 4294967296 ∧ e < 4294967296 ∧ f < 4294967296 ∧ g < 4294967296 ∧ i < 4294967296 := by
 obtain ⟨h1, h2⟩ := h
 match v, h1 with
 | [a, b, c, d, e, f, g, i], _ =>
  refine ⟨a, b, c, d, e, f, g, i, rfl, ?_, ?_, ?_, ?_, ?_, ?_, ?_, ?_⟩ <;> exact h2 _ (by simp)
theorem st_of (a b c d e f g i : Nat) (h1 : a < 4294967296) (h2 : b < 4294967296) (h3 : c < 4294967296) (h4 : d < 4294967296) (h5 : e < 4294967296) (h6 : f < 4294967296) (h7 : g < 4294967296) (h8 : i < 4294967296) : St [a, b, c, d, e, f, g, i] := by
 refine ⟨rfl, ?_⟩
 intro x hx
 simp at hx
 omega
theorem step_st {v : List Nat} (h : St v) (k w : Nat) : St (step v k w) := by
 obtain ⟨a, b, c, d, e, f, g, i, rfl, h1, h2, h3, h4, h5, h6, h7, h8⟩ := h.open
 exact st_of _ _ _ _ _ _ _ _ (Nat.mod_lt _ (by omega)) h1 h2 h3 (Nat.mod_lt _ (by omega)) h5 h6 h7
theorem steps_st {v : List Nat} (h : St v) (n : Nat) (ks ws : List Nat) : St (steps n v ks ws) := by
 induction n with
 | zero => exact h
 | succ n ih => exact step_st ih _ _
theorem joined_st {v u : List Nat} (h : St v) (k : St u) : St (joined v u) := by
 obtain ⟨a, b, c, d, e, f, g, i, rfl, -⟩ := h.open
 obtain ⟨a', b', c', d', e', f', g', i', rfl, -⟩ := k.open
 exact st_of _ _ _ _ _ _ _ _ (Nat.mod_lt _ (by omega)) (Nat.mod_lt _ (by omega)) (Nat.mod_lt _ (by omega)) (Nat.mod_lt _ (by omega)) (Nat.mod_lt _ (by omega)) (Nat.mod_lt _ (by omega)) (Nat.mod_lt _ (by omega)) (Nat.mod_lt _ (by omega))
theorem mix_st {st : List Nat} (h : St st) (b : List UInt8) : St (mix st b) := joined_st h (steps_st h _ _ _)
theorem mixes_st {st : List Nat} (h : St st) (n : Nat) (l : List UInt8) : St (mixes n st l) := by
 induction n with
 | zero => exact h
 | succ n ih => exact mix_st ih _
theorem first_st : St first := ⟨rfl, by decide⟩
theorem bytesOf_len {st : List Nat} (h : St st) : (bytesOf st).length = 32 := by
 obtain ⟨a, b, c, d, e, f, g, i, rfl, -⟩ := h.open
 rfl
theorem words_bytesOf {st : List Nat} (h : St st) : words (bytesOf st) = st := by
 obtain ⟨a, b, c, d, e, f, g, i, rfl, h1, h2, h3, h4, h5, h6, h7, h8⟩ := h.open
 have key : ∀ x : Nat, x < 4294967296 → ∀ r : List UInt8, word (UInt8.ofNat (x / 16777216) :: UInt8.ofNat (x / 65536 % 256) :: UInt8.ofNat (x / 256 % 256) :: UInt8.ofNat (x % 256) :: r) = x := by
  intro x hx r
  simp [word]
  omega
 have hl : (bytesOf [a, b, c, d, e, f, g, i]).length / 4 = 8 := by rw [bytesOf_len h]
 unfold words
 rw [hl]
 simp only [wordsN, bytesOf, List.flatMap_cons, List.flatMap_nil, List.nil_append, List.cons_append, List.append_nil, Nat.mul_zero, List.drop_zero]
 simp only [Nat.reduceMul, List.drop_succ_cons, List.drop_zero, key _ h1, key _ h2, key _ h3, key _ h4, key _ h5, key _ h6, key _ h7, key _ h8]
end Go.Proofs.YtcjgjkejhkhknabGreatDoor.Dig
namespace Go.Proofs.YtcjgjkejhkhknabGreatDoor.Dig
theorem or_eq_xor_of_and (x y : Nat) (h : x &&& y = 0) : x ||| y = x ^^^ y := by
 apply Nat.eq_of_testBit_eq
 intro i
 have := congrArg (fun n => n.testBit i) h
 simp only [Nat.testBit_and, Nat.zero_testBit] at this
 rw [Nat.testBit_or, Nat.testBit_xor]
 cases hx : x.testBit i <;> cases hy : y.testBit i <;> simp_all
theorem rt_or (x b : Nat) (hx : x < 4294967296) (h0 : 0 < b) (h32 : b < 32) : (x * 2 ^ (32 - b) % 4294967296) ||| (x / 2 ^ b) = rt x (2 ^ b) := by
 have hp : 2 ^ b * 2 ^ (32 - b) = 4294967296 := by rw [← Nat.pow_add]; rw [show b + (32 - b) = 32 by omega]
 have hq : 2147483648 / 2 ^ b * 2 = 2 ^ (32 - b) := by
  have : (2147483648 : Nat) = 2 ^ 31 := rfl
  rw [this, Nat.pow_div (by omega) (by omega), ← Nat.pow_succ]
  congr 1; omega
 have hm : x * 2 ^ (32 - b) % 4294967296 = 2 ^ (32 - b) * (x % 2 ^ b) := by
  rw [← hp, Nat.mul_mod_mul_right, Nat.mul_comm]
 have hl : x / 2 ^ b < 2 ^ (32 - b) := by
  rw [Nat.div_lt_iff_lt_mul (Nat.two_pow_pos b), Nat.mul_comm, hp]; exact hx
 rw [hm, ← Nat.two_pow_add_eq_or_of_lt hl]
 unfold rt
 rw [hq, Nat.add_comm, Nat.mul_comm (2 ^ (32 - b))]
theorem not_bit (e i : Nat) (he : e < 4294967296) : (4294967295 - e).testBit i = (decide (i < 32) && !e.testBit i) := by
 have := Nat.testBit_two_pow_sub_succ (x := e) (n := 32) he i
 have h2 : 2 ^ 32 - (e + 1) = 4294967295 - e := by omega
 rw [h2] at this
 exact this
theorem ch_or (e f g : Nat) (he : e < 4294967296) : (e &&& f) ||| ((4294967295 - e) &&& g) = ch e f g := by
 apply or_eq_xor_of_and
 apply Nat.eq_of_testBit_eq
 intro i
 simp only [Nat.testBit_and, Nat.zero_testBit, not_bit e i he]
 cases e.testBit i <;> simp
theorem maj_or (a b c : Nat) : (a &&& b) ||| (a &&& c) ||| (b &&& c) = maj a b c := by
 apply Nat.eq_of_testBit_eq
 intro i
 simp only [maj, Nat.testBit_and, Nat.testBit_or, Nat.testBit_xor]
 cases a.testBit i <;> cases b.testBit i <;> cases c.testBit i <;> rfl
theorem four_or (c0 c1 c2 c3 : Nat) (h1 : c1 < 256) (h2 : c2 < 256) (h3 : c3 < 256) : c0 * 16777216 ||| c1 * 65536 ||| c2 * 256 ||| c3 = c0 * 16777216 + c1 * 65536 + c2 * 256 + c3 := by
 have e1 : c0 * 16777216 ||| c1 * 65536 = c0 * 16777216 + c1 * 65536 := by
  have := Nat.two_pow_add_eq_or_of_lt (i := 24) (b := c1 * 65536) (by omega) c0
  rw [Nat.mul_comm] at this; exact this.symm
 have e2 : (c0 * 16777216 + c1 * 65536) ||| c2 * 256 = c0 * 16777216 + c1 * 65536 + c2 * 256 := by
  have := Nat.two_pow_add_eq_or_of_lt (i := 16) (b := c2 * 256) (by omega) (c0 * 256 + c1)
  have e : 2 ^ 16 * (c0 * 256 + c1) = c0 * 16777216 + c1 * 65536 := by omega
  rw [e] at this; exact this.symm
 have e3 : (c0 * 16777216 + c1 * 65536 + c2 * 256) ||| c3 = c0 * 16777216 + c1 * 65536 + c2 * 256 + c3 := by
  have := Nat.two_pow_add_eq_or_of_lt (i := 8) (b := c3) (by omega) (c0 * 65536 + c1 * 256 + c2)
  have e : 2 ^ 8 * (c0 * 65536 + c1 * 256 + c2) = c0 * 16777216 + c1 * 65536 + c2 * 256 := by omega
  rw [e] at this; exact this.symm
 rw [e1, e2, e3]
end Go.Proofs.YtcjgjkejhkhknabGreatDoor.Dig
namespace Go.Proofs.YtcjgjkejhkhknabGreatDoor
open Go.RowKit
open Dig
def Turn (b : Nat) : Prop := b = 17 ∨ b = 19 ∨ b = 7 ∨ b = 18 ∨ b = 6 ∨ b = 11 ∨ b = 25 ∨ b = 2 ∨ b = 13 ∨ b = 22
theorem rot_or (x b : Nat) (hx : x < 4294967296) (h0 : 0 < b) (h32 : b < 32) : bits .or .u32 ((x : Int) * 2 ^ (32 - b) % 4294967296) ((x : Int) / 2 ^ b) = (rt x (2 ^ b) : Nat) := by
 have e1 : (x : Int) * 2 ^ (32 - b) % 4294967296 = ((x * 2 ^ (32 - b) % 4294967296 : Nat) : Int) := by simp
 have e2 : (x : Int) / 2 ^ b = ((x / 2 ^ b : Nat) : Int) := by simp
 rw [e1, e2, u32_or_nat _ _ (Nat.mod_lt _ (by omega)) (Nat.lt_of_le_of_lt (Nat.div_le_self _ _) hx), rt_or x b hx h0 h32]
theorem rot_any (x b : Nat) (w : World) (hx : x < 4294967296) (hb : Turn b) :
 Calls Tryz.prog 166 #[.int .u32 x, .int .i64 (-(b : Int))] w fun e w' => e = .returned (.int .u32 (rt x (2 ^ b) : Nat)) ∧ w' = w := by
 have E : Hid (bits .or .u32 ((x : Int) * 2 ^ (32 - b) % 4294967296) ((x : Int) / 2 ^ b) = (rt x (2 ^ b) : Nat)) := by
  refine rot_or x b hx ?_ ?_ <;> unfold Turn at hb <;> omega
 have m : bits .and .u64 (IntKind.u64.wrap (-(b : Int))) 31 = ((32 - b : Nat) : Int) := by
  unfold Turn at hb
  rcases hb with rfl | rfl | rfl | rfl | rfl | rfl | rfl | rfl | rfl | rfl <;> decide +kernel
 unfold Turn at hb
 rcases hb with rfl | rfl | rfl | rfl | rfl | rfl | rfl | rfl | rfl | rfl
 all_goals
  simp only [Nat.reduceSub, Int.cast_ofNat_Int] at m
  go_enter Tryz.func166, Tryz.ntmps166
  go_wp2
  go_ret
  exact ⟨congrArg (fun x => Ending.returned (Value.int .u32 x)) E.out, rfl⟩
theorem turned_any (x b : Nat) (w : World) (hx : x < 4294967296) (hb : Turn b) :
 Calls Tryz.prog 139 #[.int .u32 x, .int .i64 b] w fun e w' => e = .returned (.int .u32 (rt x (2 ^ b) : Nat)) ∧ w' = w := by
 have hb25 : b ≤ 25 := by unfold Turn at hb; omega
 have m : IntKind.i64.wrap (-(b : Int)) = -(b : Int) := by rw [IntKind.wrap_i64]; omega
 have C := hide (rot_any x b w hx hb)
 generalize rt x (2 ^ b) = y at C ⊢
 clear hb
 go_enter Tryz.func139, Tryz.ntmps139
 go_wp2_with fail
 refine C.out.mono ?_
 rintro e w1 ⟨rfl, rfl⟩
 go_wp2
 go_ret
 exact ⟨rfl, rfl⟩
def Shf (b : Nat) : Prop := b = 10 ∨ b = 3
theorem shifted_any (x b : Nat) (w : World) (hb : Shf b) :
 Calls Tryz.prog 165 #[.int .u32 x, .int .i64 b] w fun e w' => e = .returned (.int .u32 (x / 2 ^ b : Nat)) ∧ w' = w := by
 have E : Hid ((x : Int) / 2 ^ b = ((x / 2 ^ b : Nat) : Int)) := by show _ = _; simp
 unfold Shf at hb
 rcases hb with rfl | rfl
 all_goals
  go_enter Tryz.func165, Tryz.ntmps165
  go_wp2
  go_ret
  exact ⟨congrArg (fun x => Ending.returned (Value.int .u32 x)) E.out, rfl⟩
theorem low_pow (b : Nat) (hb : Turn b) : Low (2 ^ b) := by
 unfold Turn at hb
 rcases hb with rfl | rfl | rfl | rfl | rfl | rfl | rfl | rfl | rfl | rfl <;> exact ⟨by decide, by decide⟩
theorem rt_lt' (x b : Nat) (hx : x < 4294967296) (hb : Turn b) : rt x (2 ^ b) < 4294967296 := rt_lt x _ hx (low_pow b hb).1 (low_pow b hb).2
theorem mixed_rt (x a b c : Nat) (w : World) (hx : x < 4294967296) (ha : Turn a) (hb : Turn b) (hc : Turn c) :
 Calls Tryz.prog 138 #[.int .u32 x, .int .i64 a, .int .i64 b, .int .i64 c, .func (.func 139) #[] #[]] w fun e w' => e = .returned (.int .u32 (rt x (2 ^ a) ^^^ rt x (2 ^ b) ^^^ rt x (2 ^ c) : Nat)) ∧ w' = w := by
 have la := rt_lt' x a hx ha
 have lb := rt_lt' x b hx hb
 have lc := rt_lt' x c hx hc
 have CA := hide (turned_any x a w hx ha)
 have CB := hide (turned_any x b w hx hb)
 have CC := hide (turned_any x c w hx hc)
 generalize rt x (2 ^ a) = ya at *
 generalize rt x (2 ^ b) = yb at *
 generalize rt x (2 ^ c) = yc at *
 have x1 := u32_xor_nat ya yb la lb
 have lab : ya ^^^ yb < 4294967296 := Nat.xor_lt_two_pow (n := 32) la lb
 generalize ya ^^^ yb = yab at *
 have x2 := u32_xor_nat yab yc lab lc
 clear ha hb hc
 go_enter Tryz.func138, Tryz.ntmps138
 go_wp2_with fail
 refine CA.out.mono ?_
 rintro e w1 ⟨rfl, rfl⟩
 go_wp2_with fail
 refine CB.out.mono ?_
 rintro e w2 ⟨rfl, rfl⟩
 go_wp2_with fail
 refine CC.out.mono ?_
 rintro e w3 ⟨rfl, rfl⟩
 go_wp2
 go_ret
 exact ⟨rfl, rfl⟩
theorem mixed_sh (x a b c : Nat) (w : World) (hx : x < 4294967296) (ha : Turn a) (hb : Turn b) (hc : Shf c) :
 Calls Tryz.prog 138 #[.int .u32 x, .int .i64 a, .int .i64 b, .int .i64 c, .func (.func 165) #[] #[]] w fun e w' => e = .returned (.int .u32 (rt x (2 ^ a) ^^^ rt x (2 ^ b) ^^^ x / 2 ^ c : Nat)) ∧ w' = w := by
 have la := rt_lt' x a hx ha
 have lb := rt_lt' x b hx hb
 have lc : x / 2 ^ c < 4294967296 := Nat.lt_of_le_of_lt (Nat.div_le_self _ _) hx
 have CA := hide (turned_any x a w hx ha)
 have CB := hide (turned_any x b w hx hb)
 have CC := hide (shifted_any x c w hc)
 generalize rt x (2 ^ a) = ya at *
 generalize rt x (2 ^ b) = yb at *
 generalize x / 2 ^ c = yc at *
 have x1 := u32_xor_nat ya yb la lb
 have lab : ya ^^^ yb < 4294967296 := Nat.xor_lt_two_pow (n := 32) la lb
 generalize ya ^^^ yb = yab at *
 have x2 := u32_xor_nat yab yc lab lc
 clear ha hb hc
 go_enter Tryz.func138, Tryz.ntmps138
 go_wp2_with fail
 refine CA.out.mono ?_
 rintro e w1 ⟨rfl, rfl⟩
 go_wp2_with fail
 refine CB.out.mono ?_
 rintro e w2 ⟨rfl, rfl⟩
 go_wp2_with fail
 refine CC.out.mono ?_
 rintro e w3 ⟨rfl, rfl⟩
 go_wp2
 go_ret
 exact ⟨rfl, rfl⟩
theorem mixed_w2 (x : Nat) (w : World) (hx : x < 4294967296) : Calls Tryz.prog 138 #[.int .u32 x, .int .i64 17, .int .i64 19, .int .i64 10, .func (.func 165) #[] #[]] w fun e w' => e = .returned (.int .u32 (sig x 131072 524288 1024 true : Nat)) ∧ w' = w :=
 mixed_sh x 17 19 10 w hx (by unfold Turn; omega) (by unfold Turn; omega) (by unfold Shf; omega)
theorem mixed_w15 (x : Nat) (w : World) (hx : x < 4294967296) : Calls Tryz.prog 138 #[.int .u32 x, .int .i64 7, .int .i64 18, .int .i64 3, .func (.func 165) #[] #[]] w fun e w' => e = .returned (.int .u32 (sig x 128 262144 8 true : Nat)) ∧ w' = w :=
 mixed_sh x 7 18 3 w hx (by unfold Turn; omega) (by unfold Turn; omega) (by unfold Shf; omega)
theorem mixed_e (x : Nat) (w : World) (hx : x < 4294967296) : Calls Tryz.prog 138 #[.int .u32 x, .int .i64 6, .int .i64 11, .int .i64 25, .func (.func 139) #[] #[]] w fun e w' => e = .returned (.int .u32 (sig x 64 2048 33554432 false : Nat)) ∧ w' = w :=
 mixed_rt x 6 11 25 w hx (by unfold Turn; omega) (by unfold Turn; omega) (by unfold Turn; omega)
theorem mixed_a (x : Nat) (w : World) (hx : x < 4294967296) : Calls Tryz.prog 138 #[.int .u32 x, .int .i64 2, .int .i64 13, .int .i64 22, .func (.func 139) #[] #[]] w fun e w' => e = .returned (.int .u32 (sig x 4 8192 4194304 false : Nat)) ∧ w' = w :=
 mixed_rt x 2 13 22 w hx (by unfold Turn; omega) (by unfold Turn; omega) (by unfold Turn; omega)
theorem not_word (e : Nat) (he : e < 4294967296) : bits .xor .u32 IntKind.u32.max (e : Int) = 4294967295 - (e : Int) := by
 have h := u32_xor_nat 4294967295 e (by omega) he
 have hx : 4294967295 ^^^ e = 4294967295 - e := by
  apply Nat.eq_of_testBit_eq
  intro i
  rw [Nat.testBit_xor, not_bit e i he]
  have h1 : (4294967295 : Nat).testBit i = decide (i < 32) := Nat.testBit_two_pow_sub_one 32 i
  rw [h1]
  by_cases hi : i < 32
  ·simp [hi]
  ·have : e.testBit i = false := Nat.testBit_lt_two_pow (Nat.lt_of_lt_of_le he (show 2 ^ 32 ≤ 2 ^ i from Nat.pow_le_pow_right (by omega) (by omega)))
   simp [hi, this]
 have hm : IntKind.u32.max = ((4294967295 : Nat) : Int) := by decide
 rw [hm, h, hx]
 omega
theorem chosen_any (e f g : Nat) (w : World) (he : e < 4294967296) (hf : f < 4294967296) (hg : g < 4294967296) :
 Calls Tryz.prog 140 #[.int .u32 e, .int .u32 f, .int .u32 g] w fun en w' => en = .returned (.int .u32 (ch e f g : Nat)) ∧ w' = w := by
 have E := hide (ch_or e f g he)
 have hp : e &&& f < 4294967296 := Nat.lt_of_le_of_lt Nat.and_le_left he
 have hq : (4294967295 - e) &&& g < 4294967296 := Nat.lt_of_le_of_lt Nat.and_le_left (by omega)
 have a1 := u32_and_nat e f he hf
 have a2 := u32_and_nat (4294967295 - e) g (by omega) hg
 have a3 := u32_or_nat _ _ hp hq
 rw [E.out] at a3
 have n1 : ((4294967295 - e : Nat) : Int) = 4294967295 - (e : Int) := by omega
 rw [n1] at a2
 have n2 := not_word e he
 generalize e &&& f = p at *
 generalize (4294967295 - e) &&& g = q at *
 generalize ch e f g = r at *
 clear E
 go_enter Tryz.func140, Tryz.ntmps140
 go_wp2
 go_ret
 exact ⟨rfl, rfl⟩
theorem mostOf_any (a b c : Nat) (w : World) (ha : a < 4294967296) (hb : b < 4294967296) (hc : c < 4294967296) :
 Calls Tryz.prog 141 #[.int .u32 a, .int .u32 b, .int .u32 c] w fun en w' => en = .returned (.int .u32 (maj a b c : Nat)) ∧ w' = w := by
 have E := hide (maj_or a b c)
 have hp : a &&& b < 4294967296 := Nat.lt_of_le_of_lt Nat.and_le_left ha
 have hq : a &&& c < 4294967296 := Nat.lt_of_le_of_lt Nat.and_le_left ha
 have hr : b &&& c < 4294967296 := Nat.lt_of_le_of_lt Nat.and_le_left hb
 have a1 := u32_and_nat a b ha hb
 have a2 := u32_and_nat a c ha hc
 have a3 := u32_and_nat b c hb hc
 have a4 := u32_or_nat _ _ hp hq
 have hs : (a &&& b) ||| (a &&& c) < 4294967296 := Nat.or_lt_two_pow (n := 32) hp hq
 have a5 := u32_or_nat _ _ hs hr
 rw [E.out] at a5
 generalize (a &&& b) ||| (a &&& c) = s at *
 generalize a &&& b = p at *
 generalize a &&& c = q at *
 generalize b &&& c = r at *
 generalize maj a b c = m at *
 clear E
 go_enter Tryz.func141, Tryz.ntmps141
 go_wp2
 go_ret
 exact ⟨rfl, rfl⟩
end Go.Proofs.YtcjgjkejhkhknabGreatDoor
