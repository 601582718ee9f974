/-
  Draw; D2; D3; Big; Code
-/
import Derived.Test.YtcjgjkejhkhknaaPq0
import Derived.Laws.Bits128
/-
  The cursor that the drawn laws draw by: what each draw gives, and what it touches.
-/
namespace Go.Proofs.Ytcjgjkejhkhknaa
open Go.RowKit

theorem i64_and255 (n : Int) : bits .and .i64 n 255 = n % 256 := by
  have h255 : (BitVec.ofInt 64 255).toNat = 2 ^ 8 - 1 := by decide
  have key : (BitVec.ofInt 64 n &&& BitVec.ofInt 64 255).toNat = (n % ((2 ^ 64 : Nat) : Int)).toNat % 2 ^ 8 := by
    rw [BitVec.toNat_and, BitVec.toNat_ofInt, h255, Nat.and_two_pow_sub_one_eq_mod]
  show IntKind.i64.wrap ((BitVec.ofInt 64 n &&& BitVec.ofInt 64 255).toNat : Nat) = n % 256
  rw [key, IntKind.wrap_i64]
  omega

/-- The bytes that came in, all below block B. -/
def CodeIn (w : World) (ad : Option Addr) (len B : Nat) : Prop :=
  ∀ j, j < len → ∃ b off, ad = some ⟨b, off, none⟩ ∧ b < B ∧ ∃ c : Nat, c < 256 ∧ w.cell? ⟨b, off + j, none⟩ = some (.int .u8 c)
theorem CodeIn.on {w w' : World} {ad : Option Addr} {len B C : Nat} (h : CodeIn w ad len B) (hb : Below C w w') (hB : B ≤ C) : CodeIn w' ad len B := by
  intro j hj
  obtain ⟨b, off, h1, h2, c, h3, h4⟩ := h j hj
  exact ⟨b, off, h1, h2, c, h3, by rw [hb.cell (show b < C by omega)]; exact h4⟩

/-- The cursor in block p: over these bytes, at some place, with some number. -/
def CurIn (w : World) (p : Nat) (ad : Option Addr) (len cap : Nat) : Prop :=
  w.cell? ⟨p, 0, none⟩ = some (.slice ad len cap) ∧ (∃ i : Nat, i ≤ len ∧ w.cell? ⟨p, 1, none⟩ = some (.int .i64 i)) ∧ (∃ h : Int, w.cell? ⟨p, 2, none⟩ = some (.int .i64 h)) ∧
  w.frozen? ⟨p, 1, none⟩ = false ∧ w.frozen? ⟨p, 2, none⟩ = false ∧ p < w.heap.size
theorem CurIn.below {w w' : World} {p : Nat} {ad : Option Addr} {len cap C : Nat} (h : CurIn w p ad len cap) (hb : Below C w w') (hp : p < C) : CurIn w' p ad len cap := by
  obtain ⟨h1, ⟨i, hi, h2⟩, ⟨x, h3⟩, h4, h5, h6⟩ := h
  exact ⟨by rw [hb.cell (show p < C by omega)]; exact h1, ⟨i, hi, by rw [hb.cell (show p < C by omega)]; exact h2⟩, ⟨x, by rw [hb.cell (show p < C by omega)]; exact h3⟩,
    by rw [hb.frozen (show p < C by omega)]; exact h4, by rw [hb.frozen (show p < C by omega)]; exact h5, Nat.lt_of_lt_of_le h6 hb.size⟩

theorem grown_trans {w1 w2 w3 : World} {r : Option Nat} (h : w1.grownBy w2 r) (k : w2.grownBy w3 r) : w1.grownBy w3 r :=
  ⟨k.os.trans h.os, k.tape.trans h.tape, k.output.trans h.output, Nat.le_trans h.size k.size, fun j hj hr => (k.block j (Nat.lt_of_lt_of_le hj h.size) hr).trans (h.block j hj hr)⟩
theorem grown_refl (w : World) (r : Option Nat) : w.grownBy w r := ⟨rfl, rfl, rfl, Nat.le_refl _, fun _ _ _ => rfl⟩
theorem grown_set (w : World) (p : Nat) (o : Nat) (v : Value) : w.grownBy (w.setCell ⟨p, o, none⟩ v) (some p) :=
  ⟨rfl, rfl, rfl, by simp, fun k _ hk => heap_setCell_other w ⟨p, o, none⟩ k v (fun e => hk (by simp [e]))⟩
theorem grown_drewN (w : World) (n : Nat) (r : Option Nat) : w.grownBy (w.drewN n) r := ⟨rfl, rfl, rfl, Nat.le_refl _, fun _ _ _ => rfl⟩
theorem grown_below {B p : Nat} {w w' : World} (h : w.grownBy w' (some p)) (hp : B ≤ p) (hB : B ≤ w.heap.size) : Below B w w' :=
  (Below.refl _ _).grown h hB (fun k hk => by cases hk; exact hp)

set_option maxHeartbeats 1000000 in
set_option maxRecDepth 100000 in
theorem byte_any (p : Nat) (ad : Option Addr) (len cap B : Nat) (w : World) (hl : len ≤ 1048576) (hc : CurIn w p ad len cap) (hd : CodeIn w ad len B) (hB : B ≤ p) :
    Calls Try.prog 41 #[.pointer (some ⟨p, 0, none⟩)] w fun e w' => ∃ x : Int, e = .returned (.int .i64 x) ∧ 0 ≤ x ∧ x < 256 ∧ w.grownBy w' (some p) ∧ CurIn w' p ad len cap := by
  obtain ⟨h1, ⟨i, hi, h2⟩, ⟨x, h3⟩, h4, h5, h6⟩ := hc
  have HD := hide hd
  clear hd
  go_enter Try.func41, Try.ntmps41
  go_wp2
  have hand := i64_and255
  have cc0 : (w.setCell ⟨p, 2, none⟩ (.int .i64 (wrap64 (wrap64 (x * 6364136223846793005) + 1442695040888963407)))).cell? ⟨p, 0, none⟩ = some (.slice ad len cap) := by
    rw [World.cell?_setCell_other _ _ _ _ (by simp)]; exact h1
  have cc1 : (w.setCell ⟨p, 2, none⟩ (.int .i64 (wrap64 (wrap64 (x * 6364136223846793005) + 1442695040888963407)))).cell? ⟨p, 1, none⟩ = some (.int .i64 i) := by
    rw [World.cell?_setCell_other _ _ _ _ (by simp)]; exact h2
  have cc2 := World.cell?_setCell_same w ⟨p, 2, none⟩ (.int .i64 (wrap64 (wrap64 (x * 6364136223846793005) + 1442695040888963407))) h3
  have ff1 : (w.setCell ⟨p, 2, none⟩ (.int .i64 (wrap64 (wrap64 (x * 6364136223846793005) + 1442695040888963407)))).frozen? ⟨p, 1, none⟩ = false := by simpa using h4
  have ff2 : (w.setCell ⟨p, 2, none⟩ (.int .i64 (wrap64 (wrap64 (x * 6364136223846793005) + 1442695040888963407)))).frozen? ⟨p, 2, none⟩ = false := by simpa using h5
  have hg := grown_set w p 2 (.int .i64 (wrap64 (wrap64 (x * 6364136223846793005) + 1442695040888963407)))
  generalize w.setCell ⟨p, 2, none⟩ (.int .i64 (wrap64 (wrap64 (x * 6364136223846793005) + 1442695040888963407))) = W at *
  generalize wrap64 (wrap64 (x * 6364136223846793005) + 1442695040888963407) = y at *
  go_region_held3 (fun w' => w'.cell? ⟨p, 2, none⟩ = some (.int .i64 y)) (go_keep) (fail)
  obtain ⟨z, hz⟩ : ∃ z, bits BinOp.xor IntKind.i64 (y / 8589934592) (y / 35184372088832) % 256 = z := ⟨_, rfl⟩
  have z0 : 0 ≤ z := by omega
  have z1 : z < 256 := by omega
  rw [hz]
  have hgs := hg.size
  have hpW : p < W.heap.size := by omega
  by_cases hlt : (i : Int) < len
  · obtain ⟨b, off, rfl, hbB, c, hc8, hcell⟩ := HD.out i (by omega)
    have hcW : W.cell? ⟨b, off + i, none⟩ = some (.int .u8 c) := by
      rw [World.cell?_of_block (w := w) (hg.block b (by omega) (by simp; omega))]; exact hcell
    have i0 : (0 : Int) ≤ i := by omega
    have r1 : IntKind.i64.wrap (c : Int) = c := by rw [IntKind.wrap_i64]; omega
    have r2 : IntKind.i64.wrap (z + c) = z + c := by rw [IntKind.wrap_i64]; omega
    clear hz hcell h1 h2 h3 h4 h5
    go_wp2
    go_region_held3 (fun w' => w'.cell? ⟨p, 0, none⟩ = some (.slice (some ⟨b, off, none⟩) len cap) ∧ w'.cell? ⟨p, 1, none⟩ = some (.int .i64 i)) (go_keep) (fail)
    go_wp2
    go_region_held3 (fun w' => w'.cell? ⟨p, 0, none⟩ = some (.slice (some ⟨b, off, none⟩) len cap) ∧ w'.cell? ⟨p, 1, none⟩ = some (.int .i64 i) ∧ w'.cell? ⟨b, off + i, none⟩ = some (.int .u8 c)) (go_keep) (fail)
    go_wp2
    go_ret
    have k := grown_set W p 1 (.int .i64 ((i : Int) + 1))
    have s0 : (W.setCell ⟨p, 1, none⟩ (.int .i64 ((i : Int) + 1))).cell? ⟨p, 0, none⟩ = some (.slice (some ⟨b, off, none⟩) len cap) := by
      rw [World.cell?_setCell_other _ _ _ _ (by simp)]; exact cc0
    have s1 := World.cell?_setCell_same W ⟨p, 1, none⟩ (.int .i64 ((i : Int) + 1)) cc1
    have s2 : (W.setCell ⟨p, 1, none⟩ (.int .i64 ((i : Int) + 1))).cell? ⟨p, 2, none⟩ = some (.int .i64 y) := by
      rw [World.cell?_setCell_other _ _ _ _ (by simp)]; exact cc2
    have f1 : (W.setCell ⟨p, 1, none⟩ (.int .i64 ((i : Int) + 1))).frozen? ⟨p, 1, none⟩ = false := by simpa using ff1
    have f2 : (W.setCell ⟨p, 1, none⟩ (.int .i64 ((i : Int) + 1))).frozen? ⟨p, 2, none⟩ = false := by simpa using ff2
    have ks := k.size
    exact ⟨(z + c) % 256, rfl, by omega, by omega, grown_trans hg ⟨k.os, k.tape, k.output, k.size, k.block⟩, s0, ⟨i + 1, by omega, s1⟩, ⟨y, s2⟩, f1, f2, Nat.lt_of_lt_of_le hpW ks⟩
  · clear hz h1 h2 h3 h4 h5
    go_wp2
    go_region_held3 (fun w' => w'.cell? ⟨p, 0, none⟩ = some (.slice ad len cap) ∧ w'.cell? ⟨p, 1, none⟩ = some (.int .i64 i)) (go_keep) (fail)
    go_wp2
    go_ret
    exact ⟨z, rfl, z0, z1, grown_trans hg (grown_drewN W 2 _), cc0, ⟨i, hi, cc1⟩, ⟨y, cc2⟩, ff1, ff2, hpW⟩

/-- What a draw leaves: the cursor is there, and only its block and new ones have turned. -/
def Drawn (w w' : World) (p : Nat) (ad : Option Addr) (len cap : Nat) : Prop := w.grownBy w' (some p) ∧ CurIn w' p ad len cap
theorem Drawn.code {w w' : World} {p B : Nat} {ad : Option Addr} {len cap : Nat} (h : Drawn w w' p ad len cap) (hd : CodeIn w ad len B) (hB : B ≤ p) (hp : p < w.heap.size) : CodeIn w' ad len B :=
  hd.on (grown_below h.1 hB (by omega)) (Nat.le_refl _)
theorem Drawn.trans {w1 w2 w3 : World} {p : Nat} {ad : Option Addr} {len cap : Nat} (h : Drawn w1 w2 p ad len cap) (k : Drawn w2 w3 p ad len cap) : Drawn w1 w3 p ad len cap := ⟨grown_trans h.1 k.1, k.2⟩
theorem Drawn.refl {w : World} {p : Nat} {ad : Option Addr} {len cap : Nat} (h : CurIn w p ad len cap) : Drawn w w p ad len cap := ⟨grown_refl _ _, h⟩

end Go.Proofs.Ytcjgjkejhkhknaa

/-
  The draw of a number below a bound.
-/
namespace Go.Proofs.Ytcjgjkejhkhknaa
open Go.RowKit

theorem Drawn.below {w w1 w2 : World} {p : Nat} {ad : Option Addr} {len cap : Nat} (h : Drawn w w1 p ad len cap) (hb : Below w.heap.size w1 w2) (hp : p < w.heap.size) : Drawn w w2 p ad len cap :=
  ⟨⟨hb.os.trans h.1.os, hb.tape.trans h.1.tape, hb.output.trans h.1.output, Nat.le_trans h.1.size hb.size, fun j hj hr => (hb.block j hj).trans (h.1.block j hj hr)⟩, h.2.below hb hp⟩

set_option maxHeartbeats 400000 in
theorem below_any (n : Int) (p : Nat) (ad : Option Addr) (len cap B : Nat) (w : World) (hn : n ≤ 1000000000000) (hl : len ≤ 1048576) (hc : CurIn w p ad len cap) (hd : CodeIn w ad len B) (hB : B ≤ p) :
    Calls Try.prog 42 #[.pointer (some ⟨p, 0, none⟩), .int .i64 n] w fun e w' => ∃ x : Int, e = .returned (.int .i64 x) ∧ 0 ≤ x ∧ (0 < n → x < n) ∧ (n ≤ 0 → x = 0) ∧ Drawn w w' p ad len cap := by
  have hpw := hc.2.2.2.2.2
  have HC := hide hc
  have HD := hide hd
  clear hc hd
  by_cases h1 : n ≤ 0
  · go_enter Try.func42, Try.ntmps42
    go_wp2
    go_ret
    exact ⟨0, rfl, by omega, fun h => by omega, fun _ => rfl, Drawn.refl HC.out⟩
  · by_cases h2 : n ≤ 256
    · go_enter Try.func42, Try.ntmps42
      go_wp2_with fail
      refine (byte_any p ad len cap B _ hl HC.out HD.out hB).mono ?_
      rintro e w1 ⟨x, rfl, x0, x1, g1, c1⟩
      have D1 : Hid (Drawn w w1 p ad len cap) := ⟨g1, c1⟩
      clear g1 c1
      have m0 := Int.emod_nonneg x (show n ≠ 0 by omega)
      have m1 := Int.emod_lt_of_pos x (show 0 < n by omega)
      have nz : (n == 0) = false := by rw [beq_eq_false_iff_ne]; omega
      go_wp2
      go_ret
      exact ⟨x % n, rfl, m0, fun _ => m1, fun h => by omega, D1.out⟩
    · go_enter Try.func42, Try.ntmps42
      go_wp2_with fail
      refine (byte_any p ad len cap B _ hl HC.out HD.out hB).mono ?_
      rintro e w1 ⟨x, rfl, x0, x1, g1, c1⟩
      have D1 : Hid (Drawn w w1 p ad len cap) := ⟨g1, c1⟩
      have HD1 := hide (D1.out.code HD.out hB hpw)
      have hp1 := c1.2.2.2.2.2
      clear g1 c1 HD HC
      go_wp2_with fail
      refine (byte_any p ad len cap B _ hl D1.out.2 HD1.out hB).mono ?_
      rintro e w2 ⟨y, rfl, y0, y1, g1, c1⟩
      have D2 : Hid (Drawn w1 w2 p ad len cap) := ⟨g1, c1⟩
      have HD2 := hide (D2.out.code HD1.out hB hp1)
      have hp2 := c1.2.2.2.2.2
      clear g1 c1 HD1
      go_wp2_with fail
      refine (byte_any p ad len cap B _ hl D2.out.2 HD2.out hB).mono ?_
      rintro e w3 ⟨z, rfl, z0, z1, g1, c1⟩
      have D3 : Hid (Drawn w2 w3 p ad len cap) := ⟨g1, c1⟩
      have HD3 := hide (D3.out.code HD2.out hB hp2)
      clear g1 c1 HD2
      go_wp2_with fail
      refine (byte_any p ad len cap B _ hl D3.out.2 HD3.out hB).mono ?_
      rintro e w4 ⟨u, rfl, u0, u1, g1, c1⟩
      have D4 : Hid (Drawn w3 w4 p ad len cap) := ⟨g1, c1⟩
      have DD := hide (((D1.out.trans D2.out).trans D3.out).trans D4.out)
      clear g1 c1 HD3 D1 D2 D3 D4
      have m0 := Int.emod_nonneg (x * 16777216 + y * 65536 + z * 256 + u) (show n ≠ 0 by omega)
      have m1 := Int.emod_lt_of_pos (x * 16777216 + y * 65536 + z * 256 + u) (show 0 < n by omega)
      have nz : (n == 0) = false := by rw [beq_eq_false_iff_ne]; omega
      go_wp2
      go_ret
      exact ⟨(x * 16777216 + y * 65536 + z * 256 + u) % n, rfl, m0, fun _ => m1, fun h => by omega, DD.out⟩
end Go.Proofs.Ytcjgjkejhkhknaa

/-
  A new cursor.
-/
namespace Go.Proofs.Ytcjgjkejhkhknaa
open Go.RowKit

set_option maxHeartbeats 400000 in
set_option maxRecDepth 100000 in
theorem new_any (ad : Option Addr) (len cap B : Nat) (w : World) (hl : len ≤ 1048576) (hd : CodeIn w ad len B) :
    Calls Try.prog 40 #[.slice ad len cap] w fun e w' => ∃ p, e = .returned (.pointer (some ⟨p, 0, none⟩)) ∧ w.heap.size ≤ p ∧ CurIn w' p ad len cap ∧ Below w.heap.size w w' := by
  have HD := hide hd
  clear hd
  go_enter Try.func40, Try.ntmps40
  go_wp2
  go_loop [3, 4] (fun hv iv => ∃ (x : Int) (k : Nat), k ≤ len ∧ hv = .int .i64 x ∧ iv = .int .i64 k) (fun _ iv => len - (intOf iv).toNat)
  case atStart => exact ⟨_, 0, Nat.zero_le _, rfl, rfl⟩
  case round =>
    obtain ⟨x, k, hk, rfl, rfl⟩ := hrel
    by_cases hlt : (k : Int) < len
    · by_cases h4 : (k : Int) < 4000
      · obtain ⟨b, off, rfl, hbB, c, hc8, hcell⟩ := HD.out k (by omega)
        go_wp2
        go_round
        case rel => exact ⟨_, k + 1, by omega, rfl, by go_num⟩
        case measure => simp [intOf]; omega
      · go_wp2
        go_ret
        refine ⟨w.heap.size, rfl, Nat.le_refl _, ?_, (Below.refl _ _).alloc (Nat.le_refl _) _⟩
        exact ⟨by simp, ⟨0, by omega, by simp⟩, ⟨x, by simp⟩, by simp, by simp, by simp⟩
    · go_wp2
      go_ret
      refine ⟨w.heap.size, rfl, Nat.le_refl _, ?_, (Below.refl _ _).alloc (Nat.le_refl _) _⟩
      exact ⟨by simp, ⟨0, by omega, by simp⟩, ⟨x, by simp⟩, by simp, by simp, by simp⟩
end Go.Proofs.Ytcjgjkejhkhknaa

/-
  The laws' own look at a code that is too long.
-/
namespace Go.Proofs.Ytcjgjkejhkhknaa
open Go.RowKit

theorem big_any (ad : Option Addr) (len cap : Nat) (w : World) :
    Calls Try.prog 9 #[.slice ad len cap] w fun e w' => e = .returned (.bool (decide ((1048576 : Int) < len))) ∧ w' = w := by
  by_cases h : (1048576 : Int) < len
  all_goals
    go_enter Try.func9, Try.ntmps9
    go_wp2
    go_ret
    exact ⟨by simp [h], rfl⟩
end Go.Proofs.Ytcjgjkejhkhknaa

/-
  Bytes that came in as an argument, as the draws take them.
-/
namespace Go.Proofs.Ytcjgjkejhkhknaa
open Go.RowKit

/-- A row of bytes that came in: nil, or cells that hold them. -/
def ByteRow (w : World) (a : Option Addr) (len cap : Nat) (zs : List Int) : Prop :=
  (a = none ∧ len = 0 ∧ cap = 0 ∧ zs = []) ∨
  ∃ x, a = some x ∧ len ≤ cap ∧ cap ≤ maxLen ∧ zs.length = cap ∧ (∀ i, i < zs.length → w.cell? (x.add i) = some (.int .u8 (zs.getD i 0))) ∧ ∀ n ∈ zs, (Lit.int .u8 n).wf = true
theorem addr_off (b off j : Nat) : (⟨b, off, none⟩ : Addr).add j = ⟨b, off + j, none⟩ := by
  simp only [Addr.add]
  split <;> simp_all
theorem code_of_row {w : World} {a : Option Addr} {len cap : Nat} {zs : List Int} (h : ByteRow w a len cap zs) : CodeIn w a len w.heap.size := by
  intro j hj
  rcases h with ⟨_, h2, _⟩ | ⟨x, rfl, h2, _, h4, h5, h6⟩
  · omega
  · obtain ⟨b, off, spot⟩ := x
    have hc := h5 j (by omega)
    have hspot : spot = none := by simpa [Addr.add] using World.cell?_spot (h5 0 (by omega))
    subst hspot
    rw [addr_off] at hc
    have hm : zs.getD j 0 ∈ zs := by
      rw [List.getD_eq_getElem?_getD, List.getElem?_eq_getElem (by omega)]
      exact List.getElem_mem _
    have hw : 0 ≤ zs.getD j 0 ∧ zs.getD j 0 ≤ 255 := by simpa [Lit.wf, IntKind.min, IntKind.max, IntKind.signed, IntKind.bits] using h6 _ hm
    refine ⟨b, off, rfl, World.block_lt_of_cell? w _ hc, (zs.getD j 0).toNat, by omega, ?_⟩
    rw [hc]
    congr 2
    omega
end Go.Proofs.Ytcjgjkejhkhknaa
