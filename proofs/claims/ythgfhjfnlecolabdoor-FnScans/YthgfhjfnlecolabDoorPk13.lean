/-
  Draw; D2; D2o; D2t; D3
-/
import Derived.Test.YthgfhjfnlecolabDoorPk0
import Derived.Laws.Bits128
/-
  The cursor that the drawn laws draw by: what each draw gives, and what it touches.
-/
namespace Go.Proofs.YthgfhjfnlecolabDoor
open Go.RowKit

theorem i64_and255 (n : Int) : bits .and .i64 n 255 = n % 256 := by
  have h255 : (BitVec.ofInt 64 255).toNat = 2 ^ 8 - 1 := by decide
  have key : (BitVec.ofInt 64 n &&& BitVec.ofInt 64 255).toNat = (n % ((2 ^ 64 : Nat) : Int)).toNat % 2 ^ 8 := by
    rw [BitVec.toNat_and, BitVec.toNat_ofInt, h255, Nat.and_two_pow_sub_one_eq_mod]
  show IntKind.i64.wrap ((BitVec.ofInt 64 n &&& BitVec.ofInt 64 255).toNat : Nat) = n % 256
  rw [key, IntKind.wrap_i64]
  omega

/-- The bytes that came in, all below block B. -/
def CodeIn (w : World) (ad : Option Addr) (len B : Nat) : Prop :=
  ∀ j, j < len → ∃ b off, ad = some ⟨b, off, none⟩ ∧ b < B ∧ ∃ c : Nat, c < 256 ∧ w.cell? ⟨b, off + j, none⟩ = some (.int .u8 c)
theorem CodeIn.on {w w' : World} {ad : Option Addr} {len B C : Nat} (h : CodeIn w ad len B) (hb : Below C w w') (hB : B ≤ C) : CodeIn w' ad len B := by
  intro j hj
  obtain ⟨b, off, h1, h2, c, h3, h4⟩ := h j hj
  exact ⟨b, off, h1, h2, c, h3, by rw [hb.cell (show b < C by omega)]; exact h4⟩

/-- The cursor in block p: over these bytes, at some place, with some number. -/
def CurIn (w : World) (p : Nat) (ad : Option Addr) (len cap : Nat) : Prop :=
  w.cell? ⟨p, 0, none⟩ = some (.slice ad len cap) ∧ (∃ i : Nat, i ≤ len ∧ w.cell? ⟨p, 1, none⟩ = some (.int .i64 i)) ∧ (∃ h : Int, w.cell? ⟨p, 2, none⟩ = some (.int .i64 h)) ∧
  w.frozen? ⟨p, 1, none⟩ = false ∧ w.frozen? ⟨p, 2, none⟩ = false ∧ p < w.heap.size
theorem CurIn.below {w w' : World} {p : Nat} {ad : Option Addr} {len cap C : Nat} (h : CurIn w p ad len cap) (hb : Below C w w') (hp : p < C) : CurIn w' p ad len cap := by
  obtain ⟨h1, ⟨i, hi, h2⟩, ⟨x, h3⟩, h4, h5, h6⟩ := h
  exact ⟨by rw [hb.cell (show p < C by omega)]; exact h1, ⟨i, hi, by rw [hb.cell (show p < C by omega)]; exact h2⟩, ⟨x, by rw [hb.cell (show p < C by omega)]; exact h3⟩,
    by rw [hb.frozen (show p < C by omega)]; exact h4, by rw [hb.frozen (show p < C by omega)]; exact h5, Nat.lt_of_lt_of_le h6 hb.size⟩

theorem grown_trans {w1 w2 w3 : World} {r : Option Nat} (h : w1.grownBy w2 r) (k : w2.grownBy w3 r) : w1.grownBy w3 r :=
  ⟨k.os.trans h.os, k.tape.trans h.tape, k.output.trans h.output, Nat.le_trans h.size k.size, fun j hj hr => (k.block j (Nat.lt_of_lt_of_le hj h.size) hr).trans (h.block j hj hr)⟩
theorem grown_refl (w : World) (r : Option Nat) : w.grownBy w r := ⟨rfl, rfl, rfl, Nat.le_refl _, fun _ _ _ => rfl⟩
theorem grown_set (w : World) (p : Nat) (o : Nat) (v : Value) : w.grownBy (w.setCell ⟨p, o, none⟩ v) (some p) :=
  ⟨rfl, rfl, rfl, by simp, fun k _ hk => heap_setCell_other w ⟨p, o, none⟩ k v (fun e => hk (by simp [e]))⟩
theorem grown_drewN (w : World) (n : Nat) (r : Option Nat) : w.grownBy (w.drewN n) r := ⟨rfl, rfl, rfl, Nat.le_refl _, fun _ _ _ => rfl⟩
theorem grown_below {B p : Nat} {w w' : World} (h : w.grownBy w' (some p)) (hp : B ≤ p) (hB : B ≤ w.heap.size) : Below B w w' :=
  (Below.refl _ _).grown h hB (fun k hk => by cases hk; exact hp)

set_option maxHeartbeats 1000000 in
set_option maxRecDepth 100000 in
theorem byte_any (p : Nat) (ad : Option Addr) (len cap B : Nat) (w : World) (hl : len ≤ 1048576) (hc : CurIn w p ad len cap) (hd : CodeIn w ad len B) (hB : B ≤ p) :
    Calls Tryd.prog 33 #[.pointer (some ⟨p, 0, none⟩)] w fun e w' => ∃ x : Int, e = .returned (.int .i64 x) ∧ 0 ≤ x ∧ x < 256 ∧ w.grownBy w' (some p) ∧ CurIn w' p ad len cap := by
  obtain ⟨h1, ⟨i, hi, h2⟩, ⟨x, h3⟩, h4, h5, h6⟩ := hc
  have HD := hide hd
  clear hd
  go_enter Tryd.func33, Tryd.ntmps33
  go_wp2
  have hand := i64_and255
  have cc0 : (w.setCell ⟨p, 2, none⟩ (.int .i64 (wrap64 (wrap64 (x * 6364136223846793005) + 1442695040888963407)))).cell? ⟨p, 0, none⟩ = some (.slice ad len cap) := by
    rw [World.cell?_setCell_other _ _ _ _ (by simp)]; exact h1
  have cc1 : (w.setCell ⟨p, 2, none⟩ (.int .i64 (wrap64 (wrap64 (x * 6364136223846793005) + 1442695040888963407)))).cell? ⟨p, 1, none⟩ = some (.int .i64 i) := by
    rw [World.cell?_setCell_other _ _ _ _ (by simp)]; exact h2
  have cc2 := World.cell?_setCell_same w ⟨p, 2, none⟩ (.int .i64 (wrap64 (wrap64 (x * 6364136223846793005) + 1442695040888963407))) h3
  have ff1 : (w.setCell ⟨p, 2, none⟩ (.int .i64 (wrap64 (wrap64 (x * 6364136223846793005) + 1442695040888963407)))).frozen? ⟨p, 1, none⟩ = false := by simpa using h4
  have ff2 : (w.setCell ⟨p, 2, none⟩ (.int .i64 (wrap64 (wrap64 (x * 6364136223846793005) + 1442695040888963407)))).frozen? ⟨p, 2, none⟩ = false := by simpa using h5
  have hg := grown_set w p 2 (.int .i64 (wrap64 (wrap64 (x * 6364136223846793005) + 1442695040888963407)))
  generalize w.setCell ⟨p, 2, none⟩ (.int .i64 (wrap64 (wrap64 (x * 6364136223846793005) + 1442695040888963407))) = W at *
  generalize wrap64 (wrap64 (x * 6364136223846793005) + 1442695040888963407) = y at *
  go_region_held3 (fun w' => w'.cell? ⟨p, 2, none⟩ = some (.int .i64 y)) (go_keep) (fail)
  obtain ⟨z, hz⟩ : ∃ z, bits BinOp.xor IntKind.i64 (y / 8589934592) (y / 35184372088832) % 256 = z := ⟨_, rfl⟩
  have z0 : 0 ≤ z := by omega
  have z1 : z < 256 := by omega
  rw [hz]
  have hgs := hg.size
  have hpW : p < W.heap.size := by omega
  by_cases hlt : (i : Int) < len
  · obtain ⟨b, off, rfl, hbB, c, hc8, hcell⟩ := HD.out i (by omega)
    have hcW : W.cell? ⟨b, off + i, none⟩ = some (.int .u8 c) := by
      rw [World.cell?_of_block (w := w) (hg.block b (by omega) (by simp; omega))]; exact hcell
    have i0 : (0 : Int) ≤ i := by omega
    have r1 : IntKind.i64.wrap (c : Int) = c := by rw [IntKind.wrap_i64]; omega
    have r2 : IntKind.i64.wrap (z + c) = z + c := by rw [IntKind.wrap_i64]; omega
    clear hz hcell h1 h2 h3 h4 h5
    go_wp2
    go_region_held3 (fun w' => w'.cell? ⟨p, 0, none⟩ = some (.slice (some ⟨b, off, none⟩) len cap) ∧ w'.cell? ⟨p, 1, none⟩ = some (.int .i64 i)) (go_keep) (fail)
    go_wp2
    go_region_held3 (fun w' => w'.cell? ⟨p, 0, none⟩ = some (.slice (some ⟨b, off, none⟩) len cap) ∧ w'.cell? ⟨p, 1, none⟩ = some (.int .i64 i) ∧ w'.cell? ⟨b, off + i, none⟩ = some (.int .u8 c)) (go_keep) (fail)
    go_wp2
    go_ret
    have k := grown_set W p 1 (.int .i64 ((i : Int) + 1))
    have s0 : (W.setCell ⟨p, 1, none⟩ (.int .i64 ((i : Int) + 1))).cell? ⟨p, 0, none⟩ = some (.slice (some ⟨b, off, none⟩) len cap) := by
      rw [World.cell?_setCell_other _ _ _ _ (by simp)]; exact cc0
    have s1 := World.cell?_setCell_same W ⟨p, 1, none⟩ (.int .i64 ((i : Int) + 1)) cc1
    have s2 : (W.setCell ⟨p, 1, none⟩ (.int .i64 ((i : Int) + 1))).cell? ⟨p, 2, none⟩ = some (.int .i64 y) := by
      rw [World.cell?_setCell_other _ _ _ _ (by simp)]; exact cc2
    have f1 : (W.setCell ⟨p, 1, none⟩ (.int .i64 ((i : Int) + 1))).frozen? ⟨p, 1, none⟩ = false := by simpa using ff1
    have f2 : (W.setCell ⟨p, 1, none⟩ (.int .i64 ((i : Int) + 1))).frozen? ⟨p, 2, none⟩ = false := by simpa using ff2
    have ks := k.size
    exact ⟨(z + c) % 256, rfl, by omega, by omega, grown_trans hg ⟨k.os, k.tape, k.output, k.size, k.block⟩, s0, ⟨i + 1, by omega, s1⟩, ⟨y, s2⟩, f1, f2, Nat.lt_of_lt_of_le hpW ks⟩
  · clear hz h1 h2 h3 h4 h5
    go_wp2
    go_region_held3 (fun w' => w'.cell? ⟨p, 0, none⟩ = some (.slice ad len cap) ∧ w'.cell? ⟨p, 1, none⟩ = some (.int .i64 i)) (go_keep) (fail)
    go_wp2
    go_ret
    exact ⟨z, rfl, z0, z1, grown_trans hg (grown_drewN W 2 _), cc0, ⟨i, hi, cc1⟩, ⟨y, cc2⟩, ff1, ff2, hpW⟩

/-- What a draw leaves: the cursor is there, and only its block and new ones have turned. -/
def Drawn (w w' : World) (p : Nat) (ad : Option Addr) (len cap : Nat) : Prop := w.grownBy w' (some p) ∧ CurIn w' p ad len cap
theorem Drawn.code {w w' : World} {p B : Nat} {ad : Option Addr} {len cap : Nat} (h : Drawn w w' p ad len cap) (hd : CodeIn w ad len B) (hB : B ≤ p) (hp : p < w.heap.size) : CodeIn w' ad len B :=
  hd.on (grown_below h.1 hB (by omega)) (Nat.le_refl _)
theorem Drawn.trans {w1 w2 w3 : World} {p : Nat} {ad : Option Addr} {len cap : Nat} (h : Drawn w1 w2 p ad len cap) (k : Drawn w2 w3 p ad len cap) : Drawn w1 w3 p ad len cap := ⟨grown_trans h.1 k.1, k.2⟩
theorem Drawn.refl {w : World} {p : Nat} {ad : Option Addr} {len cap : Nat} (h : CurIn w p ad len cap) : Drawn w w p ad len cap := ⟨grown_refl _ _, h⟩

end Go.Proofs.YthgfhjfnlecolabDoor

/-
  The draw of a number below a bound.
-/
namespace Go.Proofs.YthgfhjfnlecolabDoor
open Go.RowKit

theorem Drawn.below {w w1 w2 : World} {p : Nat} {ad : Option Addr} {len cap : Nat} (h : Drawn w w1 p ad len cap) (hb : Below w.heap.size w1 w2) (hp : p < w.heap.size) : Drawn w w2 p ad len cap :=
  ⟨⟨hb.os.trans h.1.os, hb.tape.trans h.1.tape, hb.output.trans h.1.output, Nat.le_trans h.1.size hb.size, fun j hj hr => (hb.block j hj).trans (h.1.block j hj hr)⟩, h.2.below hb hp⟩

set_option maxHeartbeats 400000 in
theorem below_any (n : Int) (p : Nat) (ad : Option Addr) (len cap B : Nat) (w : World) (hn : n ≤ 1000000000000) (hl : len ≤ 1048576) (hc : CurIn w p ad len cap) (hd : CodeIn w ad len B) (hB : B ≤ p) :
    Calls Tryd.prog 34 #[.pointer (some ⟨p, 0, none⟩), .int .i64 n] w fun e w' => ∃ x : Int, e = .returned (.int .i64 x) ∧ 0 ≤ x ∧ (0 < n → x < n) ∧ (n ≤ 0 → x = 0) ∧ Drawn w w' p ad len cap := by
  have hpw := hc.2.2.2.2.2
  have HC := hide hc
  have HD := hide hd
  clear hc hd
  by_cases h1 : n ≤ 0
  · go_enter Tryd.func34, Tryd.ntmps34
    go_wp2
    go_ret
    exact ⟨0, rfl, by omega, fun h => by omega, fun _ => rfl, Drawn.refl HC.out⟩
  · by_cases h2 : n ≤ 256
    · go_enter Tryd.func34, Tryd.ntmps34
      go_wp2_with fail
      refine (byte_any p ad len cap B _ hl HC.out HD.out hB).mono ?_
      rintro e w1 ⟨x, rfl, x0, x1, g1, c1⟩
      have D1 : Hid (Drawn w w1 p ad len cap) := ⟨g1, c1⟩
      clear g1 c1
      have m0 := Int.emod_nonneg x (show n ≠ 0 by omega)
      have m1 := Int.emod_lt_of_pos x (show 0 < n by omega)
      have nz : (n == 0) = false := by rw [beq_eq_false_iff_ne]; omega
      go_wp2
      go_ret
      exact ⟨x % n, rfl, m0, fun _ => m1, fun h => by omega, D1.out⟩
    · go_enter Tryd.func34, Tryd.ntmps34
      go_wp2_with fail
      refine (byte_any p ad len cap B _ hl HC.out HD.out hB).mono ?_
      rintro e w1 ⟨x, rfl, x0, x1, g1, c1⟩
      have D1 : Hid (Drawn w w1 p ad len cap) := ⟨g1, c1⟩
      have HD1 := hide (D1.out.code HD.out hB hpw)
      have hp1 := c1.2.2.2.2.2
      clear g1 c1 HD HC
      go_wp2_with fail
      refine (byte_any p ad len cap B _ hl D1.out.2 HD1.out hB).mono ?_
      rintro e w2 ⟨y, rfl, y0, y1, g1, c1⟩
      have D2 : Hid (Drawn w1 w2 p ad len cap) := ⟨g1, c1⟩
      have HD2 := hide (D2.out.code HD1.out hB hp1)
      have hp2 := c1.2.2.2.2.2
      clear g1 c1 HD1
      go_wp2_with fail
      refine (byte_any p ad len cap B _ hl D2.out.2 HD2.out hB).mono ?_
      rintro e w3 ⟨z, rfl, z0, z1, g1, c1⟩
      have D3 : Hid (Drawn w2 w3 p ad len cap) := ⟨g1, c1⟩
      have HD3 := hide (D3.out.code HD2.out hB hp2)
      clear g1 c1 HD2
      go_wp2_with fail
      refine (byte_any p ad len cap B _ hl D3.out.2 HD3.out hB).mono ?_
      rintro e w4 ⟨u, rfl, u0, u1, g1, c1⟩
      have D4 : Hid (Drawn w3 w4 p ad len cap) := ⟨g1, c1⟩
      have DD := hide (((D1.out.trans D2.out).trans D3.out).trans D4.out)
      clear g1 c1 HD3 D1 D2 D3 D4
      have m0 := Int.emod_nonneg (x * 16777216 + y * 65536 + z * 256 + u) (show n ≠ 0 by omega)
      have m1 := Int.emod_lt_of_pos (x * 16777216 + y * 65536 + z * 256 + u) (show 0 < n by omega)
      have nz : (n == 0) = false := by rw [beq_eq_false_iff_ne]; omega
      go_wp2
      go_ret
      exact ⟨(x * 16777216 + y * 65536 + z * 256 + u) % n, rfl, m0, fun _ => m1, fun h => by omega, DD.out⟩
end Go.Proofs.YthgfhjfnlecolabDoor

/-
  The draw of one time in so many.
-/
namespace Go.Proofs.YthgfhjfnlecolabDoor
open Go.RowKit

set_option maxHeartbeats 400000 in
theorem once_any (n : Int) (p : Nat) (ad : Option Addr) (len cap B : Nat) (w : World) (hn : n ≤ 1000000000000) (hl : len ≤ 1048576) (hc : CurIn w p ad len cap) (hd : CodeIn w ad len B) (hB : B ≤ p) :
    Calls Tryd.prog 28 #[.pointer (some ⟨p, 0, none⟩), .int .i64 n] w fun e w' => ∃ b : Bool, e = .returned (.bool b) ∧ Drawn w w' p ad len cap := by
  have HC := hide hc
  have HD := hide hd
  clear hc hd
  go_enter Tryd.func28, Tryd.ntmps28
  go_wp2_with fail
  refine (below_any n p ad len cap B _ hn hl HC.out HD.out hB).mono ?_
  rintro e w1 ⟨x, rfl, x0, _, _, D1⟩
  have HD1 := hide D1
  clear D1
  go_wp2
  all_goals
    go_ret
    exact ⟨_, rfl, HD1.out⟩
end Go.Proofs.YthgfhjfnlecolabDoor

/-
  The draw of a text.
-/
namespace Go.Proofs.YthgfhjfnlecolabDoor
open Go.RowKit

set_option maxHeartbeats 400000 in
set_option maxRecDepth 100000 in
theorem text_any (n : Int) (p : Nat) (ad : Option Addr) (len cap B : Nat) (w : World) (hl : len ≤ 1048576) (hc : CurIn w p ad len cap) (hd : CodeIn w ad len B) (hB : B ≤ p) :
    Calls Tryd.prog 51 #[.pointer (some ⟨p, 0, none⟩), .int .i64 n] w fun e w' => ∃ t : List UInt8, e = .returned (.string ⟨t.toArray⟩) ∧ t.length ≤ 5000 ∧ (t.length : Int) ≤ max n 0 ∧ Drawn w w' p ad len cap := by
  obtain ⟨i0, hi, hz0, hz1, hz2⟩ := info_parts infoByte
  have hpw := hc.2.2.2.2.2
  have HC := hide hc
  have HD := hide hd
  clear hc hd
  obtain ⟨M, hM0, hM1, hM2⟩ : ∃ M : Nat, (M : Int) ≤ 5000 ∧ (M : Int) ≤ max n 0 ∧ ((5000 : Int) < n ∧ (M : Int) = 5000 ∨ ¬ (5000 : Int) < n ∧ (M : Int) = max n 0) := by
    by_cases h : (5000 : Int) < n
    · exact ⟨5000, by omega, by omega, .inl ⟨h, rfl⟩⟩
    · exact ⟨n.toNat, by omega, by omega, .inr ⟨h, by omega⟩⟩
  rcases hM2 with ⟨h1, h2⟩ | ⟨h1, h2⟩
  all_goals
    go_enter Tryd.func51, Tryd.ntmps51
    go_wp2
    go_loopw [5, 6] (fun out iv wr => ∃ t : List UInt8, t.length ≤ M ∧ iv = .int .i64 t.length ∧ wr.ownsRow w.heap.size 5 1 out t.length (bcells t) ∧ w.heap.size ≤ wr.heap.size ∧ Hid (Drawn w wr p ad len cap)) (fun _ iv _ => M - (intOf iv).toNat)
    case atStart => exact ⟨[], by simp, rfl, World.ownsRow_made w #[] 0 (Nat.le_refl _) (by unfold maxLen; omega) (by simp), by simp, Drawn.below (Drawn.refl HC.out) ((Below.refl _ _).alloc (Nat.le_refl _) _) hpw⟩
    case round =>
      obtain ⟨t, ht, rfl, hown, hsz, hdr⟩ := hrel
      by_cases hlt : (t.length : Int) < M
      · have hlt2 : (t.length : Int) < n := by omega
        have HDr := hide (hdr.out.code HD.out hB hpw)
        go_wp2_with fail
        refine (byte_any p ad len cap B _ hl hdr.out.2 HDr.out hB).mono ?_
        rintro e w1 ⟨x, rfl, x0, x1, g1, c1⟩
        have hlow := hown.lt
        have hown1 := hown.kept g1 (.inr (fun h => by have := hlow p h; omega))
        have D1 : Hid (Drawn w w1 p ad len cap) := hdr.out.trans ⟨g1, c1⟩
        have hs1 := g1.size
        clear g1 c1 hown hdr HDr
        go_wp2_with (at_builtin; refine wpList_append_own _ rfl _ _ 22 rfl w.heap.size 5 i0 (.int .u8 0) 1 1 Tryd.underlying22 hi hz0 hz1 hz2 rfl (by decide) _ _ _ rfl (by exact hown1.alloc _) ⟨w1.heap.size, 0, none⟩ 1 1 [Value.int .u8 _] rfl rfl (by exact one_cell _ _ _) (one_u8 _) (by unfold maxLen; omega) (by omega) (by simp; omega) ?_)
        intro v' w2 hown2 hgrow _
        have hb2 : Below w.heap.size w1 w2 := own_grown (Below.refl _ _) (by omega) hown1 hgrow
        have D2 : Hid (Drawn w w2 p ad len cap) := D1.out.below hb2 hpw
        rw [bcells_snoc t (UInt8.ofNat x.toNat) x (by rw [UInt8.toNat_ofNat']; omega)] at hown2
        have hs2 := hb2.size
        clear hown1 hgrow hb2 D1
        go_wp2
        go_roundw
        case rel => exact ⟨t ++ [UInt8.ofNat x.toNat], by simp; omega, by simp, by simpa using hown2, by omega, D2⟩
        case measure => simp [intOf]; omega
      · have hlt2 : ¬ (t.length : Int) < 5000 ∨ ¬ (t.length : Int) < n := by omega
        have hcv := conv_own wr _ t hown
        go_wp2
        go_ret
        exact ⟨t, rfl, by omega, by omega, hdr.out⟩
end Go.Proofs.YthgfhjfnlecolabDoor

/-
  A new cursor.
-/
namespace Go.Proofs.YthgfhjfnlecolabDoor
open Go.RowKit

set_option maxHeartbeats 400000 in
set_option maxRecDepth 100000 in
theorem new_any (ad : Option Addr) (len cap B : Nat) (w : World) (hl : len ≤ 1048576) (hd : CodeIn w ad len B) :
    Calls Tryd.prog 21 #[.slice ad len cap] w fun e w' => ∃ p, e = .returned (.pointer (some ⟨p, 0, none⟩)) ∧ w.heap.size ≤ p ∧ CurIn w' p ad len cap ∧ Below w.heap.size w w' := by
  have HD := hide hd
  clear hd
  go_enter Tryd.func21, Tryd.ntmps21
  go_wp2
  go_loop [3, 4] (fun hv iv => ∃ (x : Int) (k : Nat), k ≤ len ∧ hv = .int .i64 x ∧ iv = .int .i64 k) (fun _ iv => len - (intOf iv).toNat)
  case atStart => exact ⟨_, 0, Nat.zero_le _, rfl, rfl⟩
  case round =>
    obtain ⟨x, k, hk, rfl, rfl⟩ := hrel
    by_cases hlt : (k : Int) < len
    · by_cases h4 : (k : Int) < 4000
      · obtain ⟨b, off, rfl, hbB, c, hc8, hcell⟩ := HD.out k (by omega)
        go_wp2
        go_round
        case rel => exact ⟨_, k + 1, by omega, rfl, by go_num⟩
        case measure => simp [intOf]; omega
      · go_wp2
        go_ret
        refine ⟨w.heap.size, rfl, Nat.le_refl _, ?_, (Below.refl _ _).alloc (Nat.le_refl _) _⟩
        exact ⟨by simp, ⟨0, by omega, by simp⟩, ⟨x, by simp⟩, by simp, by simp, by simp⟩
    · go_wp2
      go_ret
      refine ⟨w.heap.size, rfl, Nat.le_refl _, ?_, (Below.refl _ _).alloc (Nat.le_refl _) _⟩
      exact ⟨by simp, ⟨0, by omega, by simp⟩, ⟨x, by simp⟩, by simp, by simp, by simp⟩
end Go.Proofs.YthgfhjfnlecolabDoor
