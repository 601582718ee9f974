/-
  Draw; D2; D2o; D3q; DrawRc
-/
import Derived.Test.YtcnaahajaaifjaaPq0
import Derived.Laws.Bits128
import Derived.Test.YtcnaahajaaifjaaPq20
import Derived.Laws.Rows
/-
  The cursor that the drawn laws draw by: what each draw gives, and what it touches.
-/
namespace Go.Proofs.Ytcnaahajaaifjaa
open Go.RowKit

theorem i64_and255 (n : Int) : bits .and .i64 n 255 = n % 256 := by
  have h255 : (BitVec.ofInt 64 255).toNat = 2 ^ 8 - 1 := by decide
  have key : (BitVec.ofInt 64 n &&& BitVec.ofInt 64 255).toNat = (n % ((2 ^ 64 : Nat) : Int)).toNat % 2 ^ 8 := by
    rw [BitVec.toNat_and, BitVec.toNat_ofInt, h255, Nat.and_two_pow_sub_one_eq_mod]
  show IntKind.i64.wrap ((BitVec.ofInt 64 n &&& BitVec.ofInt 64 255).toNat : Nat) = n % 256
  rw [key, IntKind.wrap_i64]
  omega

/-- The bytes that came in, all below block B. -/
def CodeIn (w : World) (ad : Option Addr) (len B : Nat) : Prop :=
  ∀ j, j < len → ∃ b off, ad = some ⟨b, off, none⟩ ∧ b < B ∧ ∃ c : Nat, c < 256 ∧ w.cell? ⟨b, off + j, none⟩ = some (.int .u8 c)
theorem CodeIn.on {w w' : World} {ad : Option Addr} {len B C : Nat} (h : CodeIn w ad len B) (hb : Below C w w') (hB : B ≤ C) : CodeIn w' ad len B := by
  intro j hj
  obtain ⟨b, off, h1, h2, c, h3, h4⟩ := h j hj
  exact ⟨b, off, h1, h2, c, h3, by rw [hb.cell (show b < C by omega)]; exact h4⟩

/-- The cursor in block p: over these bytes, at some place, with some number. -/
def CurIn (w : World) (p : Nat) (ad : Option Addr) (len cap : Nat) : Prop :=
  w.cell? ⟨p, 0, none⟩ = some (.slice ad len cap) ∧ (∃ i : Nat, i ≤ len ∧ w.cell? ⟨p, 1, none⟩ = some (.int .i64 i)) ∧ (∃ h : Int, w.cell? ⟨p, 2, none⟩ = some (.int .i64 h)) ∧
  w.frozen? ⟨p, 1, none⟩ = false ∧ w.frozen? ⟨p, 2, none⟩ = false ∧ p < w.heap.size
theorem CurIn.below {w w' : World} {p : Nat} {ad : Option Addr} {len cap C : Nat} (h : CurIn w p ad len cap) (hb : Below C w w') (hp : p < C) : CurIn w' p ad len cap := by
  obtain ⟨h1, ⟨i, hi, h2⟩, ⟨x, h3⟩, h4, h5, h6⟩ := h
  exact ⟨by rw [hb.cell (show p < C by omega)]; exact h1, ⟨i, hi, by rw [hb.cell (show p < C by omega)]; exact h2⟩, ⟨x, by rw [hb.cell (show p < C by omega)]; exact h3⟩,
    by rw [hb.frozen (show p < C by omega)]; exact h4, by rw [hb.frozen (show p < C by omega)]; exact h5, Nat.lt_of_lt_of_le h6 hb.size⟩

theorem grown_trans {w1 w2 w3 : World} {r : Option Nat} (h : w1.grownBy w2 r) (k : w2.grownBy w3 r) : w1.grownBy w3 r :=
  ⟨k.os.trans h.os, k.tape.trans h.tape, k.output.trans h.output, Nat.le_trans h.size k.size, fun j hj hr => (k.block j (Nat.lt_of_lt_of_le hj h.size) hr).trans (h.block j hj hr)⟩
theorem grown_refl (w : World) (r : Option Nat) : w.grownBy w r := ⟨rfl, rfl, rfl, Nat.le_refl _, fun _ _ _ => rfl⟩
theorem grown_set (w : World) (p : Nat) (o : Nat) (v : Value) : w.grownBy (w.setCell ⟨p, o, none⟩ v) (some p) :=
  ⟨rfl, rfl, rfl, by simp, fun k _ hk => heap_setCell_other w ⟨p, o, none⟩ k v (fun e => hk (by simp [e]))⟩
theorem grown_drewN (w : World) (n : Nat) (r : Option Nat) : w.grownBy (w.drewN n) r := ⟨rfl, rfl, rfl, Nat.le_refl _, fun _ _ _ => rfl⟩
theorem grown_below {B p : Nat} {w w' : World} (h : w.grownBy w' (some p)) (hp : B ≤ p) (hB : B ≤ w.heap.size) : Below B w w' :=
  (Below.refl _ _).grown h hB (fun k hk => by cases hk; exact hp)

set_option maxHeartbeats 1000000 in
set_option maxRecDepth 100000 in
theorem byte_any (p : Nat) (ad : Option Addr) (len cap B : Nat) (w : World) (hl : len ≤ 1048576) (hc : CurIn w p ad len cap) (hd : CodeIn w ad len B) (hB : B ≤ p) :
    Calls Try.prog 61 #[.pointer (some ⟨p, 0, none⟩)] w fun e w' => ∃ x : Int, e = .returned (.int .i64 x) ∧ 0 ≤ x ∧ x < 256 ∧ w.grownBy w' (some p) ∧ CurIn w' p ad len cap := by
  obtain ⟨h1, ⟨i, hi, h2⟩, ⟨x, h3⟩, h4, h5, h6⟩ := hc
  have HD := hide hd
  clear hd
  go_enter Try.func61, Try.ntmps61
  go_wp2
  have hand := i64_and255
  have cc0 : (w.setCell ⟨p, 2, none⟩ (.int .i64 (wrap64 (wrap64 (x * 6364136223846793005) + 1442695040888963407)))).cell? ⟨p, 0, none⟩ = some (.slice ad len cap) := by
    rw [World.cell?_setCell_other _ _ _ _ (by simp)]; exact h1
  have cc1 : (w.setCell ⟨p, 2, none⟩ (.int .i64 (wrap64 (wrap64 (x * 6364136223846793005) + 1442695040888963407)))).cell? ⟨p, 1, none⟩ = some (.int .i64 i) := by
    rw [World.cell?_setCell_other _ _ _ _ (by simp)]; exact h2
  have cc2 := World.cell?_setCell_same w ⟨p, 2, none⟩ (.int .i64 (wrap64 (wrap64 (x * 6364136223846793005) + 1442695040888963407))) h3
  have ff1 : (w.setCell ⟨p, 2, none⟩ (.int .i64 (wrap64 (wrap64 (x * 6364136223846793005) + 1442695040888963407)))).frozen? ⟨p, 1, none⟩ = false := by simpa using h4
  have ff2 : (w.setCell ⟨p, 2, none⟩ (.int .i64 (wrap64 (wrap64 (x * 6364136223846793005) + 1442695040888963407)))).frozen? ⟨p, 2, none⟩ = false := by simpa using h5
  have hg := grown_set w p 2 (.int .i64 (wrap64 (wrap64 (x * 6364136223846793005) + 1442695040888963407)))
  generalize w.setCell ⟨p, 2, none⟩ (.int .i64 (wrap64 (wrap64 (x * 6364136223846793005) + 1442695040888963407))) = W at *
  generalize wrap64 (wrap64 (x * 6364136223846793005) + 1442695040888963407) = y at *
  go_region_held3 (fun w' => w'.cell? ⟨p, 2, none⟩ = some (.int .i64 y)) (go_keep) (fail)
  obtain ⟨z, hz⟩ : ∃ z, bits BinOp.xor IntKind.i64 (y / 8589934592) (y / 35184372088832) % 256 = z := ⟨_, rfl⟩
  have z0 : 0 ≤ z := by omega
  have z1 : z < 256 := by omega
  rw [hz]
  have hgs := hg.size
  have hpW : p < W.heap.size := by omega
  by_cases hlt : (i : Int) < len
  · obtain ⟨b, off, rfl, hbB, c, hc8, hcell⟩ := HD.out i (by omega)
    have hcW : W.cell? ⟨b, off + i, none⟩ = some (.int .u8 c) := by
      rw [World.cell?_of_block (w := w) (hg.block b (by omega) (by simp; omega))]; exact hcell
    have i0 : (0 : Int) ≤ i := by omega
    have r1 : IntKind.i64.wrap (c : Int) = c := by rw [IntKind.wrap_i64]; omega
    have r2 : IntKind.i64.wrap (z + c) = z + c := by rw [IntKind.wrap_i64]; omega
    clear hz hcell h1 h2 h3 h4 h5
    go_wp2
    go_region_held3 (fun w' => w'.cell? ⟨p, 0, none⟩ = some (.slice (some ⟨b, off, none⟩) len cap) ∧ w'.cell? ⟨p, 1, none⟩ = some (.int .i64 i)) (go_keep) (fail)
    go_wp2
    go_region_held3 (fun w' => w'.cell? ⟨p, 0, none⟩ = some (.slice (some ⟨b, off, none⟩) len cap) ∧ w'.cell? ⟨p, 1, none⟩ = some (.int .i64 i) ∧ w'.cell? ⟨b, off + i, none⟩ = some (.int .u8 c)) (go_keep) (fail)
    go_wp2
    go_ret
    have k := grown_set W p 1 (.int .i64 ((i : Int) + 1))
    have s0 : (W.setCell ⟨p, 1, none⟩ (.int .i64 ((i : Int) + 1))).cell? ⟨p, 0, none⟩ = some (.slice (some ⟨b, off, none⟩) len cap) := by
      rw [World.cell?_setCell_other _ _ _ _ (by simp)]; exact cc0
    have s1 := World.cell?_setCell_same W ⟨p, 1, none⟩ (.int .i64 ((i : Int) + 1)) cc1
    have s2 : (W.setCell ⟨p, 1, none⟩ (.int .i64 ((i : Int) + 1))).cell? ⟨p, 2, none⟩ = some (.int .i64 y) := by
      rw [World.cell?_setCell_other _ _ _ _ (by simp)]; exact cc2
    have f1 : (W.setCell ⟨p, 1, none⟩ (.int .i64 ((i : Int) + 1))).frozen? ⟨p, 1, none⟩ = false := by simpa using ff1
    have f2 : (W.setCell ⟨p, 1, none⟩ (.int .i64 ((i : Int) + 1))).frozen? ⟨p, 2, none⟩ = false := by simpa using ff2
    have ks := k.size
    exact ⟨(z + c) % 256, rfl, by omega, by omega, grown_trans hg ⟨k.os, k.tape, k.output, k.size, k.block⟩, s0, ⟨i + 1, by omega, s1⟩, ⟨y, s2⟩, f1, f2, Nat.lt_of_lt_of_le hpW ks⟩
  · clear hz h1 h2 h3 h4 h5
    go_wp2
    go_region_held3 (fun w' => w'.cell? ⟨p, 0, none⟩ = some (.slice ad len cap) ∧ w'.cell? ⟨p, 1, none⟩ = some (.int .i64 i)) (go_keep) (fail)
    go_wp2
    go_ret
    exact ⟨z, rfl, z0, z1, grown_trans hg (grown_drewN W 2 _), cc0, ⟨i, hi, cc1⟩, ⟨y, cc2⟩, ff1, ff2, hpW⟩

/-- What a draw leaves: the cursor is there, and only its block and new ones have turned. -/
def Drawn (w w' : World) (p : Nat) (ad : Option Addr) (len cap : Nat) : Prop := w.grownBy w' (some p) ∧ CurIn w' p ad len cap
theorem Drawn.code {w w' : World} {p B : Nat} {ad : Option Addr} {len cap : Nat} (h : Drawn w w' p ad len cap) (hd : CodeIn w ad len B) (hB : B ≤ p) (hp : p < w.heap.size) : CodeIn w' ad len B :=
  hd.on (grown_below h.1 hB (by omega)) (Nat.le_refl _)
theorem Drawn.trans {w1 w2 w3 : World} {p : Nat} {ad : Option Addr} {len cap : Nat} (h : Drawn w1 w2 p ad len cap) (k : Drawn w2 w3 p ad len cap) : Drawn w1 w3 p ad len cap := ⟨grown_trans h.1 k.1, k.2⟩
theorem Drawn.refl {w : World} {p : Nat} {ad : Option Addr} {len cap : Nat} (h : CurIn w p ad len cap) : Drawn w w p ad len cap := ⟨grown_refl _ _, h⟩

end Go.Proofs.Ytcnaahajaaifjaa

/-
  The draw of a number below a bound.
-/
namespace Go.Proofs.Ytcnaahajaaifjaa
open Go.RowKit

theorem Drawn.below {w w1 w2 : World} {p : Nat} {ad : Option Addr} {len cap : Nat} (h : Drawn w w1 p ad len cap) (hb : Below w.heap.size w1 w2) (hp : p < w.heap.size) : Drawn w w2 p ad len cap :=
  ⟨⟨hb.os.trans h.1.os, hb.tape.trans h.1.tape, hb.output.trans h.1.output, Nat.le_trans h.1.size hb.size, fun j hj hr => (hb.block j hj).trans (h.1.block j hj hr)⟩, h.2.below hb hp⟩

set_option maxHeartbeats 400000 in
theorem below_any (n : Int) (p : Nat) (ad : Option Addr) (len cap B : Nat) (w : World) (hn : n ≤ 1000000000000) (hl : len ≤ 1048576) (hc : CurIn w p ad len cap) (hd : CodeIn w ad len B) (hB : B ≤ p) :
    Calls Try.prog 38 #[.pointer (some ⟨p, 0, none⟩), .int .i64 n] w fun e w' => ∃ x : Int, e = .returned (.int .i64 x) ∧ 0 ≤ x ∧ (0 < n → x < n) ∧ (n ≤ 0 → x = 0) ∧ Drawn w w' p ad len cap := by
  have hpw := hc.2.2.2.2.2
  have HC := hide hc
  have HD := hide hd
  clear hc hd
  by_cases h1 : n ≤ 0
  · go_enter Try.func38, Try.ntmps38
    go_wp2
    go_ret
    exact ⟨0, rfl, by omega, fun h => by omega, fun _ => rfl, Drawn.refl HC.out⟩
  · by_cases h2 : n ≤ 256
    · go_enter Try.func38, Try.ntmps38
      go_wp2_with fail
      refine (byte_any p ad len cap B _ hl HC.out HD.out hB).mono ?_
      rintro e w1 ⟨x, rfl, x0, x1, g1, c1⟩
      have D1 : Hid (Drawn w w1 p ad len cap) := ⟨g1, c1⟩
      clear g1 c1
      have m0 := Int.emod_nonneg x (show n ≠ 0 by omega)
      have m1 := Int.emod_lt_of_pos x (show 0 < n by omega)
      have nz : (n == 0) = false := by rw [beq_eq_false_iff_ne]; omega
      go_wp2
      go_ret
      exact ⟨x % n, rfl, m0, fun _ => m1, fun h => by omega, D1.out⟩
    · go_enter Try.func38, Try.ntmps38
      go_wp2_with fail
      refine (byte_any p ad len cap B _ hl HC.out HD.out hB).mono ?_
      rintro e w1 ⟨x, rfl, x0, x1, g1, c1⟩
      have D1 : Hid (Drawn w w1 p ad len cap) := ⟨g1, c1⟩
      have HD1 := hide (D1.out.code HD.out hB hpw)
      have hp1 := c1.2.2.2.2.2
      clear g1 c1 HD HC
      go_wp2_with fail
      refine (byte_any p ad len cap B _ hl D1.out.2 HD1.out hB).mono ?_
      rintro e w2 ⟨y, rfl, y0, y1, g1, c1⟩
      have D2 : Hid (Drawn w1 w2 p ad len cap) := ⟨g1, c1⟩
      have HD2 := hide (D2.out.code HD1.out hB hp1)
      have hp2 := c1.2.2.2.2.2
      clear g1 c1 HD1
      go_wp2_with fail
      refine (byte_any p ad len cap B _ hl D2.out.2 HD2.out hB).mono ?_
      rintro e w3 ⟨z, rfl, z0, z1, g1, c1⟩
      have D3 : Hid (Drawn w2 w3 p ad len cap) := ⟨g1, c1⟩
      have HD3 := hide (D3.out.code HD2.out hB hp2)
      clear g1 c1 HD2
      go_wp2_with fail
      refine (byte_any p ad len cap B _ hl D3.out.2 HD3.out hB).mono ?_
      rintro e w4 ⟨u, rfl, u0, u1, g1, c1⟩
      have D4 : Hid (Drawn w3 w4 p ad len cap) := ⟨g1, c1⟩
      have DD := hide (((D1.out.trans D2.out).trans D3.out).trans D4.out)
      clear g1 c1 HD3 D1 D2 D3 D4
      have m0 := Int.emod_nonneg (x * 16777216 + y * 65536 + z * 256 + u) (show n ≠ 0 by omega)
      have m1 := Int.emod_lt_of_pos (x * 16777216 + y * 65536 + z * 256 + u) (show 0 < n by omega)
      have nz : (n == 0) = false := by rw [beq_eq_false_iff_ne]; omega
      go_wp2
      go_ret
      exact ⟨(x * 16777216 + y * 65536 + z * 256 + u) % n, rfl, m0, fun _ => m1, fun h => by omega, DD.out⟩
end Go.Proofs.Ytcnaahajaaifjaa

/-
  The draw of one time in so many.
-/
namespace Go.Proofs.Ytcnaahajaaifjaa
open Go.RowKit

set_option maxHeartbeats 400000 in
theorem once_any (n : Int) (p : Nat) (ad : Option Addr) (len cap B : Nat) (w : World) (hn : n ≤ 1000000000000) (hl : len ≤ 1048576) (hc : CurIn w p ad len cap) (hd : CodeIn w ad len B) (hB : B ≤ p) :
    Calls Try.prog 37 #[.pointer (some ⟨p, 0, none⟩), .int .i64 n] w fun e w' => ∃ b : Bool, e = .returned (.bool b) ∧ Drawn w w' p ad len cap := by
  have HC := hide hc
  have HD := hide hd
  clear hc hd
  go_enter Try.func37, Try.ntmps37
  go_wp2_with fail
  refine (below_any n p ad len cap B _ hn hl HC.out HD.out hB).mono ?_
  rintro e w1 ⟨x, rfl, x0, _, _, D1⟩
  have HD1 := hide D1
  clear D1
  go_wp2
  all_goals
    go_ret
    exact ⟨_, rfl, HD1.out⟩
end Go.Proofs.Ytcnaahajaaifjaa

/-
  The draw of one of some numbers: which it may be.
-/
namespace Go.Proofs.Ytcnaahajaaifjaa
open Go.RowKit

set_option maxHeartbeats 400000 in
theorem pickIn_any (g : Nat) (ls : List Int) (p : Nat) (ad : Option Addr) (len cap B : Nat) (w : World) (h0 : 0 < ls.length) (h1 : ls.length ≤ 1000) (hg : g ≠ p)
    (hcells : ∀ j, j < ls.length → w.cell? ⟨g, j, none⟩ = some (.int .i64 (ls.getD j 0))) (hl : len ≤ 1048576) (hc : CurIn w p ad len cap) (hd : CodeIn w ad len B) (hB : B ≤ p) :
    Calls Try.prog 79 #[.pointer (some ⟨p, 0, none⟩), .slice (some ⟨g, 0, none⟩) ls.length ls.length] w fun e w' => ∃ x : Int, e = .returned (.int .i64 x) ∧ Hid (x ∈ ls) ∧ Drawn w w' p ad len cap := by
  have HC := hide hc
  have HD := hide hd
  have HL := hide hcells
  clear hc hd hcells
  go_enter Try.func79, Try.ntmps79
  go_wp2_with fail
  refine (below_any (ls.length : Int) p ad len cap B _ (by omega) hl HC.out HD.out hB).mono ?_
  rintro e w1 ⟨x, rfl, x0, x1, _, D1⟩
  have x2 := x1 (by omega)
  obtain ⟨j, rfl⟩ := Int.eq_ofNat_of_zero_le x0
  have hcw := HL.out j (by omega)
  have hgw : g < w.heap.size := World.block_lt_of_cell? w _ hcw
  have hc1 : w1.cell? ⟨g, j, none⟩ = some (.int .i64 (ls.getD j 0)) := by
    rw [World.cell?_of_block (w := w) (D1.1.block g hgw (by simpa using hg))]; exact hcw
  have hmem : Hid (ls.getD j 0 ∈ ls) := by
    show _ ∈ _
    rw [List.getD_eq_getElem?_getD, List.getElem?_eq_getElem (by omega)]
    exact List.getElem_mem _
  obtain ⟨y, hy⟩ : ∃ y, ls.getD j 0 = y := ⟨_, rfl⟩
  rw [hy] at hc1 hmem
  have HD1 := hide D1
  clear D1 hcw hy x1
  go_wp2
  go_ret
  exact ⟨y, rfl, hmem, HD1.out⟩
end Go.Proofs.Ytcnaahajaaifjaa

/-
  The draw of a right record: spec.l09Rec.
-/
namespace Go.Proofs.Ytcnaahajaaifjaa
open Go.RowKit
open Words

/-- What the draws of records hold: the cursor p, the result's variable in gr, the record in gp. -/
def DRt (w W : World) (p : Nat) (ad : Option Addr) (len cap gr gp : Nat) (cs : Array Value) : Prop :=
  Drawn w W p ad len cap ∧ w.heap.size ≤ gr ∧ gr < gp ∧ W.heap[gr]? = some (.cells #[.int .i64 0, .int .i64 0, .int .i64 0, .int .i64 0] 31 (0, 0)) ∧ W.heap[gp]? = some (.cells cs 31 (0, 0))
theorem DRt.drawn {w W W' : World} {p : Nat} {ad : Option Addr} {len cap gr gp : Nat} {cs : Array Value} (h : DRt w W p ad len cap gr gp cs) (d : Drawn W W' p ad len cap) (hp : p < w.heap.size) : DRt w W' p ad len cap gr gp cs := by
  obtain ⟨h1, h2, h3, h4, h5⟩ := h
  have l4 := (Array.getElem?_eq_some_iff.1 h4).1
  have l5 := (Array.getElem?_eq_some_iff.1 h5).1
  exact ⟨h1.trans d, h2, h3, (d.1.block gr l4 (by simp; omega)).trans h4, (d.1.block gp l5 (by simp; omega)).trans h5⟩
theorem drawn_put {w W : World} {p g k : Nat} {ad : Option Addr} {len cap : Nat} {v : Value} (h : Drawn w W p ad len cap) (hp : p < w.heap.size) (hg : w.heap.size ≤ g) : Drawn w (W.setCell ⟨g, k, none⟩ v) p ad len cap :=
  h.below ((Below.refl _ _).setCell hg _) hp
theorem DRt.set {w W : World} {p : Nat} {ad : Option Addr} {len cap gr gp : Nat} {cs : Array Value} (h : DRt w W p ad len cap gr gp cs) (hp : p < w.heap.size) (k : Nat) (v : Value) : DRt w (W.setCell ⟨gp, k, none⟩ v) p ad len cap gr gp (cs.setIfInBounds k v) := by
  obtain ⟨h1, h2, h3, h4, h5⟩ := h
  exact ⟨drawn_put h1 hp (by omega), h2, h3, (Below.heap_setCell _ _ _ _ (by simp; omega)).trans h4, heap_setCell_same _ _ _ _ _ _ h5⟩
theorem DRt.at_ {w W : World} {p : Nat} {ad : Option Addr} {len cap gr gp : Nat} {cs : Array Value} (h : DRt w W p ad len cap gr gp cs) (k : Nat) (v : Value) (hv : cs[k]? = some v) : W.cell? ⟨gp, k, none⟩ = some v ∧ W.frozen? ⟨gp, k, none⟩ = false :=
  ⟨cell_of_row _ _ k _ _ _ h.2.2.2.2 ▸ hv, frozen_of_row _ _ k _ _ h.2.2.2.2⟩
theorem DRt.below {w W W' : World} {p : Nat} {ad : Option Addr} {len cap gr gp : Nat} {cs : Array Value} (h : DRt w W p ad len cap gr gp cs) (hp : p < w.heap.size) (b : Below W.heap.size W W') : DRt w W' p ad len cap gr gp cs := by
  obtain ⟨h1, h2, h3, h4, h5⟩ := h
  exact ⟨h1.below (b.mono h1.1.size) hp, h2, h3, (b.block _ (Array.getElem?_eq_some_iff.1 h4).1).trans h4, (b.block _ (Array.getElem?_eq_some_iff.1 h5).1).trans h5⟩
theorem four_cs {w : World} {g : Nat} {t : TypeId} {y0 y1 y2 y3 a b c d : Value} (h : w.heap[g]? = some (.cells #[y0, y1, y2, y3] t (0, 0))) :
    ((((w.setCell ⟨g, 0, none⟩ a).setCell ⟨g, 1, none⟩ b).setCell ⟨g, 2, none⟩ c).setCell ⟨g, 3, none⟩ d).heap[g]? = some (.cells #[a, b, c, d] t (0, 0)) :=
  heap_setCell_same _ _ 3 _ _ _ (heap_setCell_same _ _ 2 _ _ _ (heap_setCell_same _ _ 1 _ _ _ (heap_setCell_same _ _ 0 _ _ _ h)))
theorem four_drawn {w W : World} {p g : Nat} {ad : Option Addr} {len cap : Nat} {a b c d : Value} (h : Drawn w W p ad len cap) (hp : p < w.heap.size) (hg : w.heap.size ≤ g) :
    Drawn w ((((W.setCell ⟨g, 0, none⟩ a).setCell ⟨g, 1, none⟩ b).setCell ⟨g, 2, none⟩ c).setCell ⟨g, 3, none⟩ d) p ad len cap :=
  drawn_put (drawn_put (drawn_put (drawn_put h hp hg) hp hg) hp hg) hp hg

/-- A record as it is drawn. -/
def RcDr (r : Rc) : Prop := r.Right ∧ 2 ≤ r.kind ∧ r.vol ≤ 3 ∧ r.chunk ≤ 9
set_option maxHeartbeats 4000000 in
set_option maxRecDepth 100000 in
theorem drecK (p : Nat) (ad : Option Addr) (len cap B : Nat) (w : World) (hl : len ≤ 1048576) (hc : CurIn w p ad len cap) (hd : CodeIn w ad len B) (hB : B ≤ p) :
    Calls Try.prog 36 #[.pointer (some ⟨p, 0, none⟩)] w fun e w' => ∃ r : Rc, e = .returned (rcVal r) ∧ RcDr r ∧ Drawn w w' p ad len cap := by
  have hpw := hc.2.2.2.2.2
  have HD := hide hd
  have bz : Below w.heap.size w (w.alloc (.cells #[.int .i64 0, .int .i64 0, .int .i64 0, .int .i64 0] 31)) := (Below.refl w.heap.size w).alloc (Nat.le_refl _) _
  have by1 : Below (w.heap.size + 1) (w.alloc (.cells #[.int .i64 0, .int .i64 0, .int .i64 0, .int .i64 0] 31)) ((w.alloc (.cells #[.int .i64 0, .int .i64 0, .int .i64 0, .int .i64 0] 31)).alloc (.cells #[.int .i64 2, .int .i64 2, .int .i64 3, .int .i64 4, .int .i64 4, .int .i64 4, .int .i64 4, .int .i64 4, .int .i64 5] 3)) := (Below.refl _ _).alloc (by simp) _
  have D0 := hide ((Drawn.refl hc).below (bz.trans (by1.mono (by omega))) hpw)
  have Z0 := hide ((by1.block w.heap.size (by omega)).trans (heap_alloc_new w (.cells #[.int .i64 0, .int .i64 0, .int .i64 0, .int .i64 0] 31)))
  have HCL : Hid (∀ j, j < ([2, 2, 3, 4, 4, 4, 4, 4, 5] : List Int).length → ((w.alloc (.cells #[.int .i64 0, .int .i64 0, .int .i64 0, .int .i64 0] 31)).alloc (.cells #[.int .i64 2, .int .i64 2, .int .i64 3, .int .i64 4, .int .i64 4, .int .i64 4, .int .i64 4, .int .i64 4, .int .i64 5] 3)).cell? ⟨w.heap.size + 1, j, none⟩ = some (.int .i64 (([2, 2, 3, 4, 4, 4, 4, 4, 5] : List Int).getD j 0))) := by
    intro j hj
    have h1 := heap_alloc_new (w.alloc (.cells #[.int .i64 0, .int .i64 0, .int .i64 0, .int .i64 0] 31)) (.cells #[.int .i64 2, .int .i64 2, .int .i64 3, .int .i64 4, .int .i64 4, .int .i64 4, .int .i64 4, .int .i64 4, .int .i64 5] 3)
    rw [show (w.alloc (.cells #[.int .i64 0, .int .i64 0, .int .i64 0, .int .i64 0] 31)).heap.size = w.heap.size + 1 by simp] at h1
    rw [cell_of_row _ _ j _ _ _ h1]
    match j, hj with
    | 0, _ => rfl | 1, _ => rfl | 2, _ => rfl | 3, _ => rfl | 4, _ => rfl | 5, _ => rfl | 6, _ => rfl | 7, _ => rfl | 8, _ => rfl
  clear hc hd bz by1
  go_enter Try.func36, Try.ntmps36
  go_wp2_with fail
  generalize (w.alloc (.cells #[.int .i64 0, .int .i64 0, .int .i64 0, .int .i64 0] 31)).alloc (.cells #[.int .i64 2, .int .i64 2, .int .i64 3, .int .i64 4, .int .i64 4, .int .i64 4, .int .i64 4, .int .i64 4, .int .i64 5] 3) = w0 at D0 Z0 HCL ⊢
  refine (pickIn_any (w.heap.size + 1) [2, 2, 3, 4, 4, 4, 4, 4, 5] p ad len cap B _ (by simp) (by simp) (by omega) HCL.out hl D0.out.2 (D0.out.code HD.out hB hpw) hB).mono ?_
  rintro e w1 ⟨x, rfl, hx, d1⟩
  have D1 := hide (D0.out.trans d1)
  have Z1 := hide ((d1.1.block w.heap.size (Array.getElem?_eq_some_iff.1 Z0.out).1 (by simp; omega)).trans Z0.out)
  clear d1 D0 Z0 HCL
  go_wp2_with fail
  refine (below_any 3 p ad len cap B _ (by omega) hl D1.out.2 (D1.out.code HD.out hB hpw) hB).mono ?_
  rintro e w2 ⟨y, rfl, y0, y1, -, d2⟩
  have y2 := y1 (by omega)
  have D2 := hide (D1.out.trans d2)
  have Z2 := hide ((d2.1.block w.heap.size (Array.getElem?_eq_some_iff.1 Z1.out).1 (by simp; omega)).trans Z1.out)
  clear d2 D1 Z1 y1
  have l1 : w.heap.size < w2.heap.size := (Array.getElem?_eq_some_iff.1 Z2.out).1
  have wy : IntKind.i64.wrap (1 + y) = 1 + y := by rw [IntKind.wrap_i64]; omega
  have P0 : Hid (DRt w (w2.alloc (.cells #[.int .i64 x, .int .i64 (1 + y), .int .i64 0, .int .i64 0] 31)) p ad len cap w.heap.size w2.heap.size #[.int .i64 x, .int .i64 (1 + y), .int .i64 0, .int .i64 0]) := by
    have ba : Below w2.heap.size w2 (w2.alloc (.cells #[.int .i64 x, .int .i64 (1 + y), .int .i64 0, .int .i64 0] 31)) := (Below.refl _ _).alloc (Nat.le_refl _) _
    exact ⟨D2.out.below (ba.mono D2.out.1.size) hpw, Nat.le_refl _, l1, (ba.block _ l1).trans Z2.out, heap_alloc_new _ _⟩
  clear D2 Z2
  have hx4 : x = 2 ∨ x = 3 ∨ x = 4 ∨ x = 5 := by have := hx.out; simp at this; omega
  clear hx
  obtain ⟨sc, hsc⟩ : ∃ sc, w2.heap.size = sc := ⟨_, rfl⟩
  rw [hsc] at P0
  rcases hx4 with hx | hx | hx | hx
  · subst hx
    have v0 := (P0.out.at_ 0 _ rfl).1
    have ba : Below (w2.alloc (.cells #[.int .i64 2, .int .i64 (1 + y), .int .i64 0, .int .i64 0] 31)).heap.size (w2.alloc (.cells #[.int .i64 2, .int .i64 (1 + y), .int .i64 0, .int .i64 0] 31)) ((w2.alloc (.cells #[.int .i64 2, .int .i64 (1 + y), .int .i64 0, .int .i64 0] 31)).alloc (.cells #[.int .i64 0, .int .i64 0, .int .i64 1, .int .i64 2] 3)) := (Below.refl _ _).alloc (Nat.le_refl _) _
    have P1 := hide (P0.out.below hpw ba)
    have HCL : Hid (∀ j, j < ([0, 0, 1, 2] : List Int).length → ((w2.alloc (.cells #[.int .i64 2, .int .i64 (1 + y), .int .i64 0, .int .i64 0] 31)).alloc (.cells #[.int .i64 0, .int .i64 0, .int .i64 1, .int .i64 2] 3)).cell? ⟨w2.heap.size + 1, j, none⟩ = some (.int .i64 (([0, 0, 1, 2] : List Int).getD j 0))) := by
      intro j hj
      have h1 := heap_alloc_new (w2.alloc (.cells #[.int .i64 2, .int .i64 (1 + y), .int .i64 0, .int .i64 0] 31)) (.cells #[.int .i64 0, .int .i64 0, .int .i64 1, .int .i64 2] 3)
      rw [show (w2.alloc (.cells #[.int .i64 2, .int .i64 (1 + y), .int .i64 0, .int .i64 0] 31)).heap.size = w2.heap.size + 1 by simp] at h1
      rw [cell_of_row _ _ j _ _ _ h1]
      match j, hj with
      | 0, _ => rfl | 1, _ => rfl | 2, _ => rfl | 3, _ => rfl
    rw [hsc] at HCL
    clear ba P0
    go_wp2_with fail
    try rw [hsc]
    generalize (w2.alloc (.cells #[.int .i64 2, .int .i64 (1 + y), .int .i64 0, .int .i64 0] 31)).alloc (.cells #[.int .i64 0, .int .i64 0, .int .i64 1, .int .i64 2] 3) = x1 at P1 HCL ⊢
    refine (pickIn_any (sc + 1) [0, 0, 1, 2] p ad len cap B _ (by simp) (by simp) (by omega) HCL.out hl P1.out.1.2 (P1.out.1.code HD.out hB hpw) hB).mono ?_
    rintro e w3 ⟨z, rfl, hz, d3⟩
    have hz4 : 0 ≤ z ∧ z ≤ 2 := by have := hz.out; simp at this; omega
    have P3 := hide (P1.out.drawn d3 hpw)
    clear d3 P1 HCL hz hsc v0
    obtain ⟨q0, g0⟩ := P3.out.at_ 2 _ rfl
    have P4 := hide (P3.out.set hpw 2 (.int .i64 z))
    change Hid (DRt w _ p ad len cap w.heap.size sc #[.int .i64 2, .int .i64 (1 + y), .int .i64 z, .int .i64 0]) at P4
    clear P3
    obtain ⟨u0, -⟩ := P4.out.at_ 0 _ rfl
    obtain ⟨u1, -⟩ := P4.out.at_ 1 _ rfl
    obtain ⟨u2, -⟩ := P4.out.at_ 2 _ rfl
    obtain ⟨u3, -⟩ := P4.out.at_ 3 _ rfl
    have Z := P4.out.2.2.2.1
    have c0 := cell_of_row _ _ 0 _ _ _ Z
    have f0 := frozen_of_row _ _ 0 _ _ Z
    have c1 := cell_of_row _ _ 1 _ _ _ Z
    have f1 := frozen_of_row _ _ 1 _ _ Z
    have c2 := cell_of_row _ _ 2 _ _ _ Z
    have f2 := frozen_of_row _ _ 2 _ _ Z
    have c3 := cell_of_row _ _ 3 _ _ _ Z
    have f3 := frozen_of_row _ _ 3 _ _ Z
    have Z6 := four_cs (a := .int .i64 2) (b := .int .i64 (1 + y)) (c := .int .i64 z) (d := .int .i64 0) Z
    have B6 := hide (four_drawn (a := .int .i64 2) (b := .int .i64 (1 + y)) (c := .int .i64 z) (d := .int .i64 0) P4.out.1 hpw P4.out.2.1)
    have r0 := cell_of_row _ _ 0 _ _ _ Z6
    have r1 := cell_of_row _ _ 1 _ _ _ Z6
    have r2 := cell_of_row _ _ 2 _ _ _ Z6
    have r3 := cell_of_row _ _ 3 _ _ _ Z6
    clear Z Z6
    go_wp2
    exact bodyPost_ret (v := .agg #[.int .i64 2, .int .i64 (1 + y), .int .i64 z, .int .i64 0]) (by simp [results, Try.results36, go_sem, r0, r1, r2, r3]) rfl ⟨⟨2, 1 + y, z, 0⟩, rfl, ⟨(rc_spec _ _ _ _).2 (by omega), by dsimp only; omega⟩, B6.out⟩
  · subst hx
    have v0 := (P0.out.at_ 0 _ rfl).1
    obtain ⟨u0, -⟩ := P0.out.at_ 0 _ rfl
    obtain ⟨u1, -⟩ := P0.out.at_ 1 _ rfl
    obtain ⟨u2, -⟩ := P0.out.at_ 2 _ rfl
    obtain ⟨u3, -⟩ := P0.out.at_ 3 _ rfl
    have Z := P0.out.2.2.2.1
    have c0 := cell_of_row _ _ 0 _ _ _ Z
    have f0 := frozen_of_row _ _ 0 _ _ Z
    have c1 := cell_of_row _ _ 1 _ _ _ Z
    have f1 := frozen_of_row _ _ 1 _ _ Z
    have c2 := cell_of_row _ _ 2 _ _ _ Z
    have f2 := frozen_of_row _ _ 2 _ _ Z
    have c3 := cell_of_row _ _ 3 _ _ _ Z
    have f3 := frozen_of_row _ _ 3 _ _ Z
    have Z6 := four_cs (a := .int .i64 3) (b := .int .i64 (1 + y)) (c := .int .i64 0) (d := .int .i64 0) Z
    have B6 := hide (four_drawn (a := .int .i64 3) (b := .int .i64 (1 + y)) (c := .int .i64 0) (d := .int .i64 0) P0.out.1 hpw P0.out.2.1)
    have r0 := cell_of_row _ _ 0 _ _ _ Z6
    have r1 := cell_of_row _ _ 1 _ _ _ Z6
    have r2 := cell_of_row _ _ 2 _ _ _ Z6
    have r3 := cell_of_row _ _ 3 _ _ _ Z6
    clear Z Z6
    go_wp2
    exact bodyPost_ret (v := .agg #[.int .i64 3, .int .i64 (1 + y), .int .i64 0, .int .i64 0]) (by simp [results, Try.results36, go_sem, r0, r1, r2, r3]) rfl ⟨⟨3, 1 + y, 0, 0⟩, rfl, ⟨(rc_spec _ _ _ _).2 (by omega), by dsimp only; omega⟩, B6.out⟩
  · subst hx
    have v0 := (P0.out.at_ 0 _ rfl).1
    go_wp2_with fail
    try rw [hsc]
    generalize w2.alloc (.cells #[.int .i64 4, .int .i64 (1 + y), .int .i64 0, .int .i64 0] 31) = x1 at P0 v0 ⊢
    refine (below_any 16 p ad len cap B _ (by omega) hl P0.out.1.2 (P0.out.1.code HD.out hB hpw) hB).mono ?_
    rintro e w3 ⟨z, rfl, z0, z1, -, d3⟩
    have z2 := z1 (by omega)
    have P3 := hide (P0.out.drawn d3 hpw)
    clear d3 P0 z1 hsc v0
    obtain ⟨q0, g0⟩ := P3.out.at_ 2 _ rfl
    have P4 := hide (P3.out.set hpw 2 (.int .i64 z))
    change Hid (DRt w _ p ad len cap w.heap.size sc #[.int .i64 4, .int .i64 (1 + y), .int .i64 z, .int .i64 0]) at P4
    clear P3
    go_wp2_with fail
    generalize w3.setCell ⟨sc, 2, none⟩ (.int .i64 z) = x3 at P4 ⊢
    refine (below_any 9 p ad len cap B _ (by omega) hl P4.out.1.2 (P4.out.1.code HD.out hB hpw) hB).mono ?_
    rintro e w5 ⟨u, rfl, t0, t1, -, d5⟩
    have t2 := t1 (by omega)
    have P5 := hide (P4.out.drawn d5 hpw)
    clear d5 P4 t1 q0 g0
    have wu : IntKind.i64.wrap (1 + u) = 1 + u := by rw [IntKind.wrap_i64]; omega
    obtain ⟨q0, g0⟩ := P5.out.at_ 3 _ rfl
    have P6 := hide (P5.out.set hpw 3 (.int .i64 (1 + u)))
    change Hid (DRt w _ p ad len cap w.heap.size sc #[.int .i64 4, .int .i64 (1 + y), .int .i64 z, .int .i64 (1 + u)]) at P6
    clear P5
    obtain ⟨u0, -⟩ := P6.out.at_ 0 _ rfl
    obtain ⟨u1, -⟩ := P6.out.at_ 1 _ rfl
    obtain ⟨u2, -⟩ := P6.out.at_ 2 _ rfl
    obtain ⟨u3, -⟩ := P6.out.at_ 3 _ rfl
    have Z := P6.out.2.2.2.1
    have c0 := cell_of_row _ _ 0 _ _ _ Z
    have f0 := frozen_of_row _ _ 0 _ _ Z
    have c1 := cell_of_row _ _ 1 _ _ _ Z
    have f1 := frozen_of_row _ _ 1 _ _ Z
    have c2 := cell_of_row _ _ 2 _ _ _ Z
    have f2 := frozen_of_row _ _ 2 _ _ Z
    have c3 := cell_of_row _ _ 3 _ _ _ Z
    have f3 := frozen_of_row _ _ 3 _ _ Z
    have Z6 := four_cs (a := .int .i64 4) (b := .int .i64 (1 + y)) (c := .int .i64 z) (d := .int .i64 (1 + u)) Z
    have B6 := hide (four_drawn (a := .int .i64 4) (b := .int .i64 (1 + y)) (c := .int .i64 z) (d := .int .i64 (1 + u)) P6.out.1 hpw P6.out.2.1)
    have r0 := cell_of_row _ _ 0 _ _ _ Z6
    have r1 := cell_of_row _ _ 1 _ _ _ Z6
    have r2 := cell_of_row _ _ 2 _ _ _ Z6
    have r3 := cell_of_row _ _ 3 _ _ _ Z6
    clear Z Z6
    go_wp2
    exact bodyPost_ret (v := .agg #[.int .i64 4, .int .i64 (1 + y), .int .i64 z, .int .i64 (1 + u)]) (by simp [results, Try.results36, go_sem, r0, r1, r2, r3]) rfl ⟨⟨4, 1 + y, z, 1 + u⟩, rfl, ⟨(rc_spec _ _ _ _).2 (by omega), by dsimp only; omega⟩, B6.out⟩
  · subst hx
    have v0 := (P0.out.at_ 0 _ rfl).1
    go_wp2_with fail
    try rw [hsc]
    generalize w2.alloc (.cells #[.int .i64 5, .int .i64 (1 + y), .int .i64 0, .int .i64 0] 31) = x1 at P0 v0 ⊢
    refine (below_any 16 p ad len cap B _ (by omega) hl P0.out.1.2 (P0.out.1.code HD.out hB hpw) hB).mono ?_
    rintro e w3 ⟨z, rfl, z0, z1, -, d3⟩
    have z2 := z1 (by omega)
    have P3 := hide (P0.out.drawn d3 hpw)
    clear d3 P0 z1 hsc v0
    obtain ⟨q0, g0⟩ := P3.out.at_ 2 _ rfl
    have P4 := hide (P3.out.set hpw 2 (.int .i64 z))
    change Hid (DRt w _ p ad len cap w.heap.size sc #[.int .i64 5, .int .i64 (1 + y), .int .i64 z, .int .i64 0]) at P4
    clear P3
    obtain ⟨u0, -⟩ := P4.out.at_ 0 _ rfl
    obtain ⟨u1, -⟩ := P4.out.at_ 1 _ rfl
    obtain ⟨u2, -⟩ := P4.out.at_ 2 _ rfl
    obtain ⟨u3, -⟩ := P4.out.at_ 3 _ rfl
    have Z := P4.out.2.2.2.1
    have c0 := cell_of_row _ _ 0 _ _ _ Z
    have f0 := frozen_of_row _ _ 0 _ _ Z
    have c1 := cell_of_row _ _ 1 _ _ _ Z
    have f1 := frozen_of_row _ _ 1 _ _ Z
    have c2 := cell_of_row _ _ 2 _ _ _ Z
    have f2 := frozen_of_row _ _ 2 _ _ Z
    have c3 := cell_of_row _ _ 3 _ _ _ Z
    have f3 := frozen_of_row _ _ 3 _ _ Z
    have Z6 := four_cs (a := .int .i64 5) (b := .int .i64 (1 + y)) (c := .int .i64 z) (d := .int .i64 0) Z
    have B6 := hide (four_drawn (a := .int .i64 5) (b := .int .i64 (1 + y)) (c := .int .i64 z) (d := .int .i64 0) P4.out.1 hpw P4.out.2.1)
    have r0 := cell_of_row _ _ 0 _ _ _ Z6
    have r1 := cell_of_row _ _ 1 _ _ _ Z6
    have r2 := cell_of_row _ _ 2 _ _ _ Z6
    have r3 := cell_of_row _ _ 3 _ _ _ Z6
    clear Z Z6
    go_wp2
    exact bodyPost_ret (v := .agg #[.int .i64 5, .int .i64 (1 + y), .int .i64 z, .int .i64 0]) (by simp [results, Try.results36, go_sem, r0, r1, r2, r3]) rfl ⟨⟨5, 1 + y, z, 0⟩, rfl, ⟨(rc_spec _ _ _ _).2 (by omega), by dsimp only; omega⟩, B6.out⟩
theorem drec (p : Nat) (ad : Option Addr) (len cap B : Nat) (w : World) (hl : len ≤ 1048576) (hc : CurIn w p ad len cap) (hd : CodeIn w ad len B) (hB : B ≤ p) :
    Calls Try.prog 36 #[.pointer (some ⟨p, 0, none⟩)] w fun e w' => ∃ r : Rc, e = .returned (rcVal r) ∧ r.Right ∧ Drawn w w' p ad len cap :=
  (drecK p ad len cap B w hl hc hd hB).mono fun _ _ ⟨r, h1, h2, h3⟩ => ⟨r, h1, h2.1, h3⟩
end Go.Proofs.Ytcnaahajaaifjaa
