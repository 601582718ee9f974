/-
  D2; D2o; D2t; D3p; D3l
-/
import Derived.Test.YtaolinlginloaacDoorDraw
/-
  The draw of a number below a bound.
-/
namespace Go.Proofs.YtaolinlginloaacDoor
open Go.RowKit

theorem Drawn.below {w w1 w2 : World} {p : Nat} {ad : Option Addr} {len cap : Nat} (h : Drawn w w1 p ad len cap) (hb : Below w.heap.size w1 w2) (hp : p < w.heap.size) : Drawn w w2 p ad len cap :=
  ⟨⟨hb.os.trans h.1.os, hb.tape.trans h.1.tape, hb.output.trans h.1.output, Nat.le_trans h.1.size hb.size, fun j hj hr => (hb.block j hj).trans (h.1.block j hj hr)⟩, h.2.below hb hp⟩

set_option maxHeartbeats 400000 in
theorem below_any (n : Int) (p : Nat) (ad : Option Addr) (len cap B : Nat) (w : World) (hn : n ≤ 1000000000000) (hl : len ≤ 1048576) (hc : CurIn w p ad len cap) (hd : CodeIn w ad len B) (hB : B ≤ p) :
    Calls Tryd.prog 60 #[.pointer (some ⟨p, 0, none⟩), .int .i64 n] w fun e w' => ∃ x : Int, e = .returned (.int .i64 x) ∧ 0 ≤ x ∧ (0 < n → x < n) ∧ (n ≤ 0 → x = 0) ∧ Drawn w w' p ad len cap := by
  have hpw := hc.2.2.2.2.2
  have HC := hide hc
  have HD := hide hd
  clear hc hd
  by_cases h1 : n ≤ 0
  · go_enter Tryd.func60, Tryd.ntmps60
    go_wp2
    go_ret
    exact ⟨0, rfl, by omega, fun h => by omega, fun _ => rfl, Drawn.refl HC.out⟩
  · by_cases h2 : n ≤ 256
    · go_enter Tryd.func60, Tryd.ntmps60
      go_wp2_with fail
      refine (byte_any p ad len cap B _ hl HC.out HD.out hB).mono ?_
      rintro e w1 ⟨x, rfl, x0, x1, g1, c1⟩
      have D1 : Hid (Drawn w w1 p ad len cap) := ⟨g1, c1⟩
      clear g1 c1
      have m0 := Int.emod_nonneg x (show n ≠ 0 by omega)
      have m1 := Int.emod_lt_of_pos x (show 0 < n by omega)
      have nz : (n == 0) = false := by rw [beq_eq_false_iff_ne]; omega
      go_wp2
      go_ret
      exact ⟨x % n, rfl, m0, fun _ => m1, fun h => by omega, D1.out⟩
    · go_enter Tryd.func60, Tryd.ntmps60
      go_wp2_with fail
      refine (byte_any p ad len cap B _ hl HC.out HD.out hB).mono ?_
      rintro e w1 ⟨x, rfl, x0, x1, g1, c1⟩
      have D1 : Hid (Drawn w w1 p ad len cap) := ⟨g1, c1⟩
      have HD1 := hide (D1.out.code HD.out hB hpw)
      have hp1 := c1.2.2.2.2.2
      clear g1 c1 HD HC
      go_wp2_with fail
      refine (byte_any p ad len cap B _ hl D1.out.2 HD1.out hB).mono ?_
      rintro e w2 ⟨y, rfl, y0, y1, g1, c1⟩
      have D2 : Hid (Drawn w1 w2 p ad len cap) := ⟨g1, c1⟩
      have HD2 := hide (D2.out.code HD1.out hB hp1)
      have hp2 := c1.2.2.2.2.2
      clear g1 c1 HD1
      go_wp2_with fail
      refine (byte_any p ad len cap B _ hl D2.out.2 HD2.out hB).mono ?_
      rintro e w3 ⟨z, rfl, z0, z1, g1, c1⟩
      have D3 : Hid (Drawn w2 w3 p ad len cap) := ⟨g1, c1⟩
      have HD3 := hide (D3.out.code HD2.out hB hp2)
      clear g1 c1 HD2
      go_wp2_with fail
      refine (byte_any p ad len cap B _ hl D3.out.2 HD3.out hB).mono ?_
      rintro e w4 ⟨u, rfl, u0, u1, g1, c1⟩
      have D4 : Hid (Drawn w3 w4 p ad len cap) := ⟨g1, c1⟩
      have DD := hide (((D1.out.trans D2.out).trans D3.out).trans D4.out)
      clear g1 c1 HD3 D1 D2 D3 D4
      have m0 := Int.emod_nonneg (x * 16777216 + y * 65536 + z * 256 + u) (show n ≠ 0 by omega)
      have m1 := Int.emod_lt_of_pos (x * 16777216 + y * 65536 + z * 256 + u) (show 0 < n by omega)
      have nz : (n == 0) = false := by rw [beq_eq_false_iff_ne]; omega
      go_wp2
      go_ret
      exact ⟨(x * 16777216 + y * 65536 + z * 256 + u) % n, rfl, m0, fun _ => m1, fun h => by omega, DD.out⟩
end Go.Proofs.YtaolinlginloaacDoor

/-
  The draw of one time in so many.
-/
namespace Go.Proofs.YtaolinlginloaacDoor
open Go.RowKit

set_option maxHeartbeats 400000 in
theorem once_any (n : Int) (p : Nat) (ad : Option Addr) (len cap B : Nat) (w : World) (hn : n ≤ 1000000000000) (hl : len ≤ 1048576) (hc : CurIn w p ad len cap) (hd : CodeIn w ad len B) (hB : B ≤ p) :
    Calls Tryd.prog 54 #[.pointer (some ⟨p, 0, none⟩), .int .i64 n] w fun e w' => ∃ b : Bool, e = .returned (.bool b) ∧ Drawn w w' p ad len cap := by
  have HC := hide hc
  have HD := hide hd
  clear hc hd
  go_enter Tryd.func54, Tryd.ntmps54
  go_wp2_with fail
  refine (below_any n p ad len cap B _ hn hl HC.out HD.out hB).mono ?_
  rintro e w1 ⟨x, rfl, x0, _, _, D1⟩
  have HD1 := hide D1
  clear D1
  go_wp2
  all_goals
    go_ret
    exact ⟨_, rfl, HD1.out⟩
end Go.Proofs.YtaolinlginloaacDoor

/-
  The draw of a text.
-/
namespace Go.Proofs.YtaolinlginloaacDoor
open Go.RowKit

set_option maxHeartbeats 400000 in
set_option maxRecDepth 100000 in
theorem text_any (n : Int) (p : Nat) (ad : Option Addr) (len cap B : Nat) (w : World) (hl : len ≤ 1048576) (hc : CurIn w p ad len cap) (hd : CodeIn w ad len B) (hB : B ≤ p) :
    Calls Tryd.prog 84 #[.pointer (some ⟨p, 0, none⟩), .int .i64 n] w fun e w' => ∃ t : List UInt8, e = .returned (.string ⟨t.toArray⟩) ∧ t.length ≤ 5000 ∧ (t.length : Int) ≤ max n 0 ∧ Drawn w w' p ad len cap := by
  obtain ⟨i0, hi, hz0, hz1, hz2⟩ := info_parts infoByte
  have hpw := hc.2.2.2.2.2
  have HC := hide hc
  have HD := hide hd
  clear hc hd
  obtain ⟨M, hM0, hM1, hM2⟩ : ∃ M : Nat, (M : Int) ≤ 5000 ∧ (M : Int) ≤ max n 0 ∧ ((5000 : Int) < n ∧ (M : Int) = 5000 ∨ ¬ (5000 : Int) < n ∧ (M : Int) = max n 0) := by
    by_cases h : (5000 : Int) < n
    · exact ⟨5000, by omega, by omega, .inl ⟨h, rfl⟩⟩
    · exact ⟨n.toNat, by omega, by omega, .inr ⟨h, by omega⟩⟩
  rcases hM2 with ⟨h1, h2⟩ | ⟨h1, h2⟩
  all_goals
    go_enter Tryd.func84, Tryd.ntmps84
    go_wp2
    go_loopw [5, 6] (fun out iv wr => ∃ t : List UInt8, t.length ≤ M ∧ iv = .int .i64 t.length ∧ wr.ownsRow w.heap.size 5 1 out t.length (bcells t) ∧ w.heap.size ≤ wr.heap.size ∧ Hid (Drawn w wr p ad len cap)) (fun _ iv _ => M - (intOf iv).toNat)
    case atStart => exact ⟨[], by simp, rfl, World.ownsRow_made w #[] 0 (Nat.le_refl _) (by unfold maxLen; omega) (by simp), by simp, Drawn.below (Drawn.refl HC.out) ((Below.refl _ _).alloc (Nat.le_refl _) _) hpw⟩
    case round =>
      obtain ⟨t, ht, rfl, hown, hsz, hdr⟩ := hrel
      by_cases hlt : (t.length : Int) < M
      · have hlt2 : (t.length : Int) < n := by omega
        have HDr := hide (hdr.out.code HD.out hB hpw)
        go_wp2_with fail
        refine (byte_any p ad len cap B _ hl hdr.out.2 HDr.out hB).mono ?_
        rintro e w1 ⟨x, rfl, x0, x1, g1, c1⟩
        have hlow := hown.lt
        have hown1 := hown.kept g1 (.inr (fun h => by have := hlow p h; omega))
        have D1 : Hid (Drawn w w1 p ad len cap) := hdr.out.trans ⟨g1, c1⟩
        have hs1 := g1.size
        clear g1 c1 hown hdr HDr
        go_wp2_with (at_builtin; refine wpList_append_own _ rfl _ _ 32 rfl w.heap.size 5 i0 (.int .u8 0) 1 1 Tryd.underlying32 hi hz0 hz1 hz2 rfl (by decide) _ _ _ rfl (by exact hown1.alloc _) ⟨w1.heap.size, 0, none⟩ 1 1 [Value.int .u8 _] rfl rfl (by exact one_cell _ _ _) (one_u8 _) (by unfold maxLen; omega) (by omega) (by simp; omega) ?_)
        intro v' w2 hown2 hgrow _
        have hb2 : Below w.heap.size w1 w2 := own_grown (Below.refl _ _) (by omega) hown1 hgrow
        have D2 : Hid (Drawn w w2 p ad len cap) := D1.out.below hb2 hpw
        rw [bcells_snoc t (UInt8.ofNat x.toNat) x (by rw [UInt8.toNat_ofNat']; omega)] at hown2
        have hs2 := hb2.size
        clear hown1 hgrow hb2 D1
        go_wp2
        go_roundw
        case rel => exact ⟨t ++ [UInt8.ofNat x.toNat], by simp; omega, by simp, by simpa using hown2, by omega, D2⟩
        case measure => simp [intOf]; omega
      · have hlt2 : ¬ (t.length : Int) < 5000 ∨ ¬ (t.length : Int) < n := by omega
        have hcv := conv_own wr _ t hown
        go_wp2
        go_ret
        exact ⟨t, rfl, by omega, by omega, hdr.out⟩
end Go.Proofs.YtaolinlginloaacDoor

/-
  A number out of a list.
-/
namespace Go.Proofs.YtaolinlginloaacDoor
open Go.RowKit

set_option maxHeartbeats 400000 in
theorem pickInt_any (g : Nat) (ls : List Int) (p : Nat) (ad : Option Addr) (len cap B : Nat) (w : World) (h0 : 0 < ls.length) (h1 : ls.length ≤ 1000) (hg : g ≠ p)
    (hcells : ∀ j, j < ls.length → w.cell? ⟨g, j, none⟩ = some (.int .i64 (ls.getD j 0))) (hl : len ≤ 1048576) (hc : CurIn w p ad len cap) (hd : CodeIn w ad len B) (hB : B ≤ p) :
    Calls Tryd.prog 76 #[.pointer (some ⟨p, 0, none⟩), .slice (some ⟨g, 0, none⟩) ls.length ls.length] w fun e w' => ∃ x : Int, e = .returned (.int .i64 x) ∧ Drawn w w' p ad len cap := by
  have HC := hide hc
  have HD := hide hd
  have HL := hide hcells
  clear hc hd hcells
  go_enter Tryd.func76, Tryd.ntmps76
  go_wp2_with fail
  refine (below_any (ls.length : Int) p ad len cap B _ (by omega) hl HC.out HD.out hB).mono ?_
  rintro e w1 ⟨x, rfl, x0, x1, _, D1⟩
  have x2 := x1 (by omega)
  obtain ⟨j, rfl⟩ := Int.eq_ofNat_of_zero_le x0
  have hcw := HL.out j (by omega)
  have hgw : g < w.heap.size := World.block_lt_of_cell? w _ hcw
  have hc1 : w1.cell? ⟨g, j, none⟩ = some (.int .i64 (ls.getD j 0)) := by
    rw [World.cell?_of_block (w := w) (D1.1.block g hgw (by simpa using hg))]; exact hcw
  obtain ⟨y, hy⟩ : ∃ y, ls.getD j 0 = y := ⟨_, rfl⟩
  rw [hy] at hc1
  have HD1 := hide D1
  clear D1 hcw hy x1
  go_wp2
  go_ret
  exact ⟨y, rfl, HD1.out⟩
end Go.Proofs.YtaolinlginloaacDoor

/-
  A long text.
-/
namespace Go.Proofs.YtaolinlginloaacDoor
open Go.RowKit

set_option maxHeartbeats 400000 in
set_option maxRecDepth 100000 in
theorem long_any (n x : Nat) (w : World) (hn : n ≤ 1048576) (hx : x < 256) :
    Calls Tryd.prog 77 #[.int .i64 n, .int .u8 x] w fun e w' => ∃ t : List UInt8, e = .returned (.string ⟨t.toArray⟩) ∧ t.length = n ∧ Below w.heap.size w w' := by
  obtain ⟨i0, hi, hz0, hz1, hz2⟩ := info_parts infoByte
  go_enter Tryd.func77, Tryd.ntmps77
  go_wp2_with (at_make; refine wpList_make_full _ rfl _ _ 32 rfl w.heap.size 5 i0 (.int .u8 0) 1 Tryd.underlying32 hi hz0 hz1 .i64 .i64 _ _ n rfl rfl rfl rfl (by rw [hz2]; omega) (by unfold maxLen; omega) (Nat.le_refl _) ?_)
  intro w2 hown2 hgrow2
  have hb2 : Below w.heap.size w w2 := (Below.refl _ _).grown hgrow2 (Nat.le_refl _) (fun k hk => by cases hk)
  rw [toList_madeCells_one] at hown2
  clear hgrow2
  go_wp2
  go_loopw [6] (fun iv wr => ∃ k : Nat, k ≤ n ∧ iv = .int .i64 k ∧ wr.ownsRow w.heap.size 5 1 (.slice (some ⟨w.heap.size, 0, none⟩) n n) n (List.replicate k (.int .u8 x) ++ List.replicate (n - k) (.int .u8 0)) ∧ Below w.heap.size w wr) (fun iv _ => n - (intOf iv).toNat)
  case atStart => exact ⟨0, Nat.zero_le _, rfl, hown2, hb2⟩
  case round =>
    clear hown2 hb2
    obtain ⟨k, hk, rfl, ho, hbel⟩ := hrel
    by_cases hlt : (k : Int) < n
    · have hz : k < (List.replicate k (Value.int .u8 x) ++ List.replicate (n - k) (Value.int .u8 0)).length := by simp; omega
      obtain ⟨u, hu⟩ : ∃ u, wr.cell? ⟨w.heap.size, k, none⟩ = some u := ⟨_, by simpa [addr_at] using ho.cells (g := w.heap.size) rfl k _ (List.getElem?_eq_getElem hz)⟩
      have hfz := ho.frozenAt k
      have hst := (ho.stored k (.int .u8 x)).1
      rw [zeros_set (List.replicate k (Value.int .u8 x)) (.int .u8 0) (.int .u8 x) n k (by simp) (by omega), ← List.replicate_succ'] at hst
      have hb1 := hbel.setCell (p := ⟨w.heap.size, k, none⟩) (Nat.le_refl _) (.int .u8 x)
      clear hz ho
      go_wp2
      go_roundw
      case rel => exact ⟨k + 1, by omega, by go_num, hst, hb1⟩
      case measure => simp [intOf]; omega
    · have hke : k = n := by omega
      rw [hke, Nat.sub_self, List.replicate_zero, List.append_nil] at ho
      have hbc : List.replicate n (Value.int .u8 x) = bcells (List.replicate n (UInt8.ofNat x)) := by
        unfold bcells
        rw [List.map_replicate, UInt8.toNat_ofNat', Nat.mod_eq_of_lt (by omega)]
      rw [hbc] at ho
      obtain ⟨t, ht⟩ : ∃ t, t = List.replicate n (UInt8.ofNat x) := ⟨_, rfl⟩
      have hcv : (convert 32 9 (.slice (some ⟨w.heap.size, 0, none⟩) n n)).run Tryd.prog wr = .ok (.string ⟨t.toArray⟩) wr := by
        rw [ht]
        exact conv_own (B := w.heap.size) wr _ (List.replicate n (UInt8.ofNat x)) (by rw [List.length_replicate]; exact ho)
      have HT : Hid (t.length = n) := by show _ = _; rw [ht]; simp
      clear hbc ht ho hke
      go_wp2
      go_ret
      exact ⟨t, rfl, HT.out, hbel⟩
end Go.Proofs.YtaolinlginloaacDoor
