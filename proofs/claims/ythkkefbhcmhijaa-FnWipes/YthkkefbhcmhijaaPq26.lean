/-
  D2o; D2t
-/
import Derived.Test.YthkkefbhcmhijaaD2
/-
  The draw of one time in so many.
-/
namespace Go.Proofs.Ythkkefbhcmhijaa
open Go.RowKit

set_option maxHeartbeats 400000 in
theorem once_any (n : Int) (p : Nat) (ad : Option Addr) (len cap B : Nat) (w : World) (hn : n ≤ 1000000000000) (hl : len ≤ 1048576) (hc : CurIn w p ad len cap) (hd : CodeIn w ad len B) (hB : B ≤ p) :
    Calls Try.prog 32 #[.pointer (some ⟨p, 0, none⟩), .int .i64 n] w fun e w' => ∃ b : Bool, e = .returned (.bool b) ∧ Drawn w w' p ad len cap := by
  have HC := hide hc
  have HD := hide hd
  clear hc hd
  go_enter Try.func32, Try.ntmps32
  go_wp2_with fail
  refine (below_any n p ad len cap B _ hn hl HC.out HD.out hB).mono ?_
  rintro e w1 ⟨x, rfl, x0, _, _, D1⟩
  have HD1 := hide D1
  clear D1
  go_wp2
  all_goals
    go_ret
    exact ⟨_, rfl, HD1.out⟩
end Go.Proofs.Ythkkefbhcmhijaa

/-
  The draw of a text.
-/
namespace Go.Proofs.Ythkkefbhcmhijaa
open Go.RowKit

set_option maxHeartbeats 400000 in
set_option maxRecDepth 100000 in
theorem text_any (n : Int) (p : Nat) (ad : Option Addr) (len cap B : Nat) (w : World) (hl : len ≤ 1048576) (hc : CurIn w p ad len cap) (hd : CodeIn w ad len B) (hB : B ≤ p) :
    Calls Try.prog 31 #[.pointer (some ⟨p, 0, none⟩), .int .i64 n] w fun e w' => ∃ t : List UInt8, e = .returned (.string ⟨t.toArray⟩) ∧ t.length ≤ 5000 ∧ (t.length : Int) ≤ max n 0 ∧ Drawn w w' p ad len cap := by
  obtain ⟨i0, hi, hz0, hz1, hz2⟩ := info_parts infoByte
  have hpw := hc.2.2.2.2.2
  have HC := hide hc
  have HD := hide hd
  clear hc hd
  obtain ⟨M, hM0, hM1, hM2⟩ : ∃ M : Nat, (M : Int) ≤ 5000 ∧ (M : Int) ≤ max n 0 ∧ ((5000 : Int) < n ∧ (M : Int) = 5000 ∨ ¬ (5000 : Int) < n ∧ (M : Int) = max n 0) := by
    by_cases h : (5000 : Int) < n
    · exact ⟨5000, by omega, by omega, .inl ⟨h, rfl⟩⟩
    · exact ⟨n.toNat, by omega, by omega, .inr ⟨h, by omega⟩⟩
  rcases hM2 with ⟨h1, h2⟩ | ⟨h1, h2⟩
  all_goals
    go_enter Try.func31, Try.ntmps31
    go_wp2
    go_loopw [5, 6] (fun out iv wr => ∃ t : List UInt8, t.length ≤ M ∧ iv = .int .i64 t.length ∧ wr.ownsRow w.heap.size 5 1 out t.length (bcells t) ∧ w.heap.size ≤ wr.heap.size ∧ Hid (Drawn w wr p ad len cap)) (fun _ iv _ => M - (intOf iv).toNat)
    case atStart => exact ⟨[], by simp, rfl, World.ownsRow_made w #[] 0 (Nat.le_refl _) (by unfold maxLen; omega) (by simp), by simp, Drawn.below (Drawn.refl HC.out) ((Below.refl _ _).alloc (Nat.le_refl _) _) hpw⟩
    case round =>
      obtain ⟨t, ht, rfl, hown, hsz, hdr⟩ := hrel
      by_cases hlt : (t.length : Int) < M
      · have hlt2 : (t.length : Int) < n := by omega
        have HDr := hide (hdr.out.code HD.out hB hpw)
        go_wp2_with fail
        refine (byte_any p ad len cap B _ hl hdr.out.2 HDr.out hB).mono ?_
        rintro e w1 ⟨x, rfl, x0, x1, g1, c1⟩
        have hlow := hown.lt
        have hown1 := hown.kept g1 (.inr (fun h => by have := hlow p h; omega))
        have D1 : Hid (Drawn w w1 p ad len cap) := hdr.out.trans ⟨g1, c1⟩
        have hs1 := g1.size
        clear g1 c1 hown hdr HDr
        go_wp2_with (at_builtin; refine wpList_append_own _ rfl _ _ 22 rfl w.heap.size 5 i0 (.int .u8 0) 1 1 Try.underlying22 hi hz0 hz1 hz2 rfl (by decide) _ _ _ rfl (by exact hown1.alloc _) ⟨w1.heap.size, 0, none⟩ 1 1 [Value.int .u8 _] rfl rfl (by exact one_cell _ _ _) (one_u8 _) (by unfold maxLen; omega) (by omega) (by simp; omega) ?_)
        intro v' w2 hown2 hgrow _
        have hb2 : Below w.heap.size w1 w2 := own_grown (Below.refl _ _) (by omega) hown1 hgrow
        have D2 : Hid (Drawn w w2 p ad len cap) := D1.out.below hb2 hpw
        rw [bcells_snoc t (UInt8.ofNat x.toNat) x (by rw [UInt8.toNat_ofNat']; omega)] at hown2
        have hs2 := hb2.size
        clear hown1 hgrow hb2 D1
        go_wp2
        go_roundw
        case rel => exact ⟨t ++ [UInt8.ofNat x.toNat], by simp; omega, by simp, by simpa using hown2, by omega, D2⟩
        case measure => simp [intOf]; omega
      · have hlt2 : ¬ (t.length : Int) < 5000 ∨ ¬ (t.length : Int) < n := by omega
        have hcv := conv_own wr _ t hown
        go_wp2
        go_ret
        exact ⟨t, rfl, by omega, by omega, hdr.out⟩
end Go.Proofs.Ythkkefbhcmhijaa
