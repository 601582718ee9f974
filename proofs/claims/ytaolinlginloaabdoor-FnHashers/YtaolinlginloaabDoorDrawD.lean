/-
  The draws of a text to be digested.
-/
import Derived.Test.YtaolinlginloaabDoorPick
namespace Go.Proofs.YtaolinlginloaabDoor
open Go.RowKit

theorem long_int' (n x : Int) (w : World) (h0 : 0 ≤ n) (hn : n ≤ 1048576) (hx0 : 0 ≤ x) (hx : x < 256) :
    Calls Tryd.prog 33 #[.int .i64 n, .int .u8 x] w fun e w' => ∃ t : List UInt8, e = .returned (.string ⟨t.toArray⟩) ∧ (t.length : Int) = n ∧ Below w.heap.size w w' := by
  obtain ⟨m, rfl⟩ := Int.eq_ofNat_of_zero_le h0
  obtain ⟨y, rfl⟩ := Int.eq_ofNat_of_zero_le hx0
  refine (long_any m y w (by omega) (by omega)).mono ?_
  rintro e w' ⟨t, rfl, ht, hb⟩
  exact ⟨t, rfl, by omega, hb⟩

/-- A text of at most 200 bytes is drawn. -/
def Drew (w : World) (e : Ending) (w' : World) (p : Nat) (ad : Option Addr) (len cap : Nat) : Prop := ∃ t : ByteArray, e = .returned (.string t) ∧ t.size ≤ 200 ∧ Drawn w w' p ad len cap

set_option maxHeartbeats 1000000 in
set_option maxRecDepth 100000 in
theorem text3_any (p : Nat) (ad : Option Addr) (len cap B : Nat) (w : World) (hl : len ≤ 1048576) (hc : CurIn w p ad len cap) (hd : CodeIn w ad len B) (hB : B ≤ p) :
    Calls Tryd.prog 18 #[.pointer (some ⟨p, 0, none⟩)] w fun e w' => Drew w e w' p ad len cap := by
  have hpw := hc.2.2.2.2.2
  have HC := hide hc
  have HD := hide hd
  clear hc hd
  go_enter Tryd.func18, Tryd.ntmps18
  go_wp2_with fail
  refine (pickIn_any w.heap.size [0, 3, 10, 54, 55, 56, 57, 63, 64, 65, 119, 120, 130] p ad len cap B _ (by simp) (by simp) (by omega) ?_ hl (HC.out.below ((Below.refl _ _).alloc (Nat.le_refl _) _) hpw) (HD.out.on ((Below.refl w.heap.size w).alloc (Nat.le_refl _) _) (by omega)) hB).mono ?_
  · intro j hj
    have : j < 13 := by simpa using hj
    match j, this with
    | 0, _ => simp
    | 1, _ => simp
    | 2, _ => simp
    | 3, _ => simp
    | 4, _ => simp
    | 5, _ => simp
    | 6, _ => simp
    | 7, _ => simp
    | 8, _ => simp
    | 9, _ => simp
    | 10, _ => simp
    | 11, _ => simp
    | 12, _ => simp
    | j + 13, h => omega
  · rintro e w1 ⟨x, rfl, hx, D1⟩
    have hx0 : 0 ≤ x ∧ x ≤ 130 := by have := hx.out; simp at this; omega
    have D2 : Drawn w w1 p ad len cap := ⟨⟨D1.1.os, D1.1.tape, D1.1.output, by have := D1.1.size; simp at this; omega, fun j hj hr => by
      rw [D1.1.block j (by simp; omega) hr]; exact Below.heap_alloc w _ j (by omega)⟩, D1.2⟩
    have HD1 := hide (D2.code HD.out hB hpw)
    have hp1 := D2.2.2.2.2.2.2
    have E1 := hide D2
    clear D1 D2 hx HC HD
    go_wp2_with fail
    refine (below_any 5 p ad len cap B _ (by omega) hl E1.out.2 HD1.out hB).mono ?_
    rintro e w2 ⟨y, rfl, y0, y1, _, D2⟩
    have y2 := y1 (by omega)
    have HD2 := hide (D2.code HD1.out hB hp1)
    have E2 := hide (E1.out.trans D2)
    have hp2 := D2.2.2.2.2.2.2
    clear D2 HD1 E1 y1
    go_wp2_with fail
    refine (text_any y p ad len cap B _ hl E2.out.2 HD2.out hB).mono ?_
    rintro e w3 ⟨t, rfl, ht, ht2, D3⟩
    have HD3 := hide (D3.code HD2.out hB hp2)
    have E3 := hide (E2.out.trans D3)
    have hp3 := D3.2.2.2.2.2.2
    clear D3 HD2 E2
    go_wp2_with fail
    refine (below_any 20 p ad len cap B _ (by omega) hl E3.out.2 HD3.out hB).mono ?_
    rintro e w4 ⟨z, rfl, z0, z1, _, D4⟩
    have z2 := z1 (by omega)
    have E4 := hide (E3.out.trans D4)
    have hp4 := D4.2.2.2.2.2.2
    clear D4 HD3 E3 z1
    go_wp2_with fail
    refine (long_int' x _ _ hx0.1 (by omega) (by omega) (by omega)).mono ?_
    rintro e w5 ⟨t5, rfl, ht5, hb5⟩
    have E5 : Hid (Drawn w w5 p ad len cap) := E4.out.below (hb5.mono (by have := E4.out.1.size; omega)) hpw
    clear hb5 E4
    have hsz : ((⟨t.toArray⟩ : ByteArray) ++ ⟨t5.toArray⟩).size ≤ 200 := by
      rw [ByteArray.size_append]
      show t.toArray.size + t5.toArray.size ≤ 200
      simp
      omega
    have HS := hide hsz
    have hls : (t.length : Int) + t5.length ≤ 200 := by omega
    clear hsz
    go_wp2
    go_ret
    exact ⟨_, rfl, HS.out, E5.out⟩

set_option maxHeartbeats 400000 in
theorem drawDig_any (ad : Option Addr) (len cap : Nat) (w : World) (hl : len ≤ 1048576) (hd : CodeIn w ad len w.heap.size) :
    Calls Tryd.prog 7 #[.slice ad len cap] w fun e w' => ∃ t : ByteArray, e = .returned (.string t) ∧ t.size ≤ 200 ∧ Below w.heap.size w w' := by
  have HD := hide hd
  clear hd
  go_enter Tryd.func7, Tryd.ntmps7
  go_wp2_with fail
  refine (new_any ad len cap w.heap.size _ hl HD.out).mono ?_
  rintro e w1 ⟨p, rfl, hp, hc, hb⟩
  have HC := hide hc
  have hs := hb.size
  have HD1 := hide (HD.out.on hb (Nat.le_refl _))
  clear hc
  go_wp2_with fail
  refine (text3_any p ad len cap w.heap.size _ hl HC.out HD1.out hp).mono ?_
  rintro e w2 ⟨t, rfl, ht, D⟩
  have hb2 : Below w.heap.size w w2 := hb.trans (grown_below D.1 hp hs)
  have HT := hide ht
  clear D hb ht HC HD HD1
  go_wp2
  go_ret
  exact ⟨t, rfl, HT.out, hb2⟩
end Go.Proofs.YtaolinlginloaabDoor
