/-
  IRecOk; IRecText; IPartT; TxPC
-/
import Derived.Test.YtfmnaidhfgmemaaGreatDoorPk9
import Derived.Test.YtfmnaidhfgmemaaGreatDoorPk10
import Derived.Test.YtfmnaidhfgmemaaGreatDoorPk4
import Derived.Test.YtfmnaidhfgmemaaGreatDoorPk27
namespace Go.Proofs.YtfmnaidhfgmemaaGreatDoor
open Go.RowKit
open Words
set_option maxHeartbeats 400000 in
set_option maxRecDepth 100000 in
theorem iwithin (x lo hi : Int) (b : Bool) (w : World) (h : (lo ≤ x ∧ x ≤ hi ∧ b = true) ∨ ((x < lo ∨ lo ≤ x ∧ ¬ x ≤ hi) ∧ b = false)) :
    Calls Tryz.prog 108 #[.int .i64 x, .int .i64 lo, .int .i64 hi] w fun e w' => e = .returned (.bool b) ∧ w' = w := by
  rcases h with ⟨h1, h2, rfl⟩ | ⟨h1 | ⟨h1, h2⟩, rfl⟩
  all_goals
    go_enter Tryz.func108, Tryz.ntmps108
    go_wp2
    go_ret
    exact ⟨rfl, rfl⟩
set_option maxHeartbeats 1000000 in
set_option maxRecDepth 100000 in
theorem irecOk (r : Rc) (w : World) :
    Calls Tryz.prog 155 #[rcVal r] w fun e w' => e = .returned (.bool (@decide r.Right r.decR)) ∧ Below w.heap.size w w' := by
  obtain ⟨k, v, a, c⟩ := r
  have HE := hide (rc_spec k v a c)
  have HB := hide ((Below.refl w.heap.size w).alloc (Nat.le_refl _) (.cells #[.int .i64 k, .int .i64 v, .int .i64 a, .int .i64 c] 90))
  unfold rcVal
  simp only
  by_cases a1 : 1 ≤ k ∧ k ≤ 5
  · obtain a5 | a5 | a5 | a5 | a5 : k = 1 ∨ k = 2 ∨ k = 3 ∨ k = 4 ∨ k = 5 := by omega
    · subst a5
      by_cases a2 : 0 ≤ a ∧ a ≤ 1000000000
      · by_cases a3 : (v == 0) = true
        · go_enter Tryz.func155, Tryz.ntmps155
          go_wp2_with fail
          refine (iwithin a 0 1000000000 true _ (.inl ⟨by omega, by omega, rfl⟩)).mono ?_
          rintro e w1 ⟨rfl, rfl⟩
          go_wp2
          go_ret
          refine ⟨?_, by first | exact HB.out | exact (Below.refl _ _).alloc (Nat.le_refl _) _ | (repeat (first | exact HB.out | exact (Below.refl _ _).alloc (Nat.le_refl _) _ | refine Below.setCell ?_ (by simp) _))⟩
          have e : @decide (Rc.mk 1 v a c).Right (Rc.mk 1 v a c).decR = (c == 0) := by
            cases hq : (c == 0) with
            | true => exact dcY (HE.out.2 (by first | omega | (simp_all; done) | (simp_all; omega)))
            | false => exact dcN (fun h => by have := HE.out.1 h; first | omega | (simp_all; done) | (simp_all; omega))
          rw [e]
          rfl
        · have a3 : (v == 0) = false := by simpa using a3
          go_enter Tryz.func155, Tryz.ntmps155
          go_wp2_with fail
          refine (iwithin a 0 1000000000 true _ (.inl ⟨by omega, by omega, rfl⟩)).mono ?_
          rintro e w1 ⟨rfl, rfl⟩
          go_wp2
          go_ret
          exact ⟨by rw [dcN (fun h => by have := HE.out.1 h; first | omega | (simp at this; omega) | (simp_all; done) | (simp_all; omega))]; rfl, by first | exact HB.out | exact (Below.refl _ _).alloc (Nat.le_refl _) _ | (repeat (first | exact HB.out | exact (Below.refl _ _).alloc (Nat.le_refl _) _ | refine Below.setCell ?_ (by simp) _))⟩
      · go_enter Tryz.func155, Tryz.ntmps155
        go_wp2_with fail
        refine (iwithin a 0 1000000000 false _ (.inr ⟨by omega, rfl⟩)).mono ?_
        rintro e w1 ⟨rfl, rfl⟩
        go_wp2
        go_ret
        exact ⟨by rw [dcN (fun h => by have := HE.out.1 h; first | omega | (simp at this; omega) | (simp_all; done) | (simp_all; omega))]; rfl, by first | exact HB.out | exact (Below.refl _ _).alloc (Nat.le_refl _) _ | (repeat (first | exact HB.out | exact (Below.refl _ _).alloc (Nat.le_refl _) _ | refine Below.setCell ?_ (by simp) _))⟩
    · subst a5
      by_cases a2 : 1 ≤ v ∧ v ≤ 9
      · by_cases a3 : 0 ≤ a ∧ a ≤ 9
        · go_enter Tryz.func155, Tryz.ntmps155
          go_wp2_with fail
          refine (iwithin v 1 9 true _ (.inl ⟨by omega, by omega, rfl⟩)).mono ?_
          rintro e w1 ⟨rfl, rfl⟩
          go_wp2_with fail
          refine (iwithin a 0 9 true _ (.inl ⟨by omega, by omega, rfl⟩)).mono ?_
          rintro e w1 ⟨rfl, rfl⟩
          go_wp2_with fail
          refine (iwithin a 0 1000000000 true _ (.inl ⟨by omega, by omega, rfl⟩)).mono ?_
          rintro e w1 ⟨rfl, rfl⟩
          go_wp2
          go_ret
          refine ⟨?_, by first | exact HB.out | exact (Below.refl _ _).alloc (Nat.le_refl _) _ | (repeat (first | exact HB.out | exact (Below.refl _ _).alloc (Nat.le_refl _) _ | refine Below.setCell ?_ (by simp) _))⟩
          have e : @decide (Rc.mk 2 v a c).Right (Rc.mk 2 v a c).decR = (c == 0) := by
            cases hq : (c == 0) with
            | true => exact dcY (HE.out.2 (by first | omega | (simp_all; done) | (simp_all; omega)))
            | false => exact dcN (fun h => by have := HE.out.1 h; first | omega | (simp_all; done) | (simp_all; omega))
          rw [e]
          rfl
        · go_enter Tryz.func155, Tryz.ntmps155
          go_wp2_with fail
          refine (iwithin v 1 9 true _ (.inl ⟨by omega, by omega, rfl⟩)).mono ?_
          rintro e w1 ⟨rfl, rfl⟩
          go_wp2_with fail
          refine (iwithin a 0 9 false _ (.inr ⟨by omega, rfl⟩)).mono ?_
          rintro e w1 ⟨rfl, rfl⟩
          go_wp2
          go_ret
          exact ⟨by rw [dcN (fun h => by have := HE.out.1 h; first | omega | (simp at this; omega) | (simp_all; done) | (simp_all; omega))]; rfl, by first | exact HB.out | exact (Below.refl _ _).alloc (Nat.le_refl _) _ | (repeat (first | exact HB.out | exact (Below.refl _ _).alloc (Nat.le_refl _) _ | refine Below.setCell ?_ (by simp) _))⟩
      · go_enter Tryz.func155, Tryz.ntmps155
        go_wp2_with fail
        refine (iwithin v 1 9 false _ (.inr ⟨by omega, rfl⟩)).mono ?_
        rintro e w1 ⟨rfl, rfl⟩
        go_wp2
        go_ret
        exact ⟨by rw [dcN (fun h => by have := HE.out.1 h; first | omega | (simp at this; omega) | (simp_all; done) | (simp_all; omega))]; rfl, by first | exact HB.out | exact (Below.refl _ _).alloc (Nat.le_refl _) _ | (repeat (first | exact HB.out | exact (Below.refl _ _).alloc (Nat.le_refl _) _ | refine Below.setCell ?_ (by simp) _))⟩
    · subst a5
      by_cases a2 : a = 0
      · subst a2
        by_cases a3 : 1 ≤ v ∧ v ≤ 9
        · go_enter Tryz.func155, Tryz.ntmps155
          go_wp2_with fail
          refine (iwithin v 1 9 true _ (.inl ⟨by omega, by omega, rfl⟩)).mono ?_
          rintro e w1 ⟨rfl, rfl⟩
          go_wp2_with fail
          refine (iwithin 0 0 9 true _ (.inl ⟨by omega, by omega, rfl⟩)).mono ?_
          rintro e w1 ⟨rfl, rfl⟩
          go_wp2_with fail
          refine (iwithin 0 0 1000000000 true _ (.inl ⟨by omega, by omega, rfl⟩)).mono ?_
          rintro e w1 ⟨rfl, rfl⟩
          go_wp2
          go_ret
          refine ⟨?_, by first | exact HB.out | exact (Below.refl _ _).alloc (Nat.le_refl _) _ | (repeat (first | exact HB.out | exact (Below.refl _ _).alloc (Nat.le_refl _) _ | refine Below.setCell ?_ (by simp) _))⟩
          have e : @decide (Rc.mk 3 v 0 c).Right (Rc.mk 3 v 0 c).decR = (c == 0) := by
            cases hq : (c == 0) with
            | true => exact dcY (HE.out.2 (by first | omega | (simp_all; done) | (simp_all; omega)))
            | false => exact dcN (fun h => by have := HE.out.1 h; first | omega | (simp_all; done) | (simp_all; omega))
          rw [e]
          rfl
        · go_enter Tryz.func155, Tryz.ntmps155
          go_wp2_with fail
          refine (iwithin v 1 9 false _ (.inr ⟨by omega, rfl⟩)).mono ?_
          rintro e w1 ⟨rfl, rfl⟩
          go_wp2
          go_ret
          exact ⟨by rw [dcN (fun h => by have := HE.out.1 h; first | omega | (simp at this; omega) | (simp_all; done) | (simp_all; omega))]; rfl, by first | exact HB.out | exact (Below.refl _ _).alloc (Nat.le_refl _) _ | (repeat (first | exact HB.out | exact (Below.refl _ _).alloc (Nat.le_refl _) _ | refine Below.setCell ?_ (by simp) _))⟩
      · have a2 : (a != 0) = true := by simpa using a2
        go_enter Tryz.func155, Tryz.ntmps155
        go_wp2
        go_ret
        exact ⟨by rw [dcN (fun h => by have := HE.out.1 h; first | omega | (simp at this; omega) | (simp_all; done) | (simp_all; omega))]; rfl, by first | exact HB.out | exact (Below.refl _ _).alloc (Nat.le_refl _) _ | (repeat (first | exact HB.out | exact (Below.refl _ _).alloc (Nat.le_refl _) _ | refine Below.setCell ?_ (by simp) _))⟩
    · subst a5
      by_cases a2 : 1 ≤ c ∧ c ≤ 1000000000
      · by_cases a3 : 0 ≤ a ∧ a ≤ 15
        · by_cases a4 : 1 ≤ v ∧ v ≤ 9
          · go_enter Tryz.func155, Tryz.ntmps155
            go_wp2_with fail
            refine (iwithin c 1 1000000000 true _ (.inl ⟨by omega, by omega, rfl⟩)).mono ?_
            rintro e w1 ⟨rfl, rfl⟩
            go_wp2_with fail
            refine (iwithin a 0 15 true _ (.inl ⟨by omega, by omega, rfl⟩)).mono ?_
            rintro e w1 ⟨rfl, rfl⟩
            go_wp2_with fail
            refine (iwithin v 1 9 true _ (.inl ⟨by omega, by omega, rfl⟩)).mono ?_
            rintro e w1 ⟨rfl, rfl⟩
            go_wp2_with fail
            refine (iwithin 0 0 9 true _ (.inl ⟨by omega, by omega, rfl⟩)).mono ?_
            rintro e w1 ⟨rfl, rfl⟩
            go_wp2_with fail
            refine (iwithin 0 0 1000000000 true _ (.inl ⟨by omega, by omega, rfl⟩)).mono ?_
            rintro e w1 ⟨rfl, rfl⟩
            go_wp2
            go_ret
            exact ⟨by rw [dcY (HE.out.2 (by first | omega | (simp; omega)))]; rfl, by first | exact HB.out | exact (Below.refl _ _).alloc (Nat.le_refl _) _ | (repeat (first | exact HB.out | exact (Below.refl _ _).alloc (Nat.le_refl _) _ | refine Below.setCell ?_ (by simp) _))⟩
          · go_enter Tryz.func155, Tryz.ntmps155
            go_wp2_with fail
            refine (iwithin c 1 1000000000 true _ (.inl ⟨by omega, by omega, rfl⟩)).mono ?_
            rintro e w1 ⟨rfl, rfl⟩
            go_wp2_with fail
            refine (iwithin a 0 15 true _ (.inl ⟨by omega, by omega, rfl⟩)).mono ?_
            rintro e w1 ⟨rfl, rfl⟩
            go_wp2_with fail
            refine (iwithin v 1 9 false _ (.inr ⟨by omega, rfl⟩)).mono ?_
            rintro e w1 ⟨rfl, rfl⟩
            go_wp2
            go_ret
            exact ⟨by rw [dcN (fun h => by have := HE.out.1 h; first | omega | (simp at this; omega) | (simp_all; done) | (simp_all; omega))]; rfl, by first | exact HB.out | exact (Below.refl _ _).alloc (Nat.le_refl _) _ | (repeat (first | exact HB.out | exact (Below.refl _ _).alloc (Nat.le_refl _) _ | refine Below.setCell ?_ (by simp) _))⟩
        · go_enter Tryz.func155, Tryz.ntmps155
          go_wp2_with fail
          refine (iwithin c 1 1000000000 true _ (.inl ⟨by omega, by omega, rfl⟩)).mono ?_
          rintro e w1 ⟨rfl, rfl⟩
          go_wp2_with fail
          refine (iwithin a 0 15 false _ (.inr ⟨by omega, rfl⟩)).mono ?_
          rintro e w1 ⟨rfl, rfl⟩
          go_wp2
          go_ret
          exact ⟨by rw [dcN (fun h => by have := HE.out.1 h; first | omega | (simp at this; omega) | (simp_all; done) | (simp_all; omega))]; rfl, by first | exact HB.out | exact (Below.refl _ _).alloc (Nat.le_refl _) _ | (repeat (first | exact HB.out | exact (Below.refl _ _).alloc (Nat.le_refl _) _ | refine Below.setCell ?_ (by simp) _))⟩
      · go_enter Tryz.func155, Tryz.ntmps155
        go_wp2_with fail
        refine (iwithin c 1 1000000000 false _ (.inr ⟨by omega, rfl⟩)).mono ?_
        rintro e w1 ⟨rfl, rfl⟩
        go_wp2
        go_ret
        exact ⟨by rw [dcN (fun h => by have := HE.out.1 h; first | omega | (simp at this; omega) | (simp_all; done) | (simp_all; omega))]; rfl, by first | exact HB.out | exact (Below.refl _ _).alloc (Nat.le_refl _) _ | (repeat (first | exact HB.out | exact (Below.refl _ _).alloc (Nat.le_refl _) _ | refine Below.setCell ?_ (by simp) _))⟩
    · subst a5
      by_cases a3 : 0 ≤ a ∧ a ≤ 15
      · by_cases a4 : 1 ≤ v ∧ v ≤ 9
        · go_enter Tryz.func155, Tryz.ntmps155
          go_wp2_with fail
          refine (iwithin a 0 15 true _ (.inl ⟨by omega, by omega, rfl⟩)).mono ?_
          rintro e w1 ⟨rfl, rfl⟩
          go_wp2_with fail
          refine (iwithin v 1 9 true _ (.inl ⟨by omega, by omega, rfl⟩)).mono ?_
          rintro e w1 ⟨rfl, rfl⟩
          go_wp2_with fail
          refine (iwithin 0 0 9 true _ (.inl ⟨by omega, by omega, rfl⟩)).mono ?_
          rintro e w1 ⟨rfl, rfl⟩
          go_wp2_with fail
          refine (iwithin 0 0 1000000000 true _ (.inl ⟨by omega, by omega, rfl⟩)).mono ?_
          rintro e w1 ⟨rfl, rfl⟩
          go_wp2
          go_ret
          refine ⟨?_, by first | exact HB.out | exact (Below.refl _ _).alloc (Nat.le_refl _) _ | (repeat (first | exact HB.out | exact (Below.refl _ _).alloc (Nat.le_refl _) _ | refine Below.setCell ?_ (by simp) _))⟩
          have e : @decide (Rc.mk 5 v a c).Right (Rc.mk 5 v a c).decR = (c == 0) := by
            cases hq : (c == 0) with
            | true => exact dcY (HE.out.2 (by first | omega | (simp_all; done) | (simp_all; omega)))
            | false => exact dcN (fun h => by have := HE.out.1 h; first | omega | (simp_all; done) | (simp_all; omega))
          rw [e]
          rfl
        · go_enter Tryz.func155, Tryz.ntmps155
          go_wp2_with fail
          refine (iwithin a 0 15 true _ (.inl ⟨by omega, by omega, rfl⟩)).mono ?_
          rintro e w1 ⟨rfl, rfl⟩
          go_wp2_with fail
          refine (iwithin v 1 9 false _ (.inr ⟨by omega, rfl⟩)).mono ?_
          rintro e w1 ⟨rfl, rfl⟩
          go_wp2
          go_ret
          exact ⟨by rw [dcN (fun h => by have := HE.out.1 h; first | omega | (simp at this; omega) | (simp_all; done) | (simp_all; omega))]; rfl, by first | exact HB.out | exact (Below.refl _ _).alloc (Nat.le_refl _) _ | (repeat (first | exact HB.out | exact (Below.refl _ _).alloc (Nat.le_refl _) _ | refine Below.setCell ?_ (by simp) _))⟩
      · go_enter Tryz.func155, Tryz.ntmps155
        go_wp2_with fail
        refine (iwithin a 0 15 false _ (.inr ⟨by omega, rfl⟩)).mono ?_
        rintro e w1 ⟨rfl, rfl⟩
        go_wp2
        go_ret
        exact ⟨by rw [dcN (fun h => by have := HE.out.1 h; first | omega | (simp at this; omega) | (simp_all; done) | (simp_all; omega))]; rfl, by first | exact HB.out | exact (Below.refl _ _).alloc (Nat.le_refl _) _ | (repeat (first | exact HB.out | exact (Below.refl _ _).alloc (Nat.le_refl _) _ | refine Below.setCell ?_ (by simp) _))⟩
  · have n1 : (k == 1) = false := by simp; omega
    have n2 : (k == 2) = false := by simp; omega
    have n3 : (k == 3) = false := by simp; omega
    have n4 : (k == 4) = false := by simp; omega
    have n5 : (k == 5) = false := by simp; omega
    go_enter Tryz.func155, Tryz.ntmps155
    go_wp2
    go_ret
    exact ⟨by rw [dcN (fun h => by have := HE.out.1 h; first | omega | (simp at this; omega) | (simp_all; done) | (simp_all; omega))]; rfl, by first | exact HB.out | exact (Below.refl _ _).alloc (Nat.le_refl _) _ | (repeat (first | exact HB.out | exact (Below.refl _ _).alloc (Nat.le_refl _) _ | refine Below.setCell ?_ (by simp) _))⟩
end Go.Proofs.YtfmnaidhfgmemaaGreatDoor

namespace Go.Proofs.YtfmnaidhfgmemaaGreatDoor
open Go.RowKit
open Words
set_option maxHeartbeats 1000000 in
set_option maxRecDepth 100000 in
theorem irecText (r : Rc) (w : World) :
    Calls Tryz.prog 134 #[rcVal r] w fun e w' => e = .returned (rtRes r) ∧ Below w.heap.size w w' := by
  have HB := hide ((Below.refl w.heap.size w).alloc (Nat.le_refl _) (.cells #[.int .i64 r.kind, .int .i64 r.vol, .int .i64 r.arg, .int .i64 r.chunk] 90))
  by_cases hr : r.Right
  · have HE : Hid (rtRes r = .tuple #[.string (recA r), .bool true]) := if_pos hr
    have hz := recA_size r hr
    have HS := hide (irecOk r)
    have hr' := hr
    obtain ⟨r1, r2⟩ := hr'
    have HP : Hid (recA r = (byteA (16 * r.kind + r.vol).toNat ++ varA r.arg.toNat) ++ varA r.chunk.toNat) := rfl
    have hd := dcY (d := r.decR) hr
    obtain ⟨k, v, x, c⟩ := r
    unfold rcVal at *
    simp only at *
    obtain ⟨k, rfl, -⟩ := i_nat (show 0 ≤ k by omega)
    obtain ⟨v, rfl, -⟩ := i_nat (show 0 ≤ v by omega)
    obtain ⟨x, rfl, ex⟩ := i_nat (show 0 ≤ x by omega)
    obtain ⟨c, rfl, ec⟩ := i_nat (show 0 ≤ c by omega)
    have hk : (16 * (k : Int) + (v : Int)).toNat = 16 * k + v := by omega
    have kb : k ≤ 5 := by omega
    have vb : v ≤ 9 := by omega
    have ew1 : IntKind.i64.wrap ((k : Int) * 16) = (k : Int) * 16 := by rw [IntKind.wrap_i64]; omega
    have ew2 : IntKind.i64.wrap ((k : Int) * 16 + (v : Int)) = ((16 * k + v : Nat) : Int) := by rw [IntKind.wrap_i64]; omega
    have ew4 : (k : Int) * 16 + (v : Int) = ((16 * k + v : Nat) : Int) := by omega
    have ew3 : IntKind.u8.wrap ((16 * k + v : Nat) : Int) = ((16 * k + v : Nat) : Int) := by rw [IntKind.wrap_u8]; omega
    obtain ⟨b, hb⟩ : ∃ b, b = 16 * k + v := ⟨_, rfl⟩
    rw [hk, ex, ec, ← hb] at HP
    rw [← hb] at ew2 ew3 ew4
    have hb9 : b < 256 := by omega
    clear ex ec hk
    obtain ⟨b0, B0⟩ : ∃ z, z = byteA b := ⟨_, rfl⟩
    obtain ⟨v1, V1⟩ : ∃ z, z = varA x := ⟨_, rfl⟩
    obtain ⟨v2, V2⟩ : ∃ z, z = varA c := ⟨_, rfl⟩
    have HV : Hid (∀ W : World, (convert 110 9 (.slice (some ⟨W.heap.size, 0, none⟩) 1 1)).run Tryz.prog (W.alloc (.cells #[Value.int .u8 b] 5)) = .ok (.string b0) (W.alloc (.cells #[Value.int .u8 b] 5))) := by
      intro W
      rw [B0]
      have hcv := run_convert_bytes_back (P := Tryz.prog) (W.alloc (.cells #[Value.int .u8 b] 5)) 110 9 5 ⟨W.heap.size, 0, none⟩ 1 [UInt8.ofNat b] Tryz.underlying110 Tryz.underlying5 Tryz.underlying9 (fun j hj => by
        match j, hj with
        | 0, _ => simp [Addr.add]; omega)
      exact hcv
    have C1 := hide (fun w => implVar_yes x w (by omega))
    have C2 := hide (fun w => implVar_yes c w (by omega))
    change Hid (∀ w, Calls Tryz.prog 136 #[.int .i64 x] w fun e w' => e = .returned (.tuple #[.string (varA x), .bool true]) ∧ Below w.heap.size w w') at C1
    change Hid (∀ w, Calls Tryz.prog 136 #[.int .i64 c] w fun e w' => e = .returned (.tuple #[.string (varA c), .bool true]) ∧ Below w.heap.size w w') at C2
    rw [← B0] at HP
    rw [← V1] at C1 HP
    rw [← V2] at C2 HP
    clear B0 V1 V2 hb
    obtain ⟨pa, hpa⟩ : ∃ z, z = recA ⟨k, v, x, c⟩ := ⟨_, rfl⟩
    rw [← hpa] at hz HP HE
    clear hpa hr r1 r2 kb vb
    obtain ⟨u1, U1⟩ : ∃ u, b0 ++ v1 = u := ⟨_, rfl⟩
    rw [U1] at HP
    have U2 : u1 ++ v2 = pa := HP.out.symm
    have z1 := congrArg ByteArray.size U1
    have z2 := congrArg ByteArray.size U2
    rw [ByteArray.size_append] at z1 z2
    have Y1 : Hid (¬ (9223372036854775807 < b0.size + v1.size)) := by show ¬ _; omega
    have Y2 : Hid (¬ (9223372036854775807 < u1.size + v2.size)) := by show ¬ _; omega
    clear z1 z2 HP
    go_enter Tryz.func134, Tryz.ntmps134
    go_wp2_with fail
    refine (HS.out _).mono ?_
    rintro e w1 ⟨rfl, hb1⟩
    rw [hd]
    obtain ⟨c0, c1, c2, c3⟩ := cell_new4 _ _ _ _ _ _ _ hb1
    have P1 : Hid (RIn w w1 k v x c) := ⟨HB.out.trans (hb1.mono HB.out.size), Nat.lt_of_lt_of_le (by simp) hb1.size, c0, c1, c2, c3⟩
    clear hb1 HB hd HS
    go_wp2_with fail
    refine (C1.out _).mono ?_
    rintro e w2 ⟨rfl, b2⟩
    have P2 := hide (P1.out.next b2)
    clear b2 P1 c0 c1 c2 c3
    obtain ⟨c0, c1, c2, c3⟩ := P2.out.2.2
    go_wp2_with fail
    refine (C2.out _).mono ?_
    rintro e w3 ⟨rfl, b3⟩
    have P3 := hide (P2.out.next b3)
    clear b3 P2 c0 c1 c2 c3
    obtain ⟨c0, c1, c2, c3⟩ := P3.out.2.2
    have hv := HV.out w3
    have y1 := Y1.out
    have y2 := Y2.out
    go_wp2
    go_ret2
    exact ⟨by rw [HE.out]; rfl, P3.out.1.alloc P3.out.1.size _⟩
  · have HE : Hid (rtRes r = .tuple #[.string ⟨#[]⟩, .bool false]) := if_neg hr
    have HS := hide (irecOk r)
    have hd := dcN (d := r.decR) hr
    obtain ⟨k, v, x, c⟩ := r
    unfold rcVal at *
    simp only at *
    clear hr
    go_enter Tryz.func134, Tryz.ntmps134
    go_wp2_with fail
    refine (HS.out _).mono ?_
    rintro e w1 ⟨rfl, hb1⟩
    rw [hd]
    go_wp2
    go_ret2
    exact ⟨by rw [HE.out]; rfl, HB.out.trans (hb1.mono HB.out.size)⟩
end Go.Proofs.YtfmnaidhfgmemaaGreatDoor

namespace Go.Proofs.YtfmnaidhfgmemaaGreatDoor
open Go.RowKit
open Words
def TT (w W : World) (uv : Value) (gs : List (List Rc)) : Prop := Below w.heap.size w W ∧ W.ownsRow w.heap.size 9 1 uv gs.length (gcels gs)
theorem TT.below {w W W' : World} {uv : Value} {gs : List (List Rc)} (h : TT w W uv gs) (b : Below W.heap.size W W') : TT w W' uv gs :=
  ⟨h.1.trans (b.mono h.1.size), own_below h.2 b⟩
theorem TT.start (w : World) : TT w (w.alloc (.cells #[.string ⟨#[]⟩] 9)) (.slice (some ⟨w.heap.size, 0, none⟩) 1 1) [[]] :=
  ⟨(Below.refl _ _).alloc (Nat.le_refl _) _, rfl, .inr ⟨w.heap.size, 1, #[.string ⟨#[]⟩], rfl, Nat.le_refl _, heap_alloc_new w _, Nat.le_refl _, by unfold maxLen; omega, rfl, rfl⟩⟩
theorem TT.grown {w W y : World} {uv u' : Value} {gs gs' : List (List Rc)} (h : TT w W uv gs) (hg : W.grownBy y uv.ownBlock) (ho : y.ownsRow w.heap.size 9 1 u' gs'.length (gcels gs')) : TT w y u' gs' :=
  ⟨h.1.grown hg h.1.size (fun k hk => (h.2.lt k hk).1), ho⟩
theorem TT.len {w W : World} {g n c : Nat} {gs : List (List Rc)} (h : TT w W (.slice (some ⟨g, 0, none⟩) n c) gs) : gs.length = n := by
  rcases h.2.2 with ⟨e, -⟩ | ⟨_, _, _, e, -⟩
  · simp at e
  · simp at e; exact e.2.1.symm
theorem TT.at_ {w W : World} {g n c m : Nat} {gs : List (List Rc)} (h : TT w W (.slice (some ⟨g, 0, none⟩) n c) gs) {x : List Rc} (hx : gs[m]? = some x) : W.cell? ⟨g, m, none⟩ = some (.string (recsB x)) := by
  have := h.2.cells (g := g) rfl m (.string (recsB x)) (by simp [gcels, hx])
  rwa [addr_at] at this
theorem TT.stored {w W : World} {g n c m : Nat} {gs : List (List Rc)} {x y : List Rc} (h : TT w W (.slice (some ⟨g, 0, none⟩) n c) (gs ++ [x])) (hm : gs.length = m) : TT w (W.setCell ⟨g, m, none⟩ (.string (recsB y))) (.slice (some ⟨g, 0, none⟩) n c) (gs ++ [y]) := by
  have hl := h.len
  have h3 := h.2
  rw [hl] at h3
  obtain ⟨h4, h5⟩ := h3.stored m (.string (recsB y))
  rw [gcels_set gs x y m hm] at h4
  refine TT.grown h h5 ?_
  rw [show (gs ++ [y]).length = n by simpa using hl]
  exact h4
theorem ione_text (x : ByteArray) : ∀ u ∈ [Value.string x], u.oneCell' = true := by
  intro u hu; simp at hu; subst hu; rfl
def PtOut (w : World) (l : List Rc) (e : Ending) (w' : World) : Prop :=
  ((∀ r ∈ l, r.Right) ∧ ∃ g n c, e = .returned (.tuple #[.slice (some ⟨g, 0, none⟩) n c, .bool (decide (n ≤ 9))]) ∧ n ≤ l.length + 1 ∧ TT w w' (.slice (some ⟨g, 0, none⟩) n c) (pkG l)) ∨
  (¬ (∀ r ∈ l, r.Right) ∧ e = .returned (.tuple #[.slice none 0 0, .bool false]) ∧ Below w.heap.size w w')
set_option maxHeartbeats 2000000 in
set_option maxRecDepth 100000 in
theorem ipartTexts (ad : Option Addr) (len cap : Nat) (l : List Rc) (w : World) (hl : len ≤ 33554432) (h : RcRow w ad len (l.map Rc.tu)) :
    Calls Tryz.prog 107 #[.slice ad len cap] w (PtOut w l) := by
  have HR := hide h
  have hn : l.length = len := by have := h.1; simpa using this
  have HN := hide hn
  clear h hn
  have T0 : Hid (TT w (w.alloc (.cells #[.string ⟨#[]⟩] 9)) (.slice (some ⟨w.heap.size, 0, none⟩) 1 1) (pkG (l.take 0))) := TT.start w
  go_enter Tryz.func107, Tryz.ntmps107
  go_wp2
  generalize w.alloc (.cells #[.string ⟨#[]⟩] 9) = wa at T0 ⊢
  go_loopw [4, 13] (fun uv iv wr => ∃ k : Nat, k ≤ len ∧ iv = .int .i64 k ∧ (∃ tg m tc : Nat, uv = .slice (some ⟨tg, 0, none⟩) (m + 1) tc ∧ m ≤ k ∧ Hid (TT w wr (.slice (some ⟨tg, 0, none⟩) (m + 1) tc) (pkG (l.take k)))) ∧ Hid (∀ r ∈ l.take k, r.Right)) (fun _ iv _ => len - (intOf iv).toNat)
  case atStart => exact ⟨0, Nat.zero_le _, rfl, ⟨_, 0, _, rfl, Nat.le_refl _, T0⟩, fun r hr => by simp at hr⟩
  case round =>
    obtain ⟨k, hk, rfl, ⟨tg, m, tc, rfl, hmk, T⟩, RR⟩ := hrel
    clear T0
    by_cases hlt : (k : Int) < len
    · have hkl : k < l.length := by have := HN.out; omega
      obtain ⟨r, hx⟩ : ∃ r, l[k]? = some r := ⟨l[k], List.getElem?_eq_getElem hkl⟩
      obtain ⟨rb, ro, rfl, -, c0, c1, c2, c3⟩ := (HR.out.below T.out.1).at (k := k) (t := r.tu) (by rw [List.getElem?_map, hx]; rfl)
      simp only [Rc.tu] at c0 c1 c2 c3
      have C := hide (fun W => irecText r W)
      unfold rcVal at C
      have k0 : (0 : Int) ≤ k := by omega
      obtain ⟨gi, gl, hpk⟩ : ∃ gi gl, pk (l.take k) = (gi, gl) := ⟨_, _, rfl⟩
      have hG : pkG (l.take k) = gi ++ [gl] := by unfold pkG; rw [hpk]
      have hS : pk (l.take (k + 1)) = pkStep (gi, gl) r := by rw [pk_take hx, hpk]
      rw [hG] at T
      have him : gi.length = m := by have := T.out.len; simpa using this
      have TA0 := hide (T.out.below ((Below.refl _ _).alloc (Nat.le_refl _) (.cells #[.int .i64 r.kind, .int .i64 r.vol, .int .i64 r.arg, .int .i64 r.chunk] 90)))
      by_cases hr : r.Right
      · have hz := recA_size r hr
        simp only [rtRes, if_pos hr] at C
        have RR' : Hid (∀ x ∈ l.take (k + 1), x.Right) := by
          intro x hx2
          rw [List.take_add_one, hx, List.mem_append] at hx2
          rcases hx2 with e | e
          · exact RR.out x e
          · simp at e; subst e; exact hr
        have hgl : (recsB gl).size ≤ 90 := by
          rw [recsB_size]
          exact pk_small _ RR.out gl (by rw [hG]; simp)
        obtain ⟨t, ht⟩ : ∃ t, recA r = t := ⟨_, rfl⟩
        rw [ht] at C hz
        go_wp2_with fail
        generalize wr.alloc (.cells #[.int .i64 r.kind, .int .i64 r.vol, .int .i64 r.arg, .int .i64 r.chunk] 90) = wq at TA0 ⊢
        refine (C.out _).mono ?_
        rintro e w1 ⟨rfl, b1⟩
        have T1 := hide (TA0.out.below b1)
        clear b1 T C c0 c1 c2 c3 TA0
        have d0 : w1.cell? ⟨tg, m, none⟩ = some (.string (recsB gl)) := T1.out.at_ (by subst him; simp)
        have em : ((m + 1 : Nat) : Int) - 1 = (m : Int) := by omega
        have m0 : (0 : Int) ≤ m := by omega
        have hSz : (recsL gl).length + (recL r).length = (recsB gl).size + t.size := by
          rw [recsB_size, ← ht]
          congr 1
        by_cases hgt : ((recsB gl).size : Int) + t.size ≤ 90
        · have hG' : pkG (l.take (k + 1)) = gi ++ [gl ++ [r]] := by
            unfold pkG
            rw [hS, pkStep]
            simp only
            rw [if_neg (by omega)]
          have et : recsB gl ++ t = recsB (gl ++ [r]) := by rw [← recsB_snoc, ht]
          have TN := hide (T1.out.stored (y := gl ++ [r]) him)
          rw [← hG', ← et] at TN
          have f0 : w1.frozen? ⟨tg, m, none⟩ = false := by
            have h3 := T1.out.2
            rw [T1.out.len] at h3
            exact h3.frozenAt m
          have Y : ¬ (9223372036854775807 < (recsB gl).size + t.size) := by omega
          clear hG' et hG hS hpk hx hSz
          generalize recsB gl = tl at d0 hgt hgl TN Y ⊢
          obtain ⟨u, U⟩ : ∃ u, tl ++ t = u := ⟨_, rfl⟩
          rw [U] at TN
          go_wp2
          go_roundw
          case rel => exact ⟨k + 1, by omega, by go_num, ⟨tg, m, tc, rfl, by omega, TN⟩, RR'⟩
          case measure => simp [intOf]; omega
        · have hG' : pkG (l.take (k + 1)) = (gi ++ [gl]) ++ [[r]] := by
            unfold pkG
            rw [hS, pkStep]
            simp only
            rw [if_pos (by omega)]
          have et : t = recsB [r] := by rw [recsB_one, ht]
          obtain ⟨i0, hi0, hz0, hz1, hz2⟩ := info_parts infoText
          have I0 := hide hi0
          have Z0 := hide hz0
          have Z1 := hide hz1
          have Z2 := hide hz2
          have OW := hide (T1.out.2.alloc (.cells #[.string t] 9))
          have HZ := hide (show w.heap.size ≤ (w1.alloc (.cells #[.string t] 9)).heap.size by have := T1.out.1.size; simp; omega)
          rw [T1.out.len] at OW
          have H1 := hide (one_cell w1 (.string t) 9)
          have H2 := hide (ione_text t)
          have TA := hide (T1.out.below ((Below.refl _ _).alloc (Nat.le_refl _) (.cells #[.string t] 9)))
          have HGI := hide hG'
          have HET := hide et
          clear hi0 hz0 hz1 hz2 hG' et hG hS hpk hx hSz
          generalize recsB gl = tl at d0 hgt hgl ⊢
          go_wp2_with (at_builtin; refine wpList_append_own _ rfl _ _ 134 rfl w.heap.size 9 i0 (.string ⟨#[]⟩) 1 16 Tryz.underlying134 I0.out Z0.out Z1.out Z2.out rfl (by decide) _ _ _ rfl OW.out ⟨w1.heap.size, 0, none⟩ 1 1 [Value.string t] rfl rfl H1.out H2.out ?c1 ?c2 HZ.out ?_)
          case c1 => unfold maxLen; omega
          case c2 => omega
          intro u' y ho hg _
          have ho2 : y.ownsRow w.heap.size 9 1 u' ((gi ++ [gl]) ++ [[r]]).length (gcels ((gi ++ [gl]) ++ [[r]])) := by
            rw [← gcels_snoc, ← HET.out]
            have : ((gi ++ [gl]) ++ [[r]]).length = m + 1 + 1 := by simp [him]
            rw [this]
            exact ho
          have TN := hide (TA.out.grown hg ho2)
          rw [← HGI.out] at TN
          rcases ho.2 with ⟨-, h0⟩ | ⟨ug', uc', cur, rfl, -, -, -, -, -, -⟩
          · omega
          clear ho hg ho2 OW HZ H1 H2 TA I0 Z0 Z1 Z2 HGI HET T1
          go_wp2
          go_roundw
          case rel => exact ⟨k + 1, by omega, by go_num, ⟨ug', m + 1, uc', rfl, by omega, TN⟩, RR'⟩
          case measure => simp [intOf]; omega
      · simp only [rtRes, if_neg hr] at C
        have HO : Hid (¬ (∀ r ∈ l, r.Right)) := fun h => hr (h r (List.mem_of_getElem? hx))
        go_wp2_with fail
        generalize wr.alloc (.cells #[.int .i64 r.kind, .int .i64 r.vol, .int .i64 r.arg, .int .i64 r.chunk] 90) = wq at TA0 ⊢
        refine (C.out _).mono ?_
        rintro e w1 ⟨rfl, b1⟩
        have T1 := hide (TA0.out.below b1)
        clear b1 T C c0 c1 c2 c3 TA0
        go_wp2
        go_ret2
        exact .inr ⟨HO.out, rfl, T1.out.1⟩
    · have hkn : k = l.length := by have := HN.out; omega
      rw [hkn, List.take_length] at T RR
      have HM : Hid (m ≤ l.length) := by have := HN.out; show _ ≤ _; omega
      clear hkn
      have e9 : decide (m + 1 ≤ 9) = decide ((m : Int) + 1 ≤ 9) := by
        by_cases h : m + 1 ≤ 9
        · rw [decide_eq_true h, decide_eq_true (show (m : Int) + 1 ≤ 9 by omega)]
        · rw [decide_eq_false h, decide_eq_false (show ¬ (m : Int) + 1 ≤ 9 by omega)]
      have E9 := hide e9
      clear e9
      go_wp2
      go_ret2
      exact .inl ⟨RR.out, tg, m + 1, tc, by rw [E9.out]; rfl, by have := HM.out; omega, T.out⟩
end Go.Proofs.YtfmnaidhfgmemaaGreatDoor

namespace Go.Proofs.YtfmnaidhfgmemaaGreatDoor
open Go.RowKit
open Words
def TxPagesC (f : Nat) : Prop := ∀ (seq tx : Int) (ad : Option Addr) (len cap : Nat) (l : List Rc) (w : World), len ≤ 33554432 → RcRow w ad len (l.map Rc.tu) → Calls Tryz.prog f #[.int .i64 seq, .int .i64 tx, .slice ad len cap] w (PgOut w (txOut seq tx l) (@decide (TxOk seq tx l) (decTx seq tx l)))
end Go.Proofs.YtfmnaidhfgmemaaGreatDoor
