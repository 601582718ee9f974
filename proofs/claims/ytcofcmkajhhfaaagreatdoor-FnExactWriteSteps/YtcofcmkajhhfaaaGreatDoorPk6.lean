/-
  SRecOk; SRecText; ImplRead; SRd; Kept2; SCur; CeRc; Own
-/
import Derived.Test.YtcofcmkajhhfaaaGreatDoorPk0
import Derived.Test.YtcofcmkajhhfaaaGreatDoorPk5
import Derived.Test.YtcofcmkajhhfaaaGreatDoorPk1
import Derived.Test.YtcofcmkajhhfaaaGreatDoorPk2
import Derived.Deep.RegionHeld3
import Derived.Deep.RegionWith
import Derived.Laws.DeepStrings4
import Derived.Deep.QuietTactic
import Derived.BigQuiet
import Derived.Lib.Strings
import Derived.WalkSmall
import Derived.Laws.Rows
namespace Go.Proofs.YtcofcmkajhhfaaaGreatDoor
open Go.RowKit
open Words
def rcVal (r : Rc) : Value := .agg #[.int .i64 r.kind, .int .i64 r.vol, .int .i64 r.arg, .int .i64 r.chunk]
theorem rc_spec (k v a c : Int) : (Rc.mk k v a c).Right ↔ (0 ≤ a ∧ a ≤ 1000000000) ∧ (k = 1 ∧ v = 0 ∧ c = 0 ∨ (1 ≤ v ∧ v ≤ 9) ∧ (k = 2 ∧ a ≤ 9 ∧ c = 0 ∨ k = 3 ∧ a = 0 ∧ c = 0 ∨ k = 4 ∧ a < 16 ∧ 1 ≤ c ∧ c ≤ 1000000000 ∨ k = 5 ∧ a < 16 ∧ c = 0)) := Iff.rfl
set_option maxHeartbeats 1000000 in
set_option maxRecDepth 100000 in
theorem srecOk (r : Rc) (w : World) :
    Calls Tryz.prog 67 #[rcVal r] w fun e w' => e = .returned (.bool (@decide r.Right r.decR)) ∧ Below w.heap.size w w' := by
  obtain ⟨k, v, a, c⟩ := r
  have HE := hide (rc_spec k v a c)
  have HB := hide ((Below.refl w.heap.size w).alloc (Nat.le_refl _) (.cells #[.int .i64 k, .int .i64 v, .int .i64 a, .int .i64 c] 65))
  unfold rcVal
  simp only
  by_cases a1 : 0 ≤ a ∧ a ≤ 1000000000
  · by_cases a2 : k = 1
    · subst a2
      by_cases a3 : (v == 0) = true
      · go_enter Tryz.func67, Tryz.ntmps67
        go_wp2_with fail
        refine (sin_b a 0 1000000000 true _ (.inl ⟨by omega, by omega, rfl⟩)).mono ?_
        rintro e w1 ⟨rfl, rfl⟩
        go_wp2
        go_ret
        refine ⟨?_, HB.out⟩
        have e : @decide (Rc.mk 1 v a c).Right (Rc.mk 1 v a c).decR = (c == 0) := by
          cases hq : (c == 0) with
          | true => exact dcY (HE.out.2 (by first | omega | (simp_all; done) | (simp_all; omega)))
          | false => exact dcN (fun h => by have := HE.out.1 h; first | omega | (simp_all; done) | (simp_all; omega))
        rw [e]
        rfl
      · have a3 : (v == 0) = false := by simpa using a3
        go_enter Tryz.func67, Tryz.ntmps67
        go_wp2_with fail
        refine (sin_b a 0 1000000000 true _ (.inl ⟨by omega, by omega, rfl⟩)).mono ?_
        rintro e w1 ⟨rfl, rfl⟩
        go_wp2
        go_ret
        exact ⟨by rw [dcN (fun h => by have := HE.out.1 h; first | omega | (simp at this; omega) | (simp_all; done) | (simp_all; omega))]; rfl, HB.out⟩
    · have a2 : (k == 1) = false := by simpa using a2
      by_cases a3 : 2 ≤ k ∧ k ≤ 5
      · by_cases a4 : 1 ≤ v ∧ v ≤ 9
        · obtain a5 | a5 | a5 | a5 : k = 2 ∨ k = 3 ∨ k = 4 ∨ k = 5 := by omega
          · subst a5
            by_cases a6 : (c == 0) = true
            · go_enter Tryz.func67, Tryz.ntmps67
              go_wp2_with fail
              refine (sin_b a 0 1000000000 true _ (.inl ⟨by omega, by omega, rfl⟩)).mono ?_
              rintro e w1 ⟨rfl, rfl⟩
              go_wp2_with fail
              refine (sin_b 2 2 5 true _ (.inl ⟨by omega, by omega, rfl⟩)).mono ?_
              rintro e w1 ⟨rfl, rfl⟩
              go_wp2_with fail
              refine (sin_b v 1 9 true _ (.inl ⟨by omega, by omega, rfl⟩)).mono ?_
              rintro e w1 ⟨rfl, rfl⟩
              go_wp2
              go_ret
              refine ⟨?_, HB.out⟩
              have e : @decide (Rc.mk 2 v a c).Right (Rc.mk 2 v a c).decR = decide (a ≤ 9) := by
                cases hq : decide (a ≤ 9) with
                | true => exact dcY (HE.out.2 (by first | omega | (simp_all; done) | (simp_all; omega)))
                | false => exact dcN (fun h => by have := HE.out.1 h; first | omega | (simp_all; done) | (simp_all; omega))
              rw [e]
              rfl
            · have a6 : (c == 0) = false := by simpa using a6
              go_enter Tryz.func67, Tryz.ntmps67
              go_wp2_with fail
              refine (sin_b a 0 1000000000 true _ (.inl ⟨by omega, by omega, rfl⟩)).mono ?_
              rintro e w1 ⟨rfl, rfl⟩
              go_wp2_with fail
              refine (sin_b 2 2 5 true _ (.inl ⟨by omega, by omega, rfl⟩)).mono ?_
              rintro e w1 ⟨rfl, rfl⟩
              go_wp2_with fail
              refine (sin_b v 1 9 true _ (.inl ⟨by omega, by omega, rfl⟩)).mono ?_
              rintro e w1 ⟨rfl, rfl⟩
              go_wp2
              go_ret
              exact ⟨by rw [dcN (fun h => by have := HE.out.1 h; first | omega | (simp at this; omega) | (simp_all; done) | (simp_all; omega))]; rfl, HB.out⟩
          · subst a5
            by_cases a6 : (c == 0) = true
            · go_enter Tryz.func67, Tryz.ntmps67
              go_wp2_with fail
              refine (sin_b a 0 1000000000 true _ (.inl ⟨by omega, by omega, rfl⟩)).mono ?_
              rintro e w1 ⟨rfl, rfl⟩
              go_wp2_with fail
              refine (sin_b 3 2 5 true _ (.inl ⟨by omega, by omega, rfl⟩)).mono ?_
              rintro e w1 ⟨rfl, rfl⟩
              go_wp2_with fail
              refine (sin_b v 1 9 true _ (.inl ⟨by omega, by omega, rfl⟩)).mono ?_
              rintro e w1 ⟨rfl, rfl⟩
              go_wp2
              go_ret
              refine ⟨?_, HB.out⟩
              have e : @decide (Rc.mk 3 v a c).Right (Rc.mk 3 v a c).decR = (a == 0) := by
                cases hq : (a == 0) with
                | true => exact dcY (HE.out.2 (by first | omega | (simp_all; done) | (simp_all; omega)))
                | false => exact dcN (fun h => by have := HE.out.1 h; first | omega | (simp_all; done) | (simp_all; omega))
              rw [e]
              rfl
            · have a6 : (c == 0) = false := by simpa using a6
              go_enter Tryz.func67, Tryz.ntmps67
              go_wp2_with fail
              refine (sin_b a 0 1000000000 true _ (.inl ⟨by omega, by omega, rfl⟩)).mono ?_
              rintro e w1 ⟨rfl, rfl⟩
              go_wp2_with fail
              refine (sin_b 3 2 5 true _ (.inl ⟨by omega, by omega, rfl⟩)).mono ?_
              rintro e w1 ⟨rfl, rfl⟩
              go_wp2_with fail
              refine (sin_b v 1 9 true _ (.inl ⟨by omega, by omega, rfl⟩)).mono ?_
              rintro e w1 ⟨rfl, rfl⟩
              go_wp2
              go_ret
              exact ⟨by rw [dcN (fun h => by have := HE.out.1 h; first | omega | (simp at this; omega) | (simp_all; done) | (simp_all; omega))]; rfl, HB.out⟩
          · subst a5
            by_cases a6 : a < 16
            · by_cases a7 : 1 ≤ c ∧ c ≤ 1000000000
              · go_enter Tryz.func67, Tryz.ntmps67
                go_wp2_with fail
                refine (sin_b a 0 1000000000 true _ (.inl ⟨by omega, by omega, rfl⟩)).mono ?_
                rintro e w1 ⟨rfl, rfl⟩
                go_wp2_with fail
                refine (sin_b 4 2 5 true _ (.inl ⟨by omega, by omega, rfl⟩)).mono ?_
                rintro e w1 ⟨rfl, rfl⟩
                go_wp2_with fail
                refine (sin_b v 1 9 true _ (.inl ⟨by omega, by omega, rfl⟩)).mono ?_
                rintro e w1 ⟨rfl, rfl⟩
                go_wp2_with fail
                refine (sin_b c 1 1000000000 true _ (.inl ⟨by omega, by omega, rfl⟩)).mono ?_
                rintro e w1 ⟨rfl, rfl⟩
                go_wp2
                go_ret
                exact ⟨by rw [dcY (HE.out.2 (by first | omega | (simp; omega)))]; rfl, HB.out⟩
              · go_enter Tryz.func67, Tryz.ntmps67
                go_wp2_with fail
                refine (sin_b a 0 1000000000 true _ (.inl ⟨by omega, by omega, rfl⟩)).mono ?_
                rintro e w1 ⟨rfl, rfl⟩
                go_wp2_with fail
                refine (sin_b 4 2 5 true _ (.inl ⟨by omega, by omega, rfl⟩)).mono ?_
                rintro e w1 ⟨rfl, rfl⟩
                go_wp2_with fail
                refine (sin_b v 1 9 true _ (.inl ⟨by omega, by omega, rfl⟩)).mono ?_
                rintro e w1 ⟨rfl, rfl⟩
                go_wp2_with fail
                refine (sin_b c 1 1000000000 false _ (.inr ⟨by omega, rfl⟩)).mono ?_
                rintro e w1 ⟨rfl, rfl⟩
                go_wp2
                go_ret
                exact ⟨by rw [dcN (fun h => by have := HE.out.1 h; first | omega | (simp at this; omega) | (simp_all; done) | (simp_all; omega))]; rfl, HB.out⟩
            · go_enter Tryz.func67, Tryz.ntmps67
              go_wp2_with fail
              refine (sin_b a 0 1000000000 true _ (.inl ⟨by omega, by omega, rfl⟩)).mono ?_
              rintro e w1 ⟨rfl, rfl⟩
              go_wp2_with fail
              refine (sin_b 4 2 5 true _ (.inl ⟨by omega, by omega, rfl⟩)).mono ?_
              rintro e w1 ⟨rfl, rfl⟩
              go_wp2_with fail
              refine (sin_b v 1 9 true _ (.inl ⟨by omega, by omega, rfl⟩)).mono ?_
              rintro e w1 ⟨rfl, rfl⟩
              go_wp2
              go_ret
              exact ⟨by rw [dcN (fun h => by have := HE.out.1 h; first | omega | (simp at this; omega) | (simp_all; done) | (simp_all; omega))]; rfl, HB.out⟩
          · subst a5
            by_cases a6 : (c == 0) = true
            · go_enter Tryz.func67, Tryz.ntmps67
              go_wp2_with fail
              refine (sin_b a 0 1000000000 true _ (.inl ⟨by omega, by omega, rfl⟩)).mono ?_
              rintro e w1 ⟨rfl, rfl⟩
              go_wp2_with fail
              refine (sin_b 5 2 5 true _ (.inl ⟨by omega, by omega, rfl⟩)).mono ?_
              rintro e w1 ⟨rfl, rfl⟩
              go_wp2_with fail
              refine (sin_b v 1 9 true _ (.inl ⟨by omega, by omega, rfl⟩)).mono ?_
              rintro e w1 ⟨rfl, rfl⟩
              go_wp2
              go_ret
              refine ⟨?_, HB.out⟩
              have e : @decide (Rc.mk 5 v a c).Right (Rc.mk 5 v a c).decR = decide (a < 16) := by
                cases hq : decide (a < 16) with
                | true => exact dcY (HE.out.2 (by first | omega | (simp_all; done) | (simp_all; omega)))
                | false => exact dcN (fun h => by have := HE.out.1 h; first | omega | (simp_all; done) | (simp_all; omega))
              rw [e]
              rfl
            · have a6 : (c == 0) = false := by simpa using a6
              go_enter Tryz.func67, Tryz.ntmps67
              go_wp2_with fail
              refine (sin_b a 0 1000000000 true _ (.inl ⟨by omega, by omega, rfl⟩)).mono ?_
              rintro e w1 ⟨rfl, rfl⟩
              go_wp2_with fail
              refine (sin_b 5 2 5 true _ (.inl ⟨by omega, by omega, rfl⟩)).mono ?_
              rintro e w1 ⟨rfl, rfl⟩
              go_wp2_with fail
              refine (sin_b v 1 9 true _ (.inl ⟨by omega, by omega, rfl⟩)).mono ?_
              rintro e w1 ⟨rfl, rfl⟩
              go_wp2
              go_ret
              exact ⟨by rw [dcN (fun h => by have := HE.out.1 h; first | omega | (simp at this; omega) | (simp_all; done) | (simp_all; omega))]; rfl, HB.out⟩
        · go_enter Tryz.func67, Tryz.ntmps67
          go_wp2_with fail
          refine (sin_b a 0 1000000000 true _ (.inl ⟨by omega, by omega, rfl⟩)).mono ?_
          rintro e w1 ⟨rfl, rfl⟩
          go_wp2_with fail
          refine (sin_b k 2 5 true _ (.inl ⟨by omega, by omega, rfl⟩)).mono ?_
          rintro e w1 ⟨rfl, rfl⟩
          go_wp2_with fail
          refine (sin_b v 1 9 false _ (.inr ⟨by omega, rfl⟩)).mono ?_
          rintro e w1 ⟨rfl, rfl⟩
          go_wp2
          go_ret
          exact ⟨by rw [dcN (fun h => by have := HE.out.1 h; first | omega | (simp at this; omega) | (simp_all; done) | (simp_all; omega))]; rfl, HB.out⟩
      · go_enter Tryz.func67, Tryz.ntmps67
        go_wp2_with fail
        refine (sin_b a 0 1000000000 true _ (.inl ⟨by omega, by omega, rfl⟩)).mono ?_
        rintro e w1 ⟨rfl, rfl⟩
        go_wp2_with fail
        refine (sin_b k 2 5 false _ (.inr ⟨by omega, rfl⟩)).mono ?_
        rintro e w1 ⟨rfl, rfl⟩
        go_wp2
        go_ret
        exact ⟨by rw [dcN (fun h => by have := HE.out.1 h; first | omega | (simp at this; omega) | (simp_all; done) | (simp_all; omega))]; rfl, HB.out⟩
  · go_enter Tryz.func67, Tryz.ntmps67
    go_wp2_with fail
    refine (sin_b a 0 1000000000 false _ (.inr ⟨by omega, rfl⟩)).mono ?_
    rintro e w1 ⟨rfl, rfl⟩
    go_wp2
    go_ret
    exact ⟨by rw [dcN (fun h => by have := HE.out.1 h; first | omega | (simp at this; omega) | (simp_all; done) | (simp_all; omega))]; rfl, HB.out⟩
end Go.Proofs.YtcofcmkajhhfaaaGreatDoor

namespace Go.Proofs.YtcofcmkajhhfaaaGreatDoor
open Go.RowKit
open Words
def rtRes (r : Rc) : Value := letI := r.decR; if r.Right then .tuple #[.string (recA r), .bool true] else .tuple #[.string ⟨#[]⟩, .bool false]
theorem recA_size (r : Rc) (h : r.Right) : (recA r).size ≤ 19 := by
  have e : (recA r).size = (recA r).data.toList.length := rfl
  rw [e, recA_list]
  exact (recL_len r h).2
theorem cell_new4 (w w1 : World) (a b c d : Value) (ty : TypeId) (hb : Below (w.alloc (.cells #[a, b, c, d] ty)).heap.size (w.alloc (.cells #[a, b, c, d] ty)) w1) :
    w1.cell? ⟨w.heap.size, 0, none⟩ = some a ∧ w1.cell? ⟨w.heap.size, 1, none⟩ = some b ∧ w1.cell? ⟨w.heap.size, 2, none⟩ = some c ∧ w1.cell? ⟨w.heap.size, 3, none⟩ = some d := by
  refine ⟨?_, ?_, ?_, ?_⟩ <;> (rw [hb.cell (by simp)]; simp)
def RIn (w a : World) (k v x c : Int) : Prop := Below w.heap.size w a ∧ w.heap.size < a.heap.size ∧
  (a.cell? ⟨w.heap.size, 0, none⟩ = some (.int .i64 k) ∧ a.cell? ⟨w.heap.size, 1, none⟩ = some (.int .i64 v) ∧ a.cell? ⟨w.heap.size, 2, none⟩ = some (.int .i64 x) ∧ a.cell? ⟨w.heap.size, 3, none⟩ = some (.int .i64 c))
theorem RIn.next {w a b : World} {k v x c : Int} (h : RIn w a k v x c) (hb : Below a.heap.size a b) : RIn w b k v x c :=
  ⟨h.1.trans (hb.mono h.1.size), Nat.lt_of_lt_of_le h.2.1 hb.size, by rw [hb.cell h.2.1, hb.cell h.2.1, hb.cell h.2.1, hb.cell h.2.1]; exact h.2.2⟩
theorem RIn.drew {w a : World} {k v x c : Int} (h : RIn w a k v x c) : RIn w a.drew k v x c := ⟨h.1.drew, h.2.1, h.2.2⟩
set_option maxHeartbeats 1000000 in
set_option maxRecDepth 100000 in
theorem srecText (r : Rc) (w : World) :
    Calls Tryz.prog 39 #[rcVal r] w fun e w' => e = .returned (rtRes r) ∧ Below w.heap.size w w' := by
  have HB := hide ((Below.refl w.heap.size w).alloc (Nat.le_refl _) (.cells #[.int .i64 r.kind, .int .i64 r.vol, .int .i64 r.arg, .int .i64 r.chunk] 65))
  by_cases hr : r.Right
  · have HE : Hid (rtRes r = .tuple #[.string (recA r), .bool true]) := if_pos hr
    have hz := recA_size r hr
    have HS := hide (srecOk r)
    have hr' := hr
    obtain ⟨r1, r2⟩ := hr'
    have HP : Hid (recA r = (byteA (16 * r.kind + r.vol).toNat ++ varA r.arg.toNat) ++ varA r.chunk.toNat) := rfl
    have hd := dcY (d := r.decR) hr
    obtain ⟨k, v, x, c⟩ := r
    unfold rcVal at *
    simp only at *
    obtain ⟨k, rfl, -⟩ := i_nat (show 0 ≤ k by omega)
    obtain ⟨v, rfl, -⟩ := i_nat (show 0 ≤ v by omega)
    obtain ⟨x, rfl, ex⟩ := i_nat (show 0 ≤ x by omega)
    obtain ⟨c, rfl, ec⟩ := i_nat (show 0 ≤ c by omega)
    have hk : (16 * (k : Int) + (v : Int)).toNat = 16 * k + v := by omega
    have kb : k ≤ 5 := by omega
    have vb : v ≤ 9 := by omega
    have ew1 : IntKind.i64.wrap (16 * (k : Int)) = 16 * (k : Int) := by rw [IntKind.wrap_i64]; omega
    have ew2 : IntKind.i64.wrap (16 * (k : Int) + (v : Int)) = ((16 * k + v : Nat) : Int) := by rw [IntKind.wrap_i64]; omega
    obtain ⟨b, hb⟩ : ∃ b, b = 16 * k + v := ⟨_, rfl⟩
    rw [hk, ex, ec, ← hb] at HP
    rw [← hb] at ew2
    clear ex ec hk
    obtain ⟨b0, B0⟩ : ∃ z, z = byteA b := ⟨_, rfl⟩
    obtain ⟨v1, V1⟩ : ∃ z, z = varA x := ⟨_, rfl⟩
    obtain ⟨v2, V2⟩ : ∃ z, z = varA c := ⟨_, rfl⟩
    have C0 := hide (fun w => sbyte b (by omega) w)
    have C1 := hide (fun w => l01Var_any x w (by omega))
    have C2 := hide (fun w => l01Var_any c w (by omega))
    change Hid (∀ w, Calls Tryz.prog 59 #[.int .i64 x] w fun e w' => e = .returned (.string (varA x)) ∧ Below w.heap.size w w') at C1
    change Hid (∀ w, Calls Tryz.prog 59 #[.int .i64 c] w fun e w' => e = .returned (.string (varA c)) ∧ Below w.heap.size w w') at C2
    rw [← B0] at C0 HP
    rw [← V1] at C1 HP
    rw [← V2] at C2 HP
    clear B0 V1 V2 hb
    obtain ⟨pa, hpa⟩ : ∃ z, z = recA ⟨k, v, x, c⟩ := ⟨_, rfl⟩
    rw [← hpa] at hz HP HE
    clear hpa hr r1 r2 kb vb
    obtain ⟨u1, U1⟩ : ∃ u, b0 ++ v1 = u := ⟨_, rfl⟩
    rw [U1] at HP
    have U2 : u1 ++ v2 = pa := HP.out.symm
    have z1 := congrArg ByteArray.size U1
    have z2 := congrArg ByteArray.size U2
    rw [ByteArray.size_append] at z1 z2
    have Y1 : Hid (¬ (9223372036854775807 < b0.size + v1.size)) := by show ¬ _; omega
    have Y2 : Hid (¬ (9223372036854775807 < u1.size + v2.size)) := by show ¬ _; omega
    clear z1 z2 HP
    go_enter Tryz.func39, Tryz.ntmps39
    go_wp2_with fail
    refine (HS.out _).mono ?_
    rintro e w1 ⟨rfl, hb1⟩
    rw [hd]
    obtain ⟨c0, c1, c2, c3⟩ := cell_new4 _ _ _ _ _ _ _ hb1
    have P1 : Hid (RIn w w1 k v x c) := ⟨HB.out.trans (hb1.mono HB.out.size), Nat.lt_of_lt_of_le (by simp) hb1.size, c0, c1, c2, c3⟩
    clear hb1 HB hd HS
    go_wp2_with fail
    have y1 := Y1.out
    have y2 := Y2.out
    go_region_held3 (fun w' => w'.cell? ⟨w.heap.size, 0, none⟩ = some (.int .i64 k) ∧ w'.cell? ⟨w.heap.size, 1, none⟩ = some (.int .i64 v) ∧ w'.cell? ⟨w.heap.size, 2, none⟩ = some (.int .i64 x) ∧ w'.cell? ⟨w.heap.size, 3, none⟩ = some (.int .i64 c)) (first | go_keep | exact P1.out.2.2 | exact P1.out.drew.2.2) (first
      | (go_at_call 58; with_reducible refine Calls.mono (C0.out _) ?_; rintro e w2 ⟨rfl, b2⟩; have P1 := hide (RIn.next (by first | exact P1.out | exact P1.out.drew) b2); clear b2)
      | (go_at_call 59; (with_reducible first | refine Calls.mono (C1.out _) ?_ | refine Calls.mono (C2.out _) ?_); rintro e w3 ⟨rfl, b3⟩; have P1 := hide (RIn.next (by first | exact P1.out | exact P1.out.drew) b3); clear b3))
    all_goals
      go_wp2
      go_ret2
      exact ⟨by rw [HE.out]; rfl, P1.out.1⟩
  · have HE : Hid (rtRes r = .tuple #[.string ⟨#[]⟩, .bool false]) := if_neg hr
    have HS := hide (srecOk r)
    have hd := dcN (d := r.decR) hr
    obtain ⟨k, v, x, c⟩ := r
    unfold rcVal at *
    simp only at *
    clear hr
    go_enter Tryz.func39, Tryz.ntmps39
    go_wp2_with fail
    refine (HS.out _).mono ?_
    rintro e w1 ⟨rfl, hb1⟩
    rw [hd]
    go_wp2
    go_ret2
    exact ⟨by rw [HE.out]; rfl, HB.out.trans (hb1.mono HB.out.size)⟩
end Go.Proofs.YtcofcmkajhhfaaaGreatDoor

namespace Go.Proofs.YtcofcmkajhhfaaaGreatDoor
open Go.RowKit
open Words
end Go.Proofs.YtcofcmkajhhfaaaGreatDoor

namespace Go.Proofs.YtcofcmkajhhfaaaGreatDoor
open Go.RowKit
open Words
end Go.Proofs.YtcofcmkajhhfaaaGreatDoor

namespace Go.Proofs.YtcofcmkajhhfaaaGreatDoor
open Go.RowKit
def Kept2 (w w' : World) (ok : Nat → Prop) : Prop := w'.os = w.os ∧ w'.tape = w.tape ∧ w'.output = w.output ∧ w.heap.size ≤ w'.heap.size ∧ ∀ i, i < w.heap.size → ok i → w'.heap[i]? = w.heap[i]?
theorem Kept2.refl (w : World) (ok : Nat → Prop) : Kept2 w w ok := ⟨rfl, rfl, rfl, Nat.le_refl _, fun _ _ _ => rfl⟩
theorem Kept2.trans {a b c : World} {ok : Nat → Prop} (h : Kept2 a b ok) (k : Kept2 b c ok) : Kept2 a c ok :=
  ⟨k.1.trans h.1, k.2.1.trans h.2.1, k.2.2.1.trans h.2.2.1, Nat.le_trans h.2.2.2.1 k.2.2.2.1, fun i hi ho => (k.2.2.2.2 i (Nat.lt_of_lt_of_le hi h.2.2.2.1) ho).trans (h.2.2.2.2 i hi ho)⟩
theorem Kept2.grown {a b : World} {ok : Nat → Prop} {row : Option Nat} (h : a.grownBy b row) (hr : ∀ j, row = some j → ¬ ok j) : Kept2 a b ok :=
  ⟨h.os, h.tape, h.output, h.size, fun i hi ho => h.block i hi (fun e => hr i e.symm ho)⟩
theorem Kept2.below {a b : World} {ok : Nat → Prop} (h : Below a.heap.size a b) : Kept2 a b ok := ⟨h.os, h.tape, h.output, h.size, fun i hi _ => h.block i hi⟩
theorem Kept2.down {a b : World} {ok : Nat → Prop} {B : Nat} (h : Kept2 a b ok) (hB : B ≤ a.heap.size) (ho : ∀ i, i < B → ok i) : Below B a b := ⟨h.1, h.2.1, h.2.2.1, h.2.2.2.1, fun i hi => h.2.2.2.2 i (Nat.lt_of_lt_of_le hi hB) (ho i hi)⟩
theorem grown_old {a b : World} (h : Below a.heap.size a b) (row : Option Nat) : a.grownBy b row := ⟨h.os, h.tape, h.output, h.size, fun i hi _ => h.block i hi⟩
end Go.Proofs.YtcofcmkajhhfaaaGreatDoor

namespace Go.Proofs.YtcofcmkajhhfaaaGreatDoor
open Go.RowKit
open Words
end Go.Proofs.YtcofcmkajhhfaaaGreatDoor

namespace Go.Proofs.YtcofcmkajhhfaaaGreatDoor
open Go.RowKit
def rccell (t : Int × Int × Int × Int) : List Value := [.int .i64 t.1, .int .i64 t.2.1, .int .i64 t.2.2.1, .int .i64 t.2.2.2]
def rccells (l : List (Int × Int × Int × Int)) : List Value := l.flatMap rccell
theorem rccells_len (l : List (Int × Int × Int × Int)) : (rccells l).length = l.length * 4 := by
  induction l with
  | nil => rfl
  | cons t l ih => simp [rccells, rccell] at ih ⊢; omega
theorem rccells_app (a b : List (Int × Int × Int × Int)) : rccells (a ++ b) = rccells a ++ rccells b := by simp [rccells]
theorem rccells_cons (t : Int × Int × Int × Int) (l : List (Int × Int × Int × Int)) : rccells (t :: l) = rccell t ++ rccells l := by simp [rccells]
theorem rccells_at (l : List (Int × Int × Int × Int)) (k : Nat) (t : Int × Int × Int × Int) (h : l[k]? = some t) (j : Nat) (v : Value) (hj : (rccell t)[j]? = some v) : (rccells l)[k * 4 + j]? = some v := by
  have hlt : j < 4 := (List.getElem?_eq_some_iff.1 hj).1
  induction l generalizing k with
  | nil => simp at h
  | cons a l ih =>
    rw [rccells_cons]
    cases k with
    | zero =>
      simp at h
      subst h
      rw [List.getElem?_append_left (by show _ < 4; omega), Nat.zero_mul, Nat.zero_add]
      exact hj
    | succ k =>
      rw [List.getElem?_append_right (by show 4 ≤ _; omega), show (k + 1) * 4 + j - (rccell a).length = k * 4 + j by show _ - 4 = _; omega]
      exact ih k (by simpa using h)
theorem infoRc : (Tryz.prog.info? 65).map (fun i => (i.zero, i.size, i.bytes)) = some (some (.agg #[.int .i64 0, .int .i64 0, .int .i64 0, .int .i64 0]), 4, 32) := by kernel_rfl
theorem infoRcz : (Tryz.prog.info? 65).map (·.size) = some 4 := by kernel_rfl
end Go.Proofs.YtcofcmkajhhfaaaGreatDoor

namespace Go.Proofs.YtcofcmkajhhfaaaGreatDoor
open Go.RowKit
theorem own_below {w w' : World} {base : Nat} {e : TypeId} {size : Nat} {v : Value} {n : Nat} {xs : List Value} (h : w.ownsRow base e size v n xs) (hb : Below w.heap.size w w') : w'.ownsRow base e size v n xs := by
  obtain ⟨h1, h2⟩ := h
  refine ⟨h1, ?_⟩
  rcases h2 with h | ⟨g, cap, cur, a1, a2, a3, a4⟩
  · exact .inl h
  · have hg : g < w.heap.size := (Array.getElem?_eq_some_iff.1 a3).1
    exact .inr ⟨g, cap, cur, a1, a2, by rw [hb.block g hg]; exact a3, a4⟩
theorem own_lower {w : World} {base C : Nat} {e : TypeId} {size : Nat} {v : Value} {n : Nat} {xs : List Value} (h : w.ownsRow base e size v n xs) (hC : C ≤ base) : w.ownsRow C e size v n xs := by
  obtain ⟨h1, h2⟩ := h
  refine ⟨h1, ?_⟩
  rcases h2 with h | ⟨g, cap, cur, a1, a2, a3⟩
  · exact .inl h
  · exact .inr ⟨g, cap, cur, a1, by omega, a3⟩
end Go.Proofs.YtcofcmkajhhfaaaGreatDoor
