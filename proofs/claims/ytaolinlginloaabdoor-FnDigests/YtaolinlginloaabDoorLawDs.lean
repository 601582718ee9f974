/-
  The walk of the law on digests of a text that comes in two parts.
-/
import Derived.Test.YtaolinlginloaabDoorParts3
import Derived.Test.YtaolinlginloaabDoorHAt
import Derived.Test.YtaolinlginloaabDoorBig
import Derived.Test.YtaolinlginloaabDoorDrawD
import Derived.Test.YtaolinlginloaabDoorDrawP
namespace Go.Proofs.YtaolinlginloaabDoor
open Go.RowKit
open Dig

/-- Two hashers that lie in the memory of the call. -/
def Two (w0 : World) (g h : Nat) (s r : ByteArray) (c : Int) (s' r' : ByteArray) (c' : Int) (w : World) : Prop := HAt w g s r c ∧ HAt w h s' r' c' ∧ StepIn w ∧ Below w0.heap.size w0 w
theorem Two.on {w0 w w' : World} {g h : Nat} {s r s' r' : ByteArray} {c c' : Int} (k : Two w0 g h s r c s' r' c' w) (hb : Below w.heap.size w w') : Two w0 g h s r c s' r' c' w' :=
  ⟨k.1.below hb k.1.1, k.2.1.below hb k.2.1.1, k.2.2.1.on hb, k.2.2.2.trans (hb.mono k.2.2.2.size)⟩
theorem two_call {w0 : World} {g h : Nat} {s r s' r' : ByteArray} {c c' : Int} {f : FuncId} {args : Array Value} {v : Value} (k : ∀ w, StepIn w → Calls Tryd.prog f args w fun e w' => e = .returned v ∧ Below w.heap.size w w') :
    Hid (∀ w, Two w0 g h s r c s' r' c' w → Calls Tryd.prog f args w fun e w' => e = .returned v ∧ (w'.cell? ⟨h, 0, none⟩ = some (.string s') ∧ w'.cell? ⟨h, 1, none⟩ = some (.string r') ∧ w'.cell? ⟨h, 2, none⟩ = some (.int .i64 c')) ∧ Hid (Two w0 g h s r c s' r' c' w')) := by
  intro w hw
  refine (k w hw.2.2.1).mono ?_
  rintro e w' ⟨rfl, hb⟩
  have h2 := hw.on hb
  exact ⟨rfl, ⟨h2.2.1.2.1, h2.2.1.2.2.1, h2.2.1.2.2.2.1⟩, h2⟩
/-- One hasher that lies there. -/
def One (w0 : World) (g : Nat) (s r : ByteArray) (c : Int) (w : World) : Prop := HAt w g s r c ∧ StepIn w ∧ Below w0.heap.size w0 w
theorem One.on {w0 w w' : World} {g : Nat} {s r : ByteArray} {c : Int} (k : One w0 g s r c w) (hb : Below w.heap.size w w') : One w0 g s r c w' :=
  ⟨k.1.below hb k.1.1, k.2.1.on hb, k.2.2.trans (hb.mono k.2.2.size)⟩
theorem one_call {w0 : World} {g : Nat} {s r : ByteArray} {c : Int} {f : FuncId} {args : Array Value} {v : Value} (k : ∀ w, StepIn w → Calls Tryd.prog f args w fun e w' => e = .returned v ∧ Below w.heap.size w w') :
    Hid (∀ w, One w0 g s r c w → Calls Tryd.prog f args w fun e w' => e = .returned v ∧ (w'.cell? ⟨g, 0, none⟩ = some (.string s) ∧ w'.cell? ⟨g, 1, none⟩ = some (.string r) ∧ w'.cell? ⟨g, 2, none⟩ = some (.int .i64 c)) ∧ (w'.frozen? ⟨g, 0, none⟩ = false ∧ w'.frozen? ⟨g, 1, none⟩ = false ∧ w'.frozen? ⟨g, 2, none⟩ = false) ∧ Hid (One w0 g s r c w')) := by
  intro w hw
  refine (k w hw.2.1).mono ?_
  rintro e w' ⟨rfl, hb⟩
  have h2 := hw.on hb
  exact ⟨rfl, ⟨h2.1.2.1, h2.1.2.2.1, h2.1.2.2.2.1⟩, ⟨h2.1.2.2.2.2.1, h2.1.2.2.2.2.2.1, h2.1.2.2.2.2.2.2⟩, h2⟩
theorem One.set {w0 w : World} {g : Nat} {s r s' r' : ByteArray} {c c' : Int} (k : One w0 g s r c w) (h0 : StepIn w0) (hg : w0.heap.size ≤ g) : One w0 g s' r' c' (((w.setCell ⟨g, 0, none⟩ (.string s')).setCell ⟨g, 1, none⟩ (.string r')).setCell ⟨g, 2, none⟩ (.int .i64 c')) :=
  have hb := ((k.2.2.setCell (p := ⟨g, 0, none⟩) hg (.string s')).setCell (p := ⟨g, 1, none⟩) hg (.string r')).setCell (p := ⟨g, 2, none⟩) hg (.int .i64 c')
  ⟨k.1.set, h0.on hb, hb⟩
theorem hat_new (w : World) (s r : ByteArray) (c : Int) (t : TypeId) : HAt (w.alloc (.cells #[.string s, .string r, .int .i64 c] t)) w.heap.size s r c := ⟨by simp, by simp, by simp, by simp, by simp, by simp, by simp⟩

theorem One.alloc {w0 w : World} {g : Nat} {s r : ByteArray} {c : Int} (k : One w0 g s r c w) (s' r' : ByteArray) (c' : Int) (t : TypeId) : Two w0 g w.heap.size s r c s' r' c' (w.alloc (.cells #[.string s', .string r', .int .i64 c'] t)) :=
  have hb : Below w.heap.size w (w.alloc (.cells #[.string s', .string r', .int .i64 c'] t)) := (Below.refl _ _).alloc (Nat.le_refl _) _
  ⟨(k.on hb).1, hat_new _ _ _ _ _, (k.on hb).2.1, (k.on hb).2.2⟩
theorem Two.set {w0 w : World} {g h : Nat} {s r s' r' s2 r2 : ByteArray} {c c' c2 : Int} (k : Two w0 g h s r c s' r' c' w) (h0 : StepIn w0) (hg : w0.heap.size ≤ h) (hne : h ≠ g) : Two w0 g h s r c s2 r2 c2 (((w.setCell ⟨h, 0, none⟩ (.string s2)).setCell ⟨h, 1, none⟩ (.string r2)).setCell ⟨h, 2, none⟩ (.int .i64 c2)) :=
  have hb := ((k.2.2.2.setCell (p := ⟨h, 0, none⟩) hg (.string s2)).setCell (p := ⟨h, 1, none⟩) hg (.string r2)).setCell (p := ⟨h, 2, none⟩) hg (.int .i64 c2)
  ⟨k.1.far hne, k.2.1.set, h0.on hb, hb⟩

set_option maxHeartbeats 4000000 in
set_option maxRecDepth 100000 in
theorem lawDs (ad : Option Addr) (len cap : Nat) (w : World) (hd : CodeIn w ad len w.heap.size) (hT : StepIn w) :
    Calls Tryd.prog 3 #[.slice ad len cap] w fun e w' => e = .returned (.bool true) ∧ Below w.heap.size w w' := by
  have HD := hide hd
  have HT := hide hT
  clear hd hT
  by_cases hbig : (1048576 : Int) < len
  · go_enter Tryd.func3, Tryd.ntmps3
    go_wp2_with fail
    refine (big_any ad len cap _).mono ?_
    rintro e w1 ⟨rfl, rfl⟩
    rw [decide_eq_true hbig]
    go_wp2
    go_ret
    exact ⟨rfl, Below.refl _ _⟩
  · go_enter Tryd.func3, Tryd.ntmps3
    go_wp2_with fail
    refine (big_any ad len cap _).mono ?_
    rintro e w1 ⟨rfl, rfl⟩
    rw [decide_eq_false (show ¬ (1048576 : Int) < len by omega)]
    go_wp2_with fail
    refine (drawDig_any ad len cap _ (by omega) HD.out).mono ?_
    rintro e w2 ⟨t, rfl, ht, b2⟩
    have s2 := b2.size
    have HD2 := hide (HD.out.on b2 (Nat.le_refl _))
    go_wp2_with fail
    refine (places_any ad len cap _ (by omega) (HD2.out.up s2)).mono ?_
    rintro e w3 ⟨g, cp, ps, rfl, hg, hgw, hpl, hall, hcell, b3⟩
    have k0 := hcell 0 (by omega)
    have p0 := hall ps[0] (List.getElem_mem _)
    generalize ps[0] = q0 at k0 p0
    have s3 := b3.size
    have B3 : Hid (Below w1.heap.size w1 w3) := b2.trans (b3.mono s2)
    obtain ⟨k, hk, hm⟩ : ∃ k : Nat, k ≤ t.size ∧ q0 % ((t.size : Int) + 1) = k := by
      have h1 := Int.emod_lt_of_pos q0 (show (0 : Int) < (t.size : Int) + 1 by omega)
      have h2 := Int.emod_nonneg q0 (show (t.size : Int) + 1 ≠ 0 by omega)
      exact ⟨(q0 % ((t.size : Int) + 1)).toNat, by omega, by omega⟩
    clear HD HD2 hcell hall hpl ps b2 b3
    obtain ⟨T1, hT1⟩ : ∃ T1, T1 = t.extract 0 k := ⟨_, rfl⟩
    obtain ⟨T2, hT2⟩ : ∃ T2, T2 = t.extract k t.size := ⟨_, rfl⟩
    have hsl1 : ∀ W, (Instr.slice 9 (.string t) none (some (.int .i64 (k : Int))) none).run Tryd.prog W = .ok (.string T1) W := by
      intro W
      rw [run_slice_string_h W 9 t Tryd.underlying9 .i64 _ (by omega) (by omega), hT1]
      rfl
    have hsl2 : ∀ W, (Instr.slice 9 (.string t) (some (.int .i64 (k : Int))) none none).run Tryd.prog W = .ok (.string T2) W := by
      intro W
      rw [run_slice_string_l W 9 t Tryd.underlying9 .i64 _ (by omega) (by omega), hT2]
      rfl
    have hj : T1 ++ T2 = t := by rw [hT1, hT2]; exact cut_append t k hk
    have h1s : T1.size = k := by rw [hT1]; simp; omega
    have h2s : T2.size ≤ 1000 := by rw [hT2]; simp; omega
    have cM1 := fun w' => implMore_of ⟨#[]⟩ T1 w' (by decide) (by omega)
    rw [rof_empty, empty_append', h1s, show ((⟨#[]⟩ : ByteArray).size : Int) = 0 from rfl] at cM1
    have cM2 := fun w' => implMore_of T1 T2 w' (by omega) h2s
    rw [hj, h1s] at cM2
    have cM3 := fun w' => implMore_of t ⟨#[]⟩ w' (by omega) (by decide)
    rw [append_empty'] at cM3
    have cO1 := fun w' => implOk_of T1 w' (by omega)
    rw [h1s] at cO1
    have cO2 := fun w' => implOk_of t w' (by omega)
    have cE := fun w' => implEnd_of t w' (by omega)
    have cD := fun w' => implDig_any t w' (by omega)
    have cS := fun w' => specDig t w' (by omega)
    have cN := implNew_of
    have hD32 := digL_len t
    obtain ⟨D, hD⟩ : ∃ D : ByteArray, D = ⟨(digL t.data.toList).toArray⟩ := ⟨_, rfl⟩
    have hDs : D.size = 32 := by rw [hD]; show (digL t.data.toList).toArray.size = 32; simpa using hD32
    rw [← hD] at cE cD cS
    generalize Sof ⟨#[]⟩ = F0 at cN cM1
    generalize Sof T1 = S1 at cM1 cM2 cO1
    generalize Rof T1 = R1 at cM1 cM2 cO1
    generalize Sof t = S2 at cM2 cM3 cO2 cE
    generalize Rof t = R2 at cM2 cM3 cO2 cE
    have CN := hide cN
    clear cN hD hD32 hj h1s h2s hT1 hT2
    have CS0 := hide cS
    go_wp2_with fail
    refine (CN.out _).mono ?_
    rintro en w4 ⟨rfl, b4⟩
    have h4 : One w1 w4.heap.size F0 ⟨#[]⟩ 0 (w4.alloc (.cells #[.string F0, .string ⟨#[]⟩, .int .i64 0] 28)) := by
      have hb : Below w1.heap.size w1 w4 := B3.out.trans (b4.mono B3.out.size)
      have hb2 := hb.alloc hb.size (.cells #[.string F0, .string ⟨#[]⟩, .int .i64 0] 28)
      exact ⟨hat_new _ _ _ _ _, HT.out.on hb2, hb2⟩
    have hg4 : w1.heap.size ≤ w4.heap.size := Nat.le_trans B3.out.size b4.size
    obtain ⟨g5, hg5⟩ : ∃ g5, g5 = w4.heap.size := ⟨_, rfl⟩
    rw [← hg5] at h4 hg4
    clear CN b4 B3 k0
    have CM1 := one_call (w0 := w1) (g := g5) (s := F0) (r := ⟨#[]⟩) (c := 0) cM1
    have CM2 := one_call (w0 := w1) (g := g5) (s := S1) (r := R1) (c := k) cM2
    have CM2' := hide cM2
    clear cM1 cM2
    go_wp2
    rw [← hg5]
    generalize w4.alloc (.cells #[.string F0, .string ⟨#[]⟩, .int .i64 0] 28) = w5 at h4 ⊢
    obtain ⟨-, a0, a1, a2, -⟩ := h4.1
    have H4 := hide (h4.on (Below.refl _ _).drew)
    clear h4 hg5
    have CO1' := hide cO1
    have CO2' := hide cO2
    have CE' := hide cE
    have CD' := hide cD
    have CM3' := hide cM3
    clear cO1 cO2 cE cD cM3 cS
    go_region_with (
      (go_at_call 10; refine Calls.mono (CM1.out _ H4.out) ?_; rintro en w6 ⟨rfl, ⟨b0, b1, b2⟩, ⟨f0, f1, f2⟩, H6⟩))
    all_goals
      have h7 := One.set (s' := S1) (r' := R1) (c' := k) H6.out HT.out hg4
      generalize ((w6.setCell ⟨g5, 0, none⟩ (.string S1)).setCell ⟨g5, 1, none⟩ (.string R1)).setCell ⟨g5, 2, none⟩ (.int .i64 k) = w7 at h7 ⊢
      have hg7 : g5 < w7.heap.size := h7.1.1
      have H7 := hide (h7.on (Below.refl _ _).drew)
      have hA := h7.alloc ⟨#[]⟩ ⟨#[]⟩ 0 28
      have HA := hide (hA.on (Below.refl _ _).drew)
      have K0 : Hid (w7.drew.cell? ⟨g5, 0, none⟩ = some (.string S1) ∧ w7.drew.cell? ⟨g5, 1, none⟩ = some (.string R1) ∧ w7.drew.cell? ⟨g5, 2, none⟩ = some (.int .i64 k)) := ⟨h7.1.2.1, h7.1.2.2.1, h7.1.2.2.2.1⟩
      have KA : Hid ((w7.alloc (.cells #[.string ⟨#[]⟩, .string ⟨#[]⟩, .int .i64 0] 28)).drew.cell? ⟨g5, 0, none⟩ = some (.string S1) ∧ (w7.alloc (.cells #[.string ⟨#[]⟩, .string ⟨#[]⟩, .int .i64 0] 28)).drew.cell? ⟨g5, 1, none⟩ = some (.string R1) ∧ (w7.alloc (.cells #[.string ⟨#[]⟩, .string ⟨#[]⟩, .int .i64 0] 28)).drew.cell? ⟨g5, 2, none⟩ = some (.int .i64 k)) := ⟨hA.1.2.1, hA.1.2.2.1, hA.1.2.2.2.1⟩
      have hgs : w1.heap.size ≤ w7.heap.size := h7.2.2.size
      obtain ⟨-, a0, a1, a2, -⟩ := h7.1
      have CM2z := two_call (w0 := w1) (g := g5) (h := w7.heap.size) (s := S1) (r := R1) (c := k) (s' := ⟨#[]⟩) (r' := ⟨#[]⟩) (c' := 0) CM2'.out
      clear b0 b1 b2 f0 f1 f2 H6 H4 CM1 h7 hA
      go_wp2
      go_region_held3 (fun w' => w'.cell? ⟨g5, 0, none⟩ = some (.string S1) ∧ w'.cell? ⟨g5, 1, none⟩ = some (.string R1) ∧ w'.cell? ⟨g5, 2, none⟩ = some (.int .i64 k)) (first | (with_reducible exact KS8.out) | (with_reducible exact KB8.out) | (with_reducible exact KA8.out) | (with_reducible exact K8.out) | (with_reducible exact KA.out) | (with_reducible exact K0.out)) (first
        | (go_at_call 10; have hh := CM2.out _ H7.out; (with_reducible refine Calls.mono hh ?_); rintro en w8 ⟨rfl, K8', -, H8⟩; have K8 := hide K8'; have KA8 : Hid ((w8.alloc (.cells #[.string ⟨#[]⟩, .string ⟨#[]⟩, .int .i64 0] 28)).cell? ⟨g5, 0, none⟩ = some (.string S1) ∧ (w8.alloc (.cells #[.string ⟨#[]⟩, .string ⟨#[]⟩, .int .i64 0] 28)).cell? ⟨g5, 1, none⟩ = some (.string R1) ∧ (w8.alloc (.cells #[.string ⟨#[]⟩, .string ⟨#[]⟩, .int .i64 0] 28)).cell? ⟨g5, 2, none⟩ = some (.int .i64 k)) := ⟨(H8.out.alloc ⟨#[]⟩ ⟨#[]⟩ 0 28).1.2.1, (H8.out.alloc ⟨#[]⟩ ⟨#[]⟩ 0 28).1.2.2.1, (H8.out.alloc ⟨#[]⟩ ⟨#[]⟩ 0 28).1.2.2.2.1⟩; have KB8 : Hid ((w8.alloc (.cells #[.string S2, .string R2, .int .i64 t.size] 28)).cell? ⟨g5, 0, none⟩ = some (.string S1) ∧ (w8.alloc (.cells #[.string S2, .string R2, .int .i64 t.size] 28)).cell? ⟨g5, 1, none⟩ = some (.string R1) ∧ (w8.alloc (.cells #[.string S2, .string R2, .int .i64 t.size] 28)).cell? ⟨g5, 2, none⟩ = some (.int .i64 k)) := ⟨(H8.out.alloc S2 R2 t.size 28).1.2.1, (H8.out.alloc S2 R2 t.size 28).1.2.2.1, (H8.out.alloc S2 R2 t.size 28).1.2.2.2.1⟩; clear hh K8')
        | (go_at_call 10; have hh := CM2z.out _ HA.out; (with_reducible refine Calls.mono hh ?_); rintro en w8 ⟨rfl, ⟨e0, e1, e2⟩, H8⟩; obtain ⟨-, -, -, -, f0, f1, f2⟩ := H8.out.2.1; have K8 : Hid (w8.cell? ⟨g5, 0, none⟩ = some (.string S1) ∧ w8.cell? ⟨g5, 1, none⟩ = some (.string R1) ∧ w8.cell? ⟨g5, 2, none⟩ = some (.int .i64 k)) := ⟨H8.out.1.2.1, H8.out.1.2.2.1, H8.out.1.2.2.2.1⟩; have hS8 := H8.out.set (s2 := S2) (r2 := R2) (c2 := t.size) HT.out hgs (Nat.ne_of_gt hg7); have KS8 : Hid ((((w8.setCell ⟨w7.heap.size, 0, none⟩ (.string S2)).setCell ⟨w7.heap.size, 1, none⟩ (.string R2)).setCell ⟨w7.heap.size, 2, none⟩ (.int .i64 t.size)).cell? ⟨g5, 0, none⟩ = some (.string S1) ∧ (((w8.setCell ⟨w7.heap.size, 0, none⟩ (.string S2)).setCell ⟨w7.heap.size, 1, none⟩ (.string R2)).setCell ⟨w7.heap.size, 2, none⟩ (.int .i64 t.size)).cell? ⟨g5, 1, none⟩ = some (.string R1) ∧ (((w8.setCell ⟨w7.heap.size, 0, none⟩ (.string S2)).setCell ⟨w7.heap.size, 1, none⟩ (.string R2)).setCell ⟨w7.heap.size, 2, none⟩ (.int .i64 t.size)).cell? ⟨g5, 2, none⟩ = some (.int .i64 k)) := ⟨hS8.1.2.1, hS8.1.2.2.1, hS8.1.2.2.2.1⟩; have HS8 := hide hS8; clear hh hS8))
      · have hX := H8.out.alloc S2 R2 t.size 28
        clear K8 KA8 KB8 K0 KA H7 HA CM2 CM2z a0 a1 a2 H8 CM2'
        generalize w8.alloc (.cells #[.string S2, .string R2, .int .i64 t.size] 28) = wX at hX ⊢
        generalize w8.heap.size = gX at hX ⊢
        have HX := hide hX
        clear hX
        have CO1 := two_call (w0 := w1) (g := g5) (h := gX) (s := S1) (r := R1) (c := k) (s' := S2) (r' := R2) (c' := t.size) (fun w' (_ : StepIn w') => CO1'.out w')
        have CO2 := two_call (w0 := w1) (g := g5) (h := gX) (s := S1) (r := R1) (c := k) (s' := S2) (r' := R2) (c' := t.size) (fun w' (_ : StepIn w') => CO2'.out w')
        have CE := two_call (w0 := w1) (g := g5) (h := gX) (s := S1) (r := R1) (c := k) (s' := S2) (r' := R2) (c' := t.size) CE'.out
        have CD := two_call (w0 := w1) (g := g5) (h := gX) (s := S1) (r := R1) (c := k) (s' := S2) (r' := R2) (c' := t.size) CD'.out
        have CS := two_call (w0 := w1) (g := g5) (h := gX) (s := S1) (r := R1) (c := k) (s' := S2) (r' := R2) (c' := t.size) (fun w' (_ : StepIn w') => CS0.out w')
        have CM3 := two_call (w0 := w1) (g := g5) (h := gX) (s := S1) (r := R1) (c := k) (s' := S2) (r' := R2) (c' := t.size) CM3'.out
        have qD : (D.toList == D.toList) = true := by simp
        go_wp2_with fail
        refine Calls.mono (CD.out _ HX.out) ?_
        rintro en w9 ⟨rfl, ⟨n0, n1, n2⟩, H9⟩
        obtain ⟨-, i0, i1, i2, -⟩ := H9.out.1
        clear HX CD
        go_wp2_with fail
        refine Calls.mono (CO1.out _ H9.out) ?_
        rintro en wa ⟨rfl, ⟨o0, o1, o2⟩, Ha⟩
        clear H9 CO1 n0 n1 n2 i0 i1 i2
        go_wp2_with fail
        refine Calls.mono (CO2.out _ Ha.out) ?_
        rintro en wb ⟨rfl, ⟨n0, n1, n2⟩, Hb⟩
        clear Ha CO2 o0 o1 o2
        go_wp2_with fail
        refine Calls.mono (CE.out _ Hb.out) ?_
        rintro en wc ⟨rfl, ⟨o0, o1, o2⟩, Hc⟩
        clear Hb n0 n1 n2
        go_wp2_with fail
        refine Calls.mono (CS.out _ Hc.out) ?_
        rintro en wd ⟨rfl, ⟨n0, n1, n2⟩, Hd⟩
        clear Hc CS o0 o1 o2
        go_wp2_with fail
        refine Calls.mono (CM3.out _ Hd.out) ?_
        rintro en we ⟨rfl, ⟨o0, o1, o2⟩, He⟩
        clear Hd CM3 n0 n1 n2
        go_wp2_with fail
        refine Calls.mono (CE.out _ He.out) ?_
        rintro en wf ⟨rfl, ⟨n0, n1, n2⟩, Hf⟩
        clear He CE o0 o1 o2 n0 n1 n2
        go_wp2
        go_ret
        exact ⟨rfl, Hf.out.2.2.2⟩
      · clear K8 KS8 K0 KA H7 HA CM2 CM2z a0 a1 a2 e0 e1 e2 f0 f1 f2 H8 CM2'
        generalize (((w8.setCell ⟨w7.heap.size, 0, none⟩ (.string S2)).setCell ⟨w7.heap.size, 1, none⟩ (.string R2)).setCell ⟨w7.heap.size, 2, none⟩ (.int .i64 t.size)) = wX at HS8 ⊢
        generalize w7.heap.size = gX at HS8 ⊢
        have HX := HS8
        clear HS8
        have CO1 := two_call (w0 := w1) (g := g5) (h := gX) (s := S1) (r := R1) (c := k) (s' := S2) (r' := R2) (c' := t.size) (fun w' (_ : StepIn w') => CO1'.out w')
        have CO2 := two_call (w0 := w1) (g := g5) (h := gX) (s := S1) (r := R1) (c := k) (s' := S2) (r' := R2) (c' := t.size) (fun w' (_ : StepIn w') => CO2'.out w')
        have CE := two_call (w0 := w1) (g := g5) (h := gX) (s := S1) (r := R1) (c := k) (s' := S2) (r' := R2) (c' := t.size) CE'.out
        have CD := two_call (w0 := w1) (g := g5) (h := gX) (s := S1) (r := R1) (c := k) (s' := S2) (r' := R2) (c' := t.size) CD'.out
        have CS := two_call (w0 := w1) (g := g5) (h := gX) (s := S1) (r := R1) (c := k) (s' := S2) (r' := R2) (c' := t.size) (fun w' (_ : StepIn w') => CS0.out w')
        have CM3 := two_call (w0 := w1) (g := g5) (h := gX) (s := S1) (r := R1) (c := k) (s' := S2) (r' := R2) (c' := t.size) CM3'.out
        have qD : (D.toList == D.toList) = true := by simp
        go_wp2_with fail
        refine Calls.mono (CD.out _ HX.out) ?_
        rintro en w9 ⟨rfl, ⟨n0, n1, n2⟩, H9⟩
        obtain ⟨-, i0, i1, i2, -⟩ := H9.out.1
        clear HX CD
        go_wp2_with fail
        refine Calls.mono (CO1.out _ H9.out) ?_
        rintro en wa ⟨rfl, ⟨o0, o1, o2⟩, Ha⟩
        clear H9 CO1 n0 n1 n2 i0 i1 i2
        go_wp2_with fail
        refine Calls.mono (CO2.out _ Ha.out) ?_
        rintro en wb ⟨rfl, ⟨n0, n1, n2⟩, Hb⟩
        clear Ha CO2 o0 o1 o2
        go_wp2_with fail
        refine Calls.mono (CE.out _ Hb.out) ?_
        rintro en wc ⟨rfl, ⟨o0, o1, o2⟩, Hc⟩
        clear Hb n0 n1 n2
        go_wp2_with fail
        refine Calls.mono (CS.out _ Hc.out) ?_
        rintro en wd ⟨rfl, ⟨n0, n1, n2⟩, Hd⟩
        clear Hc CS o0 o1 o2
        go_wp2_with fail
        refine Calls.mono (CM3.out _ Hd.out) ?_
        rintro en we ⟨rfl, ⟨o0, o1, o2⟩, He⟩
        clear Hd CM3 n0 n1 n2
        go_wp2_with fail
        refine Calls.mono (CE.out _ He.out) ?_
        rintro en wf ⟨rfl, ⟨n0, n1, n2⟩, Hf⟩
        clear He CE o0 o1 o2 n0 n1 n2
        go_wp2
        go_ret
        exact ⟨rfl, Hf.out.2.2.2⟩
end Go.Proofs.YtaolinlginloaabDoor
