/-
  Ins; Stable
-/
import Derived.Test.YtcjgjkejhkhknacGreatDoorPk25
import Derived.Deep.QuietTactic
import Derived.BigQuiet
import Derived.Test.YtcjgjkejhkhknacGreatDoorSymM
set_option maxHeartbeats 4000000
set_option maxRecDepth 100000
namespace Go.Proofs.YtcjgjkejhkhknacGreatDoor
open Go.RowKit
open Words
theorem insertion (g N cap a b : Nat) (P L Q : List Fnd) (w : World) (hN : N ≤ 1000000000000000) (hl : (P ++ (L ++ Q)).length = N) (hP : P.length = a) (hb : a + L.length = b) (hr : SRow w g (P ++ (L ++ Q))) :
 Calls Tryz.prog 149 #[.slice (some ⟨g, 0, none⟩) N cap, .int .i64 a, .int .i64 b, .func (.func 97) #[] #[]] w fun e w' => e = .returned (.tuple #[]) ∧ ∃ M, Asc M ∧ Akin L M ∧ M.length = L.length ∧ Sorted w w' g (P ++ (M ++ Q)) := by
 have hbN : b ≤ N := by rw [← hl]; simp; omega
 cases L with
 | nil =>
  have hab : b = a := by simpa using hb.symm
  subst hab
  have PF : Hid (∃ M, Asc M ∧ Akin ([] : List Fnd) M ∧ M.length = ([] : List Fnd).length ∧ Sorted w w g (P ++ (M ++ Q))) := ⟨[], List.Pairwise.nil, Akin.refl _, rfl, Kept2.refl _ _, hr⟩
  clear hr hl
  go_enter Tryz.func149, Tryz.ntmps149
  go_wp2
  go_loopw [8] (fun iv wr => iv = .int .i64 ((b : Int) + 1) ∧ wr = w) (fun _ _ => 0)
  case atStart => exact ⟨by first | rfl | go_num, rfl⟩
  case round =>
   obtain ⟨rfl, rfl⟩ := hrel
   have hnl : ¬ (b : Int) + 1 < b := by omega
   go_wp2
   first | go_end0 | refine bodyPost_ret (results_none rfl _ _ _) rfl ?_
   obtain ⟨M, h1, h2, h3, h4⟩ := PF.out
   exact ⟨rfl, M, h1, h2, by simpa using h3, h4⟩
 | cons x0 L0 =>
  obtain ⟨D, hD⟩ : ∃ D, D = P ++ ((x0 :: L0) ++ Q) := ⟨_, rfl⟩
  rw [← hD] at hl hr
  have HL := hide hl
  have HS0 : Hid (Sorted w w g D) := ⟨Kept2.refl _ _, hr⟩
  have HP := hide hP
  obtain ⟨nl, hnl⟩ : ∃ n, (x0 :: L0).length = n := ⟨_, rfl⟩
  rw [hnl] at hb
  have HNL := hide hnl
  have hn1 : 1 ≤ nl := by rw [← hnl]; simp
  have ST : Hid (∃ S T, D = P ++ (S ++ (T ++ Q)) ∧ Asc S ∧ Akin (x0 :: L0) (S ++ T) ∧ S.length = (a + 1) - a ∧ S.length + T.length = nl) := ⟨[x0], L0, by rw [hD]; simp, List.pairwise_singleton _ _, Akin.refl _, by simp, by rw [← hnl]; simp; omega⟩
  clear hD hl hP hr hnl
  generalize x0 :: L0 = L at HNL ST
  obtain ⟨i0, hi0⟩ : ∃ i0 : Nat, (a : Int) + 1 = i0 := ⟨a + 1, by omega⟩
  have hi1 : Hid (i0 = a + 1) := by show _ = _; omega
  go_enter Tryz.func149, Tryz.ntmps149
  go_wp2
  clear hi0
  go_loopw [8] (fun iv wr => ∃ (i : Nat) (E : List Fnd), iv = .int .i64 i ∧ a + 1 ≤ i ∧ i ≤ b ∧ Hid (E.length = N) ∧ Hid (∃ S T, E = P ++ (S ++ (T ++ Q)) ∧ Asc S ∧ Akin L (S ++ T) ∧ S.length = i - a ∧ S.length + T.length = nl) ∧ Hid (Sorted w wr g E)) (fun iv _ => b - (intOf iv).toNat)
  case atStart => exact ⟨i0, D, rfl, by have := hi1.out; omega, by have := hi1.out; omega, HL, by rw [hi1.out]; exact ST, HS0⟩
  case round =>
   rename World => wo
   obtain ⟨i, E, rfl, r1, r2, HE, HJ, HS⟩ := hrel
   clear HS0 ST HL
   by_cases hlt : (i : Int) < b
   ·obtain ⟨S, T0, e1, e2, e3, e4, e5⟩ := HJ.out
    match T0, e1, e3, e5 with
    | [], _, _, h5 => simp at h5; omega
    | x :: T, e1, e3, e5 =>
     have J0 : Hid (E = P ++ (S ++ (x :: ([] ++ (T ++ Q)))) ∧ S ++ [] = S ∧ S.length = i - a ∧ ∀ v ∈ ([] : List Fnd), x.key < v.key) := ⟨by rw [e1]; simp, by simp, e4, fun v hv => by cases hv⟩
     have AS := hide e2
     have AK := hide e3
     have E5 := hide e5
     have HSo := HS
     have HEo := HE
     have E4 := hide e4
     clear e1 e2 e3 e4 e5 HJ HS HE
     go_wp2
     go_loopw [9] (fun jv wr => ∃ (j : Nat) (F U V : List Fnd), jv = .int .i64 j ∧ a ≤ j ∧ j ≤ i ∧ Hid (F.length = N) ∧ Hid (F = P ++ (U ++ (x :: (V ++ (T ++ Q)))) ∧ U ++ V = S ∧ U.length = j - a ∧ ∀ v ∈ V, x.key < v.key) ∧ Hid (Sorted w wr g F)) (fun jv _ => (intOf jv).toNat)
     case atStart => exact ⟨i, E, S, [], rfl, by omega, Nat.le_refl _, HEo, J0, HSo⟩
     case round =>
      obtain ⟨j, G, U, V, rfl, s1, s2, HG, HK, HS⟩ := hrel
      clear HSo HEo J0
      have OUT : Hid ((∀ u ∈ U, u.key ≤ x.key) → ∃ S2 T2, G = P ++ (S2 ++ (T2 ++ Q)) ∧ Asc S2 ∧ Akin L (S2 ++ T2) ∧ S2.length = (i + 1) - a ∧ S2.length + T2.length = nl) := by
       intro hu
       obtain ⟨k1, k2, k3, k4⟩ := HK.out
       have hA := AS.out
       rw [← k2] at hA
       refine ⟨U ++ x :: V, T, by rw [k1]; simp, Asc.app hA.left (List.pairwise_cons.2 ⟨fun v hv => Int.le_of_lt (k4 v hv), hA.right⟩) ?_, ?_, ?_, ?_⟩
       ·intro p hp q hq
        rcases List.mem_cons.1 hq with e | e
        ·subst e; exact hu p hp
        ·exact hA.across p hp q e
       ·refine AK.out.trans ?_
        rw [← k2]
        have := (Akin.refl U).app ((Akin.flip (a := V) (b := [x]) (fun p hp q hq => by rw [List.mem_singleton] at hq; subst hq; have := k4 p hp; omega)).app (Akin.refl T))
        simpa using this
       ·have h1 := congrArg List.length k2
        have h2 := E4.out
        simp only [List.length_append, List.length_cons] at h1 ⊢
        omega
       ·have h1 := congrArg List.length k2
        have h2 := E5.out
        simp only [List.length_append, List.length_cons] at h1 h2 ⊢
        omega
      by_cases hja : (a : Int) < j
      ·obtain ⟨k1, k2, k3, k4⟩ := HK.out
       obtain ⟨U', u, eU⟩ : ∃ U' u, U = U' ++ [u] := by
        have hne : U ≠ [] := fun e => by subst e; simp at k3; omega
        exact ⟨U.dropLast, U.getLast hne, (List.dropLast_concat_getLast hne).symm⟩
       subst eU
       obtain ⟨q, hqI⟩ : ∃ q : Nat, (j : Int) - 1 = q := ⟨j - 1, by omega⟩
       have hqw : IntKind.i64.wrap ((j : Int) - 1) = q := by rw [IntKind.wrap_i64]; omega
       have hqw2 : IntKind.i64.wrap (q : Int) = q := by rw [IntKind.wrap_i64]; omega
       have eE : G = (P ++ U') ++ u :: ([] ++ x :: (V ++ (T ++ Q))) := by rw [k1]; simp
       have lPU : (P ++ U').length = q := by
        rw [List.length_append]
        rw [List.length_append] at k3
        have := HP.out
        simp at k3
        omega
       have hq : G[q]? = some u := by rw [eE, ← lPU]; simp
       have hp : G[j]? = some x := by
        rw [eE, List.getElem?_append_right (by omega)]
        have : j - (P ++ U').length = 1 := by omega
        rw [this]
        rfl
       have hset : (G.set j u).set q x = P ++ (U' ++ (x :: ((u :: V) ++ (T ++ Q)))) := by
        have := set_two (P ++ U') [] (V ++ (T ++ Q)) u x
        rw [lPU, ← eE] at this
        rw [List.set_comm _ _ (show j ≠ q by omega), show j = q + 1 + ([] : List Fnd).length by simp; omega, this]
        simp
       have NL : Hid (((G.set j u).set q x).length = N) := by show _ = _; rw [List.length_set, List.length_set]; exact HG.out
       have k3' : U'.length = q - a := by simp at k3; omega
       have k2' : U' ++ (u :: V) = S := by rw [← k2]; simp
       have j0 : (0 : Int) ≤ j := by omega
       have q0 : (0 : Int) ≤ q := by omega
       have jN : (j : Int) < N := by omega
       have qN : (q : Int) < N := by omega
       have HPp := hide hp
       have HQq := hide hq
       have hjq : q + 1 = j := by omega
       by_cases hc : x.key < u.key
       ·have NU : Hid ((G.set j u).set q x = P ++ (U' ++ (x :: ((u :: V) ++ (T ++ Q)))) ∧ U' ++ (u :: V) = S ∧ U'.length = q - a ∧ ∀ v ∈ (u :: V), x.key < v.key) := ⟨hset, k2', k3', fun v hv => by
         rcases List.mem_cons.1 hv with e | e
         ·subst e; exact hc
         ·exact k4 v e⟩
        clear hp hq eE lPU hset k1 k2 k3 k4 HK OUT k2' k3'
        have KC : Hid (∀ W, Sorted w W g G → (W.cell? ⟨g, j * 8, none⟩ = some (.int .i64 x.block) ∧ W.cell? ⟨g, j * 8 + 1, none⟩ = some (.int .i64 x.leaf) ∧ W.cell? ⟨g, j * 8 + 2, none⟩ = some (.int .i64 x.page.kind) ∧ W.cell? ⟨g, j * 8 + 3, none⟩ = some (.int .i64 x.page.seq) ∧ W.cell? ⟨g, j * 8 + 4, none⟩ = some (.int .i64 x.page.tx) ∧ W.cell? ⟨g, j * 8 + 5, none⟩ = some (.int .i64 x.page.part) ∧ W.cell? ⟨g, j * 8 + 6, none⟩ = some (.int .i64 x.page.count) ∧ W.cell? ⟨g, j * 8 + 7, none⟩ = some (.string x.page.text)) ∧ W.cell? ⟨g, q * 8, none⟩ = some (.int .i64 u.block) ∧ W.cell? ⟨g, q * 8 + 1, none⟩ = some (.int .i64 u.leaf) ∧ W.cell? ⟨g, q * 8 + 2, none⟩ = some (.int .i64 u.page.kind) ∧ W.cell? ⟨g, q * 8 + 3, none⟩ = some (.int .i64 u.page.seq) ∧ W.cell? ⟨g, q * 8 + 4, none⟩ = some (.int .i64 u.page.tx) ∧ W.cell? ⟨g, q * 8 + 5, none⟩ = some (.int .i64 u.page.part) ∧ W.cell? ⟨g, q * 8 + 6, none⟩ = some (.int .i64 u.page.count) ∧ W.cell? ⟨g, q * 8 + 7, none⟩ = some (.string u.page.text)) := fun W h => ⟨⟨h.2.cell HPp.out 0 rfl, h.2.cell HPp.out 1 rfl, h.2.cell HPp.out 2 rfl, h.2.cell HPp.out 3 rfl, h.2.cell HPp.out 4 rfl, h.2.cell HPp.out 5 rfl, h.2.cell HPp.out 6 rfl, h.2.cell HPp.out 7 rfl⟩, ⟨h.2.cell HQq.out 0 rfl, h.2.cell HQq.out 1 rfl, h.2.cell HQq.out 2 rfl, h.2.cell HQq.out 3 rfl, h.2.cell HQq.out 4 rfl, h.2.cell HQq.out 5 rfl, h.2.cell HQq.out 6 rfl, h.2.cell HQq.out 7 rfl⟩⟩
        have CC : Hid (Calls Tryz.prog 97 #[.agg #[.int .i64 x.block, .int .i64 x.leaf, .int .i64 x.page.kind, .int .i64 x.page.seq, .int .i64 x.page.tx, .int .i64 x.page.part, .int .i64 x.page.count, .string x.page.text], .agg #[.int .i64 u.block, .int .i64 u.leaf, .int .i64 u.page.kind, .int .i64 u.page.seq, .int .i64 u.page.tx, .int .i64 u.page.part, .int .i64 u.page.count, .string u.page.text]] wr.drew fun e w' => e = .returned (.int .i64 (cmpV x u)) ∧ Sorted w w' g G) := fcmp_row x u HS.out.drew
        obtain ⟨r, hrr⟩ : ∃ r, r = cmpV x u := ⟨_, rfl⟩
        have hr0 : decide (r < 0) = true := by rw [hrr]; exact decide_eq_true ((cmpV_lt _ _).2 hc)
        rw [← hrr] at CC
        have K0 := hide (KC.out _ HS.out)
        have K0d := hide (KC.out _ HS.out.drew)
        obtain ⟨⟨c0, c1, c2, c3, c4, c5, c6, c7⟩, d0, d1, d2, d3, d4, d5, d6, d7⟩ := K0.out
        clear hrr
        go_wp2
        go_region_held3 (fun w' => (w'.cell? ⟨g, j * 8, none⟩ = some (.int .i64 x.block) ∧ w'.cell? ⟨g, j * 8 + 1, none⟩ = some (.int .i64 x.leaf) ∧ w'.cell? ⟨g, j * 8 + 2, none⟩ = some (.int .i64 x.page.kind) ∧ w'.cell? ⟨g, j * 8 + 3, none⟩ = some (.int .i64 x.page.seq) ∧ w'.cell? ⟨g, j * 8 + 4, none⟩ = some (.int .i64 x.page.tx) ∧ w'.cell? ⟨g, j * 8 + 5, none⟩ = some (.int .i64 x.page.part) ∧ w'.cell? ⟨g, j * 8 + 6, none⟩ = some (.int .i64 x.page.count) ∧ w'.cell? ⟨g, j * 8 + 7, none⟩ = some (.string x.page.text)) ∧ w'.cell? ⟨g, q * 8, none⟩ = some (.int .i64 u.block) ∧ w'.cell? ⟨g, q * 8 + 1, none⟩ = some (.int .i64 u.leaf) ∧ w'.cell? ⟨g, q * 8 + 2, none⟩ = some (.int .i64 u.page.kind) ∧ w'.cell? ⟨g, q * 8 + 3, none⟩ = some (.int .i64 u.page.seq) ∧ w'.cell? ⟨g, q * 8 + 4, none⟩ = some (.int .i64 u.page.tx) ∧ w'.cell? ⟨g, q * 8 + 5, none⟩ = some (.int .i64 u.page.part) ∧ w'.cell? ⟨g, q * 8 + 6, none⟩ = some (.int .i64 u.page.count) ∧ w'.cell? ⟨g, q * 8 + 7, none⟩ = some (.string u.page.text)) (first | go_keep | exact K0d.out | exact K2.out) ((go_at_call 97; (with_reducible refine Calls.mono CC.out ?_); rintro e w2 ⟨rfl, s2⟩; have S2 := hide s2; have K2 := hide (KC.out _ s2); clear s2))
        all_goals
         clear c0 c1 c2 c3 c4 c5 c6 c7 d0 d1 d2 d3 d4 d5 d6 d7 K0 K0d K2 CC KC
         obtain ⟨hs3, hk3⟩ := S2.out.2.swap HPp.out HQq.out
         have NX : Hid (Sorted w (put8 (put8 w2 g (j * 8) u) g (q * 8) x) g ((G.set j u).set q x)) := ⟨S2.out.1.trans hk3, hs3⟩
         have x0 : w2.cell? ⟨g, j * 8, none⟩ = some (.int .i64 x.block) := S2.out.2.cell HPp.out 0 rfl
         have z0 : w2.cell? ⟨g, q * 8, none⟩ = some (.int .i64 u.block) := S2.out.2.cell HQq.out 0 rfl
         have k0 := S2.out.2.frozen (j * 8)
         have l0 := S2.out.2.frozen (q * 8)
         have x1 : w2.cell? ⟨g, j * 8 + 1, none⟩ = some (.int .i64 x.leaf) := S2.out.2.cell HPp.out 1 rfl
         have z1 : w2.cell? ⟨g, q * 8 + 1, none⟩ = some (.int .i64 u.leaf) := S2.out.2.cell HQq.out 1 rfl
         have k1 := S2.out.2.frozen (j * 8 + 1)
         have l1 := S2.out.2.frozen (q * 8 + 1)
         have x2 : w2.cell? ⟨g, j * 8 + 2, none⟩ = some (.int .i64 x.page.kind) := S2.out.2.cell HPp.out 2 rfl
         have z2 : w2.cell? ⟨g, q * 8 + 2, none⟩ = some (.int .i64 u.page.kind) := S2.out.2.cell HQq.out 2 rfl
         have k2 := S2.out.2.frozen (j * 8 + 2)
         have l2 := S2.out.2.frozen (q * 8 + 2)
         have x3 : w2.cell? ⟨g, j * 8 + 3, none⟩ = some (.int .i64 x.page.seq) := S2.out.2.cell HPp.out 3 rfl
         have z3 : w2.cell? ⟨g, q * 8 + 3, none⟩ = some (.int .i64 u.page.seq) := S2.out.2.cell HQq.out 3 rfl
         have k3 := S2.out.2.frozen (j * 8 + 3)
         have l3 := S2.out.2.frozen (q * 8 + 3)
         have x4 : w2.cell? ⟨g, j * 8 + 4, none⟩ = some (.int .i64 x.page.tx) := S2.out.2.cell HPp.out 4 rfl
         have z4 : w2.cell? ⟨g, q * 8 + 4, none⟩ = some (.int .i64 u.page.tx) := S2.out.2.cell HQq.out 4 rfl
         have k4 := S2.out.2.frozen (j * 8 + 4)
         have l4 := S2.out.2.frozen (q * 8 + 4)
         have x5 : w2.cell? ⟨g, j * 8 + 5, none⟩ = some (.int .i64 x.page.part) := S2.out.2.cell HPp.out 5 rfl
         have z5 : w2.cell? ⟨g, q * 8 + 5, none⟩ = some (.int .i64 u.page.part) := S2.out.2.cell HQq.out 5 rfl
         have k5 := S2.out.2.frozen (j * 8 + 5)
         have l5 := S2.out.2.frozen (q * 8 + 5)
         have x6 : w2.cell? ⟨g, j * 8 + 6, none⟩ = some (.int .i64 x.page.count) := S2.out.2.cell HPp.out 6 rfl
         have z6 : w2.cell? ⟨g, q * 8 + 6, none⟩ = some (.int .i64 u.page.count) := S2.out.2.cell HQq.out 6 rfl
         have k6 := S2.out.2.frozen (j * 8 + 6)
         have l6 := S2.out.2.frozen (q * 8 + 6)
         have x7 : w2.cell? ⟨g, j * 8 + 7, none⟩ = some (.string x.page.text) := S2.out.2.cell HPp.out 7 rfl
         have z7 : w2.cell? ⟨g, q * 8 + 7, none⟩ = some (.string u.page.text) := S2.out.2.cell HQq.out 7 rfl
         have k7 := S2.out.2.frozen (j * 8 + 7)
         have l7 := S2.out.2.frozen (q * 8 + 7)
         have y0 := (put8_far w2 g (j * 8) (q * 8) u (by omega)).trans z0
         have y1 := (put8_far w2 g (j * 8) (q * 8 + 1) u (by omega)).trans z1
         have y2 := (put8_far w2 g (j * 8) (q * 8 + 2) u (by omega)).trans z2
         have y3 := (put8_far w2 g (j * 8) (q * 8 + 3) u (by omega)).trans z3
         have y4 := (put8_far w2 g (j * 8) (q * 8 + 4) u (by omega)).trans z4
         have y5 := (put8_far w2 g (j * 8) (q * 8 + 5) u (by omega)).trans z5
         have y6 := (put8_far w2 g (j * 8) (q * 8 + 6) u (by omega)).trans z6
         have y7 := (put8_far w2 g (j * 8) (q * 8 + 7) u (by omega)).trans z7
         unfold put8 at y0 y1 y2 y3 y4 y5 y6 y7
         clear hs3 hk3
         go_wp2
         go_region
         have ND := hide NX.out.drew
         unfold put8 at ND
         go_wp2
         go_roundw
         case rel => exact ⟨q, _, U', u :: V, by first | rfl | go_num, by omega, by omega, NL, NU, ND⟩
         case measure => simp [intOf]; omega
       ·have PO := hide (OUT.out (fun p hp2 => by
         have hA := AS.out
         rw [← k2] at hA
         have h1 := hA.left
         rcases List.mem_append.1 hp2 with e | e
         ·have := h1.across p e u (by simp); omega
         ·rw [List.mem_singleton] at e; subst e; omega))
        clear hp hq eE lPU hset k1 k2 k3 k4 HK OUT k2' k3' NL
        have KC : Hid (∀ W, Sorted w W g G → (W.cell? ⟨g, j * 8, none⟩ = some (.int .i64 x.block) ∧ W.cell? ⟨g, j * 8 + 1, none⟩ = some (.int .i64 x.leaf) ∧ W.cell? ⟨g, j * 8 + 2, none⟩ = some (.int .i64 x.page.kind) ∧ W.cell? ⟨g, j * 8 + 3, none⟩ = some (.int .i64 x.page.seq) ∧ W.cell? ⟨g, j * 8 + 4, none⟩ = some (.int .i64 x.page.tx) ∧ W.cell? ⟨g, j * 8 + 5, none⟩ = some (.int .i64 x.page.part) ∧ W.cell? ⟨g, j * 8 + 6, none⟩ = some (.int .i64 x.page.count) ∧ W.cell? ⟨g, j * 8 + 7, none⟩ = some (.string x.page.text)) ∧ W.cell? ⟨g, q * 8, none⟩ = some (.int .i64 u.block) ∧ W.cell? ⟨g, q * 8 + 1, none⟩ = some (.int .i64 u.leaf) ∧ W.cell? ⟨g, q * 8 + 2, none⟩ = some (.int .i64 u.page.kind) ∧ W.cell? ⟨g, q * 8 + 3, none⟩ = some (.int .i64 u.page.seq) ∧ W.cell? ⟨g, q * 8 + 4, none⟩ = some (.int .i64 u.page.tx) ∧ W.cell? ⟨g, q * 8 + 5, none⟩ = some (.int .i64 u.page.part) ∧ W.cell? ⟨g, q * 8 + 6, none⟩ = some (.int .i64 u.page.count) ∧ W.cell? ⟨g, q * 8 + 7, none⟩ = some (.string u.page.text)) := fun W h => ⟨⟨h.2.cell HPp.out 0 rfl, h.2.cell HPp.out 1 rfl, h.2.cell HPp.out 2 rfl, h.2.cell HPp.out 3 rfl, h.2.cell HPp.out 4 rfl, h.2.cell HPp.out 5 rfl, h.2.cell HPp.out 6 rfl, h.2.cell HPp.out 7 rfl⟩, ⟨h.2.cell HQq.out 0 rfl, h.2.cell HQq.out 1 rfl, h.2.cell HQq.out 2 rfl, h.2.cell HQq.out 3 rfl, h.2.cell HQq.out 4 rfl, h.2.cell HQq.out 5 rfl, h.2.cell HQq.out 6 rfl, h.2.cell HQq.out 7 rfl⟩⟩
        have CC : Hid (Calls Tryz.prog 97 #[.agg #[.int .i64 x.block, .int .i64 x.leaf, .int .i64 x.page.kind, .int .i64 x.page.seq, .int .i64 x.page.tx, .int .i64 x.page.part, .int .i64 x.page.count, .string x.page.text], .agg #[.int .i64 u.block, .int .i64 u.leaf, .int .i64 u.page.kind, .int .i64 u.page.seq, .int .i64 u.page.tx, .int .i64 u.page.part, .int .i64 u.page.count, .string u.page.text]] wr.drew fun e w' => e = .returned (.int .i64 (cmpV x u)) ∧ Sorted w w' g G) := fcmp_row x u HS.out.drew
        obtain ⟨r, hrr⟩ : ∃ r, r = cmpV x u := ⟨_, rfl⟩
        have hr0 : decide (r < 0) = false := by rw [hrr]; exact decide_eq_false (fun e => hc ((cmpV_lt _ _).1 e))
        rw [← hrr] at CC
        have K0 := hide (KC.out _ HS.out)
        have K0d := hide (KC.out _ HS.out.drew)
        obtain ⟨⟨c0, c1, c2, c3, c4, c5, c6, c7⟩, d0, d1, d2, d3, d4, d5, d6, d7⟩ := K0.out
        clear hrr
        go_wp2
        go_region_held3 (fun w' => (w'.cell? ⟨g, j * 8, none⟩ = some (.int .i64 x.block) ∧ w'.cell? ⟨g, j * 8 + 1, none⟩ = some (.int .i64 x.leaf) ∧ w'.cell? ⟨g, j * 8 + 2, none⟩ = some (.int .i64 x.page.kind) ∧ w'.cell? ⟨g, j * 8 + 3, none⟩ = some (.int .i64 x.page.seq) ∧ w'.cell? ⟨g, j * 8 + 4, none⟩ = some (.int .i64 x.page.tx) ∧ w'.cell? ⟨g, j * 8 + 5, none⟩ = some (.int .i64 x.page.part) ∧ w'.cell? ⟨g, j * 8 + 6, none⟩ = some (.int .i64 x.page.count) ∧ w'.cell? ⟨g, j * 8 + 7, none⟩ = some (.string x.page.text)) ∧ w'.cell? ⟨g, q * 8, none⟩ = some (.int .i64 u.block) ∧ w'.cell? ⟨g, q * 8 + 1, none⟩ = some (.int .i64 u.leaf) ∧ w'.cell? ⟨g, q * 8 + 2, none⟩ = some (.int .i64 u.page.kind) ∧ w'.cell? ⟨g, q * 8 + 3, none⟩ = some (.int .i64 u.page.seq) ∧ w'.cell? ⟨g, q * 8 + 4, none⟩ = some (.int .i64 u.page.tx) ∧ w'.cell? ⟨g, q * 8 + 5, none⟩ = some (.int .i64 u.page.part) ∧ w'.cell? ⟨g, q * 8 + 6, none⟩ = some (.int .i64 u.page.count) ∧ w'.cell? ⟨g, q * 8 + 7, none⟩ = some (.string u.page.text)) (first | go_keep | exact K0d.out | exact K2.out) ((go_at_call 97; (with_reducible refine Calls.mono CC.out ?_); rintro e w2 ⟨rfl, s2⟩; have S2 := hide s2; have K2 := hide (KC.out _ s2); clear s2))
        all_goals
         go_wp2
         go_roundw
         case rel => exact ⟨i + 1, G, by go_num, by omega, by omega, HG, PO, S2⟩
         case measure => simp [intOf]; omega
      ·have hU : U = [] := by
        obtain ⟨k1, k2, k3, k4⟩ := HK.out
        exact List.eq_nil_of_length_eq_zero (by omega)
       have PO := hide (OUT.out (fun p hp2 => by rw [hU] at hp2; cases hp2))
       have hjd : decide ((a : Int) < j) = false := decide_eq_false hja
       have hjd2 : decide (a < j) = false := decide_eq_false (by omega)
       clear OUT HK hU
       go_wp2
       go_quiet (fail)
       go_wp2
       go_roundw
       case rel => exact ⟨i + 1, G, by go_num, by omega, by omega, HG, PO, HS.out.below (below_drewN (Below.refl _ _) _)⟩
       case measure => simp [intOf]; omega
   ·obtain ⟨S, T, e1, e2, e3, e4, e5⟩ := HJ.out
    have hT : T = [] := List.eq_nil_of_length_eq_zero (by omega)
    subst hT
    have PF : Hid (∃ M, Asc M ∧ Akin L M ∧ M.length = L.length ∧ Sorted w wo g (P ++ (M ++ Q))) := ⟨S, e2, by simpa using e3, by have := HNL.out; simp at e5; omega, by have h1 := HS.out; rw [e1] at h1; simpa using h1⟩
    clear e1 e2 e3 e4 e5 HJ HS
    go_wp2
    first | go_end0 | refine bodyPost_ret (results_none rfl _ _ _) rfl ?_
    exact ⟨rfl, PF.out⟩
theorem flat_len (k : Nat) : ∀ (Ls : List (List Fnd)), (∀ l ∈ Ls, l.length = k) → Ls.flatten.length = k * Ls.length := by
 intro Ls
 induction Ls with
 | nil => intro _; simp
 | cons l Ls ih =>
  intro h
  rw [List.flatten_cons, List.length_append, h l List.mem_cons_self, ih (fun x hx => h x (List.mem_cons_of_mem _ hx)), List.length_cons, Nat.mul_succ]
  omega
def Runs (bs : Nat) (E : List Fnd) : Prop := ∃ (Ls : List (List Fnd)) (Z : List Fnd), E = Ls.flatten ++ Z ∧ (∀ l ∈ Ls, Asc l ∧ l.length = bs) ∧ Asc Z ∧ Z.length < bs
def Ahead (bs a : Nat) (A : List Fnd) : Prop := A.length = a ∧ ∃ Ls : List (List Fnd), A = Ls.flatten ∧ ∀ l ∈ Ls, Asc l ∧ l.length = bs
theorem Ahead.add {bs a : Nat} {A M : List Fnd} (h : Ahead bs a A) (hM : Asc M) (hl : M.length = bs) : Ahead bs (a + bs) (A ++ M) := by
 obtain ⟨h1, Ls, h2, h3⟩ := h
 refine ⟨by rw [List.length_append]; omega, Ls ++ [M], by rw [h2]; simp, fun l hl2 => ?_⟩
 rcases List.mem_append.1 hl2 with e | e
 ·exact h3 l e
 ·rw [List.mem_singleton] at e
  subst e
  exact ⟨hM, hl⟩
theorem Ahead.nil (bs : Nat) : Ahead bs 0 [] := ⟨rfl, [], rfl, fun l hl => by cases hl⟩
theorem Ahead.runs {bs a : Nat} {A Z : List Fnd} (h : Ahead bs a A) (hZ : Asc Z) (hl : Z.length < bs) : Runs bs (A ++ Z) := by
 obtain ⟨-, Ls, h2, h3⟩ := h
 exact ⟨Ls, Z, by rw [h2], h3, hZ, hl⟩
theorem Runs.done {bs : Nat} {E : List Fnd} (h : Runs bs E) (hl : E.length ≤ bs) : Asc E := by
 obtain ⟨Ls, Z, rfl, h1, h2, h3⟩ := h
 have e := flat_len bs Ls (fun l hl => (h1 l hl).2)
 rw [List.length_append, e] at hl
 match Ls, e, hl, h1 with
 | [], _, _, _ => simpa using h2
 | [l], _, hl, h1 =>
  simp at hl
  have : Z = [] := List.eq_nil_of_length_eq_zero (by omega)
  subst this
  simpa using (h1 l (by simp)).1
 | l :: l2 :: Ls, _, hl, h1 =>
  exfalso
  simp only [List.length_cons] at hl
  have hb : bs * (Ls.length + 1 + 1) = bs * Ls.length + bs + bs := by rw [Nat.mul_succ, Nat.mul_succ]
  omega
theorem Runs.two {bs : Nat} {E : List Fnd} (h : Runs bs E) (hl : 2 * bs ≤ E.length) : ∃ L R Y, E = L ++ (R ++ Y) ∧ Asc L ∧ Asc R ∧ L.length = bs ∧ R.length = bs ∧ Runs bs Y := by
 obtain ⟨Ls, Z, rfl, h1, h2, h3⟩ := h
 have e := flat_len bs Ls (fun l hl => (h1 l hl).2)
 rw [List.length_append, e] at hl
 match Ls, e, hl, h1 with
 | [], _, hl, _ => simp at hl; omega
 | [l], _, hl, _ => simp at hl; omega
 | l :: r :: Ls, _, _, h1 =>
  exact ⟨l, r, Ls.flatten ++ Z, by simp, (h1 l (by simp)).1, (h1 r (by simp)).1, (h1 l (by simp)).2, (h1 r (by simp)).2, Ls, Z, rfl, fun x hx => h1 x (by simp [hx]), h2, h3⟩
theorem Runs.one {bs : Nat} {E : List Fnd} (h : Runs bs E) (hl : bs < E.length) (hu : E.length < 2 * bs) : ∃ L Z, E = L ++ Z ∧ Asc L ∧ Asc Z ∧ L.length = bs ∧ Z.length = E.length - bs := by
 obtain ⟨Ls, Z, rfl, h1, h2, h3⟩ := h
 have e := flat_len bs Ls (fun l hl => (h1 l hl).2)
 rw [List.length_append, e] at hl hu
 match Ls, e, hl, hu, h1 with
 | [], _, hl, _, _ => simp at hl; omega
 | [l], _, _, _, h1 =>
  have h4 := (h1 l (by simp)).2
  exact ⟨l, Z, by simp, (h1 l (by simp)).1, h2, h4, by simp; omega⟩
 | l :: r :: Ls, _, _, hu, _ =>
  exfalso
  simp only [List.length_cons] at hu
  have hb : bs * (Ls.length + 1 + 1) = bs * Ls.length + bs + bs := by rw [Nat.mul_succ, Nat.mul_succ]
  omega
theorem stable (g N cap : Nat) (D : List Fnd) (w : World) (hN : N ≤ 100000000000000) (hl : D.length = N) (hr : SRow w g D) :
 Calls Tryz.prog 127 #[.slice (some ⟨g, 0, none⟩) N cap, .int .i64 N, .func (.func 97) #[] #[]] w fun e w' => e = .returned (.tuple #[]) ∧ ∃ M, Asc M ∧ Akin D M ∧ M.length = D.length ∧ Sorted w w' g M := by
 have HL := hide hl
 have HS0 : Hid (Sorted w w g D) := ⟨Kept2.refl _ _, hr⟩
 clear hl hr
 go_enter Tryz.func127, Tryz.ntmps127
 go_wp2
 go_loopw [7, 8] (fun av bv wr => ∃ (a : Nat) (A X : List Fnd), av = .int .i64 a ∧ bv = .int .i64 ((a : Int) + 20) ∧ a ≤ N ∧ Hid (Ahead 20 a A) ∧ Hid (a + X.length = N) ∧ Hid (Akin D (A ++ X)) ∧ Hid (Sorted w wr g (A ++ X))) (fun av _ _ => N - (intOf av).toNat)
 case atStart => exact ⟨0, [], D, rfl, by first | rfl | go_num, Nat.zero_le _, Ahead.nil _, by show _ = _; rw [HL.out]; omega, Akin.refl _, HS0⟩
 case round =>
  obtain ⟨a, A, X, rfl, rfl, r1, HA, HX, HK, HS⟩ := hrel
  clear HS0
  obtain ⟨b, hb⟩ : ∃ b : Nat, (a : Int) + 20 = b := ⟨a + 20, by omega⟩
  have hb' : Hid (b = a + 20) := by show _ = _; omega
  by_cases hle : (b : Int) ≤ N
  ·have C := hide (insertion g N cap a b A (X.take 20) (X.drop 20) wr (by omega) (by rw [List.take_append_drop, List.length_append]; have := HA.out.1; have := HX.out; omega) HA.out.1 (by rw [List.length_take]; have := HX.out; omega) (by rw [List.take_append_drop]; exact HS.out.2))
   go_wp2_with fail
   refine C.out.mono ?_
   rintro e w2 ⟨rfl, M, m1, m2, m3, m4⟩
   have l20 : M.length = 20 := by rw [m3, List.length_take]; have := HX.out; omega
   have NA := hide (HA.out.add m1 l20)
   have NX : Hid ((a + 20) + (X.drop 20).length = N) := by show _ = _; rw [List.length_drop]; have := HX.out; omega
   have NK : Hid (Akin D ((A ++ M) ++ X.drop 20)) := by
    refine HK.out.trans ?_
    have := (Akin.refl A).app (m2.app (Akin.refl (X.drop 20)))
    rw [List.take_append_drop] at this
    simpa using this
   have NS : Hid (Sorted w w2 g ((A ++ M) ++ X.drop 20)) := by
    have := HS.out.trans m4
    rw [List.append_assoc]
    exact this
   clear m1 m2 m3 m4 l20 C HA HX HK HS
   go_wp2
   go_roundw
   case rel => exact ⟨a + 20, A ++ M, X.drop 20, by have := hb'.out; simp; omega, by have := hb'.out; simp; omega, by have := hb'.out; omega, NA, NX, NK, NS⟩
   case measure => have := hb'.out; simp [intOf]; omega
  ·have C := hide (insertion g N cap a N A X [] wr (by omega) (by rw [List.append_nil, List.length_append]; have := HA.out.1; have := HX.out; omega) HA.out.1 HX.out (by rw [List.append_nil]; exact HS.out.2))
   go_wp2_with fail
   refine C.out.mono ?_
   rintro e w2 ⟨rfl, M, m1, m2, m3, m4⟩
   have E0 : Hid (Runs 20 (A ++ M) ∧ Akin D (A ++ M) ∧ (A ++ M).length = N) := by
    refine ⟨HA.out.runs m1 (by rw [m3]; have := HX.out; have := hb'.out; omega), HK.out.trans ((Akin.refl A).app m2), ?_⟩
    rw [List.length_append, m3]
    have := HA.out.1
    have := HX.out
    omega
   have NS : Hid (Sorted w w2 g (A ++ M)) := by
    have := HS.out.trans m4
    rw [List.append_nil] at this
    exact this
   generalize A ++ M = E at E0 NS
   clear m1 m2 m3 m4 C HA HX HK HS hle hb
   go_wp2
   go_loopw [6] (fun sv wr => ∃ (s : Nat) (E : List Fnd), sv = .int .i64 s ∧ 20 ≤ s ∧ s ≤ 2 * N + 20 ∧ Hid (Runs s E ∧ Akin D E ∧ E.length = N) ∧ Hid (Sorted w wr g E)) (fun sv _ => 2 * N + 40 - (intOf sv).toNat)
   case atStart => exact ⟨20, E, rfl, Nat.le_refl _, by omega, E0, NS⟩
   case round =>
    rename World => wo
    obtain ⟨s, E, rfl, s1, s2, HE, HS⟩ := hrel
    clear E0 NS
    by_cases hlt : (s : Int) < N
    ·obtain ⟨d, hd⟩ : ∃ d : Nat, 2 * (s : Int) = d := ⟨2 * s, by omega⟩
     have hd' : Hid (d = 2 * s) := by show _ = _; omega
     have hsd : (s : Int) * 2 = d := by omega
     go_wp2
     go_loopw [7, 8] (fun av bv wr => ∃ (a : Nat) (A X : List Fnd), av = .int .i64 a ∧ bv = .int .i64 ((a : Int) + d) ∧ a ≤ N ∧ Hid (Ahead d a A) ∧ Hid (Runs s X) ∧ Hid (a + X.length = N) ∧ Hid (Akin D (A ++ X)) ∧ Hid (Sorted w wr g (A ++ X))) (fun av _ _ => N - (intOf av).toNat)
     case atStart => exact ⟨0, [], E, rfl, by first | rfl | (simp; done) | go_num, Nat.zero_le _, Ahead.nil _, HE.out.1, by show _ = _; have := HE.out.2.2; omega, HE.out.2.1, HS⟩
     case round =>
      obtain ⟨a, A, X, rfl, rfl, q1, HA, HR, HX, HK, HS⟩ := hrel
      obtain ⟨b, hb⟩ : ∃ b : Nat, (a : Int) + d = b := ⟨a + d, by omega⟩
      obtain ⟨m, hm⟩ : ∃ m : Nat, (a : Int) + s = m := ⟨a + s, by omega⟩
      have hb' : Hid (b = a + 2 * s) := by show _ = _; have := hd'.out; omega
      have hm' : Hid (m = a + s) := by show _ = _; omega
      by_cases hle : (b : Int) ≤ N
      ·obtain ⟨L, R, Y, e1, e2, e3, e4, e5, e6⟩ := HR.out.two (by have := HX.out; have := hb'.out; omega)
       have C := hide (symMerge_all (L.length + R.length) g N cap a m b A L R Y wr (by omega) (by rw [← e1, List.length_append]; have := HA.out.1; have := HX.out; omega) HA.out.1 (by have := hm'.out; omega) (by have := hm'.out; have := hb'.out; omega) (by omega) (by omega) (Nat.le_refl _) e2 e3 (by rw [← e1]; exact HS.out.2))
       go_wp2_with fail
       refine C.out.mono ?_
       rintro e w2 ⟨rfl, M, m1, m2, m3, m4⟩
       have NA : Hid (Ahead d (a + d) (A ++ M)) := HA.out.add m1 (by have := hd'.out; omega)
       have NX : Hid ((a + d) + Y.length = N) := by
        show _ = _
        have h1 := HX.out
        have := hd'.out
        rw [e1, List.length_append, List.length_append] at h1
        omega
       have NK : Hid (Akin D ((A ++ M) ++ Y)) := by
        refine HK.out.trans ?_
        rw [e1]
        have := (Akin.refl A).app (m2.app (Akin.refl Y))
        simpa using this
       have NS : Hid (Sorted w w2 g ((A ++ M) ++ Y)) := by
        have := HS.out.trans m4
        rw [List.append_assoc]
        exact this
       have NR := hide e6
       clear m1 m2 m3 m4 C HA HX HK HS HR e1 e2 e3 e4 e5 e6
       go_wp2
       go_roundw
       case rel => exact ⟨a + d, A ++ M, Y, by have := hb'.out; have := hd'.out; simp; omega, by have := hb'.out; have := hd'.out; simp; omega, by have := hb'.out; have := hd'.out; omega, NA, NR, NX, NK, NS⟩
       case measure => have := hb'.out; simp [intOf]; omega
      ·by_cases hmn : (m : Int) < N
       ·obtain ⟨L, Z, e1, e2, e3, e4, e5⟩ := HR.out.one (by have := HX.out; have := hm'.out; omega) (by have := HX.out; have := hb'.out; omega)
        have C := hide (symMerge_all (L.length + Z.length) g N cap a m N A L Z [] wr (by omega) (by rw [List.append_nil, ← e1, List.length_append]; have := HA.out.1; have := HX.out; omega) HA.out.1 (by have := hm'.out; omega) (by have := hm'.out; have := HX.out; omega) (by omega) (by have := hm'.out; have := HX.out; omega) (Nat.le_refl _) e2 e3 (by rw [List.append_nil, ← e1]; exact HS.out.2))
        go_wp2_with fail
        refine C.out.mono ?_
        rintro e w2 ⟨rfl, M, m1, m2, m3, m4⟩
        have NE : Hid (Runs d (A ++ M) ∧ Akin D (A ++ M) ∧ (A ++ M).length = N) := by
         refine ⟨HA.out.runs m1 (by have := hd'.out; have := HX.out; have := hb'.out; omega), HK.out.trans (by rw [e1]; exact (Akin.refl A).app m2), ?_⟩
         rw [List.length_append]
         have := HA.out.1
         have := HX.out
         omega
        have NS : Hid (Sorted w w2 g (A ++ M)) := by
         have := HS.out.trans m4
         rw [List.append_nil] at this
         exact this
        clear m1 m2 m3 m4 C HA HX HK HS HR e1 e2 e3 e4 e5
        go_wp2
        go_roundw
        case rel => exact ⟨d, A ++ M, by first | rfl | go_num, by have := hd'.out; omega, by have := hd'.out; omega, NE, NS⟩
        case measure => have := hd'.out; simp [intOf]; omega
       ·have NE : Hid (Runs d (A ++ X) ∧ Akin D (A ++ X) ∧ (A ++ X).length = N) := by
         refine ⟨HA.out.runs (HR.out.done (by have := HX.out; have := hm'.out; omega)) (by have := hd'.out; have := HX.out; have := hm'.out; omega), HK.out, ?_⟩
         rw [List.length_append]
         have := HA.out.1
         have := HX.out
         omega
        have NS := HS
        clear HA HX HK HS HR
        go_wp2
        go_roundw
        case rel => exact ⟨d, A ++ X, by first | rfl | go_num, by have := hd'.out; omega, by have := hd'.out; omega, NE, NS⟩
        case measure => have := hd'.out; simp [intOf]; omega
    ·have PF : Hid (∃ M, Asc M ∧ Akin D M ∧ M.length = D.length ∧ Sorted w wo g M) := ⟨E, HE.out.1.done (by have := HE.out.2.2; omega), HE.out.2.1, by rw [HE.out.2.2, HL.out], HS.out⟩
     clear HE HS
     go_wp2
     first | go_end0 | refine bodyPost_ret (results_none rfl _ _ _) rfl ?_
     exact ⟨rfl, PF.out⟩
theorem sortStable (g N cap : Nat) (D : List Fnd) (w : World) (hN : N ≤ 100000000000000) (hl : D.length = N) (hr : SRow w g D) :
 Calls Tryz.prog 96 #[.slice (some ⟨g, 0, none⟩) N cap, .func (.func 97) #[] #[]] w fun e w' => e = .returned (.tuple #[]) ∧ ∃ M, Asc M ∧ Akin D M ∧ M.length = D.length ∧ Sorted w w' g M := by
 have C := hide (stable g N cap D w hN hl hr)
 clear hl hr
 go_enter Tryz.func96, Tryz.ntmps96
 go_wp2_with fail
 refine C.out.mono ?_
 rintro e w2 ⟨rfl, hp⟩
 have PF := hide hp
 clear hp
 go_wp2
 first | go_end0 | refine bodyPost_ret (results_none rfl _ _ _) rfl ?_
 exact ⟨rfl, PF.out⟩
end Go.Proofs.YtcjgjkejhkhknacGreatDoor
