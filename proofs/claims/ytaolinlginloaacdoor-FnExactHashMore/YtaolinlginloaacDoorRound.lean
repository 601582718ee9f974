/-
  The walk of the specification's round of a block.
-/
import Derived.Test.YtaolinlginloaacDoorRMath
import Derived.Test.YtaolinlginloaacDoorSpecR
import Derived.Test.YtaolinlginloaacDoorKeeps
namespace Go.Proofs.YtaolinlginloaacDoor
open Go.RowKit
open Dig

theorem own_open {w : World} {base : Nat} {v : Value} {l : List Nat} (h : w.ownsRow base 69 1 v l.length (wcells l)) (h0 : 0 < l.length) :
    ∃ g cap, v = .slice (some ⟨g, 0, none⟩) l.length cap ∧ base ≤ g ∧ WordsAt w g l ∧ ∀ j, w.frozen? ⟨g, j, none⟩ = false := by
  have h1 := h.lt
  have h2 := h
  rcases h.2 with ⟨-, h0'⟩ | ⟨g, cap, cur, rfl, -, -, -, -, -, -⟩
  · omega
  · have hg := h1 g rfl
    refine ⟨g, cap, rfl, hg.1, ⟨hg.2, fun j hj => ?_⟩, fun j => h2.frozenAt j⟩
    have := h2.cells (g := g) rfl j _ (wcells_at l j hj)
    rw [addr_at] at this
    exact this

theorem grown_below' {B g : Nat} {w w1 w2 : World} (h : Below B w w1) (hg : w1.grownBy w2 (some g)) (hB : B ≤ g) (hs : B ≤ w1.heap.size) : Below B w w2 :=
  h.grown hg hs (fun k hk => by cases hk; exact hB)
theorem joined_at {v u : List Nat} (h : St v) (k : St u) (i : Nat) (hi : i < 8) : ∃ x y z : Nat, v[i]? = some x ∧ u[i]? = some y ∧ IntKind.u32.wrap ((x : Int) + y) = z ∧ (joined v u).take (i + 1) = (joined v u).take i ++ [z] := by
  have hl : i < (joined v u).length := by rw [(joined_st h k).1]; omega
  have hv : i < v.length := by rw [h.1]; omega
  have hu : i < u.length := by rw [k.1]; omega
  refine ⟨v[i], u[i], (v[i] + u[i]) % 4294967296, List.getElem?_eq_getElem hv, List.getElem?_eq_getElem hu, by rw [IntKind.wrap_u32']; omega, ?_⟩
  rw [List.take_succ_eq_append_getElem hl]
  simp [joined]
theorem low_17 : Low 131072 := ⟨by decide, by decide⟩
theorem low_19 : Low 524288 := ⟨by decide, by decide⟩
theorem low_10 : Low 1024 := ⟨by decide, by decide⟩
theorem low_7 : Low 128 := ⟨by decide, by decide⟩
theorem low_18 : Low 262144 := ⟨by decide, by decide⟩
theorem low_3 : Low 8 := ⟨by decide, by decide⟩
theorem low_6 : Low 64 := ⟨by decide, by decide⟩
theorem low_11 : Low 2048 := ⟨by decide, by decide⟩
theorem low_25 : Low 33554432 := ⟨by decide, by decide⟩
theorem low_2 : Low 4 := ⟨by decide, by decide⟩
theorem low_13 : Low 8192 := ⟨by decide, by decide⟩
theorem low_22 : Low 4194304 := ⟨by decide, by decide⟩

theorem sig_w2 (x : Nat) (w : World) (hx : x < 4294967296) : Calls Tryd.prog 69 #[.int .u32 x, .int .u32 131072, .int .u32 524288, .int .u32 1024, .bool true] w fun e w' => e = .returned (.int .u32 (sig x 131072 524288 1024 true : Nat)) ∧ w' = w.drewN 2 :=
  sig_any x 131072 524288 1024 true w hx low_17 low_19 low_10 (by omega) (by omega) (by omega)
theorem sig_w15 (x : Nat) (w : World) (hx : x < 4294967296) : Calls Tryd.prog 69 #[.int .u32 x, .int .u32 128, .int .u32 262144, .int .u32 8, .bool true] w fun e w' => e = .returned (.int .u32 (sig x 128 262144 8 true : Nat)) ∧ w' = w.drewN 2 :=
  sig_any x 128 262144 8 true w hx low_7 low_18 low_3 (by omega) (by omega) (by omega)
theorem sig_e (x : Nat) (w : World) (hx : x < 4294967296) : Calls Tryd.prog 69 #[.int .u32 x, .int .u32 64, .int .u32 2048, .int .u32 33554432, .bool false] w fun e w' => e = .returned (.int .u32 (sig x 64 2048 33554432 false : Nat)) ∧ w' = w.drewN 3 :=
  sig_any x 64 2048 33554432 false w hx low_6 low_11 low_25 (by omega) (by omega) (by omega)
theorem sig_a (x : Nat) (w : World) (hx : x < 4294967296) : Calls Tryd.prog 69 #[.int .u32 x, .int .u32 4, .int .u32 8192, .int .u32 4194304, .bool false] w fun e w' => e = .returned (.int .u32 (sig x 4 8192 4194304 false : Nat)) ∧ w' = w.drewN 3 :=
  sig_any x 4 8192 4194304 false w hx low_2 low_13 low_22 (by omega) (by omega) (by omega)
/-- What a step of the schedule reads and makes. -/
theorem next_open (L : List Nat) (t : Nat) (ht : L.length = t) (h16 : 16 ≤ t) (hL : ∀ x ∈ L, x < 4294967296) :
    ∃ (a2 a7 a15 a16 x2 x7 x15 x16 s2 s15 y1 y2 y3 : Nat), a2 < t ∧ a7 < t ∧ a15 < t ∧ a16 < t ∧ (t : Int) - 2 = a2 ∧ (t : Int) - 7 = a7 ∧ (t : Int) - 15 = a15 ∧ (t : Int) - 16 = a16 ∧
      L[a2]? = some x2 ∧ L[a7]? = some x7 ∧ L[a15]? = some x15 ∧ L[a16]? = some x16 ∧ x2 < 4294967296 ∧ x15 < 4294967296 ∧
      sig x2 131072 524288 1024 true = s2 ∧ sig x15 128 262144 8 true = s15 ∧ IntKind.u32.wrap ((s2 : Int) + x7) = y1 ∧ IntKind.u32.wrap ((y1 : Int) + s15) = y2 ∧ IntKind.u32.wrap ((y2 : Int) + x16) = y3 ∧ next L = y3 := by
  have g : ∀ k, 2 ≤ k → k ≤ 16 → L[t - k]? = some (L.getD (t - k) 0) ∧ L.getD (t - k) 0 < 4294967296 := by
    intro k h1 h2
    have hlt : t - k < L.length := by omega
    rw [List.getD_eq_getElem?_getD, List.getElem?_eq_getElem hlt]
    exact ⟨rfl, hL _ (List.getElem_mem _)⟩
  refine ⟨t - 2, t - 7, t - 15, t - 16, L.getD (t - 2) 0, L.getD (t - 7) 0, L.getD (t - 15) 0, L.getD (t - 16) 0, _, _,
    (sig (L.getD (t - 2) 0) 131072 524288 1024 true + L.getD (t - 7) 0) % 4294967296,
    ((sig (L.getD (t - 2) 0) 131072 524288 1024 true + L.getD (t - 7) 0) % 4294967296 + sig (L.getD (t - 15) 0) 128 262144 8 true) % 4294967296,
    (((sig (L.getD (t - 2) 0) 131072 524288 1024 true + L.getD (t - 7) 0) % 4294967296 + sig (L.getD (t - 15) 0) 128 262144 8 true) % 4294967296 + L.getD (t - 16) 0) % 4294967296,
    by omega, by omega, by omega, by omega, by omega, by omega, by omega, by omega,
    (g 2 (by omega) (by omega)).1, (g 7 (by omega) (by omega)).1, (g 15 (by omega) (by omega)).1, (g 16 (by omega) (by omega)).1, (g 2 (by omega) (by omega)).2, (g 15 (by omega) (by omega)).2, rfl, rfl, ?_, ?_, ?_, ?_⟩
  · rw [IntKind.wrap_u32']; omega
  · rw [IntKind.wrap_u32']; omega
  · rw [IntKind.wrap_u32']; omega
  · unfold next
    rw [ht]
    omega

set_option maxHeartbeats 1000000 in
set_option maxRecDepth 100000 in
theorem round_any (st : List Nat) (gs gk cs ck : Nat) (b : ByteArray) (w : World) (hb : b.size = 64) (hst : St st) (hS : WordsAt w gs st) (hK : WordsAt w gk ks) :
    Calls Tryd.prog 38 #[.slice (some ⟨gs, 0, none⟩) 8 cs, .slice (some ⟨gk, 0, none⟩) 64 ck, .string b] w fun e w' => Own w e w' (mix st b.data.toList) := by
  obtain ⟨i0, hi, hz0, hz1, hz2⟩ := info_parts infoWord
  have HS := hide hS
  have HK := hide hK
  have HST := hide hst
  have hgs := hS.1
  have hgk := hK.1
  clear hS hK hst
  go_enter Tryd.func38, Tryd.ntmps38
  go_wp2_with fail
  refine (words_any b _ (by omega)).mono ?_
  rintro e w1 ⟨v, rfl, hown, hb1⟩
  have hl16 : (words b.data.toList).length = 16 := by
    rw [words_len]
    have : b.data.toList.length = b.size := by simp
    omega
  have WL := hide (words_lt b.data.toList)
  have EM : Hid (mix st b.data.toList = joined st (steps 64 st ks (sched 48 (words b.data.toList)))) := rfl
  rw [hl16] at hown
  generalize words b.data.toList = W0 at *
  have hs1 := hb1.size
  go_wp2
  go_loopw [7, 8] (fun wv tv wr => ∃ t n : Nat, Hid (t = 16 + n) ∧ 16 ≤ t ∧ t ≤ 64 ∧ tv = .int .i64 t ∧ wr.ownsRow w.heap.size 69 1 wv t (wcells (sched n W0)) ∧ Below w.heap.size w wr) (fun _ tv _ => 64 - (intOf tv).toNat)
  case atStart => exact ⟨16, 0, rfl, by omega, by omega, rfl, hown, hb1⟩
  case round =>
    obtain ⟨t, n, ht, h16, ht64, rfl, hown, hbel⟩ := hrel
    have hsz := hbel.size
    have hLn : (sched n W0).length = t := by rw [sched_len, hl16, ht.out]
    have HLT := hide (sched_lt n W0 WL.out)
    have F : Hid (sched (n + 1) W0 = sched n W0 ++ [next (sched n W0)]) := rfl
    obtain ⟨L, eL⟩ : ∃ L, L = sched n W0 := ⟨_, rfl⟩
    rw [← eL] at hown hLn HLT F
    have EL := hide eL
    clear eL
    by_cases hlt : (t : Int) < 64
    · obtain ⟨a2, a7, a15, a16, x2, x7, x15, x16, s2, s15, y1, y2, y3, l2, l7, l15, l16, g2, g7, g15, g16, c2, c7, c15, c16, b2, b15, e2, e15, m1, m2, m3, eN⟩ := next_open L t hLn h16 HLT.out
      have hown' := hown
      rw [← hLn] at hown'
      obtain ⟨gw, cap, rfl, hgw, hwords, -⟩ := own_open hown' (by omega)
      have hgw2 := hwords.1
      rw [hLn] at hown ⊢
      have cell : ∀ a x, L[a]? = some x → wr.cell? ⟨gw, a, none⟩ = some (.int .u32 (x : Nat)) := by
        intro a x h
        obtain ⟨h1, h2⟩ := List.getElem?_eq_some_iff.1 h
        rw [hwords.2 a h1, h2]
      have k2 := cell _ _ c2
      have k7 := cell _ _ c7
      have k15 := cell _ _ c15
      have k16 := cell _ _ c16
      have q2 : IntKind.i64.wrap ((t : Int) - 2) = a2 := by rw [g2, IntKind.wrap_i64]; omega
      have q7 : IntKind.i64.wrap ((t : Int) - 7) = a7 := by rw [g7, IntKind.wrap_i64]; omega
      have q15 : IntKind.i64.wrap ((t : Int) - 15) = a15 := by rw [g15, IntKind.wrap_i64]; omega
      have q16 : IntKind.i64.wrap ((t : Int) - 16) = a16 := by rw [g16, IntKind.wrap_i64]; omega
      have j2 : (a2 : Int) < t := by omega
      have j7 : (a7 : Int) < t := by omega
      have j15 : (a15 : Int) < t := by omega
      have j16 : (a16 : Int) < t := by omega
      have o2 : (0 : Int) ≤ a2 := by omega
      have o7 : (0 : Int) ≤ a7 := by omega
      have o15 : (0 : Int) ≤ a15 := by omega
      have o16 : (0 : Int) ≤ a16 := by omega
      have E2 := hide e2
      have E15 := hide e15
      have EN := hide eN
      have HO := hide hown
      have HA : Hid (((wr.drewN 5).alloc (.cells #[.int .u32 y3] 69)).ownsRow w.heap.size 69 1 (.slice (some ⟨gw, 0, none⟩) t cap) t (wcells L)) := World.ownsRow.alloc (w := wr.drewN 5) hown _
      have HN : Hid (∀ (j : Nat) (u : Value), [Value.int .u32 y3][j]? = some u → ((wr.drewN 5).alloc (.cells #[.int .u32 y3] 69)).cell? ((⟨wr.heap.size, 0, none⟩ : Addr).add j) = some u) := one_cell (wr.drewN 5) (.int .u32 y3) 69
      have HB : Hid (w.heap.size ≤ ((wr.drewN 5).alloc (.cells #[.int .u32 y3] 69)).heap.size) := by
        show _ ≤ _
        simp; omega
      have HG : Hid (Below w.heap.size wr ((wr.drewN 5).alloc (.cells #[.int .u32 y3] 69))) := Below.alloc (below_drewN (Below.refl _ _) 5) (show w.heap.size ≤ (wr.drewN 5).heap.size from hsz) _
      clear cell c2 c7 c15 c16 hwords hown' e2 e15 eN g2 g7 g15 g16 hown
      go_wp2
      go_region_held3 (fun w' => w'.cell? ⟨gw, a2, none⟩ = some (.int .u32 x2) ∧ w'.cell? ⟨gw, a7, none⟩ = some (.int .u32 x7) ∧ w'.cell? ⟨gw, a15, none⟩ = some (.int .u32 x15) ∧ w'.cell? ⟨gw, a16, none⟩ = some (.int .u32 x16)) (first
        | go_keep
        | (refine ⟨?_, ?_, ?_, ?_⟩ <;> rw [World.cell?_alloc_lt _ _ _ (show gw < wr.heap.size from hgw2)] <;> first | exact k2 | exact k7 | exact k15 | exact k16)
        | (refine ⟨?_, ?_, ?_, ?_⟩ <;> rw [kept _ (by omega), World.cell?_alloc_lt _ _ _ (show gw < wr.heap.size from hgw2)] <;> first | exact k2 | exact k7 | exact k15 | exact k16)) (first
        | (go_at_call 69; with_reducible refine Calls.mono (sig_w2 x2 _ b2) ?_; rintro e w' ⟨rfl, rfl⟩; rw [E2.out])
        | (go_at_call 69; with_reducible refine Calls.mono (sig_w15 x15 _ b15) ?_; rintro e w' ⟨rfl, rfl⟩; rw [E15.out])
        | (refine step_append_keeps _ (by rfl) _ _ _ (by rfl) w.heap.size 69 i0 (.int .u32 0) 4 Tryd.underlying63 hi hz0 hz1 hz2 rfl gw cap t (wcells L) (by rfl) HA.out ⟨wr.heap.size, 0, none⟩ 1 1 [.int .u32 y3] (by rfl) (by rfl) HN.out (one_u32 _) (by omega) (by unfold maxLen; omega) (by omega) HB.out ?_; intro gg cap2 w3 hown3 hgrow kept))
      have hb3 : Below w.heap.size w w3 := hbel.trans (grown_below' HG.out hgrow hgw HB.out)
      rw [wcells_snoc, ← EN.out, EL.out] at hown3
      have F2 : Hid (t + 1 = 16 + (n + 1)) := by show _ = _; rw [ht.out]; omega
      have HO3 : Hid (w3.ownsRow w.heap.size 69 1 (.slice (some ⟨gg, 0, none⟩) (t + 1) cap2) (t + 1) (wcells (sched (n + 1) W0))) := hown3
      clear hown3 hgrow kept HA HN HB HG HO hbel k2 k7 k15 k16 F EL EN E2 E15 HLT
      go_wp2
      go_roundw
      case rel => exact ⟨t + 1, n + 1, F2, by omega, by omega, by go_num, HO3.out, hb3⟩
      case measure => simp [intOf]; omega
    · have e : t = 64 := by omega
      subst e
      have e48 : n = 48 := by have := ht.out; omega
      subst e48
      have hown' := hown
      rw [← hLn] at hown'
      obtain ⟨gw, capw, rfl, hgw, hwords, -⟩ := own_open hown' (by omega)
      rw [hLn]
      have W48 : Hid (WordsAt wr gw L) := hwords
      have hgw2 := hwords.1
      have hs8 := HST.out.1
      have hSr := HS.out.below hbel hgs
      clear hown hown' hwords
      have hA : ∀ (j : Nat) (u : Value), (wcells st)[j]? = some u → (wr.alloc (.cells #[] 69)).cell? ((⟨gs, 0, none⟩ : Addr).add j) = some u := by
        intro j u hj
        have hj2 : j < st.length := by
          have := (List.getElem?_eq_some_iff.1 hj).1
          rwa [wcells_len] at this
        rw [wcells_at st j hj2] at hj
        cases hj
        rw [addr_at, World.cell?_alloc_lt _ _ _ (show gs < wr.heap.size from hSr.1)]
        exact hSr.2 j hj2
      have hOnes : ∀ u ∈ wcells st, u.oneCell' = true := by
        intro u hu
        obtain ⟨x, -, rfl⟩ := List.mem_map.1 hu
        rfl
      have HH := hide hA
      clear hA hSr
      go_wp2_with (at_builtin; refine wpList_append_lies _ rfl _ _ 63 rfl w.heap.size 69 i0 (.int .u32 0) 1 4 Tryd.underlying63 hi hz0 hz1 hz2 rfl (by decide) _ _ _ rfl (World.ownsRow_made wr #[] 0 hsz (by unfold maxLen; omega) (by simp)) ⟨gs, 0, none⟩ 8 cs (wcells st) rfl (by rw [wcells_len, hs8]) HH.out hOnes (by omega) (by unfold maxLen; omega) (by omega) (by simp; omega) _ rfl ?_)
      intro gv capv w2 hown2 hgrow hat hgv
      have hgvw : gw < gv := by
        rcases hat with h | h
        · simp [Value.ownBlock] at h; omega
        · omega
      have hb2 : Below w.heap.size w w2 := hbel.trans (((Below.refl _ _).alloc hsz _).grown hgrow (by simp; omega) (fun k hk => by simp [Value.ownBlock] at hk; omega))
      have hW2 : WordsAt w2 gw L := words_grown (words_alloc W48.out _) hgrow (by simp [Value.ownBlock]; omega)
      have hown2' : w2.ownsRow w.heap.size 69 1 (.slice (some ⟨gv, 0, none⟩) 8 capv) 8 (wcells st) := by simpa using hown2
      rw [← hs8] at hown2'
      obtain ⟨gv', capv', hh, hgv1, hv, hfz⟩ := own_open hown2' (by omega)
      obtain ⟨rfl, rfl⟩ : gv = gv' ∧ capv = capv' := by
        injection hh with h h' h''
        simp at h
        exact ⟨h, h''⟩
      have HV : Hid (VAt w2 gv st) := ⟨hv, hfz⟩
      have HW := hide hW2
      clear hown2 hown2' hgrow hat hh hv hfz hW2 HH hOnes W48 hbel
      go_wp2
      go_loopw [10] (fun tv wr => ∃ n : Nat, n ≤ 64 ∧ tv = .int .i64 n ∧ Hid (VAt wr gv (steps n st ks L)) ∧ Hid (WordsAt wr gw L) ∧ Below w.heap.size w wr) (fun tv _ => 64 - (intOf tv).toNat)
      case atStart => exact ⟨0, by omega, rfl, HV, HW, hb2⟩
      case round =>
        obtain ⟨n, hn, rfl, HV, HW, hbel⟩ := hrel
        have hszr := hbel.size
        by_cases hlt : (n : Int) < 64
        · have hSV := steps_st HST.out n ks L
          have ES : Hid (steps (n + 1) st ks L = Dig.step (steps n st ks L) (ks.getD n 0) (L.getD n 0)) := rfl
          have kK := words_at (HK.out.below hbel hgk) n _ (getD_some ks n (by show n < 64; omega))
          have kW := words_at HW.out n _ (getD_some L n (by omega))
          generalize ks.getD n 0 = kt at ES kK
          generalize L.getD n 0 = wt at ES kW
          obtain ⟨V, eV⟩ : ∃ V, V = steps n st ks L := ⟨_, rfl⟩
          rw [← eV] at hSV ES HV
          clear eV
          obtain ⟨a, b', c, d, e, f, g, h, rfl, ha, hb', hc, hd, he, hf, hg', hh⟩ := hSV.open
          have v0 := words_at HV.out.1 0 a rfl
          have v1 := words_at HV.out.1 1 b' rfl
          have v2 := words_at HV.out.1 2 c rfl
          have v4 := words_at HV.out.1 4 e rfl
          have v5 := words_at HV.out.1 5 f rfl
          have v6 := words_at HV.out.1 6 g rfl
          have v7 := words_at HV.out.1 7 h rfl
          obtain ⟨p1, ne, p2, r, q1, q2, q3, q4, er, hr⟩ := ch_open e f g he hf hg'
          obtain ⟨j1, j2, j3, j4, m, o1, o2, o3, o4, o5, em, hm⟩ := maj_open a b' c ha hb' hc
          obtain ⟨sE, eE⟩ : ∃ x, sig e 64 2048 33554432 false = x := ⟨_, rfl⟩
          obtain ⟨sA, eA⟩ : ∃ x, sig a 4 8192 4194304 false = x := ⟨_, rfl⟩
          obtain ⟨y1, y2, y3, y4, z1, z2, z3, z4, e1, hy⟩ := t1_open e f g h kt wt sE r eE er
          obtain ⟨z5, hy2⟩ := t2_open a b' c sA m eA em
          have ET : Hid (Dig.step [a, b', c, d, e, f, g, h] kt wt = [(y4 + t2 a b' c) % 4294967296, a, b', c, (d + y4) % 4294967296, e, f, g]) := by
            show Dig.step _ _ _ = _
            rw [← e1]; rfl
          generalize t2 a b' c = y5 at *
          have EE := hide eE
          have EA := hide eA
          have n0 : (0 : Int) ≤ n := by omega
          clear eE eA e1 er em hSV
          go_wp2
          go_quiet (fail)
          go_wp2
          clear q1 q2 q3 q4 v5 v6
          go_region_held3 (fun w' => w'.cell? ⟨gv, 7, none⟩ = some (.int .u32 h) ∧ w'.cell? ⟨gk, n, none⟩ = some (.int .u32 kt) ∧ w'.cell? ⟨gw, n, none⟩ = some (.int .u32 wt)) (go_keep) (
            (go_at_call 69; with_reducible refine Calls.mono (sig_e e _ he) ?_; rintro e w' ⟨rfl, rfl⟩; rw [EE.out]))
          go_wp2
          clear z1 z2 z3 z4 kK kW v7 v4
          go_quiet (fail)
          go_wp2_with fail
          with_reducible refine Calls.mono (sig_a a _ ha) ?_
          rintro e w' ⟨rfl, rfl⟩
          rw [EA.out]
          clear o1 o2 o3 o4 o5 v0 v1 v2
          go_wp2
          rw [z5]
          have HVd : ∀ k, Hid (VAt (wr.drewN k) gv (sh [a, b', c, d, e, f, g, h] 7)) := fun k => HV
          have HWd : ∀ k, Hid (WordsAt (wr.drewN k) gw L) := fun k => HW
          have hBd : ∀ k, Below w.heap.size w (wr.drewN k) := fun k => below_drewN hbel k
          clear z5 EE EA HV HW hbel
          go_loopw [16] (fun iv w5 => ∃ i : Nat, i ≤ 7 ∧ iv = .int .i64 i ∧ Hid (VAt w5 gv (sh [a, b', c, d, e, f, g, h] i)) ∧ Hid (WordsAt w5 gw L) ∧ Below w.heap.size w w5) (fun iv _ => (intOf iv).toNat)
          case atStart => exact ⟨7, by omega, rfl, HVd _, HWd _, hBd _⟩
          case round =>
            clear HVd HWd hBd
            obtain ⟨i, hi7, rfl, HV, HW, hbel⟩ := hrel
            by_cases hi0 : (0 : Int) < i
            · obtain ⟨i', rfl⟩ : ∃ i', i = i' + 1 := ⟨i - 1, by omega⟩
              obtain ⟨x, hx⟩ : ∃ x, ([a, b', c, d, e, f, g, h] : List Nat)[i']? = some x := ⟨_, List.getElem?_eq_getElem (by simp; omega)⟩
              obtain ⟨k1, k2, k3⟩ := sh_step [a, b', c, d, e, f, g, h] rfl i' (by omega) x hx
              have kc := words_at HV.out.1 i' x k2
              obtain ⟨xo, kd⟩ : ∃ xo, wr.cell? ⟨gv, i' + 1, none⟩ = some xo := ⟨_, HV.out.1.2 (i' + 1) (by omega)⟩
              have kf := HV.out.2 (i' + 1)
              have EQ := hide k1
              clear hx k1 k2 k3
              have ii0 : (0 : Int) ≤ i' := by omega
              have ii1 : (i' : Int) < 8 := by omega
              have ii2 : ((i' + 1 : Nat) : Int) < 8 := by omega
              go_wp2
              refine ⟨⟨i', by omega, rfl, ?_, words_set HW.out (by omega), hbel.setCell (p := ⟨gv, i' + 1, none⟩) hgv1 _⟩, by simp [intOf]⟩
              have hnew := HV.out.set (i' + 1) x
              rw [EQ.out] at hnew
              exact hnew
            · have ei : i = 0 := by omega
              subst ei
              have kd := words_at HV.out.1 4 d (sh_04 a b' c d e f g h)
              have kf := HV.out.2 4
              obtain ⟨D, hD⟩ : ∃ D : Nat, D = (d + y4) % 4294967296 := ⟨_, rfl⟩
              obtain ⟨A, hA⟩ : ∃ A : Nat, A = (y4 + y5) % 4294967296 := ⟨_, rfl⟩
              have iD : ((d : Int) + (y4 : Int)) % 4294967296 = D := by omega
              have iA : ((y4 : Int) + (y5 : Int)) % 4294967296 = A := by omega
              have ka := words_at (HV.out.set 4 D).1 0 a rfl
              have kg := (HV.out.set 4 D).2 0
              have HV3 := hide ((HV.out.set 4 D).set 0 A)
              rw [sh_0, hD, hA, ← ET.out, ← ES.out] at HV3
              rw [← hD, ← hA] at HV3
              have HW3 : Hid (WordsAt ((wr.setCell ⟨gv, 4, none⟩ (.int .u32 D)).setCell ⟨gv, 0, none⟩ (.int .u32 A)) gw L) := words_set (words_set HW.out (by omega)) (by omega)
              have hb3 : Below w.heap.size w ((wr.setCell ⟨gv, 4, none⟩ (.int .u32 D)).setCell ⟨gv, 0, none⟩ (.int .u32 A)) := (hbel.setCell (p := ⟨gv, 4, none⟩) hgv1 _).setCell (p := ⟨gv, 0, none⟩) hgv1 _
              clear ET ES hD hA HV HW hbel
              go_wp2
              exact ⟨⟨n + 1, by omega, by go_num, HV3, HW3, hb3⟩, by simp [intOf]; omega⟩
        · have e64 : n = 64 := by omega
          subst e64
          have hSV := steps_st HST.out 64 ks L
          obtain ⟨V, eV⟩ : ∃ V, V = steps 64 st ks L := ⟨_, rfl⟩
          rw [← eV] at hSV HV
          have hgvr := HV.out.1.1
          have EJ : Hid (mix st b.data.toList = joined st V) := by
            show mix _ _ = _
            rw [EM.out, eV, EL.out]
          clear eV
          have HSr := hide (HS.out.below hbel hgs)
          have hgsr : gs < wr.heap.size := by omega
          have HJ := hide (joined_st HST.out hSV)
          obtain ⟨wz, hwz⟩ : ∃ wz, wz = wr := ⟨_, rfl⟩
          subst hwz
          go_wp2
          go_loopw [17, 18] (fun out iv w6 => ∃ i : Nat, i ≤ 8 ∧ iv = .int .i64 i ∧ w6.ownsRow wz.heap.size 69 1 out i (wcells ((joined st V).take i)) ∧ Below wz.heap.size wz w6) (fun _ iv _ => 8 - (intOf iv).toNat)
          case atStart => exact ⟨0, by omega, rfl, World.ownsRow_made wz #[] 0 (Nat.le_refl _) (by unfold maxLen; omega) (by simp), (Below.refl _ _).alloc (Nat.le_refl _) _⟩
          case round =>
            obtain ⟨i, hi8, rfl, hown6, hb6⟩ := hrel
            have hs6 := hb6.size
            by_cases hlt8 : (i : Int) < 8
            · obtain ⟨x, y, z, hx, hy, hz, F⟩ := joined_at HST.out hSV i (by omega)
              have kx := words_at (HSr.out.below hb6 hgsr) i x hx
              have ky := words_at (HV.out.1.below hb6 hgvr) i y hy
              have HF := hide F
              have i0' : (0 : Int) ≤ i := by omega
              have HA : Hid ((wr.drew.alloc (.cells #[.int .u32 z] 69)).ownsRow wz.heap.size 69 1 u17 i (wcells ((joined st V).take i))) := World.ownsRow.alloc (w := wr.drew) hown6 _
              have HN : Hid (∀ (j : Nat) (u : Value), [Value.int .u32 z][j]? = some u → (wr.drew.alloc (.cells #[.int .u32 z] 69)).cell? ((⟨wr.heap.size, 0, none⟩ : Addr).add j) = some u) := one_cell wr.drew (.int .u32 z) 69
              have HB : Hid (wz.heap.size ≤ (wr.drew.alloc (.cells #[.int .u32 z] 69)).heap.size) := by
                show _ ≤ _
                simp; omega
              have HG : Hid (Below wz.heap.size wr (wr.drew.alloc (.cells #[.int .u32 z] 69))) := Below.alloc (Below.refl _ _).drew (show wz.heap.size ≤ wr.drew.heap.size from hs6) _
              have hlow := hown6.lt
              have HLow : Hid (∀ k, u17.ownBlock = some k → wz.heap.size ≤ k) := fun k hk => (hlow k hk).1
              clear hx hy F hown6 hlow
              have hgsn : gs < wr.heap.size := by omega
              have hgvn : gv < wr.heap.size := by omega
              go_wp2
              go_region_held3 (fun w' => w'.cell? ⟨gs, i, none⟩ = some (.int .u32 x) ∧ w'.cell? ⟨gv, i, none⟩ = some (.int .u32 y)) (first
                | go_keep
                | (refine ⟨?_, ?_⟩ <;> first | (rw [World.cell?_alloc_lt _ _ _ (show gs < wr.heap.size from hgsn)]; exact kx) | (rw [World.cell?_alloc_lt _ _ _ (show gv < wr.heap.size from hgvn)]; exact ky))
                | (refine ⟨?_, ?_⟩ <;> first | (rw [hg6 gs hgsr, World.cell?_alloc_lt _ _ _ (show gs < wr.heap.size from hgsn)]; exact kx) | (rw [hg6 gv hgvr, World.cell?_alloc_lt _ _ _ (show gv < wr.heap.size from hgvn)]; exact ky))) (
                (refine step_append_lies _ (by rfl) _ _ _ (by rfl) wz.heap.size 69 i0 (.int .u32 0) 1 4 Tryd.underlying63 hi hz0 hz1 hz2 rfl (by omega) _ i _ (by rfl) HA.out ⟨wr.heap.size, 0, none⟩ 1 1 [.int .u32 z] (by rfl) (by rfl) HN.out (one_u32 _) (by omega) (by unfold maxLen; omega) (by omega) HB.out _ rfl ?_; intro gg cap2 w7 hown7 hgrow _ _; have hg6 : ∀ q, q < wz.heap.size → ∀ j, w7.cell? ⟨q, j, none⟩ = (wr.drew.alloc (.cells #[.int .u32 z] 69)).cell? ⟨q, j, none⟩ := fun q hq j => hgrow.cell_far ⟨q, j, none⟩ (by simp; omega) (fun h => by have := HLow.out q h.symm; omega)))
              have hb7 : Below wz.heap.size wz w7 := hb6.trans ((HG.out).grown hgrow HB.out (fun k hk => HLow.out k hk))
              rw [wcells_snoc, ← HF.out] at hown7
              have HO7 := hide hown7
              clear hown7 hgrow hg6 HA HN HB HG HLow HF hb6 kx ky
              go_wp2
              go_roundw
              case rel => exact ⟨i + 1, by omega, by go_num, HO7.out, hb7⟩
              case measure => simp [intOf]; omega
            · have e8 : i = 8 := by omega
              subst e8
              have hJ8 := HJ.out.1
              have HO : Hid (wr.ownsRow w.heap.size 69 1 u17 (joined st V).length (wcells (joined st V))) := by
                show World.ownsRow _ _ _ _ _ _ _
                rw [List.take_of_length_le (by omega)] at hown6
                rw [hJ8]
                exact own_lower hown6 hszr
              have hbE : Hid (Below w.heap.size w wr) := hbel.trans (hb6.mono hszr)
              clear hown6 hb6 hbel hJ8
              go_wp2
              go_ret
              rw [EJ.out]
              exact ⟨_, rfl, HO.out, hbE.out⟩
end Go.Proofs.YtaolinlginloaacDoor
