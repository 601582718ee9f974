/-
  SGet; SAll; TrMath3; TrMath4; SwMath; DecI; Math
-/
import Derived.Test.YtfmnaidhfgmemaaGreatDoorPk5
import Derived.Test.YtfmnaidhfgmemaaGreatDoorPk2
namespace Go.Proofs.YtfmnaidhfgmemaaGreatDoor
open Go.RowKit
open Words
theorem KnRd.kids {W : World} {b off len : Nat} {rs : List Kw} (h : KnRd W (some ⟨b, off, none⟩) len rs) {k : Nat} {x : Kn} (hk : (rs.map ktell)[k]? = some x) :
    ∃ ka kc, W.cell? ⟨b, off + k * 2, none⟩ = some (.bool x.leaf) ∧ W.cell? ⟨b, off + k * 2 + 1, none⟩ = some (.slice ka x.kids.length kc) ∧ IRow W ka x.kids.length x.kids := by
  rw [List.getElem?_map] at hk
  obtain ⟨r, hr, rfl⟩ := Option.map_eq_some_iff.1 hk
  obtain ⟨c0, c1⟩ := h.cell hr
  obtain ⟨ka, kc, e, -, kr⟩ := h.2.2.1 r (List.mem_of_getElem? hr)
  exact ⟨ka, kc, c0, by rw [c1, e]; rfl, kr⟩
set_option maxHeartbeats 400000 in
set_option maxRecDepth 100000 in
theorem sget (ad : Option Addr) (len cap : Nat) (rs : List Kw) (r : Int) (s : Nat) (w : World) (hl : len ≤ 1048578) (h : KnRd w ad len rs) (ha : arB (rs.map ktell) = true) (hr : rootB (rs.map ktell) r = true) (hs : s ≤ 15) :
    Calls Tryz.prog 104 #[.agg #[.slice ad len cap], .int .i64 r, .int .i64 s] w fun e w' => e = .returned (.int .i64 (getP (rs.map ktell) r s)) ∧ Below w.heap.size w w' := by
  have bx := box_at w (.slice ad len cap)
  have B0 : Hid (Below w.heap.size w (w.alloc (.cells #[.slice ad len cap] 43))) := (Below.refl _ _).alloc (Nat.le_refl _) _
  have H := hide (h.below B0.out)
  have hlL : (rs.map ktell).length = len := by rw [List.length_map]; exact h.1
  clear h
  by_cases hneg : r < 0
  · have E : Hid (getP (rs.map ktell) r s = 0) := if_pos hneg
    rw [E.out]
    clear E ha hr hlL
    go_enter Tryz.func104, Tryz.ntmps104
    go_wp2
    go_ret
    exact ⟨rfl, B0.out⟩
  · obtain ⟨m, rfl⟩ : ∃ m : Nat, r = (m : Int) := ⟨r.toNat, by omega⟩
    obtain ⟨x, hx, hxl⟩ := rootB_pos hr (by omega)
    have hml : m < len := by have := (List.getElem?_eq_some_iff.1 hx).1; rw [hlL] at this; simpa using this
    obtain ⟨b, off, e, -⟩ := H.out.adr (by omega)
    subst e
    obtain ⟨q, hq⟩ : ∃ q, s / 4 = q := ⟨_, rfl⟩
    obtain ⟨t, ht⟩ : ∃ t, s % 4 = t := ⟨_, rfl⟩
    have hq4 : q < 4 := by omega
    have ht4 : t < 4 := by omega
    have tq : (s : Int).tdiv 4 = (q : Int) := by rw [Int.tdiv_eq_ediv_of_nonneg (by omega)]; omega
    have tt : (s : Int).tmod 4 = (t : Int) := by rw [Int.tmod_eq_emod_of_nonneg (by omega)]; omega
    have tq2 : (s : Int) / 4 = (q : Int) := by omega
    have tt2 : (s : Int) % 4 = (t : Int) := by omega
    have x4 := knB_len (arB_at ha hx)
    obtain ⟨n, hn, hcase⟩ := inner_kid ha hx hxl hq4
    have hka : kidAt (rs.map ktell) (m : Int) q = n := kidAt_some hx hn
    obtain ⟨ka, kc, -, c1, kr⟩ := H.out.kids hx
    rw [x4] at c1 kr
    simp only [Int.toNat_natCast] at c1
    obtain ⟨kb, ko, e, -, kncell⟩ := kr.at hn
    subst e
    have m0 : (0 : Int) ≤ m := by omega
    have mL : (m : Int) < len := by omega
    have q0 : (0 : Int) ≤ q := by omega
    have q4 : (q : Int) < 4 := by omega
    rcases hcase with rfl | ⟨n0, nm, y, hy, hyl, hy4⟩
    · have E : Hid (getP (rs.map ktell) (m : Int) s = 0) := by show _ = _; rw [getP, if_neg hneg, hq, hka, if_pos (by omega)]
      rw [E.out]
      clear E ha hr hlL hq ht hka hn hx kr hneg H x4
      go_enter Tryz.func104, Tryz.ntmps104
      go_wp2
      go_ret
      exact ⟨rfl, B0.out⟩
    · obtain ⟨j, rfl⟩ : ∃ j : Nat, n = (j : Int) := ⟨n.toNat, by omega⟩
      obtain ⟨v, hv, -⟩ := leaf_kid ha hy hyl ht4
      have hkb : kidAt (rs.map ktell) (j : Int) t = v := kidAt_some hy hv
      obtain ⟨la, lc, -, d1, lr⟩ := H.out.kids hy
      rw [hy4] at d1 lr
      simp only [Int.toNat_natCast] at d1
      obtain ⟨lb, lo, e, -, lcell⟩ := lr.at hv
      subst e
      have j0 : (0 : Int) ≤ j := by omega
      have jL : (j : Int) < len := by simp only [Int.toNat_natCast] at nm; omega
      have t0 : (0 : Int) ≤ t := by omega
      have t4 : (t : Int) < 4 := by omega
      have E : Hid (getP (rs.map ktell) (m : Int) s = v) := by show _ = _; rw [getP, if_neg hneg, hq, ht, hka, if_neg (by omega), hkb]
      rw [E.out]
      clear E ha hr hlL hq ht hka hkb hn hx kr lr hneg H x4 hy hv hy4 nm n0
      go_enter Tryz.func104, Tryz.ntmps104
      go_wp2
      go_ret
      exact ⟨rfl, B0.out⟩
set_option maxHeartbeats 400000 in
set_option maxRecDepth 100000 in
theorem sgetAt (ad : Option Addr) (len cap : Nat) (rs : List Kw) (r s : Int) (w : World) (hl : len ≤ 1048578) (h : KnRd w ad len rs) :
    Calls Tryz.prog 70 #[.agg #[.slice ad len cap], .int .i64 r, .int .i64 s] w fun e w' => e = .returned (.int .i64 (getT (rs.map ktell) r s)) ∧ Below w.heap.size w w' := by
  have BX := hide (box_at w (.slice ad len cap))
  have B0 : Hid (Below w.heap.size w (w.alloc (.cells #[.slice ad len cap] 43))) := (Below.refl _ _).alloc (Nat.le_refl _) _
  have H := hide (h.below B0.out)
  have HZ := hide (show w.heap.size < (w.alloc (.cells #[.slice ad len cap] 43)).heap.size by simp)
  clear h
  have bx := BX.out
  go_enter Tryz.func70, Tryz.ntmps70
  go_wp2_with fail
  generalize w.alloc (.cells #[.slice ad len cap] 43) = wb at BX bx B0 H HZ ⊢
  obtain ⟨z, hz⟩ : ∃ z, w.heap.size = z := ⟨_, rfl⟩
  rw [hz] at BX bx HZ ⊢
  refine (sarOk ad len cap rs wb hl H.out).mono ?_
  rintro e w1 ⟨rfl, b1⟩
  have BX1 := hide ((b1.cell (show z < wb.heap.size from HZ.out)).trans BX.out)
  have B1 := hide b1
  clear bx b1
  have bx := BX1.out
  have HF1 : Hid (Below w.heap.size w w1) := B0.out.trans (B1.out.mono B0.out.size)
  cases hA : arB (rs.map ktell) with
  | false =>
    have E : Hid (getT (rs.map ktell) r s = 0) := if_neg (by rw [askB, hA]; simp)
    clear hA
    go_wp2
    go_ret
    exact ⟨congrArg (fun q => Ending.returned (.int .i64 q)) E.out.symm, HF1.out⟩
  | true =>
    have HA := hide hA
    go_wp2_with fail
    refine (sroot ad len cap rs r w1 hl (H.out.below B1.out)).mono ?_
    rintro e w2 ⟨rfl, b2⟩
    have BX2 := hide ((b2.cell (show z < w1.heap.size from Nat.lt_of_lt_of_le HZ.out B1.out.size)).trans BX1.out)
    have B2 := hide (B1.out.trans (b2.mono B1.out.size))
    clear bx b2 hA
    have bx := BX2.out
    have HF2 : Hid (Below w.heap.size w w2) := B0.out.trans (B2.out.mono B0.out.size)
    cases hR : rootB (rs.map ktell) r with
    | false =>
      have E : Hid (getT (rs.map ktell) r s = 0) := if_neg (by rw [askB, hR]; simp)
      clear hR
      go_wp2
      go_ret
      exact ⟨congrArg (fun q => Ending.returned (.int .i64 q)) E.out.symm, HF2.out⟩
    | true =>
      have HR := hide hR
      clear hR
      go_wp2_with fail
      refine (sin_any s 0 15 _).mono ?_
      rintro e w3 ⟨rfl, rfl⟩
      by_cases hin : 0 ≤ s ∧ s ≤ 15
      · have hask : askB (rs.map ktell) r s = true := by rw [askB, HA.out, HR.out, decide_eq_true hin.1, decide_eq_true hin.2]; rfl
        have E : Hid (getT (rs.map ktell) r s = getP (rs.map ktell) r s.toNat) := if_pos hask
        rw [decide_eq_true hin]
        obtain ⟨t, rfl⟩ : ∃ t : Nat, s = (t : Int) := ⟨s.toNat, by omega⟩
        simp only [Int.toNat_natCast] at E
        have ht : t ≤ 15 := by omega
        clear hask hin
        go_wp2_with fail
        refine (sget ad len cap rs r t _ hl (H.out.below B2.out) HA.out HR.out ht).mono ?_
        rintro e w4 ⟨rfl, b4⟩
        have HF := hide (HF2.out.trans (b4.mono HF2.out.size))
        clear b4
        go_wp2
        go_ret
        exact ⟨congrArg (fun q => Ending.returned (.int .i64 q)) E.out.symm, HF.out⟩
      · have E : Hid (getT (rs.map ktell) r s = 0) := if_neg (by
          rw [askB]
          simp only [Bool.and_eq_true, decide_eq_true_eq]
          rintro ⟨-, h1, h2⟩
          exact hin ⟨h1, h2⟩)
        rw [decide_eq_false hin]
        clear hin
        go_wp2
        go_ret
        exact ⟨congrArg (fun q => Ending.returned (.int .i64 q)) E.out.symm, HF2.out⟩
end Go.Proofs.YtfmnaidhfgmemaaGreatDoor

namespace Go.Proofs.YtfmnaidhfgmemaaGreatDoor
open Go.RowKit
open Words
def IOut (w : World) (l : List Int) (e : Ending) (w' : World) : Prop := ∃ v, e = .returned v ∧ w'.ownsRow w.heap.size 3 1 v l.length (icells l) ∧ Below w.heap.size w w'
theorem allT_len (l : List Kn) (r : Int) : (allT l r).length = 16 := by simp [allT]
theorem allT_take (l : List Kn) (r : Int) {k : Nat} (hk : k < 16) : (allT l r).take (k + 1) = (allT l r).take k ++ [getT l r k] := by
  rw [List.take_add_one, allT, List.getElem?_map, List.getElem?_range hk]
  rfl
set_option maxHeartbeats 400000 in
set_option maxRecDepth 100000 in
theorem sall (ad : Option Addr) (len cap : Nat) (rs : List Kw) (r : Int) (w : World) (hl : len ≤ 1048578) (h : KnRd w ad len rs) :
    Calls Tryz.prog 44 #[.agg #[.slice ad len cap], .int .i64 r] w (IOut w (allT (rs.map ktell) r)) := by
  obtain ⟨i0, hi, hz0, hz1, hz2⟩ := info_parts infoInt
  have I0 := hide hi
  have Y0 := hide hz0
  have Y1 := hide hz1
  have Y2 := hide hz2
  clear hi hz0 hz1 hz2
  have BX := hide (box_at w (.slice ad len cap))
  have B0 : Hid (Below w.heap.size w (w.alloc (.cells #[.slice ad len cap] 43))) := (Below.refl _ _).alloc (Nat.le_refl _) _
  have H := hide (h.below B0.out)
  have HZ := hide (show w.heap.size < (w.alloc (.cells #[.slice ad len cap] 43)).heap.size by simp)
  have HS := hide (show (w.alloc (.cells #[.slice ad len cap] 43)).heap.size = w.heap.size + 1 by simp)
  clear h
  obtain ⟨M, hM⟩ : ∃ M, allT (rs.map ktell) r = M := ⟨_, rfl⟩
  have HM := hide hM
  rw [hM]
  clear hM
  go_enter Tryz.func44, Tryz.ntmps44
  go_wp2_with fail
  generalize w.alloc (.cells #[.slice ad len cap] 43) = wb at BX B0 H HZ HS ⊢
  have O0 : Hid ((wb.alloc (.cells #[] 3)).ownsRow wb.heap.size 3 1 (.slice (some ⟨wb.heap.size, 0, none⟩) 0 0) ([] : List Int).length (icells [])) := World.ownsRow_made wb #[] 0 (Nat.le_refl _) (by unfold maxLen; omega) (by simp)
  have BA : Hid (Below wb.heap.size wb (wb.alloc (.cells #[] 3))) := (Below.refl _ _).alloc (Nat.le_refl _) _
  generalize wb.alloc (.cells #[] 3) = wa at O0 BA ⊢
  obtain ⟨z, hz⟩ : ∃ z, w.heap.size = z := ⟨_, rfl⟩
  rw [hz] at BX HZ HS ⊢
  have HZW := hide hz
  clear hz
  go_loopw [5, 6] (fun ov kv W => ∃ (k : Nat) (l : List Int), k ≤ 16 ∧ kv = .int .i64 k ∧ l.length ≤ k ∧ Hid (l = M.take k) ∧ Hid (W.ownsRow wb.heap.size 3 1 ov l.length (icells l) ∧ Below wb.heap.size wb W)) (fun _ kv _ => 16 - (intOf kv).toNat)
  case atStart => exact ⟨0, [], Nat.zero_le _, rfl, Nat.zero_le _, by show _ = _; simp, by rw [← HS.out]; exact O0.out, BA.out⟩
  case round =>
    obtain ⟨k, l, hk, rfl, hlk, HL, HO⟩ := hrel
    have bx := (HO.out.2.cell (show z < wb.heap.size from HZ.out)).trans BX.out
    by_cases hlt : (k : Int) < 16
    · have hw := HO.out.2.size
      go_wp2_with fail
      refine (sgetAt ad len cap rs r (k : Int) _ hl (H.out.below HO.out.2)).mono ?_
      rintro e w1 ⟨rfl, b1⟩
      have HL2 : Hid (l ++ [getT (rs.map ktell) r (k : Int)] = M.take (k + 1)) := by
        show _ = _
        rw [← HM.out, allT_take _ _ (by omega), HM.out, HL.out]
      generalize getT (rs.map ktell) r (k : Int) = y at HL2 ⊢
      have OW := hide (own_below HO.out.1 b1)
      have B1 := hide (HO.out.2.trans (b1.mono hw))
      have hw1 := B1.out.size
      clear b1 bx HO HL
      have BN : Hid (Below w1.heap.size w1 (w1.alloc (.cells #[.int .i64 y] 3))) := (Below.refl _ _).alloc (Nat.le_refl _) _
      have OWN := hide (own_below OW.out BN.out)
      go_wp2_with (at_builtin; refine wpList_append_own _ rfl _ _ 54 rfl wb.heap.size 3 i0 (.int .i64 0) 1 8 Tryz.underlying54 I0.out Y0.out Y1.out Y2.out rfl (by decide) _ _ _ rfl OWN.out ⟨w1.heap.size, 0, none⟩ 1 1 [Value.int .i64 y] rfl rfl (one_cell _ _ _) (one_i64 _) ?c1 ?c2 ?c3 ?_)
      case c1 => unfold maxLen; omega
      case c2 => omega
      case c3 => have := BN.out.size; omega
      intro u' z2 ho hg _
      rw [icells_snoc] at ho
      have ho2 : z2.ownsRow wb.heap.size 3 1 u' (l ++ [y]).length (icells (l ++ [y])) := by rw [List.length_append]; exact ho
      have ON : Hid (z2.ownsRow wb.heap.size 3 1 u' (l ++ [y]).length (icells (l ++ [y])) ∧ Below wb.heap.size wb z2) := ⟨ho2, (B1.out.trans (BN.out.mono hw1)).grown hg (by have := BN.out.size; omega) (fun q hq => (OWN.out.lt q hq).1)⟩
      have hl3 : (l ++ [y]).length ≤ k + 1 := by simp; omega
      generalize l ++ [y] = l2 at HL2 ON hl3
      clear ho ho2 hg OWN OW BN B1
      go_wp2
      go_roundw
      case rel => exact ⟨k + 1, l2, by omega, by go_num, hl3, HL2, ON⟩
      case measure => simp [intOf]; omega
    · have EL : Hid (l = M) := by
        show _ = _
        rw [HL.out, show k = M.length by rw [← HM.out, allT_len]; omega, List.take_length]
      have HF : Hid (Below w.heap.size w wr) := B0.out.trans (HO.out.2.mono B0.out.size)
      go_wp2
      go_ret
      refine ⟨_, rfl, ?_, HF.out⟩
      rw [← EL.out]
      exact own_lower HO.out.1 B0.out.size
end Go.Proofs.YtfmnaidhfgmemaaGreatDoor

namespace Go.Proofs.YtfmnaidhfgmemaaGreatDoor
namespace Words
section
variable {l : List Kn} {r : Int} {s : Nat} {n : Int}
end
end Words
end Go.Proofs.YtfmnaidhfgmemaaGreatDoor

namespace Go.Proofs.YtfmnaidhfgmemaaGreatDoor
namespace Words
def pt (l : List Kn) (r : Int) (s : Nat) (n : Int) : List Kn := l ++ [putLf l r s n, putTop l r s]
end Words
end Go.Proofs.YtfmnaidhfgmemaaGreatDoor

namespace Go.Proofs.YtfmnaidhfgmemaaGreatDoor
namespace Words
section
variable {l : List Kn} {rs : List Int}
end
end Words
end Go.Proofs.YtfmnaidhfgmemaaGreatDoor

namespace Go.Proofs.YtfmnaidhfgmemaaGreatDoor
theorem dcY {p : Prop} {d : Decidable p} (h : p) : @decide p d = true := decide_eq_true h
theorem dcN {p : Prop} {d : Decidable p} (h : ¬ p) : @decide p d = false := decide_eq_false h
theorem dcE {p q : Prop} {d : Decidable p} {e : Decidable q} (h : p ↔ q) : @decide p d = @decide q e := decide_eq_decide.2 h
end Go.Proofs.YtfmnaidhfgmemaaGreatDoor

namespace Go.Proofs.YtfmnaidhfgmemaaGreatDoor.Words
def varF : Nat → Nat → List UInt8
  | 0, n => [UInt8.ofNat n]
  | f + 1, n => if n < 128 then [UInt8.ofNat n] else UInt8.ofNat (n % 128 + 128) :: varF f (n / 128)
def varL (n : Nat) : List UInt8 := varF n n
theorem varF_fuel : ∀ (f g n : Nat), n ≤ f → n ≤ g → varF f n = varF g n := by
  intro f
  induction f with
  | zero =>
    intro g n hf hg
    have : n = 0 := by omega
    subst this
    cases g <;> simp [varF]
  | succ f ih =>
    intro g n hf hg
    cases g with
    | zero =>
      have : n = 0 := by omega
      subst this
      simp [varF]
    | succ g =>
      simp only [varF]
      split
      · rfl
      · rw [ih g (n / 128) (by omega) (by omega)]
theorem varL_low (n : Nat) (h : n < 128) : varL n = [UInt8.ofNat n] := by
  unfold varL
  cases n with
  | zero => rfl
  | succ n => simp [varF, h]
theorem varL_high (n : Nat) (h : 128 ≤ n) : varL n = UInt8.ofNat (n % 128 + 128) :: varL (n / 128) := by
  unfold varL
  cases n with
  | zero => omega
  | succ n =>
    rw [varF, if_neg (by omega)]
    rw [varF_fuel n ((n + 1) / 128) ((n + 1) / 128) (by omega) (Nat.le_refl _)]
theorem varL_len (n : Nat) (h : n < 9223372036854775808) : 0 < (varL n).length ∧ (varL n).length ≤ 9 := by
  have low : ∀ n, n < 128 → (varL n).length = 1 := fun n h => by rw [varL_low n h]; rfl
  have step : ∀ (k : Nat) (b : Nat), (∀ n, n < b → 0 < (varL n).length ∧ (varL n).length ≤ k) → 128 ≤ 128 * b → ∀ n, n < 128 * b → 0 < (varL n).length ∧ (varL n).length ≤ k + 1 := by
    intro k b ih _ n hn
    by_cases h1 : n < 128
    · rw [low n h1]; omega
    · rw [varL_high n (by omega), List.length_cons]
      have := ih (n / 128) (by omega)
      omega
  have h1 : ∀ n, n < 128 → 0 < (varL n).length ∧ (varL n).length ≤ 1 := fun n h => by rw [low n h]; omega
  have h2 := step 1 128 h1 (by omega)
  have h3 := step 2 (128 * 128) h2 (by omega)
  have h4 := step 3 (128 * (128 * 128)) h3 (by omega)
  have h5 := step 4 (128 * (128 * (128 * 128))) h4 (by omega)
  have h6 := step 5 (128 * (128 * (128 * (128 * 128)))) h5 (by omega)
  have h7 := step 6 (128 * (128 * (128 * (128 * (128 * 128))))) h6 (by omega)
  have h8 := step 7 (128 * (128 * (128 * (128 * (128 * (128 * 128)))))) h7 (by omega)
  have h9 := step 8 (128 * (128 * (128 * (128 * (128 * (128 * (128 * 128))))))) h8 (by omega)
  exact h9 n (by omega)
def valL : List UInt8 → Nat
  | [] => 0
  | c :: r => c.toNat % 128 + 128 * valL r
theorem valL_snoc (l : List UInt8) (c : UInt8) : valL (l ++ [c]) = valL l + c.toNat % 128 * 128 ^ l.length := by
  induction l with
  | nil => simp [valL]
  | cons a l ih =>
    simp only [List.cons_append, valL, ih, List.length_cons, Nat.pow_succ]
    rw [Nat.mul_add, ← Nat.add_assoc]
    congr 1
    rw [Nat.mul_left_comm, Nat.mul_comm 128]
theorem valL_lt (l : List UInt8) : valL l < 128 ^ l.length := by
  induction l with
  | nil => simp [valL]
  | cons a l ih =>
    simp only [valL, List.length_cons, Nat.pow_succ]
    omega
def scan : Nat → List UInt8 → Option (List UInt8)
  | 0, _ => none
  | _ + 1, [] => none
  | f + 1, c :: r => if c.toNat < 128 then some [c] else (scan f r).map (c :: ·)
theorem ofNat_toNat (c : UInt8) : UInt8.ofNat c.toNat = c := by simp
theorem var_val : ∀ (p : List UInt8) (c : UInt8), c.toNat < 128 → (∀ x ∈ p, 128 ≤ x.toNat) →
    (varL (valL (p ++ [c])) = p ++ [c] ↔ ¬ (c.toNat = 0 ∧ p ≠ [])) ∧ (valL (p ++ [c]) = 0 → c.toNat = 0) := by
  intro p
  induction p with
  | nil =>
    intro c hc _
    have e : valL ([] ++ [c]) = c.toNat := by simp [valL]; omega
    rw [e, varL_low _ hc]
    simp
  | cons a p ih =>
    intro c hc hp
    have ha : 128 ≤ a.toNat := hp a (by simp)
    have ha2 : a.toNat < 256 := a.toNat_lt
    obtain ⟨i1, i2⟩ := ih c hc (fun x hx => hp x (by simp [hx]))
    have e : valL (a :: p ++ [c]) = a.toNat % 128 + 128 * valL (p ++ [c]) := rfl
    rw [e]
    refine ⟨?_, fun h => i2 (by omega)⟩
    by_cases hv : valL (p ++ [c]) = 0
    · have hc0 := i2 hv
      rw [hv, varL_low _ (by omega)]
      constructor
      · intro h
        have := congrArg List.length h
        simp at this
      · intro h
        exact absurd ⟨hc0, by simp⟩ h
    · rw [varL_high _ (by omega)]
      have e1 : (a.toNat % 128 + 128 * valL (p ++ [c])) % 128 + 128 = a.toNat := by omega
      have e2 : (a.toNat % 128 + 128 * valL (p ++ [c])) / 128 = valL (p ++ [c]) := by omega
      rw [e1, e2, ofNat_toNat]
      constructor
      · intro h hn
        have h' : varL (valL (p ++ [c])) = p ++ [c] := by simpa using h
        have := i1.1 h'
        by_cases hp0 : p = []
        · subst hp0
          have : valL [c] = 0 := by simp [valL, hn.1]
          exact hv this
        · exact this ⟨hn.1, hp0⟩
      · intro h
        have hc0 : ¬ c.toNat = 0 := fun h0 => h ⟨h0, by simp⟩
        have := i1.2 (fun hh => hc0 hh.1)
        rw [this]; rfl
def readV (text : List UInt8) (at_ : Nat) : Option (Nat × Nat) :=
  match scan 5 (text.drop at_) with
  | none => none
  | some l => if valL l ≤ 1000000000 ∧ varL (valL l) = l then some (valL l, at_ + l.length) else none
theorem scan_pre : ∀ (p r : List UInt8) (f : Nat), (∀ x ∈ p, 128 ≤ x.toNat) → scan (p.length + f) (p ++ r) = (scan f r).map (p ++ ·) := by
  intro p
  induction p with
  | nil => intro r f _; simp
  | cons a p ih =>
    intro r f hp
    have ha := hp a (by simp)
    have e : (a :: p).length + f = (p.length + f) + 1 := by simp; omega
    rw [e, List.cons_append, scan, if_neg (by omega), ih r f (fun x hx => hp x (by simp [hx]))]
    cases scan f r <;> simp
end Go.Proofs.YtfmnaidhfgmemaaGreatDoor.Words
