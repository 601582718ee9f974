/-
  IBlank; FrS; IFree
-/
import Derived.Test.YtfmnaidhfgmemaaGreatDoorPk7
import Derived.Test.YtfmnaidhfgmemaaGreatDoorPk13
import Derived.Test.YtfmnaidhfgmemaaGreatDoorPk0
namespace Go.Proofs.YtfmnaidhfgmemaaGreatDoor
open Go.RowKit
set_option maxHeartbeats 400000 in
set_option maxRecDepth 100000 in
theorem iblank_any (g o : Nat) (v : Value) (ls : List (Int × ByteArray)) (B : Nat) (w : World) (hl : ls.length ≤ 1048576) (hc : w.cell? ⟨g, o + 2, none⟩ = some v) (ha : w.ownsRow B 119 2 v ls.length (lcells ls)) :
    Calls Tryz.prog 61 #[.pointer (some ⟨g, o, none⟩)] w fun e w' => e = .returned (.int .i64 (blanks ls : Nat)) ∧ w' = w := by
  obtain ⟨ad, capa, rfl, a1, a2, a3⟩ := frow_form ha
  unfold maxLen at a2
  have A3 := hide a3
  have HA := hide ha
  clear a3 ha
  go_enter Tryz.func61, Tryz.ntmps61
  go_wp2
  go_loop [3, 10] (fun cv iv => ∃ k m : Nat, k ≤ ls.length ∧ m ≤ k ∧ iv = .int .i64 k ∧ cv = .int .i64 m ∧ Hid (blanks (ls.take k) = m)) (fun _ iv => ls.length - (intOf iv).toNat)
  case atStart => exact ⟨0, 0, Nat.zero_le _, Nat.zero_le _, rfl, rfl, rfl⟩
  case round =>
    obtain ⟨k, m, hk, hm, rfl, rfl, HM⟩ := hrel
    by_cases hlt : (k : Int) < ls.length
    · obtain ⟨gl, rfl, _, hg⟩ := A3.out (by omega)
      have hkl : k < ls.length := by omega
      obtain ⟨z, t, ht⟩ : ∃ z t, ls[k]? = some (z, t) := ⟨ls[k].1, ls[k].2, List.getElem?_eq_getElem hkl⟩
      obtain ⟨c1, -⟩ := lown_cells HA.out ht
      simp only at c1
      have HT := hide (blanks_take ht)
      have k0 : (0 : Int) ≤ k := by omega
      clear ht
      by_cases hz : z = 0
      · subst hz
        go_wp2
        go_round
        case rel => exact ⟨k + 1, m + 1, by omega, by omega, by go_num, by go_num, (by have := HT.out; have := HM.out; simp at *; omega : blanks (ls.take (k + 1)) = m + 1)⟩
        case measure => simp [intOf]; omega
      · have hz2 : (z == 0) = false := by simpa using hz
        have HM2 : Hid (blanks (ls.take (k + 1)) = m) := by
          show _ = _
          rw [HT.out, HM.out, if_neg hz]
          rfl
        go_wp2
        go_round
        case rel => exact ⟨k + 1, m, by omega, by omega, by go_num, rfl, HM2⟩
        case measure => simp [intOf]; omega
    · have HE : Hid (blanks ls = m) := by
        show _ = _
        rw [← HM.out, List.take_of_length_le (by omega)]
      go_wp2
      go_ret
      exact ⟨by rw [HE.out]; rfl, rfl⟩
set_option maxHeartbeats 400000 in
set_option maxRecDepth 100000 in
theorem iopenb_any (g o : Nat) (x : Bool) (y : Int) (v : Value) (ls : List (Int × ByteArray)) (B : Nat) (w : World) (hl : ls.length ≤ 1048576) (h1 : w.cell? ⟨g, o, none⟩ = some (.bool x)) (hc : w.cell? ⟨g, o + 2, none⟩ = some v) (ha : w.ownsRow B 119 2 v ls.length (lcells ls)) :
    Calls Tryz.prog 140 #[.pointer (some ⟨g, o, none⟩)] w fun e w' => e = .returned (.bool (openB (x, y, ls))) ∧ w' = w := by
  have C := hide (iblank_any g o v ls B w hl hc ha)
  obtain ⟨ad, capa, rfl, a1, a2, -⟩ := frow_form ha
  unfold maxLen at a2
  clear ha
  have HE : Hid (openB (x, y, ls) = (!x && decide (0 < blanks ls ∧ blanks ls < ls.length))) := rfl
  have hle := blanks_le ls
  generalize blanks ls = m at C HE hle
  cases x with
  | true =>
    go_enter Tryz.func140, Tryz.ntmps140
    go_wp2_with fail
    refine C.out.mono ?_
    rintro e w1 ⟨rfl, rfl⟩
    go_wp2
    go_ret
    exact ⟨by rw [HE.out]; rfl, rfl⟩
  | false =>
    by_cases h0 : (0 : Int) < m
    · have HE2 : Hid (openB (false, y, ls) = decide (m < ls.length)) := by
        show _ = _
        rw [HE.out]
        simp only [Bool.not_false, Bool.true_and]
        congr 1
        apply propext
        omega
      clear HE
      go_enter Tryz.func140, Tryz.ntmps140
      go_wp2_with fail
      refine C.out.mono ?_
      rintro e w1 ⟨rfl, rfl⟩
      go_wp2
      go_ret
      exact ⟨by rw [HE2.out]; rfl, rfl⟩
    · have HE2 : Hid (openB (false, y, ls) = false) := by
        show _ = _
        rw [HE.out]
        simp only [Bool.not_false, Bool.true_and]
        exact decide_eq_false (by omega)
      clear HE
      go_enter Tryz.func140, Tryz.ntmps140
      go_wp2_with fail
      refine C.out.mono ?_
      rintro e w1 ⟨rfl, rfl⟩
      go_wp2
      go_ret
      exact ⟨by rw [HE2.out]; rfl, rfl⟩
set_option maxHeartbeats 400000 in
set_option maxRecDepth 100000 in
theorem ifreeb_any (g o : Nat) (x : Bool) (y : Int) (v : Value) (ls : List (Int × ByteArray)) (B : Nat) (w : World) (hl : ls.length ≤ 1048576) (h1 : w.cell? ⟨g, o, none⟩ = some (.bool x)) (hc : w.cell? ⟨g, o + 2, none⟩ = some v) (ha : w.ownsRow B 119 2 v ls.length (lcells ls)) :
    Calls Tryz.prog 160 #[.pointer (some ⟨g, o, none⟩)] w fun e w' => e = .returned (.bool (freeB (x, y, ls))) ∧ Below w.heap.size w w' := by
  have C : Hid (∀ n, Calls Tryz.prog 61 #[.pointer (some ⟨g, o, none⟩)] (w.drewN n) fun e w' => e = .returned (.int .i64 (blanks ls : Nat)) ∧ w' = w.drewN n) := fun n => iblank_any g o v ls B (w.drewN n) hl hc (own_below ha (below_drewN (Below.refl _ _) _))
  obtain ⟨ad, capa, rfl, a1, a2, -⟩ := frow_form ha
  unfold maxLen at a2
  clear ha
  have HE : Hid (freeB (x, y, ls) = (!x && decide (blanks ls = ls.length))) := rfl
  have hle := blanks_le ls
  generalize blanks ls = m at C HE hle
  cases x with
  | true =>
    go_enter Tryz.func160, Tryz.ntmps160
    go_wp2
    go_quiet (fail)
    go_wp2
    go_ret
    exact ⟨by rw [HE.out]; rfl, below_drewN (Below.refl _ _) _⟩
  | false =>
    have HE2 : Hid (freeB (false, y, ls) = ((m : Int) == (ls.length : Int))) := by
      show _ = _
      rw [HE.out]
      simp only [Bool.not_false, Bool.true_and]
      rw [Bool.eq_iff_iff]
      simp
      omega
    clear HE
    go_enter Tryz.func160, Tryz.ntmps160
    go_wp2
    go_quiet ((go_at_call 61; exact Calls.quiet_of_same (C.out _)))
    go_wp2
    go_ret
    exact ⟨by rw [HE2.out]; rfl, below_drewN (Below.refl _ _) _⟩
end Go.Proofs.YtfmnaidhfgmemaaGreatDoor

namespace Go.Proofs.YtfmnaidhfgmemaaGreatDoor
open Go.RowKit
def IntsOf (w : World) (B : Nat) (u : Value) (l : List Int) : Prop := w.ownsRow B 3 1 u l.length (icells l)
def Frs (w wr : World) (v out : Value) (l : List Int) : Prop := Below w.heap.size w wr ∧ wr.heap[w.heap.size]? = some (.cells #[v] 39 (0, 0)) ∧ IntsOf wr (w.heap.size + 1) out l
theorem Frs.below {w wr w' : World} {v out : Value} {l : List Int} (h : Frs w wr v out l) (hb : Below wr.heap.size wr w') : Frs w w' v out l :=
  ⟨h.1.trans (hb.mono h.1.size), (hb.block _ (Array.getElem?_eq_some_iff.1 h.2.1).1).trans h.2.1, own_below h.2.2 hb⟩
theorem Frs.snoc {w wr w2 : World} {v out v' : Value} {l : List Int} {x : Int} {t : TypeId} (h : Frs w wr v out l) (ho : w2.ownsRow (w.heap.size + 1) 3 1 v' (l.length + 1) (icells l ++ [.int .i64 x])) (hg : (wr.alloc (.cells #[.int .i64 x] t)).grownBy w2 out.ownBlock) : Frs w w2 v v' (l ++ [x]) := by
  have hz := h.below ((Below.refl _ _).alloc (Nat.le_refl _) (.cells #[.int .i64 x] t))
  have lt0 := (Array.getElem?_eq_some_iff.1 hz.2.1).1
  refine ⟨hz.1.grown hg hz.1.size (fun k hk => Nat.le_of_succ_le (h.2.2.lt k hk).1), (hg.block w.heap.size lt0 (fun e => ?_)).trans hz.2.1, ?_⟩
  · have := (h.2.2.lt _ e.symm).1
    omega
  · unfold IntsOf
    rw [List.length_append, ← icells_snoc]
    exact ho
def plV (p : Int × Int × Bool) : Value := .tuple #[.int .i64 p.1, .int .i64 p.2.1, .bool p.2.2]
end Go.Proofs.YtfmnaidhfgmemaaGreatDoor

namespace Go.Proofs.YtfmnaidhfgmemaaGreatDoor
open Go.RowKit
set_option maxHeartbeats 400000 in
set_option maxRecDepth 100000 in
theorem ifree_any (v : Value) (rs : List Rw) (lo hi : Nat) (w : World) (hl : rs.length ≤ 1048576) (hll : ∀ r ∈ rs, r.2.2.2.length ≤ 1048576) (hh : hi ≤ w.heap.size) (ha : FlashIn w lo hi v rs) :
    Calls Tryz.prog 141 #[.agg #[v]] w fun e w' => ∃ u, e = .returned u ∧ IntsOf w' w.heap.size u (freeL (rs.map tellOf)) ∧ Below w.heap.size w w' := by
  obtain ⟨i0, hi0, hz0, hz1, hz2⟩ := info_parts infoInt
  obtain ⟨vd, vcap, rfl, -, -, a3⟩ := frow_form ha.1
  have HLL := hide hll
  have A3 := hide a3
  obtain ⟨n, hn⟩ : ∃ n, rs.length = n := ⟨_, rfl⟩
  have HN := hide hn
  have HF2 := hide ha
  rw [hn] at hl HF2 ⊢
  have b0 : Below w.heap.size w (w.alloc (.cells #[.slice vd n vcap] 39)) := (Below.refl _ _).alloc (Nat.le_refl _) _
  have S0 : Hid (Frs w (w.alloc (.cells #[.slice vd n vcap] 39)) (.slice vd n vcap) (.slice none 0 0) []) := ⟨b0, heap_alloc_new _ _, World.ownsRow_nil _ _ _ _⟩
  have HH := hide hh
  clear ha hll a3 hn b0
  go_enter Tryz.func141, Tryz.ntmps141
  go_wp2
  go_loopw [3, 8] (fun out bv wr => ∃ (b : Nat) (l : List Int), bv = .int .i64 b ∧ b ≤ n ∧ l.length ≤ b ∧ Hid (l = freeTo (rs.map tellOf) b) ∧ Hid (Frs w wr (.slice vd n vcap) out l)) (fun _ bv _ => n - (intOf bv).toNat)
  case atStart => exact ⟨0, [], rfl, Nat.zero_le _, Nat.zero_le _, rfl, S0⟩
  case round =>
    obtain ⟨b, l, rfl, r1, rlen, HLd, HS⟩ := hrel
    clear S0
    have cf : wr.cell? ⟨w.heap.size, 0, none⟩ = some (.slice vd n vcap) := cell_of_row _ _ 0 _ _ _ HS.out.2.1
    by_cases hlt : (b : Int) < n
    · have hbl : b < rs.length := by have := HN.out; omega
      obtain ⟨r, hr⟩ : ∃ r, rs[b]? = some r := ⟨_, List.getElem?_eq_getElem hbl⟩
      obtain ⟨gv, e, -, -⟩ := A3.out (by omega)
      subst e
      have hfo := HF2.out.below HS.out.1 HH.out
      have hrow := hfo.1
      rw [HN.out] at hrow
      have hrc : (rs.map cellOf)[b]? = some (cellOf r) := by rw [List.getElem?_map, hr]; rfl
      have hrt : (rs.map tellOf)[b]? = some (tellOf r) := by rw [List.getElem?_map, hr]; rfl
      obtain ⟨c1, c2, c3⟩ := kown_cells hrow hrc
      have hlf := (hfo.2.2.1 r (List.mem_of_getElem? hr)).1
      have hml := HLL.out r (List.mem_of_getElem? hr)
      obtain ⟨x, y, u, ls⟩ := r
      simp only [cellOf] at c1 c2 c3
      simp only at hlf hml
      have C := hide (ifreeb_any gv (b * 3) x y u ls lo wr hml c1 c3 hlf)
      have b0 : (0 : Int) ≤ b := by omega
      cases hf : freeB (x, y, ls) with
      | false =>
        have NL : Hid (l = freeTo (rs.map tellOf) (b + 1)) := by show _ = _; rw [freeTo_no hrt hf]; exact HLd.out
        rw [hf] at C
        clear hfo hrow hrc hrt hlf hml hr hbl hf c1 c2 c3
        go_wp2_with fail
        refine C.out.mono ?_
        rintro e w2 ⟨rfl, b2⟩
        have S2 := hide (HS.out.below b2)
        clear b2 HS C cf
        go_wp2
        go_roundw
        case rel => exact ⟨b + 1, l, by go_num, by omega, by omega, NL, S2⟩
        case measure => simp [intOf]; omega
      | true =>
        have NL : Hid (l ++ [(b : Int)] = freeTo (rs.map tellOf) (b + 1)) := by show _ = _; rw [freeTo_yes hrt hf, HLd.out]
        rw [hf] at C
        clear hfo hrow hrc hrt hlf hml hr hbl hf c1 c2 c3
        go_wp2_with fail
        refine C.out.mono ?_
        rintro e w2 ⟨rfl, b2⟩
        have S2 := hide (HS.out.below b2)
        clear b2 HS C cf
        go_wp2_with (at_builtin; refine wpList_append_own _ rfl _ _ 54 rfl (w.heap.size + 1) 3 i0 (.int .i64 0) 1 8 Tryz.underlying54 hi0 hz0 hz1 hz2 rfl (by decide) _ l.length (icells l) rfl (S2.out.2.2.alloc _) ⟨w2.heap.size, 0, none⟩ 1 1 [Value.int .i64 _] rfl rfl (by exact one_cell _ _ _) (one_i64 _) ?g1 ?g2 ?g3 ?_)
        case g1 => unfold maxLen; omega
        case g2 => omega
        case g3 => have := (Array.getElem?_eq_some_iff.1 S2.out.2.1).1; simp; omega
        intro v' w4 hown hgrow _
        have NS := hide (S2.out.snoc hown hgrow)
        have NN : (l ++ [(b : Int)]).length = l.length + 1 := by simp
        generalize l ++ [(b : Int)] = l3 at NL NS NN
        clear hown hgrow S2
        go_wp2
        go_roundw
        case rel => exact ⟨b + 1, l3, by go_num, by omega, by omega, NL, NS⟩
        case measure => simp [intOf]; omega
    · have PF : Hid (freeL (rs.map tellOf) = l) := by
        show _ = _
        unfold freeL
        rw [List.length_map, HLd.out]
        congr 1
        have := HN.out
        omega
      clear HLd
      go_wp2
      go_ret
      refine ⟨_, rfl, ?_, HS.out.1⟩
      rw [PF.out]
      exact own_lower HS.out.2.2 (by omega)
end Go.Proofs.YtfmnaidhfgmemaaGreatDoor
