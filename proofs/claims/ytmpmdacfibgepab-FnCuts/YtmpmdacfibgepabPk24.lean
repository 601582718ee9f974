/-
  PlMath; FrS; SOpen
-/
import Derived.Test.YtmpmdacfibgepabHpMath
import Derived.Test.YtmpmdacfibgepabPk22
import Derived.Test.YtmpmdacfibgepabPk4
import Derived.Test.YtmpmdacfibgepabPk1
/-
  Where to write next: what comes of each way.
-/
namespace Go.Proofs.Ytmpmdacfibgepab

theorem place_no {bs : List Bk} (h : flOk bs = false) : placeF bs = (0, 0, false) := by unfold placeF; rw [h]; rfl
theorem place_open {bs : List Bk} {k : Nat} {b : Bk} (h : flOk bs = true) (hk : openF bs = k) (hb : bs[k]? = some b) : placeF bs = ((k : Int), ((nextB b.2.2 : Nat) : Int), true) := by
  unfold placeF leafs
  rw [h, hk, if_pos rfl, if_pos (by omega), Int.toNat_natCast, hb]
theorem place_least {bs : List Bk} {r : Wb} (h : flOk bs = true) (hk : openF bs = -1) (hr : IsLeast (wearL bs (freeL bs)) r) : placeF bs = (r.1, 0, true) := by
  unfold placeF
  rw [h, hk, if_pos rfl, if_neg (by omega), hr.is]
theorem place_full {bs : List Bk} (h : flOk bs = true) (hk : openF bs = -1) (hr : freeL bs = []) : placeF bs = (0, 0, false) := by
  unfold placeF
  rw [h, hk, if_pos rfl, if_neg (by omega), hr]
  rfl
theorem flOk_len {bs : List Bk} (h : flOk bs = true) : 3 ≤ bs.length ∧ bs.length ≤ 10 := by
  simp only [flOk, Bool.and_eq_true, decide_eq_true_eq] at h
  exact h.1
end Go.Proofs.Ytmpmdacfibgepab

/-
  A row of numbers that grows while blocks are looked at; three answers.
-/
namespace Go.Proofs.Ytmpmdacfibgepab
open Go.RowKit

/-- A row of numbers that the call owns from block B on. -/
def IntsOf (w : World) (B : Nat) (u : Value) (l : List Int) : Prop := w.ownsRow B 3 1 u l.length (icells l)
/-- What a look at the blocks holds. -/
def Frs (w wr : World) (v out : Value) (l : List Int) : Prop := Below w.heap.size w wr ∧ wr.heap[w.heap.size]? = some (.cells #[v] 26 (0, 0)) ∧ IntsOf wr (w.heap.size + 1) out l
theorem Frs.below {w wr w' : World} {v out : Value} {l : List Int} (h : Frs w wr v out l) (hb : Below wr.heap.size wr w') : Frs w w' v out l :=
  ⟨h.1.trans (hb.mono h.1.size), (hb.block _ (Array.getElem?_eq_some_iff.1 h.2.1).1).trans h.2.1, own_below h.2.2 hb⟩
theorem Frs.snoc {w wr w2 : World} {v out v' : Value} {l : List Int} {x : Int} {t : TypeId} (h : Frs w wr v out l) (ho : w2.ownsRow (w.heap.size + 1) 3 1 v' (l.length + 1) (icells l ++ [.int .i64 x])) (hg : (wr.alloc (.cells #[.int .i64 x] t)).grownBy w2 out.ownBlock) : Frs w w2 v v' (l ++ [x]) := by
  have hz := h.below ((Below.refl _ _).alloc (Nat.le_refl _) (.cells #[.int .i64 x] t))
  have lt0 := (Array.getElem?_eq_some_iff.1 hz.2.1).1
  refine ⟨hz.1.grown hg hz.1.size (fun k hk => Nat.le_of_succ_le (h.2.2.lt k hk).1), (hg.block w.heap.size lt0 (fun e => ?_)).trans hz.2.1, ?_⟩
  · have := (h.2.2.lt _ e.symm).1
    omega
  · unfold IntsOf
    rw [List.length_append, ← icells_snoc]
    exact ho

/-- Three answers. -/
def plV (p : Int × Int × Bool) : Value := .tuple #[.int .i64 p.1, .int .i64 p.2.1, .bool p.2.2]
end Go.Proofs.Ytmpmdacfibgepab

/-
  spec.OpenBlock.
-/
namespace Go.Proofs.Ytmpmdacfibgepab
open Go.RowKit

set_option maxHeartbeats 400000 in
set_option maxRecDepth 100000 in
theorem sopen_rd (v : Value) (rs : List Rw) (w : World) (hl : rs.length ≤ 1048576) (hll : ∀ r ∈ rs, r.2.2.2.length ≤ 1048576) (ha : FlashRd w v rs) :
    Calls Try.prog 124 #[.agg #[v]] w fun e w' => e = .returned (.int .i64 (openF (rs.map tellOf))) ∧ Below w.heap.size w w' := by
  have ha1 := ha
  obtain ⟨vd, vcap, rfl, -, -⟩ := ha1
  have HLL := hide hll
  obtain ⟨n, hn⟩ : ∃ n, rs.length = n := ⟨_, rfl⟩
  have HN := hide hn
  have HB := hide ((Below.refl w.heap.size w).alloc (Nat.le_refl _) (.cells #[.slice vd n vcap] 26))
  have HF2 := hide ha
  rw [hn] at hl HF2 ⊢
  have R0 := hide (heap_alloc_new w (.cells #[.slice vd n vcap] 26))
  clear ha hll hn
  go_enter Try.func124, Try.ntmps124
  go_wp2
  have HF := hide (HF2.out.below HB.out)
  clear HF2
  generalize w.alloc (.cells #[.slice vd n vcap] 26) = wA at HB HF R0 ⊢
  have cf : wA.cell? ⟨w.heap.size, 0, none⟩ = some (.slice vd n vcap) := cell_of_row _ _ 0 _ _ _ R0.out
  go_loop [3] (fun bv => ∃ b : Nat, bv = .int .i64 b ∧ b ≤ n ∧ Hid (∀ (j : Nat) (c : Bk), j < b → (rs.map tellOf)[j]? = some c → openB c = false)) (fun bv => n - (intOf bv).toNat)
  case atStart => exact ⟨0, rfl, Nat.zero_le _, (show ∀ (j : Nat) (c : Bk), j < 0 → (rs.map tellOf)[j]? = some c → openB c = false from fun j c hj => by omega)⟩
  case round =>
    obtain ⟨b, rfl, r1, HNo⟩ := hrel
    by_cases hlt : (b : Int) < n
    · have hbl : b < rs.length := by have := HN.out; omega
      obtain ⟨r, hr⟩ : ∃ r, rs[b]? = some r := ⟨_, List.getElem?_eq_getElem hbl⟩
      have hrt : (rs.map tellOf)[b]? = some (tellOf r) := by rw [List.getElem?_map, hr]; rfl
      obtain ⟨gv, e, ⟨c1, c2, c3⟩, hlf⟩ := HF.out.at hr
      subst e
      have hml := HLL.out r (List.mem_of_getElem? hr)
      obtain ⟨x, y, u, ls⟩ := r
      simp only at c1 c2 c3
      simp only at hlf hml
      have b0 : (0 : Int) ≤ b := by omega
      have hlf2 := hlf
      obtain ⟨ld, lc, rfl, -, -⟩ := hlf2
      have HLf := hide hlf
      have HRT := hide hrt
      obtain ⟨m, hm⟩ : ∃ m, ls.length = m := ⟨_, rfl⟩
      have HM := hide hm
      rw [hm] at c3 hml
      clear hrt hlf hr hbl hm
      go_wp2
      go_loop [4, 5, 6] (fun nv mv kv => ∃ (k p q : Nat), kv = .int .i64 k ∧ k ≤ m ∧ nv = .int .i64 p ∧ mv = .int .i64 q ∧ p ≤ k ∧ q ≤ k ∧ Hid (blanks (ls.take k) = p ∧ p + q = k)) (fun _ _ kv => m - (intOf kv).toNat)
      case atStart => exact ⟨0, 0, 0, rfl, Nat.zero_le _, rfl, rfl, Nat.le_refl _, Nat.le_refl _, ⟨rfl, rfl⟩⟩
      case round =>
        obtain ⟨k, p, q, rfl, hk, rfl, rfl, hp, hq, HA⟩ := hrel
        by_cases hlk : (k : Int) < m
        · have hkl : k < ls.length := by have := HM.out; omega
          obtain ⟨z, t, ht⟩ : ∃ z t, ls[k]? = some (z, t) := ⟨ls[k].1, ls[k].2, List.getElem?_eq_getElem hkl⟩
          obtain ⟨gl, lo, e⟩ := HLf.out.head (by have := HM.out; omega)
          subst e
          obtain ⟨d1, -⟩ := HLf.out.two ht
          simp only at d1
          have k0 : (0 : Int) ≤ k := by omega
          have hbt := blanks_take ht
          simp only at hbt
          by_cases hz : z = 0
          · have AN : Hid (blanks (ls.take (k + 1)) = p + 1 ∧ p + 1 + q = k + 1) := by
              rw [if_pos hz, HA.out.1] at hbt
              exact ⟨hbt, by have := HA.out.2; omega⟩
            subst hz
            clear ht hkl HA hbt
            go_wp2
            go_round
            case rel => exact ⟨k + 1, p + 1, q, by go_num, by omega, by go_num, rfl, by omega, by omega, AN⟩
            case measure => simp [intOf]; omega
          · have AN : Hid (blanks (ls.take (k + 1)) = p ∧ p + (q + 1) = k + 1) := by
              rw [if_neg hz, HA.out.1] at hbt
              exact ⟨hbt, by have := HA.out.2; omega⟩
            have hz2 : (z == 0) = false := by simpa using hz
            clear ht hkl HA hbt
            go_wp2
            go_round
            case rel => exact ⟨k + 1, p, q + 1, by go_num, by omega, rfl, by go_num, by omega, by omega, AN⟩
            case measure => simp [intOf]; omega
        · have hkm : k = ls.length := by have := HM.out; omega
          have hbl : blanks ls = p := by rw [← HA.out.1, hkm, List.take_of_length_le (Nat.le_refl _)]
          have hop : openB (x, y, ls) = (!x && decide (0 < p ∧ 0 < q)) := by
            unfold openB
            simp only [hbl]
            congr 2
            apply propext
            have := HA.out.2
            omega
          have HNext : openB (x, y, ls) = false → Hid (∀ (j : Nat) (c : Bk), j < b + 1 → (rs.map tellOf)[j]? = some c → openB c = false) := by
            intro hf j c hj hc
            by_cases e : j = b
            · subst e
              rw [HRT.out] at hc
              cases hc
              exact hf
            · exact HNo.out j c (by omega) hc
          clear hkm hbl
          cases x with
          | true =>
            have NL := HNext (by rw [hop]; rfl)
            clear hop HNext HA
            go_wp2
            go_round
            case rel => exact ⟨b + 1, by go_num, by omega, NL⟩
            case measure => simp [intOf]; omega
          | false =>
            by_cases hp0 : (0 : Int) < p
            · by_cases hq0 : (0 : Int) < q
              · have PF : Hid (openF (rs.map tellOf) = b) := openF_at HRT.out (show openB (false, y, ls) = true by rw [hop]; simp; omega) HNo.out
                clear hop HNext HA
                go_wp2
                go_ret
                exact ⟨by rw [PF.out]; rfl, HB.out⟩
              · have NL := HNext (by rw [hop]; simp; omega)
                clear hop HNext HA
                go_wp2
                go_round
                case rel => exact ⟨b + 1, by go_num, by omega, NL⟩
                case measure => simp [intOf]; omega
            · have NL := HNext (by rw [hop]; simp; omega)
              clear hop HNext HA
              go_wp2
              go_round
              case rel => exact ⟨b + 1, by go_num, by omega, NL⟩
              case measure => simp [intOf]; omega
    · have PF : Hid (openF (rs.map tellOf) = -1) := openF_none (fun j c hc => HNo.out j c (by have := (List.getElem?_eq_some_iff.1 hc).1; rw [List.length_map] at this; have := HN.out; omega) hc)
      clear HNo
      go_wp2
      go_ret
      exact ⟨by rw [PF.out]; rfl, HB.out⟩
theorem sopen_any (v : Value) (rs : List Rw) (lo hi : Nat) (w : World) (hl : rs.length ≤ 1048576) (hll : ∀ r ∈ rs, r.2.2.2.length ≤ 1048576) (_hh : hi ≤ w.heap.size) (ha : FlashIn w lo hi v rs) :
    Calls Try.prog 124 #[.agg #[v]] w fun e w' => e = .returned (.int .i64 (openF (rs.map tellOf))) ∧ Below w.heap.size w w' := sopen_rd v rs w hl hll ha.rd
end Go.Proofs.Ytmpmdacfibgepab
