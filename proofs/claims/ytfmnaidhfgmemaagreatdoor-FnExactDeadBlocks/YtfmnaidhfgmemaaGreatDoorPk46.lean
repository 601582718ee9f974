/-
  TkIs; EqRc; MkRc; StoTk2; FRP; DvM2; DvM3; DvM4; DvM5; DvM6; DvM7; SBl17; SHas; SNeed
-/
import Derived.Test.YtfmnaidhfgmemaaGreatDoorPk35
import Derived.Test.YtfmnaidhfgmemaaGreatDoorPk36
import Derived.Test.YtfmnaidhfgmemaaGreatDoorPk7
import Derived.Test.YtfmnaidhfgmemaaGreatDoorPk0
import Derived.Deep.RegionHeld3
import Derived.Deep.DeepCutAuto
import Derived.Test.YtfmnaidhfgmemaaGreatDoorPk40
import Derived.Test.YtfmnaidhfgmemaaGreatDoorPk8
import Derived.Test.YtfmnaidhfgmemaaGreatDoorPk16
import Derived.Test.YtfmnaidhfgmemaaGreatDoorPk6
import Derived.Test.YtfmnaidhfgmemaaGreatDoorPk34
import Derived.Test.YtfmnaidhfgmemaaGreatDoorPk13
import Derived.Deep.QuietTactic
import Derived.BigQuiet
namespace Go.Proofs.YtfmnaidhfgmemaaGreatDoor
open Go.RowKit
open Words
def IsH (lo hi : Nat) (v : Value) (n : Nat) (l : List Int) : World → Prop := Sli 3 lo hi v n (icells l)
theorem IsH.loc (lo hi : Nat) (v : Value) (n : Nat) (l : List Int) : Loc lo hi (IsH lo hi v n l) := Sli.loc _ _ _ _ _ _
def IsM (lo hi : Nat) (v : Value) (n : Nat) : World → Prop := Sli 3 lo hi v n (mkFlat patI 1 n)
theorem IsM.loc (lo hi : Nat) (v : Value) (n : Nat) : Loc lo hi (IsM lo hi v n) := Sli.loc _ _ _ _ _ _
end Go.Proofs.YtfmnaidhfgmemaaGreatDoor

namespace Go.Proofs.YtfmnaidhfgmemaaGreatDoor
open Go.RowKit
end Go.Proofs.YtfmnaidhfgmemaaGreatDoor

namespace Go.Proofs.YtfmnaidhfgmemaaGreatDoor
open Go.RowKit
end Go.Proofs.YtfmnaidhfgmemaaGreatDoor

namespace Go.Proofs.YtfmnaidhfgmemaaGreatDoor
open Go.RowKit
open Words
theorem eqiw_tk {w wi : World} {hs : List Hold} {a b : Value} {l : List Int} {n l1 h1 l2 h2 : Nat} (T : Tk w wi hs) (n1 n2 : Nat) (hn : l.length = n) (hm : n ≤ 100000000) (e1 : hs[n1]? = some (l1, h1, IsH l1 h1 a n l)) (e2 : hs[n2]? = some (l2, h2, IsH l2 h2 b n l)) :
    Calls Tryz.prog 16 #[a, b] wi fun e w' => e = .returned (.bool true) ∧ Tk w w' hs ∧ wi.heap.size ≤ w'.heap.size := by
  refine (eqIs_same a b l n l1 h1 l2 h2 wi hn (by omega) (T.get n1 e1) (T.get n2 e2)).mono ?_
  rintro e w' ⟨rfl, hb⟩
  exact ⟨rfl, T.below hb, hb.size⟩
theorem markiw_tk {w wi : World} {hs hs' : List Hold} {a : Value} {l : List Int} {n m l1 h1 : Nat} (T : Tk w wi hs) (n1 : Nat) (hn : l.length = n) (hn2 : n ≤ 100000000) (hm : 1 + n = m) (hlo : w.heap.size ≤ l1) (e1 : hs[n1]? = some (l1, h1, IsH l1 h1 a n l)) (hh : ∀ x ∈ hs', x ∈ hs ∧ (x.2.1 ≤ l1 ∨ h1 ≤ x.1)) :
    Calls Tryz.prog 17 #[a, .int .i64 1] wi fun e w' => e = .returned (.int .i64 (m : Int)) ∧ Tk w w' ((l1, h1, IsM l1 h1 a n) :: hs') ∧ wi.heap.size ≤ w'.heap.size := by
  have hx : Sli 3 l1 h1 a n (icells l) wi := T.get n1 e1
  refine (markIs_any l1 h1 a n 1 (icells l) wi (by omega) (by simp [icells, hn]) (by omega) (by omega) hx).mono ?_
  rintro e w' ⟨rfl, hs2, hk⟩
  rw [hm]
  have hk2 : Kept2 wi w' (Apt l1 h1) := ⟨hk.out.1, hk.out.2.1, hk.out.2.2.1, hk.out.2.2.2.1, fun i hi ho => hk.out.2.2.2.2 i hi (fun e => by
    have := hx.lt i e
    exact ho ⟨this.1, this.2.1⟩)⟩
  exact ⟨rfl, T.touch hk2 hlo (T.hi n1 e1) (IsM.loc _ _ _ _) hs2.out hh, hk.out.2.2.2.1⟩
theorem heldiw_tk {w wi : World} {hs : List Hold} {a : Value} {n m l1 h1 : Nat} (T : Tk w wi hs) (n1 : Nat) (hn2 : n ≤ 100000000) (hm : 1 + n = m) (e1 : hs[n1]? = some (l1, h1, IsM l1 h1 a n)) :
    Calls Tryz.prog 18 #[a, .int .i64 1] wi fun e w' => e = .returned (.int .i64 (m : Int)) ∧ Tk w w' hs ∧ wi.heap.size ≤ w'.heap.size := by
  refine (heldIs_any l1 h1 a n 1 wi (by omega) (by omega) (by omega) (T.get n1 e1)).mono ?_
  rintro e w' ⟨rfl, hb⟩
  rw [hm]
  exact ⟨rfl, T.below hb, hb.size⟩
end Go.Proofs.YtfmnaidhfgmemaaGreatDoor

namespace Go.Proofs.YtfmnaidhfgmemaaGreatDoor
def Right (n : Int) (bs : List Bk) : Prop := flOk bs = true ∧ ∀ r ∈ bs, r.2.1 ≤ n
end Go.Proofs.YtfmnaidhfgmemaaGreatDoor

namespace Go.Proofs.YtfmnaidhfgmemaaGreatDoor
open Words Sums Pack
end Go.Proofs.YtfmnaidhfgmemaaGreatDoor

namespace Go.Proofs.YtfmnaidhfgmemaaGreatDoor
open Words Sums Pack
end Go.Proofs.YtfmnaidhfgmemaaGreatDoor

namespace Go.Proofs.YtfmnaidhfgmemaaGreatDoor
open Words Sums Pack
end Go.Proofs.YtfmnaidhfgmemaaGreatDoor

namespace Go.Proofs.YtfmnaidhfgmemaaGreatDoor
open Words Sums Pack
end Go.Proofs.YtfmnaidhfgmemaaGreatDoor

namespace Go.Proofs.YtfmnaidhfgmemaaGreatDoor
open Words Sums Pack
end Go.Proofs.YtfmnaidhfgmemaaGreatDoor

namespace Go.Proofs.YtfmnaidhfgmemaaGreatDoor
open Words Sums Pack
def blankB (b : Bk) : Bool := b.2.2.all (fun t => t.1 == 0)
def deadP (d : Dv) : List Int := (List.range d.flash.length).filterMap fun (b : Nat) => match d.flash[b]? with
  | none => none
  | some x => if !x.1 && !blankB x && decide (neededP (scanF d.flash) (liveS d.store) d.base (b : Int) = 0) then some (b : Int) else none
end Go.Proofs.YtfmnaidhfgmemaaGreatDoor

namespace Go.Proofs.YtfmnaidhfgmemaaGreatDoor
open Go.RowKit
open Words
set_option maxHeartbeats 800000 in
set_option maxRecDepth 100000 in
theorem sblank17 (x : Bool) (y : Int) (v : Value) (ls : List (Int × ByteArray)) (w : World) (hl : ls.length ≤ 1048576) (ha : LeafRd w v ls) :
    Calls Tryz.prog 36 #[.agg #[.bool x, .int .i64 y, v]] w fun e w' => e = .returned (.bool (blankB (x, y, ls))) ∧ Below w.heap.size w w' := by
  have ha1 := ha
  obtain ⟨ad, capa, rfl, -, -⟩ := ha1
  have HB := hide ((Below.refl w.heap.size w).alloc (Nat.le_refl _) (.cells #[.bool x, .int .i64 y, .slice ad ls.length capa] 80))
  have HA := hide (ha.below HB.out)
  have HY : Hid (blankB (x, y, ls) = ls.all (fun t => t.1 == 0)) := rfl
  obtain ⟨R, hR⟩ : ∃ R, blankB (x, y, ls) = R := ⟨_, rfl⟩
  rw [hR] at HY ⊢
  clear ha hR
  go_enter Tryz.func36, Tryz.ntmps36
  go_wp2
  have hcb := cell_of_row _ _ 2 _ _ _ (heap_alloc_new w (.cells #[.bool x, .int .i64 y, .slice ad ls.length capa] 80))
  have HCB : Hid ((w.alloc (.cells #[.bool x, .int .i64 y, .slice ad ls.length capa] 80)).cell? ⟨w.heap.size, 2, none⟩ = some (.slice ad ls.length capa)) := hcb
  have HSZ := hide (show (w.alloc (.cells #[.bool x, .int .i64 y, .slice ad ls.length capa] 80)).heap.size = w.heap.size + 1 by simp)
  clear hcb
  generalize w.alloc (.cells #[.bool x, .int .i64 y, .slice ad ls.length capa] 80) = wA at HB HA HCB HSZ ⊢
  go_loopw [3] (fun iv wr => ∃ k : Nat, k ≤ ls.length ∧ iv = .int .i64 k ∧ Hid (∀ (j : Nat) (u : Int × ByteArray), j < k → ls[j]? = some u → u.1 = 0) ∧ Hid (Below wA.heap.size wA wr)) (fun iv _ => ls.length - (intOf iv).toNat)
  case atStart => exact ⟨0, Nat.zero_le _, rfl, (show ∀ (j : Nat) (u : Int × ByteArray), j < 0 → ls[j]? = some u → u.1 = 0 from fun j u hj => by omega), Below.refl _ _⟩
  case round =>
    obtain ⟨k, hk, rfl, HN, HW⟩ := hrel
    have hcb : wr.cell? ⟨w.heap.size, 2, none⟩ = some (.slice ad ls.length capa) := (HW.out.cell (show w.heap.size < wA.heap.size by have := HSZ.out; omega)).trans HCB.out
    have HBW := hide (HB.out.trans (HW.out.mono HB.out.size))
    by_cases hlt : (k : Int) < ls.length
    · obtain ⟨g, lo, el⟩ := HA.out.head (by omega)
      subst el
      have hkl : k < ls.length := by omega
      obtain ⟨z, t, ht⟩ : ∃ z t, ls[k]? = some (z, t) := ⟨ls[k].1, ls[k].2, List.getElem?_eq_getElem hkl⟩
      obtain ⟨c1, -⟩ := (HA.out.below HW.out).two ht
      simp only at c1
      have HTT := hide ht
      have k0 : (0 : Int) ≤ k := by omega
      clear ht
      by_cases hz : z = 0
      · have hz2 : (z != 0) = false := by simp [hz]
        have HZ := hide hz
        clear hz
        go_wp2
        go_roundw
        case rel =>
          refine ⟨k + 1, by omega, by go_num, hide (fun j u hj hu => ?_), HW⟩
          by_cases hjk : j = k
          · subst hjk
            rw [HTT.out] at hu
            cases hu
            exact HZ.out
          · exact HN.out j u (by omega) hu
        case measure => simp [intOf]; omega
      · have hz2 : (z != 0) = true := by simpa using hz
        have HE : Hid (R = false) := by
          show _ = _
          rw [HY.out, List.all_eq_false]
          exact ⟨_, List.mem_of_getElem? HTT.out, by simpa using hz⟩
        go_wp2
        go_ret
        exact ⟨by rw [HE.out]; rfl, HBW.out⟩
    · have HE : Hid (R = true) := by
        show _ = _
        rw [HY.out, List.all_eq_true]
        intro u hu
        obtain ⟨j, hj⟩ := List.getElem?_of_mem hu
        have := HN.out j u (by have := (List.getElem?_eq_some_iff.1 hj).1; omega) hj
        simp [this]
      go_wp2
      go_ret
      exact ⟨by rw [HE.out]; rfl, HBW.out⟩
end Go.Proofs.YtfmnaidhfgmemaaGreatDoor

namespace Go.Proofs.YtfmnaidhfgmemaaGreatDoor
open Go.RowKit
open Words
def flcells (l : List Bool) : List Value := l.map .bool
theorem flcells_set (l : List Bool) (k : Nat) (b : Bool) : (flcells l).set k (.bool b) = flcells (l.set k b) := by simp [flcells, List.map_set]
theorem flcells_get {l : List Bool} {k : Nat} {b : Bool} (h : l[k]? = some b) : (flcells l)[k]? = some (.bool b) := by rw [flcells, List.getElem?_map, h]; rfl
theorem infoBl : (Tryz.prog.info? 4).map (fun i => (i.zero, i.size, i.bytes)) = some (some (.bool false), 1, 1) := by kernel_rfl
def FlOut (w : World) (len : Nat) (bs : List Bool) (e : Ending) (w' : World) : Prop := ∃ g, e = .returned (.slice (some ⟨g, 0, none⟩) len len) ∧ w.heap.size ≤ g ∧ g < w'.heap.size ∧ Flt 4 g (flcells bs) w' ∧ Below w.heap.size w w'
end Go.Proofs.YtfmnaidhfgmemaaGreatDoor

namespace Go.Proofs.YtfmnaidhfgmemaaGreatDoor
open Go.RowKit
open Words Sums
def Nd (w W : World) (g : Nat) (xs : List Value) : Prop := Below w.heap.size w W ∧ w.heap.size ≤ g ∧ Flt 4 g xs W
theorem Nd.next {w W W' : World} {g : Nat} {xs : List Value} (h : Nd w W g xs) (b : Below W.heap.size W W') : Nd w W' g xs := ⟨h.1.trans (b.mono h.1.size), h.2.1, h.2.2.below b⟩
theorem Nd.drewN {w W : World} {g : Nat} {xs : List Value} (h : Nd w W g xs) (n : Nat) : Nd w (W.drewN n) g xs := h.next (below_drewN (Below.refl _ _) n)
theorem Nd.put {w W : World} {g k : Nat} {xs : List Value} (h : Nd w W g xs) (u : Value) : Nd w (W.setCell ⟨g, k, none⟩ u) g (xs.set k u) := ⟨h.1.setCell (p := ⟨g, k, none⟩) h.2.1 _, h.2.1, h.2.2.set k u⟩
theorem Nd.lt {w W : World} {g : Nat} {xs : List Value} (h : Nd w W g xs) : g < W.heap.size := by
  obtain ⟨cs, h1, -⟩ := h.2.2
  exact (Array.getElem?_eq_some_iff.1 h1).1
theorem nd_step {R : List Bool} {n k : Nat} {b : Bool} (hR : R.length = n) (hk : R[k]? = some b) : ((flcells R).take k ++ (List.replicate n (Value.bool false)).drop k).set k (.bool b) = (flcells R).take (k + 1) ++ (List.replicate n (Value.bool false)).drop (k + 1) := by
  have hl := (List.getElem?_eq_some_iff.1 hk).1
  have hf : (flcells R)[k]? = some (.bool b) := flcells_get hk
  have hfl : (flcells R).length = n := by simp [flcells, hR]
  rw [List.set_append_right _ _ (by rw [List.length_take]; omega), List.length_take, Nat.min_eq_left (by omega), Nat.sub_self, List.drop_eq_getElem_cons (by rw [List.length_replicate]; omega), List.set_cons_zero, List.take_add_one, hf, List.append_assoc]
  rfl
def Look1 (M : List Fnd) (L : List Int) (base c : Int) (z : Int) (row : List Bool) : Prop :=
  (∃ k : Nat, z + 1 = k ∧ newP (M.drop k) c = none ∧ row = rowS M L base) ∨ (z = -2 ∧ row = rowS M (L ++ [c]) base)
theorem look_end {M : List Fnd} {L : List Int} {base c z : Int} {row : List Bool} (h : Look1 M L base c z row) (hz : z < 0) : row = rowS M (L ++ [c]) base := by
  rcases h with ⟨k, e, hn, hr⟩ | ⟨-, hr⟩
  · have : k = 0 := by omega
    subst this
    rw [List.drop_zero] at hn
    rw [hr, rowS_none L base hn]
  · exact hr
set_option maxHeartbeats 4000000 in
set_option maxRecDepth 100000 in
theorem sneeded (ad : Option Addr) (len cap : Nat) (M : List Fnd) (la : Option Addr) (ll lc : Nat) (live : List Int) (base : Int) (w : World) (hl : len ≤ 1099511627776) (hll : ll ≤ 1000000000000000000) (h : FdRd w ad len M) (hi : IRow w la ll live) :
    Calls Tryz.prog 34 #[.slice ad len cap, .slice la ll lc, .int .i64 base] w (FlOut w len (rowS M live base)) := by
  obtain ⟨i0, hi0, hz0, hz1, hz2⟩ := info_parts infoBl
  have HR := hide h
  have HI := hide hi
  have HN := hide (show M.length = len from h.1)
  have HNL := hide hi.1
  clear h hi
  go_enter Tryz.func34, Tryz.ntmps34
  go_wp2_with (at_make; refine wpList_make_full _ rfl _ _ 75 rfl w.heap.size 4 i0 (.bool false) 1 Tryz.underlying75 hi0 hz0 hz1 .i64 .i64 _ _ len rfl rfl rfl rfl (by rw [hz2]; omega) (by unfold maxLen; omega) (by simp) ?_)
  intro w1 hown hgrow
  rw [toList_madeCells_one] at hown
  clear hi0 hz0 hz1 hz2
  have BG : Below w.heap.size w w1 := (Below.refl _ _).grown hgrow (Nat.le_refl _) (fun k hk => by cases hk)
  have N0 : Hid (Nd w w1 w.heap.size (List.replicate len (Value.bool false))) := ⟨BG, Nat.le_refl _, (Sli.of hown).flt⟩
  clear hown hgrow BG
  obtain ⟨R0, hR0⟩ : ∃ R0, rowS M [] base = R0 := ⟨_, rfl⟩
  have HR0 := hide hR0
  have HRL : Hid (R0.length = len) := by show _ = _; rw [← hR0, rowS_len]; exact HN.out
  clear hR0
  go_wp2
  go_loopw [8] (fun iv wr => ∃ k : Nat, iv = .int .i64 k ∧ k ≤ len ∧ Hid (Nd w wr w.heap.size ((flcells R0).take k ++ (List.replicate len (Value.bool false)).drop k))) (fun iv _ => len - (intOf iv).toNat)
  case atStart => exact ⟨0, rfl, Nat.zero_le _, by simpa using N0⟩
  case round =>
    rename World => wr
    obtain ⟨k, rfl, hk, N1⟩ := hrel
    clear N0
    have hk0 : (0 : Int) ≤ k := by omega
    by_cases hlt : (k : Int) < len
    · obtain ⟨x, hx⟩ : ∃ x, M[k]? = some x := ⟨_, List.getElem?_eq_getElem (by have := HN.out; omega)⟩
      obtain ⟨rb, ro, rfl, -, c0, c1, c2, c3, c4, c5, c6, c7, d4⟩ := (HR.out.below N1.out.1).all hx
      have hb : R0[k]? = some (x.page.kind == 2 && decide (base ≤ x.page.tx)) := by rw [← HR0.out, rowS_nil, List.getElem?_map, hx]; rfl
      have N2 := hide (N1.out.put (k := k) (.bool (x.page.kind == 2 && decide (base ≤ x.page.tx))))
      rw [nd_step HRL.out hb] at N2
      obtain ⟨xb, xl, pk, pq, px, pp, pc, pt⟩ := x
      simp only at c0 c1 c2 c3 c4 c5 c6 c7 d4 N2
      have kc : wr.cell? ⟨w.heap.size, k, none⟩ = some (.bool false) := N1.out.2.2.cell (by
        have hfl : (flcells R0).length = len := by simp [flcells, HRL.out]
        rw [List.getElem?_append_right (by rw [List.length_take]; omega), List.length_take, Nat.min_eq_left (by omega), Nat.sub_self, List.getElem?_drop, Nat.add_zero]
        rw [List.getElem?_replicate, if_pos (by omega)])
      have kf := N1.out.2.2.frozen k
      clear hx hb
      by_cases q1 : (pk == 2) = true
      · rw [q1, Bool.true_and] at N2
        by_cases q2 : base ≤ px
        · rw [decide_eq_true q2] at N2
          go_wp2
          go_roundw
          case rel => exact ⟨k + 1, by go_num, by omega, N2⟩
          case measure => simp [intOf]; omega
        · rw [decide_eq_false q2] at N2
          go_wp2
          go_roundw
          case rel => exact ⟨k + 1, by go_num, by omega, N2⟩
          case measure => simp [intOf]; omega
      · have q1 : (pk == 2) = false := by simpa using q1
        rw [q1, Bool.false_and] at N2
        go_wp2
        go_roundw
        case rel => exact ⟨k + 1, by go_num, by omega, N2⟩
        case measure => simp [intOf]; omega
    · have ek : k = len := by omega
      have N2 : Hid (Nd w wr w.heap.size (flcells (rowS M (live.take 0) base))) := by
        have := N1.out
        rw [ek, List.take_of_length_le (by simp [flcells, HRL.out]), List.drop_eq_nil_of_le (by simp), List.append_nil, ← HR0.out] at this
        exact this
      clear N1 ek HR0 HRL
      go_wp2
      go_loopw [9] (fun iv wr => ∃ k : Nat, iv = .int .i64 k ∧ k ≤ ll ∧ Hid (Nd w wr w.heap.size (flcells (rowS M (live.take k) base)))) (fun iv _ => ll - (intOf iv).toNat)
      case atStart => exact ⟨0, rfl, Nat.zero_le _, N2⟩
      case round =>
        rename World => wr2
        obtain ⟨k2, rfl, hk2, N3⟩ := hrel
        clear N2
        have hk20 : (0 : Int) ≤ k2 := by omega
        by_cases hlt2 : (k2 : Int) < ll
        · obtain ⟨c, hc⟩ : ∃ c, live[k2]? = some c := ⟨_, List.getElem?_eq_getElem (by have := HNL.out; omega)⟩
          obtain ⟨lb, lo, hla, -, -⟩ := HI.out.at hc
          subst hla
          have HC : Hid (∀ W, Below w.heap.size w W → W.cell? ⟨lb, lo + k2, none⟩ = some (.int .i64 c)) := by
            intro W hW
            obtain ⟨lb', lo', e, -, q⟩ := (HI.out.below hW).at hc
            injection e with e
            injection e with e1 e2
            subst e1 e2
            exact q
          have HTK : Hid (live.take (k2 + 1) = live.take k2 ++ [c]) := by show _ = _; rw [List.take_add_one, hc]; rfl
          have L0 : Hid (Look1 M (live.take k2) base c ((len : Int) - 1) (rowS M (live.take k2) base)) := .inl ⟨len, by omega, by rw [List.drop_eq_nil_of_le (by have := HN.out; omega)]; rfl, rfl⟩
          clear hc
          go_wp2
          go_loopw [10] (fun iv wr => ∃ (z : Int) (row : List Bool), iv = .int .i64 z ∧ -2 ≤ z ∧ z < len ∧ Hid (Look1 M (live.take k2) base c z row) ∧ Hid (Nd w wr w.heap.size (flcells row))) (fun iv _ => (intOf iv + 2).toNat)
          case atStart => exact ⟨(len : Int) - 1, _, by go_num, by omega, by omega, L0, N3⟩
          case round =>
            rename World => wr3
            obtain ⟨z, row, rfl, z1, z2, HL, N4⟩ := hrel
            clear L0 N3
            by_cases hz : 0 ≤ z
            · obtain ⟨j, rfl⟩ : ∃ j : Nat, z = (j : Int) := ⟨z.toNat, by omega⟩
              obtain ⟨x, hx⟩ : ∃ x, M[j]? = some x := ⟨_, List.getElem?_eq_getElem (by have := HN.out; omega)⟩
              obtain ⟨hrow, hnew⟩ : row = rowS M (live.take k2) base ∧ newP (M.drop (j + 1)) c = none := by
                rcases HL.out with ⟨k', e, hn, hr⟩ | ⟨e, -⟩
                · have : k' = j + 1 := by omega
                  subst this
                  exact ⟨hr, hn⟩
                · omega
              obtain ⟨rb, ro, rfl, -, c0, c1, c2, c3, c4, c5, c6, c7, d4⟩ := (HR.out.below N4.out.1).all hx
              have cl := HC.out _ N4.out.1
              by_cases hd : isData c x = true
              · have L1 : Hid (Look1 M (live.take k2) base c (-2) (row.set j true)) := .inr ⟨rfl, by rw [hrow, rowS_set _ _ hx hd hnew]⟩
                have hrl : row.length = len := by rw [hrow, rowS_len]; exact HN.out
                unfold isData at hd
                rw [Bool.and_eq_true] at hd
                obtain ⟨q1, q2⟩ := hd
                obtain ⟨xb, xl, pk, pq, px, pp, pc, pt⟩ := x
                simp only at c0 c1 c2 c3 c4 c5 c6 c7 d4 q1 q2
                have N5 : Hid (∀ n, Nd w (wr3.drewN n) w.heap.size (flcells row)) := fun n => N4.out.drewN n
                obtain ⟨bj, hbj⟩ : ∃ bj, row[j]? = some bj := ⟨_, List.getElem?_eq_getElem (by omega)⟩
                have KC : Hid (∀ n, (wr3.drewN n).cell? ⟨w.heap.size, j, none⟩ = some (.bool bj)) := fun n => (N5.out n).2.2.cell (flcells_get hbj)
                have KF : Hid (∀ n, (wr3.drewN n).frozen? ⟨w.heap.size, j, none⟩ = false) := fun n => (N5.out n).2.2.frozen j
                have N6 : Hid (∀ n, Nd w ((wr3.drewN n).setCell ⟨w.heap.size, j, none⟩ (.bool true)) w.heap.size (flcells (row.set j true))) := fun n => by
                  have := (N5.out n).put (k := j) (.bool true)
                  rw [flcells_set] at this
                  exact this
                clear hx hrow hnew hrl HL hbj N4
                go_wp2
                go_quiet (fail)
                have kc := KC.out
                have kf := KF.out
                clear KC KF N5
                go_wp2
                go_roundw
                case rel => exact ⟨-2, row.set j true, by go_num, by omega, by omega, L1, N6.out _⟩
                case measure => simp [intOf]; omega
              · have hd : isData c x = false := by simpa using hd
                have L1 : Hid (Look1 M (live.take k2) base c ((j : Int) - 1) row) := .inl ⟨j, by omega, by rw [List.drop_eq_getElem_cons (List.getElem?_eq_some_iff.1 hx).1, (List.getElem?_eq_some_iff.1 hx).2, newP_cons, hnew, hd]; rfl, hrow⟩
                have N5 : Hid (∀ n, Nd w (wr3.drewN n) w.heap.size (flcells row)) := fun n => N4.out.drewN n
                unfold isData at hd
                obtain ⟨xb, xl, pk, pq, px, pp, pc, pt⟩ := x
                simp only at c0 c1 c2 c3 c4 c5 c6 c7 d4 hd
                by_cases q1 : (pk == 1) = true
                · have q2 : (px == c) = false := by rw [q1, Bool.true_and] at hd; exact hd
                  clear hx hrow hnew HL N4 hd
                  go_wp2
                  go_quiet (fail)
                  go_wp2
                  go_roundw
                  case rel => exact ⟨(j : Int) - 1, row, by go_num, by omega, by omega, L1, N5.out _⟩
                  case measure => simp [intOf]; omega
                · have q1 : (pk == 1) = false := by simpa using q1
                  clear hx hrow hnew HL N4 hd
                  go_wp2
                  go_quiet (fail)
                  go_wp2
                  go_roundw
                  case rel => exact ⟨(j : Int) - 1, row, by go_num, by omega, by omega, L1, N5.out _⟩
                  case measure => simp [intOf]; omega
            · have hrow := look_end HL.out (by omega)
              have N5 : Hid (Nd w wr3 w.heap.size (flcells (rowS M (live.take (k2 + 1)) base))) := by rw [HTK.out, ← hrow]; exact N4
              clear hrow HL N4
              go_wp2
              go_roundw
              case rel => exact ⟨k2 + 1, by go_num, by omega, N5⟩
              case measure => simp [intOf]; omega
        · have N4 : Hid (Nd w wr2 w.heap.size (flcells (rowS M live base))) := by
            have := N3.out
            rw [List.take_of_length_le (by have := HNL.out; omega)] at this
            exact this
          clear N3
          go_wp2
          go_ret
          exact ⟨w.heap.size, rfl, Nat.le_refl _, N4.out.lt, N4.out.2.2, N4.out.1⟩
set_option maxHeartbeats 1000000 in
set_option maxRecDepth 100000 in
theorem son (ad : Option Addr) (len cap : Nat) (M : List Fnd) (g n c : Nat) (row : List Bool) (b : Int) (w : World) (hl : len ≤ 1099511627776) (hn : row.length = len) (he : n = len) (h : FdRd w ad len M) (hg : Flt 4 g (flcells row) w) :
    Calls Tryz.prog 37 #[.slice ad len cap, .slice (some ⟨g, 0, none⟩) n c, .int .i64 b] w fun e w' => e = .returned (.int .i64 ((onS M row b : Nat) : Int)) ∧ w' = w := by
  subst he
  have HR := hide h
  have HN := hide (show M.length = n from h.1)
  have HRL := hide hn
  have HG := hide hg
  clear h hn hg
  go_enter Tryz.func37, Tryz.ntmps37
  go_wp2
  go_loopw [7, 8] (fun nv iv wr => ∃ (k q : Nat), nv = .int .i64 q ∧ iv = .int .i64 k ∧ k ≤ n ∧ q ≤ k ∧ Hid (onS (M.take k) (row.take k) b = q) ∧ wr = w) (fun _ iv _ => n - (intOf iv).toNat)
  case atStart => exact ⟨0, 0, rfl, rfl, Nat.zero_le _, Nat.le_refl _, (by show _ = _; simp [onS]), rfl⟩
  case round =>
    obtain ⟨k, q, rfl, rfl, hk, hq, HQ, rfl⟩ := hrel
    have hk0 : (0 : Int) ≤ k := by omega
    by_cases hlt : (k : Int) < n
    · obtain ⟨x, hx⟩ : ∃ x, M[k]? = some x := ⟨_, List.getElem?_eq_getElem (by have := HN.out; omega)⟩
      obtain ⟨r, hr⟩ : ∃ r, row[k]? = some r := ⟨_, List.getElem?_eq_getElem (by have := HRL.out; omega)⟩
      obtain ⟨rb, ro, rfl, -, c0, -⟩ := HR.out.all hx
      have hc := HG.out.cell (flcells_get hr)
      have HS := hide (onS_succ b hx hr)
      obtain ⟨xb, xl, pk, pq, px, pp, pc, pt⟩ := x
      simp only at c0 HS
      rw [HQ.out] at HS
      clear hx hr HQ
      cases r with
      | true =>
        rw [Bool.true_and] at HS
        by_cases q1 : (xb == b) = true
        · rw [q1] at HS
          have HS2 : Hid (onS (M.take (k + 1)) (row.take (k + 1)) b = q + 1) := HS
          clear HS
          go_wp2
          go_roundw
          case rel => exact ⟨k + 1, q + 1, by go_num, by go_num, by omega, by omega, HS2, trivial⟩
          case measure => simp [intOf]; omega
        · have q1 : (xb == b) = false := by simpa using q1
          rw [q1] at HS
          have HS2 : Hid (onS (M.take (k + 1)) (row.take (k + 1)) b = q) := HS
          clear HS
          go_wp2
          go_roundw
          case rel => exact ⟨k + 1, q, rfl, by go_num, by omega, by omega, HS2, trivial⟩
          case measure => simp [intOf]; omega
      | false =>
        rw [Bool.false_and] at HS
        have HS2 : Hid (onS (M.take (k + 1)) (row.take (k + 1)) b = q) := HS
        clear HS
        go_wp2
        go_roundw
        case rel => exact ⟨k + 1, q, rfl, by go_num, by omega, by omega, HS2, trivial⟩
        case measure => simp [intOf]; omega
    · have HO : Hid (onS M row b = q) := by
        have := HQ.out
        rw [List.take_of_length_le (by have := HN.out; omega), List.take_of_length_le (by have := HRL.out; omega)] at this
        exact this
      clear HQ
      go_wp2
      go_ret
      rw [HO.out]
      exact ⟨rfl, rfl⟩
end Go.Proofs.YtfmnaidhfgmemaaGreatDoor
