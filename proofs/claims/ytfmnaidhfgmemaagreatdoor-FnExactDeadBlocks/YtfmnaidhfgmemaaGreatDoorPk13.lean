/-
  SLive; SConL; FlP; RoMath; FRow
-/
import Derived.Test.YtfmnaidhfgmemaaGreatDoorPk7
import Derived.Test.YtfmnaidhfgmemaaGreatDoorPk12
import Derived.Deep.RegionHeld3
import Derived.Test.YtfmnaidhfgmemaaGreatDoorPk8
import Derived.Test.YtfmnaidhfgmemaaGreatDoorPk0
import Derived.Test.YtfmnaidhfgmemaaGreatDoorPk1
import Derived.Deep.MidRow
namespace Go.Proofs.YtfmnaidhfgmemaaGreatDoor
open Go.RowKit
open Words
theorem insI_len (l : List Int) (x : Int) : (insI l x).length ≤ l.length + 1 := by
  have key : (l.filter (fun y => decide (y < x))).length + (l.filter (fun y => decide (x < y))).length ≤ l.length := by
    induction l with
    | nil => exact Nat.le_refl _
    | cons v l ih =>
      rw [List.filter_cons, List.filter_cons]
      by_cases h1 : v < x
      · rw [if_pos (by simpa using h1), if_neg (by simp; omega), List.length_cons, List.length_cons]; omega
      · rw [if_neg (by simpa using h1)]
        split
        · rw [List.length_cons, List.length_cons]; omega
        · rw [List.length_cons]; omega
  rw [insI, List.length_append, List.length_append]
  split
  · rw [List.length_singleton]; omega
  · rw [List.length_nil]; omega
def liveK (l : List Kn) (vs : List (Int × Int)) (k : Nat) : List Int := (vs.take k).foldl (fun acc v => (allT l v.2).foldl insI acc) []
theorem liveK_succ {l : List Kn} {vs : List (Int × Int)} {k : Nat} {v : Int × Int} (h : vs[k]? = some v) : liveK l vs (k + 1) = (allT l v.2).foldl insI (liveK l vs k) := by
  obtain ⟨h1, h2⟩ := List.getElem?_eq_some_iff.1 h
  rw [liveK, liveK, List.take_succ_eq_append_getElem h1, h2, List.foldl_append, List.foldl_cons, List.foldl_nil]
theorem fold_take {L : List Int} {acc : List Int} {m : Nat} {x : Int} (h : L[m]? = some x) : (L.take (m + 1)).foldl insI acc = insI ((L.take m).foldl insI acc) x := by
  obtain ⟨h1, h2⟩ := List.getElem?_eq_some_iff.1 h
  rw [List.take_succ_eq_append_getElem h1, h2, List.foldl_append, List.foldl_cons, List.foldl_nil]
def IHas (w W : World) (ov : Value) (l : List Int) : Prop := ∃ oa oc, ov = .slice oa l.length oc ∧ IRow W oa l.length l ∧ W.ownsRow w.heap.size 3 1 ov l.length (icells l) ∧ Below w.heap.size w W
theorem IHas.of {w W : World} {ov : Value} {l : List Int} (h : W.ownsRow w.heap.size 3 1 ov l.length (icells l)) (hm : l.length ≤ maxLen) (hb : Below w.heap.size w W) : IHas w W ov l := by
  obtain ⟨oa, oc, e, -, hr⟩ := ISl.of (Sli.of h) hm (Nat.le_refl _)
  exact ⟨oa, oc, e, hr, h, hb⟩
set_option maxHeartbeats 1000000 in
set_option maxRecDepth 100000 in
theorem slive (va : Option Addr) (vl vc : Nat) (ad : Option Addr) (len cap : Nat) (nx : Int) (vs : List (Int × Int)) (rs : List Kw) (w : World) (hvl : vl ≤ 1048578) (hl : len ≤ 1048578) (h : VlRow w va vl vs) (hk : KnRd w ad len rs) :
    Calls Tryz.prog 35 #[.agg (SBox va vl vc ad len cap nx)] w (IOut w (liveS ⟨vs, rs.map ktell, nx⟩)) := by
  have T0 := hide ((Tk.start w).cell #[.slice va vl vc, .slice ad len cap, .int .i64 nx] 45)
  have HVL := hide h.1
  have HV := hide h
  have HK := hide hk
  clear h hk
  obtain ⟨C, hC⟩ : ∃ C, liveS ⟨vs, rs.map ktell, nx⟩ = C := ⟨_, rfl⟩
  have HC := hide hC
  rw [hC]
  clear hC
  unfold SBox
  go_enter Tryz.func35, Tryz.ntmps35
  go_wp2_with fail
  have HS := hide (show (w.alloc (.cells #[.slice va vl vc, .slice ad len cap, .int .i64 nx] 45)).heap.size = w.heap.size + 1 by simp)
  generalize w.alloc (.cells #[.slice va vl vc, .slice ad len cap, .int .i64 nx] 45) = wb at T0 HS ⊢
  have x0 : wb.cell? ⟨w.heap.size, 0, none⟩ = some (.slice va vl vc) := T0.out.at 0 0 rfl rfl
  have x1 : wb.cell? ⟨w.heap.size, 1, none⟩ = some (.slice ad len cap) := T0.out.at 0 1 rfl rfl
  have XB := hide (World.block_lt_of_cell? wb _ x0)
  have O0 : Hid ((wb.alloc (.cells #[] 3)).ownsRow wb.heap.size 3 1 (.slice (some ⟨wb.heap.size, 0, none⟩) 0 0) ([] : List Int).length (icells [])) := World.ownsRow_made wb #[] 0 (Nat.le_refl _) (by unfold maxLen; omega) (by simp)
  have BA : Hid (Below wb.heap.size wb (wb.alloc (.cells #[] 3))) := (Below.refl _ _).alloc (Nat.le_refl _) _
  have S0 := hide (IHas.of O0.out (by simp) BA.out)
  generalize wb.alloc (.cells #[] 3) = wa at S0 ⊢
  obtain ⟨z, hz⟩ : ∃ z, w.heap.size = z := ⟨_, rfl⟩
  rw [hz] at x0 x1 XB HS ⊢
  have HZW := hide hz
  clear hz O0 BA
  go_loopw [3, 4] (fun ov iv W => ∃ (k : Nat) (l : List Int), k ≤ vl ∧ iv = .int .i64 k ∧ l.length ≤ 16 * k ∧ Hid (l = liveK (rs.map ktell) vs k) ∧ Hid (IHas wb W ov l)) (fun _ iv _ => vl - (intOf iv).toNat)
  case atStart => exact ⟨0, [], Nat.zero_le _, rfl, Nat.zero_le _, (by show _ = _; simp [liveK]), by rw [← HS.out]; exact S0.out⟩
  case round =>
    obtain ⟨k, l, hk, rfl, hlk, HL, HO⟩ := hrel
    obtain ⟨oa, oc, e, hrw, how, hbw⟩ := HO.out
    subst e
    have HW := hide hbw
    have HOW := hide how
    have HRW := hide hrw
    clear hrw how hbw
    have y0 := (HW.out.cell (show z < wb.heap.size from XB.out)).trans x0
    have y1 := (HW.out.cell (show z < wb.heap.size from XB.out)).trans x1
    by_cases hlt : (k : Int) < vl
    · have hv := List.getElem?_eq_getElem (show k < vs.length by have := HVL.out; omega)
      generalize vs[k]'(by have := HVL.out; omega) = v at hv
      obtain ⟨b, off, e, hb, c0, c1⟩ := (((HV.out.below T0.out.1).below HW.out)).at hv
      subst e
      have k0 : (0 : Int) ≤ k := by omega
      have HR : Hid (liveK (rs.map ktell) vs (k + 1) = (allT (rs.map ktell) v.2).foldl insI l) := by
        show _ = _
        rw [liveK_succ hv, HL.out]
      have CG := hide (sall ad len cap rs v.2 wr.drew hl ((HK.out.below T0.out.1).below HW.out.drew))
      have HWD := hide HW.out.drew
      have l0 := World.block_lt_of_cell? wr _ y0
      have l1 := World.block_lt_of_cell? wr _ y1
      have l2 := World.block_lt_of_cell? wr _ c1
      clear hv
      go_wp2
      go_region_held3 (fun w' => w'.cell? ⟨z, 0, none⟩ = some (.slice (some ⟨b, off, none⟩) vl vc) ∧ w'.cell? ⟨z, 1, none⟩ = some (.slice ad len cap) ∧ w'.cell? ⟨b, off + k * 2 + 1, none⟩ = some (.int .i64 v.2)) (first | exact ⟨y0, y1, c1⟩ | exact KY.out) ((go_at_call 44; (with_reducible refine Calls.mono CG.out ?_); rintro en w2 ⟨lv, rfl, o2, b2⟩; have KY : Hid (w2.cell? ⟨z, 0, none⟩ = some (.slice (some ⟨b, off, none⟩) vl vc) ∧ w2.cell? ⟨z, 1, none⟩ = some (.slice ad len cap) ∧ w2.cell? ⟨b, off + k * 2 + 1, none⟩ = some (.int .i64 v.2)) := ⟨(b2.cell l0).trans y0, (b2.cell l1).trans y1, (b2.cell l2).trans c1⟩))
      have bd : Below wr.heap.size wr w2 := ((Below.refl wr.heap.size wr).drew).trans b2
      have B2 := hide (HW.out.trans (bd.mono HW.out.size))
      have S2 : Hid (IHas wb w2 (.slice oa l.length oc) l) := ⟨oa, oc, rfl, HRW.out.below bd, own_below HOW.out bd, B2.out⟩
      obtain ⟨la, lc, e2, -, hrow⟩ := ISl.of (Sli.of o2) (by rw [allT_len]; unfold maxLen; omega) (Nat.le_refl _)
      rw [allT_len] at e2 hrow
      subst e2
      have HROW := hide hrow
      obtain ⟨L, hL⟩ : ∃ L, allT (rs.map ktell) v.2 = L := ⟨_, rfl⟩
      have HLL : Hid (L.length = 16) := by show _ = _; rw [← hL, allT_len]
      rw [hL] at HROW HR
      clear CG y0 y1 c0 c1 l0 l1 l2 HWD HW o2 b2 hrow hL bd KY HRW HOW HO
      go_wp2
      go_loopw [3, 6] (fun ov kv W => ∃ (m : Nat) (q : List Int), m ≤ 16 ∧ kv = .int .i64 m ∧ q.length ≤ 16 * k + m ∧ Hid (q = (L.take m).foldl insI l) ∧ Hid (IHas wb W ov q) ∧ Hid (Below w2.heap.size w2 W)) (fun _ kv _ => 16 - (intOf kv).toNat)
      case atStart => exact ⟨0, l, Nat.zero_le _, rfl, by omega, (by show _ = _; simp), S2, Below.refl _ _⟩
      case round =>
        obtain ⟨m, q, hm, rfl, hq, HQ, HO, HY⟩ := hrel
        obtain ⟨oa2, oc2, e, hrw, how, hbw⟩ := HO.out
        subst e
        by_cases hm16 : (m : Int) < 16
        · have hx := List.getElem?_eq_getElem (show m < L.length by have := HLL.out; omega)
          generalize L[m]'(by have := HLL.out; omega) = x at hx
          obtain ⟨lb, lo, e3, -, d0⟩ := (HROW.out.below HY.out).at hx
          subst e3
          have m0 : (0 : Int) ≤ m := by omega
          have HF := hide (fold_take (acc := l) hx)
          have CI := hide (sinsI oa2 q.length oc2 q x wr (by omega) hrw)
          have HBW := hide hbw
          clear hx hrw how hbw HO
          go_wp2_with fail
          refine CI.out.mono ?_
          rintro e w3 ⟨uv, rfl, o3, b3⟩
          have hlen := insI_len q x
          have HQ2 : Hid (insI q x = (L.take (m + 1)).foldl insI l) := by show _ = _; rw [HF.out, HQ.out]
          have HO2 : Hid (IHas wb w3 uv (insI q x)) := IHas.of (own_lower o3 HBW.out.size) (by unfold maxLen; omega) (HBW.out.trans (b3.mono HBW.out.size))
          have HY2 := hide (HY.out.trans (b3.mono HY.out.size))
          generalize insI q x = q2 at hlen HQ2 HO2
          clear CI b3 o3 HBW HF
          go_wp2
          go_roundw
          case rel => first | exact ⟨m + 1, q2, by omega, by go_num, by omega, HQ2, HO2, HY2⟩ | exact ⟨m + 1, q2, by omega, by go_num, by omega, HQ2, HO2⟩
          case measure => simp [intOf]; omega
        · have HQ2 : Hid (q = liveK (rs.map ktell) vs (k + 1)) := by
            have e : m = 16 := by omega
            have := HQ.out
            rw [e, List.take_of_length_le (by rw [HLL.out]; omega)] at this
            show _ = _
            rw [this, HR.out]
          clear hrw how hbw
          go_wp2
          go_roundw
          case rel => exact ⟨k + 1, q, by omega, by go_num, by omega, HQ2, HO⟩
          case measure => simp [intOf]; omega
    · have E : Hid (l = C) := by
        show _ = _
        rw [HL.out, ← HC.out, liveS, liveK, List.take_of_length_le (by have := HVL.out; omega)]
      have BE : Hid (Below w.heap.size w wr) := T0.out.1.trans (HW.out.mono T0.out.1.size)
      have OE : Hid (wr.ownsRow w.heap.size 3 1 (.slice oa l.length oc) l.length (icells l)) := own_lower HOW.out T0.out.1.size
      go_wp2
      go_ret
      refine ⟨_, rfl, ?_, BE.out⟩
      rw [← E.out]
      exact OE.out
end Go.Proofs.YtfmnaidhfgmemaaGreatDoor

namespace Go.Proofs.YtfmnaidhfgmemaaGreatDoor
open Go.RowKit
open Words
theorem live_foldC : ∀ (l : List Int) (acc : List Int), (l.foldl insI acc).length ≤ acc.length + l.length := by
  intro l
  induction l with
  | nil => intro acc; simp
  | cons x l ih => intro acc; have := ih (insI acc x); have := insI_len acc x; simp only [List.foldl_cons, List.length_cons]; omega
theorem live_vols (kns : List Kn) : ∀ (vs : List (Int × Int)) (acc : List Int), (vs.foldl (fun acc v => (allT kns v.2).foldl insI acc) acc).length ≤ acc.length + 16 * vs.length := by
  intro vs
  induction vs with
  | nil => intro acc; simp
  | cons v vs ih =>
    intro acc
    have := ih ((allT kns v.2).foldl insI acc)
    have := live_foldC (allT kns v.2) acc
    have := allT_len kns v.2
    simp only [List.foldl_cons, List.length_cons]
    omega
theorem live_bound (s : Sto) : (liveS s).length ≤ 16 * s.vols.length := by
  have := live_vols s.kns s.vols []
  simpa [liveS] using this
theorem sliveOf : LiveC 35 := by
  rintro v ⟨vs, kns, nx⟩ w ⟨va, vl, vc, ad, len, cap, rs, rfl, h2, h3, h4, h5, h6, h7, h8⟩
  simp only at h2 h7
  subst h2
  exact slive va vl vc ad len cap nx vs rs w (by omega) (by omega) h7 h8
end Go.Proofs.YtfmnaidhfgmemaaGreatDoor

namespace Go.Proofs.YtfmnaidhfgmemaaGreatDoor
abbrev Bk := Bool × Int × List (Int × ByteArray)
def leafOk (t : Int × ByteArray) : Bool := decide (t.1 = 0 ∧ t.2.size = 0 ∨ t.1 = 1 ∧ 1 ≤ t.2.size ∧ t.2.size ≤ 120 ∨ t.1 = 2 ∧ t.2.size ≤ 120)
def leafAt (ls : List (Int × ByteArray)) (k : Nat) : Bool := match ls[k]? with
  | none => true
  | some t => leafOk t && !(decide (0 < k ∧ t.1 ≠ 0 ∧ ∃ u, ls[k - 1]? = some u ∧ u.1 = 0))
def blkOk (b : Bk) : Bool := decide (b.2.2.length = 4 ∧ 0 ≤ b.2.1 ∧ b.2.1 ≤ 1000000000) && (List.range b.2.2.length).all (leafAt b.2.2)
def flOk (bs : List Bk) : Bool := decide (3 ≤ bs.length ∧ bs.length ≤ 10) && bs.all blkOk
def readF (bs : List Bk) (b leaf : Int) : ByteArray × Bool := match bs[b.toNat]? with
  | none => (⟨#[]⟩, false)
  | some r => match r.2.2[leaf.toNat]? with
    | none => (⟨#[]⟩, false)
    | some t => if 0 ≤ b ∧ 0 ≤ leaf ∧ t.1 = 1 then (t.2, true) else (⟨#[]⟩, false)
end Go.Proofs.YtfmnaidhfgmemaaGreatDoor

namespace Go.Proofs.YtfmnaidhfgmemaaGreatDoor
def blanks (ls : List (Int × ByteArray)) : Nat := ls.countP (fun t => t.1 == 0)
theorem blanks_le (ls : List (Int × ByteArray)) : blanks ls ≤ ls.length := List.countP_le_length
theorem blanks_take {ls : List (Int × ByteArray)} {k : Nat} {t : Int × ByteArray} (ht : ls[k]? = some t) : blanks (ls.take (k + 1)) = blanks (ls.take k) + if t.1 = 0 then 1 else 0 := by
  obtain ⟨h1, h2⟩ := List.getElem?_eq_some_iff.1 ht
  rw [List.take_succ_eq_append_getElem h1, h2]
  unfold blanks
  rw [List.countP_append]
  by_cases h : t.1 = 0 <;> simp [h]
end Go.Proofs.YtfmnaidhfgmemaaGreatDoor

namespace Go.Proofs.YtfmnaidhfgmemaaGreatDoor
open Go.RowKit
theorem infoLeaf : (Tryz.prog.info? 119).map (fun i => (i.zero, i.size, i.bytes)) = some (some (.agg #[.int .i64 0, .string ⟨#[]⟩]), 2, 24) := by kernel_rfl
theorem infoBlock : (Tryz.prog.info? 80).map (fun i => (i.zero, i.size, i.bytes)) = some (some (.agg #[.bool false, .int .i64 0, .slice none 0 0]), 3, 40) := by kernel_rfl
def lcell (t : Int × ByteArray) : List Value := [.int .i64 t.1, .string t.2]
def lcells (l : List (Int × ByteArray)) : List Value := l.flatMap lcell
theorem lcells_len (l : List (Int × ByteArray)) : (lcells l).length = l.length * 2 := by
  induction l with
  | nil => rfl
  | cons t l ih => simp [lcells, lcell] at ih ⊢; omega
theorem lcells_app (a b : List (Int × ByteArray)) : lcells (a ++ b) = lcells a ++ lcells b := by simp [lcells]
theorem lcells_cons (t : Int × ByteArray) (l : List (Int × ByteArray)) : lcells (t :: l) = [.int .i64 t.1, .string t.2] ++ lcells l := by simp [lcells, lcell]
theorem lcells_at (l : List (Int × ByteArray)) (k : Nat) (t : Int × ByteArray) (h : l[k]? = some t) : (lcells l)[k * 2]? = some (.int .i64 t.1) ∧ (lcells l)[k * 2 + 1]? = some (.string t.2) := by
  induction l generalizing k with
  | nil => simp at h
  | cons a l ih =>
    cases k with
    | zero =>
      simp at h
      subst h
      exact ⟨rfl, rfl⟩
    | succ k =>
      have := ih k (by simpa using h)
      rw [lcells_cons, List.getElem?_append_right (by simp; omega), List.getElem?_append_right (by simp; omega)]
      simp only [List.length_cons, List.length_nil]
      rw [show (k + 1) * 2 - (0 + 1 + 1) = k * 2 by omega, show (k + 1) * 2 + 1 - (0 + 1 + 1) = k * 2 + 1 by omega]
      exact this
theorem lown_cells {w : World} {B n cap g k : Nat} {l : List (Int × ByteArray)} {t : Int × ByteArray} (h : w.ownsRow B 119 2 (.slice (some ⟨g, 0, none⟩) n cap) n (lcells l)) (ht : l[k]? = some t) :
    w.cell? ⟨g, k * 2, none⟩ = some (.int .i64 t.1) ∧ w.cell? ⟨g, k * 2 + 1, none⟩ = some (.string t.2) := by
  obtain ⟨h1, h2⟩ := lcells_at l k t ht
  have c1 := h.cells (g := g) rfl _ _ h1
  have c2 := h.cells (g := g) rfl _ _ h2
  rw [addr_at] at c1 c2
  exact ⟨c1, c2⟩
def kcell (t : Bool × Int × Value) : List Value := [.bool t.1, .int .i64 t.2.1, t.2.2]
def kcells (l : List (Bool × Int × Value)) : List Value := l.flatMap kcell
theorem kcells_len (l : List (Bool × Int × Value)) : (kcells l).length = l.length * 3 := by
  induction l with
  | nil => rfl
  | cons t l ih => simp [kcells, kcell] at ih ⊢; omega
theorem kcells_app (a b : List (Bool × Int × Value)) : kcells (a ++ b) = kcells a ++ kcells b := by simp [kcells]
theorem kcells_cons (t : Bool × Int × Value) (l : List (Bool × Int × Value)) : kcells (t :: l) = [.bool t.1, .int .i64 t.2.1, t.2.2] ++ kcells l := by simp [kcells, kcell]
theorem kcells_at (l : List (Bool × Int × Value)) (k : Nat) (t : Bool × Int × Value) (h : l[k]? = some t) : (kcells l)[k * 3]? = some (.bool t.1) ∧ (kcells l)[k * 3 + 1]? = some (.int .i64 t.2.1) ∧ (kcells l)[k * 3 + 2]? = some t.2.2 := by
  induction l generalizing k with
  | nil => simp at h
  | cons a l ih =>
    cases k with
    | zero =>
      simp at h
      subst h
      exact ⟨rfl, rfl, rfl⟩
    | succ k =>
      have := ih k (by simpa using h)
      rw [kcells_cons, List.getElem?_append_right (by simp; omega), List.getElem?_append_right (by simp; omega), List.getElem?_append_right (by simp; omega)]
      simp only [List.length_cons, List.length_nil]
      rw [show (k + 1) * 3 - (0 + 1 + 1 + 1) = k * 3 by omega, show (k + 1) * 3 + 1 - (0 + 1 + 1 + 1) = k * 3 + 1 by omega, show (k + 1) * 3 + 2 - (0 + 1 + 1 + 1) = k * 3 + 2 by omega]
      exact this
theorem kcells_upd (ls : List (Bool × Int × Value)) (k : Nat) (t : Bool × Int × Value) (h : ls[k]? = some t) :
    (∀ z : Bool, (kcells ls).set (k * 3) (.bool z) = kcells (ls.set k (z, t.2.1, t.2.2))) ∧ (∀ z : Int, (kcells ls).set (k * 3 + 1) (.int .i64 z) = kcells (ls.set k (t.1, z, t.2.2))) ∧ (∀ z : Value, (kcells ls).set (k * 3 + 2) z = kcells (ls.set k (t.1, t.2.1, z))) := by
  induction ls generalizing k with
  | nil => simp at h
  | cons a r ih =>
    cases k with
    | zero =>
      simp at h
      subst h
      simp [kcells_cons]
    | succ k =>
      obtain ⟨h1, h2, h3⟩ := ih k (by simpa using h)
      refine ⟨fun z => ?_, fun z => ?_, fun z => ?_⟩
      · rw [List.set_cons_succ, kcells_cons, kcells_cons, ← h1 z, List.set_append_right _ _ (by simp; omega)]
        congr 2
        simp
        omega
      · rw [List.set_cons_succ, kcells_cons, kcells_cons, ← h2 z, List.set_append_right _ _ (by simp; omega)]
        congr 2
        simp
        omega
      · rw [List.set_cons_succ, kcells_cons, kcells_cons, ← h3 z, List.set_append_right _ _ (by simp; omega)]
        congr 2
        simp
        omega
theorem kown_cells {w : World} {B n cap g k : Nat} {l : List (Bool × Int × Value)} {t : Bool × Int × Value} (h : w.ownsRow B 80 3 (.slice (some ⟨g, 0, none⟩) n cap) n (kcells l)) (ht : l[k]? = some t) :
    w.cell? ⟨g, k * 3, none⟩ = some (.bool t.1) ∧ w.cell? ⟨g, k * 3 + 1, none⟩ = some (.int .i64 t.2.1) ∧ w.cell? ⟨g, k * 3 + 2, none⟩ = some t.2.2 := by
  obtain ⟨h1, h2, h3⟩ := kcells_at l k t ht
  have c1 := h.cells (g := g) rfl _ _ h1
  have c2 := h.cells (g := g) rfl _ _ h2
  have c3 := h.cells (g := g) rfl _ _ h3
  rw [addr_at] at c1 c2 c3
  exact ⟨c1, c2, c3⟩
theorem frow_form {w : World} {B : Nat} {e : TypeId} {z : Nat} {v : Value} {n : Nat} {xs : List Value} (h : w.ownsRow B e z v n xs) :
    ∃ ad cap, v = .slice ad n cap ∧ n ≤ cap ∧ cap ≤ maxLen ∧ (0 < n → ∃ g, ad = some ⟨g, 0, none⟩ ∧ B ≤ g ∧ g < w.heap.size) := by
  have hlt := h.lt
  rcases h.2 with ⟨h1, h2⟩ | ⟨g, cap, cur, h1, -, -, h3, h4, -⟩
  · exact ⟨none, 0, by rw [h1, h2], by omega, by unfold maxLen; omega, fun h => by omega⟩
  · subst h1
    exact ⟨_, cap, rfl, h3, h4, fun _ => ⟨g, rfl, hlt g rfl⟩⟩
abbrev Rw := Bool × Int × Value × List (Int × ByteArray)
def cellOf (r : Rw) : Bool × Int × Value := (r.1, r.2.1, r.2.2.1)
def tellOf (r : Rw) : Bk := (r.1, r.2.1, r.2.2.2)
def LeafIn (w : World) (lo hi : Nat) (v : Value) (ls : List (Int × ByteArray)) : Prop :=
  w.ownsRow lo 119 2 v ls.length (lcells ls) ∧ ∀ g, v.ownBlock = some g → g < hi
def FlashIn (w : World) (lo hi : Nat) (v : Value) (rs : List Rw) : Prop :=
  w.ownsRow lo 80 3 v rs.length (kcells (rs.map cellOf)) ∧ (∀ g, v.ownBlock = some g → g < hi) ∧ (∀ r ∈ rs, LeafIn w lo hi r.2.2.1 r.2.2.2) ∧
    (rs.map fun r => r.2.2.1).Pairwise (fun a b => a.ownBlock = none ∨ a.ownBlock ≠ b.ownBlock)
theorem own_blocks {w w' : World} {lo hi : Nat} {e : TypeId} {size : Nat} {v : Value} {n : Nat} {xs : List Value} (h : w.ownsRow lo e size v n xs) (hh : ∀ g, v.ownBlock = some g → g < hi) (hk : ∀ g, lo ≤ g → g < hi → w'.heap[g]? = w.heap[g]?) : w'.ownsRow lo e size v n xs := by
  have hlt := h.lt
  obtain ⟨h1, h2⟩ := h
  refine ⟨h1, ?_⟩
  rcases h2 with h | ⟨g, cap, cur, rfl, a2, a3, a4⟩
  · exact .inl h
  · exact .inr ⟨g, cap, cur, rfl, a2, by rw [hk g a2 (hh g rfl)]; exact a3, a4⟩
theorem LeafIn.kept {w w' : World} {lo hi : Nat} {v : Value} {ls : List (Int × ByteArray)} (h : LeafIn w lo hi v ls) (hk : ∀ g, lo ≤ g → g < hi → w'.heap[g]? = w.heap[g]?) : LeafIn w' lo hi v ls := ⟨own_blocks h.1 h.2 hk, h.2⟩
theorem FlashIn.kept {w w' : World} {lo hi : Nat} {v : Value} {rs : List Rw} (h : FlashIn w lo hi v rs) (hk : ∀ g, lo ≤ g → g < hi → w'.heap[g]? = w.heap[g]?) : FlashIn w' lo hi v rs :=
  ⟨own_blocks h.1 h.2.1 hk, h.2.1, fun r hr => (h.2.2.1 r hr).kept hk, h.2.2.2⟩
theorem FlashIn.below {w w' : World} {lo hi : Nat} {v : Value} {rs : List Rw} (h : FlashIn w lo hi v rs) (hb : Below w.heap.size w w') (hh : hi ≤ w.heap.size) : FlashIn w' lo hi v rs := h.kept (fun g _ hg => hb.block g (by omega))
theorem LeafIn.below {w w' : World} {lo hi : Nat} {v : Value} {ls : List (Int × ByteArray)} (h : LeafIn w lo hi v ls) (hb : Below w.heap.size w w') (hh : hi ≤ w.heap.size) : LeafIn w' lo hi v ls := h.kept (fun g _ hg => hb.block g (by omega))
theorem LeafIn.up {w : World} {lo hi hi' : Nat} {v : Value} {ls : List (Int × ByteArray)} (h : LeafIn w lo hi v ls) (hh : hi ≤ hi') : LeafIn w lo hi' v ls := ⟨h.1, fun g hg => Nat.lt_of_lt_of_le (h.2 g hg) hh⟩
theorem leaf_not_block {w : World} {B B' : Nat} {u v : Value} {n m : Nat} {xs ys : List Value} (hu : w.ownsRow B 80 3 u n xs) (hv : w.ownsRow B' 119 2 v m ys) : ∀ g, u.ownBlock = some g → v.ownBlock ≠ some g := by
  intro g h1 h2
  rcases hu.2 with ⟨rfl, -⟩ | ⟨g1, cap, cur, rfl, -, e1, -⟩
  · cases h1
  · rcases hv.2 with ⟨rfl, -⟩ | ⟨g2, cap2, cur2, rfl, -, e2, -⟩
    · cases h2
    · simp [Value.ownBlock] at h1 h2
      subst h1 h2
      rw [e1] at e2
      simp at e2
theorem set_same {α : Type} (l : List α) (k : Nat) (a : α) (h : l[k]? = some a) : l.set k a = l := by
  induction l generalizing k with
  | nil => rfl
  | cons b r ih =>
    cases k with
    | zero => simp at h; subst h; rfl
    | succ k => rw [List.set_cons_succ, ih k (by simpa using h)]
theorem leaf_ne {w : World} {B B' : Nat} {g n cq m : Nat} {v : Value} {xs ys : List Value} (hu : w.ownsRow B 80 3 (.slice (some ⟨g, 0, none⟩) n cq) n xs) (hv : w.ownsRow B' 119 2 v m ys) : v.ownBlock = none ∨ v.ownBlock ≠ some g := Or.inr (leaf_not_block hu hv g rfl)
theorem FlashIn.cell {w : World} {lo hi g n cq k : Nat} {rs : List Rw} {r r' : Rw} {j : Nat} {u : Value} (h : FlashIn w lo hi (.slice (some ⟨g, 0, none⟩) n cq) rs) (hn : n = rs.length) (hr : rs[k]? = some r) (hs : r'.2.2 = r.2.2)
    (hu : (kcells (rs.map cellOf)).set j u = kcells ((rs.map cellOf).set k (cellOf r'))) : FlashIn (w.setCell ⟨g, j, none⟩ u) lo hi (.slice (some ⟨g, 0, none⟩) n cq) (rs.set k r') := by
  subst hn
  refine ⟨?_, h.2.1, fun x hx => ?_, ?_⟩
  · have := fown_set h.1 rfl j u
    rw [hu, ← List.map_set] at this
    rw [List.length_set]
    exact this
  · have hx2 : ∃ y ∈ rs, x.2.2 = y.2.2 := by
      rcases List.mem_or_eq_of_mem_set hx with h1 | h1
      · exact ⟨x, h1, rfl⟩
      · exact ⟨r, List.mem_of_getElem? hr, by rw [h1, hs]⟩
    obtain ⟨y, hy, e⟩ := hx2
    have hl := h.2.2.1 y hy
    rw [e]
    exact ⟨hl.1.kept (grown_cell w g j u) (leaf_ne h.1 hl.1), hl.2⟩
  · rw [List.map_set, hs, set_same _ _ _ (by rw [List.getElem?_map, hr]; rfl)]
    exact h.2.2.2
theorem FlashIn.bad {w : World} {lo hi g n cq k : Nat} {rs : List Rw} {r : Rw} (h : FlashIn w lo hi (.slice (some ⟨g, 0, none⟩) n cq) rs) (hn : n = rs.length) (hr : rs[k]? = some r) (z : Bool) : FlashIn (w.setCell ⟨g, k * 3, none⟩ (.bool z)) lo hi (.slice (some ⟨g, 0, none⟩) n cq) (rs.set k (z, r.2)) :=
  h.cell hn hr rfl ((kcells_upd (rs.map cellOf) k (cellOf r) (by rw [List.getElem?_map, hr]; rfl)).1 z)
theorem FlashIn.wear {w : World} {lo hi g n cq k : Nat} {rs : List Rw} {r : Rw} (h : FlashIn w lo hi (.slice (some ⟨g, 0, none⟩) n cq) rs) (hn : n = rs.length) (hr : rs[k]? = some r) (z : Int) : FlashIn (w.setCell ⟨g, k * 3 + 1, none⟩ (.int .i64 z)) lo hi (.slice (some ⟨g, 0, none⟩) n cq) (rs.set k (r.1, z, r.2.2)) :=
  h.cell hn hr rfl ((kcells_upd (rs.map cellOf) k (cellOf r) (by rw [List.getElem?_map, hr]; rfl)).2.1 z)
theorem pair_at {α : Type} {R : α → α → Prop} {l : List α} (h : l.Pairwise R) (hsym : ∀ a b, R a b → R b a) {i j : Nat} {a b : α} (hi : l[i]? = some a) (hj : l[j]? = some b) (hne : i ≠ j) : R a b := by
  obtain ⟨h1, rfl⟩ := List.getElem?_eq_some_iff.1 hi
  obtain ⟨h2, rfl⟩ := List.getElem?_eq_some_iff.1 hj
  rw [List.pairwise_iff_getElem] at h
  by_cases hlt : i < j
  · exact h i j h1 h2 hlt
  · exact hsym _ _ (h j i h2 h1 (by omega))
theorem apart_sym (a b : Value) (h : a.ownBlock = none ∨ a.ownBlock ≠ b.ownBlock) : b.ownBlock = none ∨ b.ownBlock ≠ a.ownBlock := by
  cases hb : b.ownBlock with
  | none => exact Or.inl rfl
  | some g =>
    refine Or.inr (fun e => ?_)
    rcases h with h | h
    · rw [h] at e; cases e
    · exact h (by rw [hb, e])
theorem FlashIn.leaves {w w' : World} {lo hi k : Nat} {v : Value} {rs : List Rw} {r : Rw} {ls' : List (Int × ByteArray)} (h : FlashIn w lo hi v rs) (hr : rs[k]? = some r) (hg : w.grownBy w' r.2.2.1.ownBlock) (hl : LeafIn w' lo hi r.2.2.1 ls') :
    FlashIn w' lo hi v (rs.set k (r.1, r.2.1, r.2.2.1, ls')) := by
  have hrl := h.2.2.1 r (List.mem_of_getElem? hr)
  refine ⟨?_, h.2.1, fun x hx => ?_, ?_⟩
  · have e1 : (rs.set k (r.1, r.2.1, r.2.2.1, ls')).map cellOf = rs.map cellOf := by
      rw [List.map_set]
      exact set_same _ _ _ (by rw [List.getElem?_map, hr]; rfl)
    rw [e1, List.length_set]
    refine h.1.kept hg ?_
    cases hv : v.ownBlock with
    | none => exact Or.inl rfl
    | some g => exact Or.inr (fun e => leaf_not_block h.1 hrl.1 g hv e.symm)
  · obtain ⟨i, hi, rfl⟩ := List.getElem_of_mem hx
    have hi2 : i < rs.length := by simpa using hi
    by_cases hik : k = i
    · subst hik
      simp only [List.getElem_set_self]
      exact hl
    · rw [List.getElem_set_ne hik]
      have hxl := h.2.2.1 rs[i] (List.getElem_mem _)
      refine ⟨hxl.1.kept hg ?_, hxl.2⟩
      exact pair_at h.2.2.2 apart_sym (i := i) (j := k) (by rw [List.getElem?_map, List.getElem?_eq_getElem hi2]; rfl) (by rw [List.getElem?_map, hr]; rfl) (fun e => hik e.symm)
  · rw [List.map_set]
    simp only
    rw [set_same _ _ _ (by rw [List.getElem?_map, hr]; rfl)]
    exact h.2.2.2
end Go.Proofs.YtfmnaidhfgmemaaGreatDoor
