/-
  SLive; SConL; SPlan
-/
import Derived.Test.YtcjgjkejhkhknacGreatDoorPk8
import Derived.Test.YtcjgjkejhkhknacGreatDoorPk45
import Derived.Deep.RegionHeld3
import Derived.Test.YtcjgjkejhkhknacGreatDoorPk17
import Derived.Test.YtcjgjkejhkhknacGreatDoorPk37
import Derived.Test.YtcjgjkejhkhknacGreatDoorPk44
import Derived.Test.YtcjgjkejhkhknacGreatDoorPk35
set_option maxHeartbeats 4000000
set_option maxRecDepth 100000
namespace Go.Proofs.YtcjgjkejhkhknacGreatDoor
open Go.RowKit
open Words
theorem insI_len (l : List Int) (x : Int) : (insI l x).length ≤ l.length + 1 := by
 have key : (l.filter (fun y => decide (y < x))).length + (l.filter (fun y => decide (x < y))).length ≤ l.length := by
  induction l with
  | nil => exact Nat.le_refl _
  | cons v l ih =>
   rw [List.filter_cons, List.filter_cons]
   by_cases h1 : v < x
   ·rw [if_pos (by simpa using h1), if_neg (by simp; omega), List.length_cons, List.length_cons]; omega
   ·rw [if_neg (by simpa using h1)]
    split
    ·rw [List.length_cons, List.length_cons]; omega
    ·rw [List.length_cons]; omega
 rw [insI, List.length_append, List.length_append]
 split
 ·rw [List.length_singleton]; omega
 ·rw [List.length_nil]; omega
def liveK (l : List Kn) (vs : List (Int × Int)) (k : Nat) : List Int := (vs.take k).foldl (fun acc v => (allT l v.2).foldl insI acc) []
theorem liveK_succ {l : List Kn} {vs : List (Int × Int)} {k : Nat} {v : Int × Int} (h : vs[k]? = some v) : liveK l vs (k + 1) = (allT l v.2).foldl insI (liveK l vs k) := by
 obtain ⟨h1, h2⟩ := List.getElem?_eq_some_iff.1 h
 rw [liveK, liveK, List.take_succ_eq_append_getElem h1, h2, List.foldl_append, List.foldl_cons, List.foldl_nil]
theorem fold_take {L : List Int} {acc : List Int} {m : Nat} {x : Int} (h : L[m]? = some x) : (L.take (m + 1)).foldl insI acc = insI ((L.take m).foldl insI acc) x := by
 obtain ⟨h1, h2⟩ := List.getElem?_eq_some_iff.1 h
 rw [List.take_succ_eq_append_getElem h1, h2, List.foldl_append, List.foldl_cons, List.foldl_nil]
def IHas (w W : World) (ov : Value) (l : List Int) : Prop := ∃ oa oc, ov = .slice oa l.length oc ∧ IRow W oa l.length l ∧ W.ownsRow w.heap.size 3 1 ov l.length (icells l) ∧ Below w.heap.size w W
theorem IHas.of {w W : World} {ov : Value} {l : List Int} (h : W.ownsRow w.heap.size 3 1 ov l.length (icells l)) (hm : l.length ≤ maxLen) (hb : Below w.heap.size w W) : IHas w W ov l := by
 obtain ⟨oa, oc, e, -, hr⟩ := ISl.of (Sli.of h) hm (Nat.le_refl _)
 exact ⟨oa, oc, e, hr, h, hb⟩
theorem slive (va : Option Addr) (vl vc : Nat) (ad : Option Addr) (len cap : Nat) (nx : Int) (vs : List (Int × Int)) (rs : List Kw) (w : World) (hvl : vl ≤ 1048578) (hl : len ≤ 1048578) (h : VlRow w va vl vs) (hk : KnRd w ad len rs) :
 Calls Tryz.prog 27 #[.agg (SBox va vl vc ad len cap nx)] w (IOut w (liveS ⟨vs, rs.map ktell, nx⟩)) := by
 have T0 := hide ((Tk.start w).cell #[.slice va vl vc, .slice ad len cap, .int .i64 nx] 52)
 have HVL := hide h.1
 have HV := hide h
 have HK := hide hk
 clear h hk
 obtain ⟨C, hC⟩ : ∃ C, liveS ⟨vs, rs.map ktell, nx⟩ = C := ⟨_, rfl⟩
 have HC := hide hC
 rw [hC]
 clear hC
 unfold SBox
 go_enter Tryz.func27, Tryz.ntmps27
 go_wp2_with fail
 have HS := hide (show (w.alloc (.cells #[.slice va vl vc, .slice ad len cap, .int .i64 nx] 52)).heap.size = w.heap.size + 1 by simp)
 generalize w.alloc (.cells #[.slice va vl vc, .slice ad len cap, .int .i64 nx] 52) = wb at T0 HS ⊢
 have x0 : wb.cell? ⟨w.heap.size, 0, none⟩ = some (.slice va vl vc) := T0.out.at 0 0 rfl rfl
 have x1 : wb.cell? ⟨w.heap.size, 1, none⟩ = some (.slice ad len cap) := T0.out.at 0 1 rfl rfl
 have XB := hide (World.block_lt_of_cell? wb _ x0)
 have O0 : Hid ((wb.alloc (.cells #[] 3)).ownsRow wb.heap.size 3 1 (.slice (some ⟨wb.heap.size, 0, none⟩) 0 0) ([] : List Int).length (icells [])) := World.ownsRow_made wb #[] 0 (Nat.le_refl _) (by unfold maxLen; omega) (by simp)
 have BA : Hid (Below wb.heap.size wb (wb.alloc (.cells #[] 3))) := (Below.refl _ _).alloc (Nat.le_refl _) _
 have S0 := hide (IHas.of O0.out (by simp) BA.out)
 generalize wb.alloc (.cells #[] 3) = wa at S0 ⊢
 obtain ⟨z, hz⟩ : ∃ z, w.heap.size = z := ⟨_, rfl⟩
 rw [hz] at x0 x1 XB HS ⊢
 have HZW := hide hz
 clear hz O0 BA
 go_loopw [3, 4] (fun ov iv W => ∃ (k : Nat) (l : List Int), k ≤ vl ∧ iv = .int .i64 k ∧ l.length ≤ 16 * k ∧ Hid (l = liveK (rs.map ktell) vs k) ∧ Hid (IHas wb W ov l)) (fun _ iv _ => vl - (intOf iv).toNat)
 case atStart => exact ⟨0, [], Nat.zero_le _, rfl, Nat.zero_le _, (by show _ = _; simp [liveK]), by rw [← HS.out]; exact S0.out⟩
 case round =>
  obtain ⟨k, l, hk, rfl, hlk, HL, HO⟩ := hrel
  obtain ⟨oa, oc, e, hrw, how, hbw⟩ := HO.out
  subst e
  have HW := hide hbw
  have HOW := hide how
  have HRW := hide hrw
  clear hrw how hbw
  have y0 := (HW.out.cell (show z < wb.heap.size from XB.out)).trans x0
  have y1 := (HW.out.cell (show z < wb.heap.size from XB.out)).trans x1
  by_cases hlt : (k : Int) < vl
  ·have hv := List.getElem?_eq_getElem (show k < vs.length by have := HVL.out; omega)
   generalize vs[k]'(by have := HVL.out; omega) = v at hv
   obtain ⟨b, off, e, hb, c0, c1⟩ := (((HV.out.below T0.out.1).below HW.out)).at hv
   subst e
   have k0 : (0 : Int) ≤ k := by omega
   have HR : Hid (liveK (rs.map ktell) vs (k + 1) = (allT (rs.map ktell) v.2).foldl insI l) := by
    show _ = _
    rw [liveK_succ hv, HL.out]
   have CG := hide (sall ad len cap rs v.2 wr.drew hl ((HK.out.below T0.out.1).below HW.out.drew))
   have HWD := hide HW.out.drew
   have l0 := World.block_lt_of_cell? wr _ y0
   have l1 := World.block_lt_of_cell? wr _ y1
   have l2 := World.block_lt_of_cell? wr _ c1
   clear hv
   go_wp2
   go_region_held3 (fun w' => w'.cell? ⟨z, 0, none⟩ = some (.slice (some ⟨b, off, none⟩) vl vc) ∧ w'.cell? ⟨z, 1, none⟩ = some (.slice ad len cap) ∧ w'.cell? ⟨b, off + k * 2 + 1, none⟩ = some (.int .i64 v.2)) (first | exact ⟨y0, y1, c1⟩ | exact KY.out) ((go_at_call 47; (with_reducible refine Calls.mono CG.out ?_); rintro en w2 ⟨lv, rfl, o2, b2⟩; have KY : Hid (w2.cell? ⟨z, 0, none⟩ = some (.slice (some ⟨b, off, none⟩) vl vc) ∧ w2.cell? ⟨z, 1, none⟩ = some (.slice ad len cap) ∧ w2.cell? ⟨b, off + k * 2 + 1, none⟩ = some (.int .i64 v.2)) := ⟨(b2.cell l0).trans y0, (b2.cell l1).trans y1, (b2.cell l2).trans c1⟩))
   have bd : Below wr.heap.size wr w2 := ((Below.refl wr.heap.size wr).drew).trans b2
   have B2 := hide (HW.out.trans (bd.mono HW.out.size))
   have S2 : Hid (IHas wb w2 (.slice oa l.length oc) l) := ⟨oa, oc, rfl, HRW.out.below bd, own_below HOW.out bd, B2.out⟩
   obtain ⟨la, lc, e2, -, hrow⟩ := ISl.of (Sli.of o2) (by rw [allT_len]; unfold maxLen; omega) (Nat.le_refl _)
   rw [allT_len] at e2 hrow
   subst e2
   have HROW := hide hrow
   obtain ⟨L, hL⟩ : ∃ L, allT (rs.map ktell) v.2 = L := ⟨_, rfl⟩
   have HLL : Hid (L.length = 16) := by show _ = _; rw [← hL, allT_len]
   rw [hL] at HROW HR
   clear CG y0 y1 c0 c1 l0 l1 l2 HWD HW o2 b2 hrow hL bd KY HRW HOW HO
   go_wp2
   go_loopw [3, 6] (fun ov kv W => ∃ (m : Nat) (q : List Int), m ≤ 16 ∧ kv = .int .i64 m ∧ q.length ≤ 16 * k + m ∧ Hid (q = (L.take m).foldl insI l) ∧ Hid (IHas wb W ov q) ∧ Hid (Below w2.heap.size w2 W)) (fun _ kv _ => 16 - (intOf kv).toNat)
   case atStart => exact ⟨0, l, Nat.zero_le _, rfl, by omega, (by show _ = _; simp), S2, Below.refl _ _⟩
   case round =>
    obtain ⟨m, q, hm, rfl, hq, HQ, HO, HY⟩ := hrel
    obtain ⟨oa2, oc2, e, hrw, how, hbw⟩ := HO.out
    subst e
    by_cases hm16 : (m : Int) < 16
    ·have hx := List.getElem?_eq_getElem (show m < L.length by have := HLL.out; omega)
     generalize L[m]'(by have := HLL.out; omega) = x at hx
     obtain ⟨lb, lo, e3, -, d0⟩ := (HROW.out.below HY.out).at hx
     subst e3
     have m0 : (0 : Int) ≤ m := by omega
     have HF := hide (fold_take (acc := l) hx)
     have CI := hide (sinsI oa2 q.length oc2 q x wr (by omega) hrw)
     have HBW := hide hbw
     clear hx hrw how hbw HO
     go_wp2_with fail
     refine CI.out.mono ?_
     rintro e w3 ⟨uv, rfl, o3, b3⟩
     have hlen := insI_len q x
     have HQ2 : Hid (insI q x = (L.take (m + 1)).foldl insI l) := by show _ = _; rw [HF.out, HQ.out]
     have HO2 : Hid (IHas wb w3 uv (insI q x)) := IHas.of (own_lower o3 HBW.out.size) (by unfold maxLen; omega) (HBW.out.trans (b3.mono HBW.out.size))
     have HY2 := hide (HY.out.trans (b3.mono HY.out.size))
     generalize insI q x = q2 at hlen HQ2 HO2
     clear CI b3 o3 HBW HF
     go_wp2
     go_roundw
     case rel => first | exact ⟨m + 1, q2, by omega, by go_num, by omega, HQ2, HO2, HY2⟩ | exact ⟨m + 1, q2, by omega, by go_num, by omega, HQ2, HO2⟩
     case measure => simp [intOf]; omega
    ·have HQ2 : Hid (q = liveK (rs.map ktell) vs (k + 1)) := by
      have e : m = 16 := by omega
      have := HQ.out
      rw [e, List.take_of_length_le (by rw [HLL.out]; omega)] at this
      show _ = _
      rw [this, HR.out]
     clear hrw how hbw
     go_wp2
     go_roundw
     case rel => exact ⟨k + 1, q, by omega, by go_num, by omega, HQ2, HO⟩
     case measure => simp [intOf]; omega
  ·have E : Hid (l = C) := by
    show _ = _
    rw [HL.out, ← HC.out, liveS, liveK, List.take_of_length_le (by have := HVL.out; omega)]
   have BE : Hid (Below w.heap.size w wr) := T0.out.1.trans (HW.out.mono T0.out.1.size)
   have OE : Hid (wr.ownsRow w.heap.size 3 1 (.slice oa l.length oc) l.length (icells l)) := own_lower HOW.out T0.out.1.size
   go_wp2
   go_ret
   refine ⟨_, rfl, ?_, BE.out⟩
   rw [← E.out]
   exact OE.out
theorem live_foldC : ∀ (l : List Int) (acc : List Int), (l.foldl insI acc).length ≤ acc.length + l.length := by
 intro l
 induction l with
 | nil => intro acc; simp
 | cons x l ih => intro acc; have := ih (insI acc x); have := insI_len acc x; simp only [List.foldl_cons, List.length_cons]; omega
theorem live_vols (kns : List Kn) : ∀ (vs : List (Int × Int)) (acc : List Int), (vs.foldl (fun acc v => (allT kns v.2).foldl insI acc) acc).length ≤ acc.length + 16 * vs.length := by
 intro vs
 induction vs with
 | nil => intro acc; simp
 | cons v vs ih =>
  intro acc
  have := ih ((allT kns v.2).foldl insI acc)
  have := live_foldC (allT kns v.2) acc
  have := allT_len kns v.2
  simp only [List.foldl_cons, List.length_cons]
  omega
theorem live_bound (s : Sto) : (liveS s).length ≤ 16 * s.vols.length := by
 have := live_vols s.kns s.vols []
 simpa [liveS] using this
theorem sliveOf : LiveC 27 := by
 rintro v ⟨vs, kns, nx⟩ w ⟨va, vl, vc, ad, len, cap, rs, rfl, h2, h3, h4, h5, h6, h7, h8⟩
 simp only at h2 h7
 subst h2
 exact slive va vl vc ad len cap nx vs rs w (by omega) (by omega) h7 h8
end Go.Proofs.YtcjgjkejhkhknacGreatDoor
namespace Go.Proofs.YtcjgjkejhkhknacGreatDoor
open Go.RowKit
open Words Sums Pack
def PlOut (w : World) (p : List Rc × ByteArray × Int) (e : Ending) (w' : World) : Prop := ∃ x, e = .returned (.tuple #[x, .string p.2.1, .int .i64 p.2.2]) ∧ w'.ownsRow w.heap.size 75 4 x p.1.length (rccells (p.1.map Rc.tu)) ∧ Below w.heap.size w w'
def PlSt (w W : World) (fv vv kv : Value) (d : Dv) (q : Ak) : Prop := Below w.heap.size w W ∧ DAt W w.heap.size fv vv kv d.store.next d.seq d.tx d.base ∧ AkAt W (w.heap.size + 1) q ∧ W.ownsRow w.heap.size 75 4 (.slice (some ⟨w.heap.size + 1 + 1, 0, none⟩) 0 0) ([] : List Rc).length (rccells (([] : List Rc).map Rc.tu))
theorem PlSt.below {w W W' : World} {fv vv kv : Value} {d : Dv} {q : Ak} (h : PlSt w W fv vv kv d q) (hb : Below W.heap.size W W') : PlSt w W' fv vv kv d q := by
 obtain ⟨h1, h2, h3, h4⟩ := h
 exact ⟨h1.trans (hb.mono h1.size), h2.below hb, h3.below hb, own_below h4 hb⟩
theorem PlSt.out {w W : World} {fv vv kv : Value} {d : Dv} {q : Ak} (h : PlSt w W fv vv kv d q) (c : Int) : PlOut w ([], noT, c) (.returned (.tuple #[.slice (some ⟨w.heap.size + 1 + 1, 0, none⟩) 0 0, .string ⟨#[]⟩, .int .i64 c])) W := ⟨_, rfl, h.2.2.2, h.1⟩
theorem plan_one {w W : World} (b : Below w.heap.size w W) (r : Rc) (t : ByteArray) : PlOut w ([r], t, 0) (.returned (.tuple #[.slice (some ⟨W.heap.size, 0, none⟩) 1 1, .string t, .int .i64 0])) (W.alloc (.cells #[.int .i64 r.kind, .int .i64 r.vol, .int .i64 r.arg, .int .i64 r.chunk] 75)) :=
 ⟨_, rfl, ⟨rfl, .inr ⟨W.heap.size, 1, _, rfl, b.size, heap_alloc_new W _, Nat.le_refl _, by unfold maxLen; omega, rfl, rfl⟩⟩, b.alloc b.size _⟩
theorem plan_fresh {w W : World} (b : Below w.heap.size w W) (n : Nat) (hn : W.heap.size = n) : (W.alloc (.cells #[] 75)).ownsRow w.heap.size 75 4 (.slice (some ⟨n, 0, none⟩) 0 0) ([] : List Rc).length (rccells (([] : List Rc).map Rc.tu)) ∧ Below w.heap.size w (W.alloc (.cells #[] 75)) := by
 subst hn
 exact ⟨⟨rfl, .inr ⟨W.heap.size, 0, #[], rfl, b.size, heap_alloc_new W _, Nat.le_refl _, by unfold maxLen; omega, rfl, rfl⟩⟩, b.alloc b.size _⟩
theorem ints_row {W : World} {B : Nat} {x : Value} {l : List Int} (h : W.ownsRow B 3 1 x l.length (icells l)) (hm : l.length ≤ maxLen) : ∃ la lc, x = .slice la l.length lc ∧ IRow W la l.length l := by
 rcases h.2 with ⟨rfl, h0⟩ | ⟨g, cap, cur, rfl, h1, h2, h3, h4, h5, h6⟩
 ·exact ⟨none, 0, by rw [h0], rfl, hm, fun hp => by omega⟩
 ·refine ⟨_, cap, rfl, rfl, hm, fun _ => ⟨g, 0, rfl, (Array.getElem?_eq_some_iff.1 h2).1, fun i y hi => ?_⟩⟩
  have := World.ownsRow.cells h (g := g) rfl i (.int .i64 y) (icells_get hi)
  rw [addr_at] at this
  rw [Nat.zero_add]
  exact this
theorem pack_is (t : ByteArray) : ∃ b, plainV (packL t.data.toList) = .tuple #[.string (packB t), .bool b] := by
 unfold packB
 cases packL t.data.toList with
 | none => exact ⟨_, rfl⟩
 | some p => exact ⟨_, rfl⟩
theorem splan (x : Value) (d : Dv) (q : Ak) (w : World) (h : DvIn w x d) : Calls Tryz.prog 11 #[x, akV q] w (PlOut w (planP d q)) := by
 obtain ⟨fd, fc, va, vl, vc, ad, ln, cap, rfl, h1, h2, h3⟩ := h.form
 obtain ⟨k, v, s, o, t⟩ := q
 have hvl : d.store.vols.length = vl ∧ vl ≤ 1048576 := by
  obtain ⟨va', vl', vc', ad', ln', cap', rs', e, -, e3, -, -, -, e4, -⟩ := h3
  unfold SBox at e
  injection e with e
  injection e with e
  simp only [List.cons.injEq, Value.slice.injEq, and_true] at e
  obtain ⟨⟨-, e1, -⟩, -⟩ := e
  subst e1
  exact ⟨e4.1, e3⟩
 obtain ⟨R, hR⟩ : ∃ R, planP d ⟨k, v, s, o, t⟩ = R := ⟨_, rfl⟩
 have HR : Hid (R = if akB ⟨k, v, s, o, t⟩ = false then ([], noT, 3) else if k = 3 ∨ k = 4 then (if (atV d.store.vols v).isSome then ([], noT, 2) else if k = 4 ∧ (atV d.store.vols o).isSome = false then ([], noT, 1) else if 3 ≤ d.store.vols.length then ([], noT, 4) else ([⟨2, v, o, 0⟩], noT, 0)) else if (atV d.store.vols v).isSome = false then ([], noT, 1) else if k = 1 then (if sameP (scanF d.flash) (liveS d.store) t.data.toList = 0 then ([⟨4, v, s, d.store.next⟩], packB t, 0) else ([⟨4, v, s, sameP (scanF d.flash) (liveS d.store) t.data.toList⟩], noT, 0)) else if k = 2 then ([⟨5, v, s, 0⟩], noT, 0) else if k = 5 then ([⟨3, v, 0, 0⟩], noT, 0) else ([], noT, 0)) := by show _ = _; rw [← hR]; rfl
 rw [hR]
 have HVL := hide hvl.1
 have hvm := hvl.2
 unfold akV
 simp only
 have s0 : (w.alloc (.cells #[.slice fd d.flash.length fc, .slice va vl vc, .slice ad ln cap, .int .i64 d.store.next, .int .i64 d.seq, .int .i64 d.tx, .int .i64 d.base] 54)).heap.size = w.heap.size + 1 := by simp
 have s1 : ((w.alloc (.cells #[.slice fd d.flash.length fc, .slice va vl vc, .slice ad ln cap, .int .i64 d.store.next, .int .i64 d.seq, .int .i64 d.tx, .int .i64 d.base] 54)).alloc (.cells #[.int .i64 k, .int .i64 v, .int .i64 s, .int .i64 o, .string t] 26)).heap.size = w.heap.size + 1 + 1 := by simp
 have b0 : Below w.heap.size w (w.alloc (.cells #[.slice fd d.flash.length fc, .slice va vl vc, .slice ad ln cap, .int .i64 d.store.next, .int .i64 d.seq, .int .i64 d.tx, .int .i64 d.base] 54)) := (Below.refl _ _).alloc (Nat.le_refl _) _
 have b1 : Below w.heap.size w ((w.alloc (.cells #[.slice fd d.flash.length fc, .slice va vl vc, .slice ad ln cap, .int .i64 d.store.next, .int .i64 d.seq, .int .i64 d.tx, .int .i64 d.base] 54)).alloc (.cells #[.int .i64 k, .int .i64 v, .int .i64 s, .int .i64 o, .string t] 26)) := b0.alloc (by omega) _
 have g0 : DAt (w.alloc (.cells #[.slice fd d.flash.length fc, .slice va vl vc, .slice ad ln cap, .int .i64 d.store.next, .int .i64 d.seq, .int .i64 d.tx, .int .i64 d.base] 54)) w.heap.size (.slice fd d.flash.length fc) (.slice va vl vc) (.slice ad ln cap) d.store.next d.seq d.tx d.base := heap_alloc_new _ _
 have g1 : AkAt ((w.alloc (.cells #[.slice fd d.flash.length fc, .slice va vl vc, .slice ad ln cap, .int .i64 d.store.next, .int .i64 d.seq, .int .i64 d.tx, .int .i64 d.base] 54)).alloc (.cells #[.int .i64 k, .int .i64 v, .int .i64 s, .int .i64 o, .string t] 26)) (w.heap.size + 1) ⟨k, v, s, o, t⟩ := by rw [← s0]; exact heap_alloc_new _ _
 have n1 := plan_fresh b1 (w.heap.size + 1 + 1) s1
 have PA : Hid (PlSt w (((w.alloc (.cells #[.slice fd d.flash.length fc, .slice va vl vc, .slice ad ln cap, .int .i64 d.store.next, .int .i64 d.seq, .int .i64 d.tx, .int .i64 d.base] 54)).alloc (.cells #[.int .i64 k, .int .i64 v, .int .i64 s, .int .i64 o, .string t] 26)).alloc (.cells #[] 75)) (.slice fd d.flash.length fc) (.slice va vl vc) (.slice ad ln cap) d ⟨k, v, s, o, t⟩) :=
  ⟨n1.2, (g0.below ((Below.refl _ _).alloc (Nat.le_refl _) _)).below ((Below.refl _ _).alloc (Nat.le_refl _) _), g1.below ((Below.refl _ _).alloc (Nat.le_refl _) _), n1.1⟩
 generalize hwa : ((w.alloc (.cells #[.slice fd d.flash.length fc, .slice va vl vc, .slice ad ln cap, .int .i64 d.store.next, .int .i64 d.seq, .int .i64 d.tx, .int .i64 d.base] 54)).alloc (.cells #[.int .i64 k, .int .i64 v, .int .i64 s, .int .i64 o, .string t] 26)).alloc (.cells #[] 75) = wa at PA
 have HI := hide h3
 have HF := hide h1
 have HS := hide h2
 have CA := hide (saskOk ⟨k, v, s, o, t⟩ wa)
 unfold akV at CA
 obtain ⟨ab, hab⟩ : ∃ ab, akB ⟨k, v, s, o, t⟩ = ab := ⟨_, rfl⟩
 rw [hab] at CA HR
 obtain ⟨a0, a1, a2, a3, a4⟩ := PA.out.2.2.1.cells
 simp only at a0 a1 a2 a3 a4 CA
 clear s0 s1 b0 b1 g0 g1 n1 h h1 h2 h3 hR hab hvl
 go_enter Tryz.func11, Tryz.ntmps11
 go_wp2_with fail
 clear hwa
 refine CA.out.mono ?_
 rintro e w1 ⟨rfl, b1⟩
 have P1 := hide (PA.out.below b1)
 clear CA PA b1 a0 a1 a2 a3 a4
 cases ab with
 | false =>
  have HE : Hid (R = ([], noT, 3)) := by show _ = _; rw [HR.out]; exact if_pos rfl
  have FN := hide (P1.out.out 3)
  clear HR
  go_wp2
  refine bodyPost_ret (results_tmp3 rfl _ _ _) rfl ?_
  rw [HE.out]
  exact FN.out
 | true =>
  rw [if_neg (by decide)] at HR
  obtain ⟨a0, a1, a2, a3, a4⟩ := P1.out.2.2.1.cells
  obtain ⟨y0, y1, y2, y3, -, -, -⟩ := P1.out.2.1.cells
  simp only at a0 a1 a2 a3 a4
  have CV := hide (sat_in v (HI.out.below P1.out.1))
  go_wp2_with fail
  refine CV.out.mono ?_
  rintro e w2 ⟨rfl, bq⟩
  have P2 := hide (P1.out.below bq)
  clear CV bq a0 a1 a2 a3 a4 y0 y1 y2 y3
  obtain ⟨a0, a1, a2, a3, a4⟩ := P2.out.2.2.1.cells
  obtain ⟨y0, y1, y2, y3, -, -, -⟩ := P2.out.2.1.cells
  simp only at a0 a1 a2 a3 a4
  clear P1
  by_cases hk : (k == 3) = true ∨ ((k == 3) = false ∧ (k == 4) = true)
  ·have hk' : k = 3 ∨ k = 4 := by rcases hk with h | h; exact .inl (by simpa using h); exact .inr (by simpa using h.2)
   rw [if_pos hk'] at HR
   clear hk'
   cases hv : atV d.store.vols v with
   | some i =>
    have hi0 : (i : Int) ≥ 0 := by omega
    rw [hv] at HR
    have ea : atI (some i) = (i : Int) := rfl
    rw [ea]
    clear ea hv
    rcases hk with hk | ⟨hk, hk2⟩
    all_goals
     have HE : Hid (R = ([], noT, 2)) := by show _ = _; exact HR.out
     have FN := hide (P2.out.out 2)
     clear HR
     go_wp2
     refine bodyPost_ret (results_tmp3 rfl _ _ _) rfl ?_
     rw [HE.out]
     exact FN.out
   | none =>
    rw [hv] at HR
    have ea : atI none = -1 := rfl
    rw [ea]
    rw [if_neg (by decide)] at HR
    clear ea hv
    rcases hk with hk | ⟨hk, hk2⟩
    ·have hk4 : (k == 4) = false := by have : k = 3 := by simpa using hk
                                       simp [this]
     rw [if_neg (fun hh => by simp [hh.1] at hk4)] at HR
     by_cases h3 : 3 ≤ vl
     ·have h3' : (vl : Int) ≥ 3 := by omega
      rw [if_pos (by rw [HVL.out]; exact h3)] at HR
      have HE : Hid (R = ([], noT, 4)) := by show _ = _; exact HR.out
      have FN := hide (P2.out.out 4)
      clear HR
      go_wp2
      refine bodyPost_ret (results_tmp3 rfl _ _ _) rfl ?_
      rw [HE.out]
      exact FN.out
     ·have h3' : ¬ ((vl : Int) ≥ 3) := by omega
      rw [if_neg (by rw [HVL.out]; exact h3)] at HR
      have HE : Hid (R = ([⟨2, v, o, 0⟩], noT, 0)) := by show _ = _; exact HR.out
      have FN := hide (plan_one P2.out.1 ⟨2, v, o, 0⟩ noT)
      simp only at FN
      clear HR
      go_wp2
      refine bodyPost_ret (results_tmp3 rfl _ _ _) rfl ?_
      rw [HE.out]
      exact FN.out
    ·have hk4 : k = 4 := by simpa using hk2
     have CV := hide (sat_in o (HI.out.below P2.out.1))
     go_wp2_with fail
     refine CV.out.mono ?_
     rintro e w3 ⟨rfl, bq⟩
     have P3 := hide (P2.out.below bq)
     clear CV bq a0 a1 a2 a3 a4 y0 y1 y2 y3
     obtain ⟨a0, a1, a2, a3, a4⟩ := P3.out.2.2.1.cells
     obtain ⟨y0, y1, y2, y3, -, -, -⟩ := P3.out.2.1.cells
     simp only at a0 a1 a2 a3 a4
     clear P2
     cases ho : atV d.store.vols o with
     | none =>
      have ea : atI none = -1 := rfl
      rw [ea]
      rw [if_pos ⟨hk4, by rw [ho]; rfl⟩] at HR
      clear ea ho hk4
      have HE : Hid (R = ([], noT, 1)) := by show _ = _; exact HR.out
      have FN := hide (P3.out.out 1)
      clear HR
      go_wp2
      refine bodyPost_ret (results_tmp3 rfl _ _ _) rfl ?_
      rw [HE.out]
      exact FN.out
     | some i =>
      have hi0 : ¬ ((i : Int) < 0) := by omega
      have ea : atI (some i) = (i : Int) := rfl
      rw [ea]
      rw [if_neg (fun hh => by rw [ho] at hh; simp at hh)] at HR
      clear ea ho hk4
      by_cases h3 : 3 ≤ vl
      ·have h3' : (vl : Int) ≥ 3 := by omega
       rw [if_pos (by rw [HVL.out]; exact h3)] at HR
       have HE : Hid (R = ([], noT, 4)) := by show _ = _; exact HR.out
       have FN := hide (P3.out.out 4)
       clear HR
       go_wp2
       refine bodyPost_ret (results_tmp3 rfl _ _ _) rfl ?_
       rw [HE.out]
       exact FN.out
      ·have h3' : ¬ ((vl : Int) ≥ 3) := by omega
       rw [if_neg (by rw [HVL.out]; exact h3)] at HR
       have HE : Hid (R = ([⟨2, v, o, 0⟩], noT, 0)) := by show _ = _; exact HR.out
       have FN := hide (plan_one P3.out.1 ⟨2, v, o, 0⟩ noT)
       simp only at FN
       clear HR
       go_wp2
       refine bodyPost_ret (results_tmp3 rfl _ _ _) rfl ?_
       rw [HE.out]
       exact FN.out
  have hk3 : (k == 3) = false := by
   cases h : k == 3 with
   | false => rfl
   | true => exact absurd (.inl h) hk
  have hk4 : (k == 4) = false := by
   cases h : k == 4 with
   | false => rfl
   | true => exact absurd (.inr ⟨hk3, h⟩) hk
  rw [if_neg (by rintro (h | h); simp [h] at hk3; simp [h] at hk4)] at HR
  clear hk
  cases hv : atV d.store.vols v with
  | none =>
   rw [hv] at HR
   have ea : atI none = -1 := rfl
   rw [ea]
   rw [if_pos (show (none : Option Nat).isSome = false from rfl)] at HR
   clear ea hv
   have HE : Hid (R = ([], noT, 1)) := by show _ = _; exact HR.out
   have FN := hide (P2.out.out 1)
   clear HR
   go_wp2
   refine bodyPost_ret (results_tmp3 rfl _ _ _) rfl ?_
   rw [HE.out]
   exact FN.out
  | some i =>
   have hi0 : (i : Int) ≥ 0 := by omega
   rw [hv] at HR
   have ea : atI (some i) = (i : Int) := rfl
   rw [ea]
   rw [if_neg (by simp)] at HR
   clear ea hv
   by_cases k1 : (k == 1) = true
   ·have k1' : k = 1 := by simpa using k1
    rw [if_pos k1'] at HR
    clear k1'
    have P3 := hide (P2.out.below (Below.refl w2.heap.size w2).drew)
    have SD : (w2.drew.cell? ⟨w.heap.size, 0, none⟩ = some (.slice fd d.flash.length fc) ∧ w2.drew.cell? ⟨w.heap.size, 1, none⟩ = some (.slice va vl vc) ∧ w2.drew.cell? ⟨w.heap.size, 2, none⟩ = some (.slice ad ln cap) ∧ w2.drew.cell? ⟨w.heap.size, 3, none⟩ = some (.int .i64 d.store.next)) ∧ w2.drew.cell? ⟨w.heap.size + 1, 4, none⟩ = some (.string t) := ⟨⟨P3.out.2.1.cells.1, P3.out.2.1.cells.2.1, P3.out.2.1.cells.2.2.1, P3.out.2.1.cells.2.2.2.1⟩, P3.out.2.2.1.cells.2.2.2.2⟩
    have CL := hide (sliveOf _ d.store w2.drew (HI.out.below P3.out.1))
    have HLB : Hid ((liveS d.store).length ≤ 16777216) := by
     have h1 := live_bound d.store
     rw [HVL.out] at h1
     show _ ≤ _
     omega
    obtain ⟨L, hL⟩ : ∃ L, liveS d.store = L := ⟨_, rfl⟩
    rw [hL] at CL HLB HR
    obtain ⟨c, hc⟩ : ∃ c, sameP (scanF d.flash) L t.data.toList = c := ⟨_, rfl⟩
    rw [hc] at HR
    have HC := hide hc
    clear hL hc
    go_upto_region 17 with fail
    clear a0 a1 a2 a3 a4 y0 y1 y2 y3
    go_region_held3 (fun w' => (w'.cell? ⟨w.heap.size, 0, none⟩ = some (.slice fd d.flash.length fc) ∧ w'.cell? ⟨w.heap.size, 1, none⟩ = some (.slice va vl vc) ∧ w'.cell? ⟨w.heap.size, 2, none⟩ = some (.slice ad ln cap) ∧ w'.cell? ⟨w.heap.size, 3, none⟩ = some (.int .i64 d.store.next)) ∧ w'.cell? ⟨w.heap.size + 1, 4, none⟩ = some (.string t)) (first | (with_reducible exact SD) | (with_reducible exact SE) | (with_reducible exact SF) | go_keep) (first
     | (go_at_call 27; refine CL.out.mono ?_; rintro e w3 ⟨lv, rfl, lo, b3⟩; obtain ⟨la, lc, rfl, li⟩ := ints_row lo (by have := HLB.out; unfold maxLen; omega); have P4 := hide (P3.out.below b3); obtain ⟨rs, e1, i1, l1, ll1, tb1⟩ := (HF.out.below P4.out.1).lens HS.out; have CF := hide (sfind (.slice fd d.flash.length fc) rs la L.length lc L t w3 l1 ll1 tb1 i1 (by have := HLB.out; omega) li); rw [e1, HC.out] at CF; have SE : (w3.cell? ⟨w.heap.size, 0, none⟩ = some (.slice fd d.flash.length fc) ∧ w3.cell? ⟨w.heap.size, 1, none⟩ = some (.slice va vl vc) ∧ w3.cell? ⟨w.heap.size, 2, none⟩ = some (.slice ad ln cap) ∧ w3.cell? ⟨w.heap.size, 3, none⟩ = some (.int .i64 d.store.next)) ∧ w3.cell? ⟨w.heap.size + 1, 4, none⟩ = some (.string t) := ⟨⟨P4.out.2.1.cells.1, P4.out.2.1.cells.2.1, P4.out.2.1.cells.2.2.1, P4.out.2.1.cells.2.2.2.1⟩, P4.out.2.2.1.cells.2.2.2.2⟩; clear lo b3 li rs e1 i1 l1 ll1 tb1)
     | (go_at_call 26; refine CF.out.mono ?_; rintro e w4 ⟨rfl, b4⟩; have P5 := hide (P4.out.below b4); have SF : (w4.cell? ⟨w.heap.size, 0, none⟩ = some (.slice fd d.flash.length fc) ∧ w4.cell? ⟨w.heap.size, 1, none⟩ = some (.slice va vl vc) ∧ w4.cell? ⟨w.heap.size, 2, none⟩ = some (.slice ad ln cap) ∧ w4.cell? ⟨w.heap.size, 3, none⟩ = some (.int .i64 d.store.next)) ∧ w4.cell? ⟨w.heap.size + 1, 4, none⟩ = some (.string t) := ⟨⟨P5.out.2.1.cells.1, P5.out.2.1.cells.2.1, P5.out.2.1.cells.2.2.1, P5.out.2.1.cells.2.2.2.1⟩, P5.out.2.2.1.cells.2.2.2.2⟩; clear b4))
    all_goals
     clear SD SE SF CL CF P2 P3 P4 HC
     go_upto_region 19 with fail
     obtain ⟨a0, a1, a2, a3, a4⟩ := P5.out.2.2.1.cells
     obtain ⟨y0, y1, y2, y3, -, -, -⟩ := P5.out.2.1.cells
     simp only at a0 a1 a2 a3 a4
     by_cases c0 : (c == 0) = true
     ·have c0' : c = 0 := by simpa using c0
      rw [if_pos c0'] at HR
      clear c0'
      obtain ⟨pb, hpb⟩ := pack_is t
      have CP := hide (spack_any t w4)
      rw [hpb] at CP
      clear hpb
      go_wp2_with fail
      refine CP.out.mono ?_
      rintro e w5 ⟨rfl, b5⟩
      have P6 := hide (P5.out.below b5)
      clear CP b5 a0 a1 a2 a3 a4 y0 y1 y2 y3
      obtain ⟨a0, a1, a2, a3, a4⟩ := P6.out.2.2.1.cells
      obtain ⟨y0, y1, y2, y3, -, -, -⟩ := P6.out.2.1.cells
      simp only at a0 a1 a2 a3 a4
      have HE : Hid (R = ([⟨4, v, s, d.store.next⟩], (packB t), 0)) := by show _ = _; exact HR.out
      have FN := hide (plan_one P6.out.1 ⟨4, v, s, d.store.next⟩ (packB t))
      simp only at FN
      clear HR
      go_wp2
      refine bodyPost_ret (results_tmp3 rfl _ _ _) rfl ?_
      rw [HE.out]
      exact FN.out
     ·have c0' : ¬ c = 0 := by simpa using c0
      have c0 : (c == 0) = false := by simpa using c0
      rw [if_neg c0'] at HR
      clear c0'
      have HE : Hid (R = ([⟨4, v, s, c⟩], noT, 0)) := by show _ = _; exact HR.out
      have FN := hide (plan_one P5.out.1 ⟨4, v, s, c⟩ noT)
      simp only at FN
      clear HR
      go_wp2
      refine bodyPost_ret (results_tmp3 rfl _ _ _) rfl ?_
      rw [HE.out]
      exact FN.out
   have k1' : ¬ k = 1 := by simpa using k1
   have k1 : (k == 1) = false := by simpa using k1
   rw [if_neg k1'] at HR
   clear k1'
   by_cases k2 : (k == 2) = true
   ·have HE : Hid (R = ([⟨5, v, s, 0⟩], noT, 0)) := by show _ = _; rw [HR.out]; exact if_pos (by simpa using k2)
    have FN := hide (plan_one P2.out.1 ⟨5, v, s, 0⟩ noT)
    simp only at FN
    clear HR
    go_wp2
    refine bodyPost_ret (results_tmp3 rfl _ _ _) rfl ?_
    rw [HE.out]
    exact FN.out
   have k2' : ¬ k = 2 := by simpa using k2
   have k2 : (k == 2) = false := by simpa using k2
   rw [if_neg k2'] at HR
   clear k2'
   by_cases k5 : (k == 5) = true
   ·have HE : Hid (R = ([⟨3, v, 0, 0⟩], noT, 0)) := by show _ = _; rw [HR.out]; exact if_pos (by simpa using k5)
    have FN := hide (plan_one P2.out.1 ⟨3, v, 0, 0⟩ noT)
    simp only at FN
    clear HR
    go_wp2
    refine bodyPost_ret (results_tmp3 rfl _ _ _) rfl ?_
    rw [HE.out]
    exact FN.out
   have k5' : ¬ k = 5 := by simpa using k5
   have k5 : (k == 5) = false := by simpa using k5
   rw [if_neg k5'] at HR
   clear k5'
   have HE : Hid (R = ([], noT, 0)) := by show _ = _; exact HR.out
   have FN := hide (P2.out.out 0)
   clear HR
   go_wp2
   refine bodyPost_ret (results_tmp3 rfl _ _ _) rfl ?_
   rw [HE.out]
   exact FN.out
end Go.Proofs.YtcjgjkejhkhknacGreatDoor
