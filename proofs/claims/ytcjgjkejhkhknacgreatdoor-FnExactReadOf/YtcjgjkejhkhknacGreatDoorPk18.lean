/-
  EqDv; FRP; DvM2; DvM3; DvM4; DvM5; DvM6; DvM7; DvM8; SChunk; FdC; FdR; ReadM
-/
import Derived.Test.YtcjgjkejhkhknacGreatDoorDvTk
import Derived.Test.YtcjgjkejhkhknacGreatDoorPk9
import Derived.Test.YtcjgjkejhkhknacGreatDoorPk6
import Derived.Test.YtcjgjkejhkhknacGreatDoorPk10
import Derived.Deep.RegionHeld3
import Derived.Test.YtcjgjkejhkhknacGreatDoorPk0
import Derived.Test.YtcjgjkejhkhknacGreatDoorPk5
import Derived.Test.YtcjgjkejhkhknacGreatDoorPk7
namespace Go.Proofs.YtcjgjkejhkhknacGreatDoor
open Go.RowKit
open Words
theorem Dvs.form2 {lo hi : Nat} {v : Value} {d : Dv} {W : World} (h : Dvs lo hi v d W) : ∃ fd fc va vc ad cap, v = .agg #[.slice fd d.flash.length fc, .slice va d.store.vols.length vc, .slice ad d.store.kns.length cap, .int .i64 d.store.next, .int .i64 d.seq, .int .i64 d.tx, .int .i64 d.base] ∧ ∃ lo1 hi1 lo2 hi2, Fla lo1 hi1 (.slice fd d.flash.length fc) d.flash W ∧ Sts lo2 hi2 (.agg #[.slice va d.store.vols.length vc, .slice ad d.store.kns.length cap, .int .i64 d.store.next]) d.store W ∧ lo ≤ lo1 ∧ hi1 ≤ hi ∧ lo ≤ lo2 ∧ hi2 ≤ hi ∧ (hi1 ≤ lo2 ∨ hi2 ≤ lo1) := by
  obtain ⟨fv, vv, kv, lo1, hi1, lo2, hi2, e, h1, h2, h3⟩ := h
  obtain ⟨fd, fc, rfl, -⟩ := h1.form
  obtain ⟨va, vc, ad, cap, e2⟩ := h2.form
  injection e2 with e2
  injection e2 with e2
  simp only [List.cons.injEq, and_true] at e2
  obtain ⟨rfl, rfl⟩ := e2
  exact ⟨_, _, _, _, _, _, e, lo1, hi1, lo2, hi2, h1, h2, h3⟩
set_option maxHeartbeats 2000000 in
set_option maxRecDepth 100000 in
theorem eqd_any {v u : Value} {d : Dv} {l1 h1 l2 h2 : Nat} (W : World) (ho : OkD d) (hv : Dvs l1 h1 v d W) (hu : Dvs l2 h2 u d W) (z1 : h1 ≤ W.heap.size) (z2 : h2 ≤ W.heap.size) :
    Calls Tryz.prog 15 #[v, u] W fun e w' => e = .returned (.bool true) ∧ Below W.heap.size W w' := by
  obtain ⟨f1, c1, v1, k1, a1, p1, rfl, lo1, hi1, lo2, hi2, x1, x2, -, x4, -, x6, -⟩ := hv.form2
  obtain ⟨f2, c2, v2, k2, a2, p2, rfl, lo3, hi3, lo4, hi4, y1, y2, -, y4, -, y6, -⟩ := hu.form2
  have s0 : (W.alloc (.cells #[.slice f1 d.flash.length c1, .slice v1 d.store.vols.length k1, .slice a1 d.store.kns.length p1, .int .i64 d.store.next, .int .i64 d.seq, .int .i64 d.tx, .int .i64 d.base] 54)).heap.size = W.heap.size + 1 := by simp
  have b0 : Below W.heap.size W (W.alloc (.cells #[.slice f1 d.flash.length c1, .slice v1 d.store.vols.length k1, .slice a1 d.store.kns.length p1, .int .i64 d.store.next, .int .i64 d.seq, .int .i64 d.tx, .int .i64 d.base] 54)) := (Below.refl _ _).alloc (Nat.le_refl _) _
  have b1 : Below (W.alloc (.cells #[.slice f1 d.flash.length c1, .slice v1 d.store.vols.length k1, .slice a1 d.store.kns.length p1, .int .i64 d.store.next, .int .i64 d.seq, .int .i64 d.tx, .int .i64 d.base] 54)).heap.size (W.alloc (.cells #[.slice f1 d.flash.length c1, .slice v1 d.store.vols.length k1, .slice a1 d.store.kns.length p1, .int .i64 d.store.next, .int .i64 d.seq, .int .i64 d.tx, .int .i64 d.base] 54)) ((W.alloc (.cells #[.slice f1 d.flash.length c1, .slice v1 d.store.vols.length k1, .slice a1 d.store.kns.length p1, .int .i64 d.store.next, .int .i64 d.seq, .int .i64 d.tx, .int .i64 d.base] 54)).alloc (.cells #[.slice f2 d.flash.length c2, .slice v2 d.store.vols.length k2, .slice a2 d.store.kns.length p2, .int .i64 d.store.next, .int .i64 d.seq, .int .i64 d.tx, .int .i64 d.base] 54)) := (Below.refl _ _).alloc (Nat.le_refl _) _
  have g0 : DAt (W.alloc (.cells #[.slice f1 d.flash.length c1, .slice v1 d.store.vols.length k1, .slice a1 d.store.kns.length p1, .int .i64 d.store.next, .int .i64 d.seq, .int .i64 d.tx, .int .i64 d.base] 54)) W.heap.size (.slice f1 d.flash.length c1) (.slice v1 d.store.vols.length k1) (.slice a1 d.store.kns.length p1) d.store.next d.seq d.tx d.base := heap_alloc_new _ _
  have gA := g0.below b1
  have gB : DAt ((W.alloc (.cells #[.slice f1 d.flash.length c1, .slice v1 d.store.vols.length k1, .slice a1 d.store.kns.length p1, .int .i64 d.store.next, .int .i64 d.seq, .int .i64 d.tx, .int .i64 d.base] 54)).alloc (.cells #[.slice f2 d.flash.length c2, .slice v2 d.store.vols.length k2, .slice a2 d.store.kns.length p2, .int .i64 d.store.next, .int .i64 d.seq, .int .i64 d.tx, .int .i64 d.base] 54)) (W.heap.size + 1) (.slice f2 d.flash.length c2) (.slice v2 d.store.vols.length k2) (.slice a2 d.store.kns.length p2) d.store.next d.seq d.tx d.base := by
    rw [← s0]
    exact heap_alloc_new _ _
  have bA := b0.trans (b1.mono b0.size)
  generalize hwa : ((W.alloc (.cells #[.slice f1 d.flash.length c1, .slice v1 d.store.vols.length k1, .slice a1 d.store.kns.length p1, .int .i64 d.store.next, .int .i64 d.seq, .int .i64 d.tx, .int .i64 d.base] 54)).alloc (.cells #[.slice f2 d.flash.length c2, .slice v2 d.store.vols.length k2, .slice a2 d.store.kns.length p2, .int .i64 d.store.next, .int .i64 d.seq, .int .i64 d.tx, .int .i64 d.base] 54)) = wa at gA gB bA
  have kp : ∀ y, y < W.heap.size → wa.heap[y]? = W.heap[y]? := fun y hy => bA.block y hy
  have X1 := hide (Fla.loc _ _ _ _ W wa (fun y y1 y2 => kp y (by omega)) x1)
  have X2 := hide (Sts.loc _ _ _ _ W wa (fun y y1 y2 => kp y (by omega)) x2)
  have Y1 := hide (Fla.loc _ _ _ _ W wa (fun y y1 y2 => kp y (by omega)) y1)
  have Y2 := hide (Sts.loc _ _ _ _ W wa (fun y y1 y2 => kp y (by omega)) y2)
  have hwz := bA.size
  have CE := hide (eq_of (.slice f1 d.flash.length c1) (.slice f2 d.flash.length c2) d.flash lo1 hi1 lo3 hi3 wa ho.1 ⟨by omega, X1.out⟩ ⟨by omega, Y1.out⟩)
  have HO := hide ho
  have BA := hide bA
  have GA := hide gA
  have GB := hide gB
  have i0 := gA.cells.1
  have j0 := gB.cells.1
  clear hv hu x1 x2 y1 y2 s0 b0 b1 g0 gA gB bA kp ho
  go_enter Tryz.func15, Tryz.ntmps15
  go_wp2_with fail
  clear hwa
  refine CE.out.mono ?_
  rintro e w1 ⟨rfl, b1⟩
  have hw1 := b1.size
  have tk : Tk wa w1 [(lo2, hi2, Sts lo2 hi2 (.agg #[.slice v1 d.store.vols.length k1, .slice a1 d.store.kns.length p1, .int .i64 d.store.next]) d.store), (lo4, hi4, Sts lo4 hi4 (.agg #[.slice v2 d.store.vols.length k2, .slice a2 d.store.kns.length p2, .int .i64 d.store.next]) d.store)] := by
    refine ⟨b1, fun x hx => ?_⟩
    simp only [List.mem_cons, List.not_mem_nil, or_false] at hx
    rcases hx with rfl | rfl
    · exact ⟨by show hi2 ≤ _; omega, Sts.loc _ _ _ _, Sts.loc _ _ _ _ wa w1 (fun y y1 y2 => b1.block y (by omega)) X2.out⟩
    · exact ⟨by show hi4 ≤ _; omega, Sts.loc _ _ _ _, Sts.loc _ _ _ _ wa w1 (fun y y1 y2 => b1.block y (by omega)) Y2.out⟩
  have CT := hide (eqsto_tk tk 0 1 HO.out.2.1 rfl rfl)
  have G1 := hide (GA.out.below b1)
  have J1 := hide (GB.out.below b1)
  have HB1 := hide b1
  obtain ⟨-, m1, m2, m3, -, -, -⟩ := G1.out.cells
  obtain ⟨-, n1, n2, n3, -, -, -⟩ := J1.out.cells
  clear CE X1 X2 Y1 Y2 i0 j0 tk b1 G1 J1
  go_wp2_with fail
  refine CT.out.mono ?_
  rintro e w2 ⟨rfl, t2, z3⟩
  have B2 := t2.1
  have FB := hide (BA.out.trans (B2.mono BA.out.size))
  obtain ⟨-, -, -, -, m4, m5, m6⟩ := (GA.out.below B2).cells
  obtain ⟨-, -, -, -, n4, n5, n6⟩ := (GB.out.below B2).cells
  have e4 : (d.seq != d.seq) = false := by simp
  have e5 : (d.tx != d.tx) = false := by simp
  have e6 : (d.base != d.base) = false := by simp
  clear CT t2 z3 B2 m1 m2 m3 n1 n2 n3 GA GB
  go_wp2
  go_ret
  exact ⟨rfl, FB.out⟩
theorem tod_tk {w wi : World} {hs : List Hold} {fa : Option Addr} {n fc : Nat} {rs : List Rw} {va : Option Addr} {vl vc : Nat} {vs : List (Int × Int)} {ad : Option Addr} {len cap : Nat} {kr : List Kw} {nx sq tx bs : Int} {d : Dv} (T : Tk w wi hs) (ho : OkA rs vl len vs kr nx) (hn : n ≤ 1048576) (hb : BkRow w fa n rs) (hv : VlRow w va vl vs) (hk : KnRd w ad len kr) (hd : d = ⟨rs.map tellOf, ⟨vs, kr.map ktell, nx⟩, sq, tx, bs⟩) :
    Calls Tryz.prog 12 #[.agg #[.slice fa n fc, .slice va vl vc, .slice ad len cap, .int .i64 nx, .int .i64 sq, .int .i64 tx, .int .i64 bs]] wi fun e w' => ∃ fd fc va vc ad cap, e = .returned (.agg #[.slice fd d.flash.length fc, .slice va d.store.vols.length vc, .slice ad d.store.kns.length cap, .int .i64 d.store.next, .int .i64 d.seq, .int .i64 d.tx, .int .i64 d.base]) ∧ Tk w w' ((wi.heap.size, w'.heap.size, Dvs wi.heap.size w'.heap.size (.agg #[.slice fd d.flash.length fc, .slice va d.store.vols.length vc, .slice ad d.store.kns.length cap, .int .i64 d.store.next, .int .i64 d.seq, .int .i64 d.tx, .int .i64 d.base]) d) :: hs) ∧ wi.heap.size ≤ w'.heap.size := by
  refine (tod_any fa n fc rs va vl vc vs ad len cap kr nx sq tx bs wi ho hn (hb.below T.1) (hv.below T.1) (hk.below T.1)).mono ?_
  rintro e w' ⟨v, rfl, h, b⟩
  rw [← hd] at h
  obtain ⟨fd, fc, va, vc, ad, cap, rfl, -⟩ := h.form2
  exact ⟨_, _, _, _, _, _, rfl, T.add b (Dvs.loc _ _ _ _) h, b.size⟩
theorem eqd_tk {w wi : World} {hs : List Hold} {v u : Value} {d : Dv} {l1 h1 l2 h2 : Nat} (T : Tk w wi hs) (n1 n2 : Nat) (ho : OkD d) (e1 : hs[n1]? = some (l1, h1, Dvs l1 h1 v d)) (e2 : hs[n2]? = some (l2, h2, Dvs l2 h2 u d)) :
    Calls Tryz.prog 15 #[v, u] wi fun e w' => e = .returned (.bool true) ∧ Tk w w' hs ∧ wi.heap.size ≤ w'.heap.size := by
  refine (eqd_any wi ho (T.get n1 e1) (T.get n2 e2) (T.hi n1 e1) (T.hi n2 e2)).mono ?_
  rintro e w' ⟨rfl, b⟩
  exact ⟨rfl, T.below b, b.size⟩
end Go.Proofs.YtcjgjkejhkhknacGreatDoor

namespace Go.Proofs.YtcjgjkejhkhknacGreatDoor
def Right (n : Int) (bs : List Bk) : Prop := flOk bs = true ∧ ∀ r ∈ bs, r.2.1 ≤ n
end Go.Proofs.YtcjgjkejhkhknacGreatDoor

namespace Go.Proofs.YtcjgjkejhkhknacGreatDoor
open Words Sums Pack
end Go.Proofs.YtcjgjkejhkhknacGreatDoor

namespace Go.Proofs.YtcjgjkejhkhknacGreatDoor
open Words Sums Pack
end Go.Proofs.YtcjgjkejhkhknacGreatDoor

namespace Go.Proofs.YtcjgjkejhkhknacGreatDoor
open Words Sums Pack
end Go.Proofs.YtcjgjkejhkhknacGreatDoor

namespace Go.Proofs.YtcjgjkejhkhknacGreatDoor
open Words Sums Pack
end Go.Proofs.YtcjgjkejhkhknacGreatDoor

namespace Go.Proofs.YtcjgjkejhkhknacGreatDoor
open Words Sums Pack
def noT : ByteArray := ⟨#[]⟩
end Go.Proofs.YtcjgjkejhkhknacGreatDoor

namespace Go.Proofs.YtcjgjkejhkhknacGreatDoor
open Words Sums Pack
end Go.Proofs.YtcjgjkejhkhknacGreatDoor

namespace Go.Proofs.YtcjgjkejhkhknacGreatDoor
open Words Sums Pack
def BAt (l : List UInt8) : ByteArray := ⟨l.toArray⟩
def readP (d : Dv) (vol sector : Int) : ByteArray × Bool :=
  if (atV d.store.vols vol).isSome then
    if chunkS d.store vol sector = 0 then (noT, true)
    else match textP (scanF d.flash) (chunkS d.store vol sector) with
      | some t => (BAt t, true)
      | none => (noT, false)
  else (noT, false)
end Go.Proofs.YtcjgjkejhkhknacGreatDoor

namespace Go.Proofs.YtcjgjkejhkhknacGreatDoor
open Go.RowKit
open Words
set_option maxHeartbeats 1000000 in
set_option maxRecDepth 100000 in
theorem schunk (va : Option Addr) (vl vc : Nat) (ad : Option Addr) (len cap : Nat) (nx : Int) (vs : List (Int × Int)) (rs : List Kw) (vol sec : Int) (w : World) (hvl : vl ≤ 1048578) (hl : len ≤ 1048578) (h : VlRow w va vl vs) (hk : KnRd w ad len rs) :
    Calls Tryz.prog 59 #[.agg (SBox va vl vc ad len cap nx), .int .i64 vol, .int .i64 sec] w fun e w' => e = .returned (.int .i64 (chunkS ⟨vs, rs.map ktell, nx⟩ vol sec)) ∧ Below w.heap.size w w' := by
  have T0 := hide ((Tk.start w).cell #[.slice va vl vc, .slice ad len cap, .int .i64 nx] 52)
  have HVL := hide h.1
  have HV := hide h
  have HK := hide hk
  clear h hk
  obtain ⟨C, hC⟩ : ∃ C, chunkS ⟨vs, rs.map ktell, nx⟩ vol sec = C := ⟨_, rfl⟩
  have HC := hide hC
  rw [hC]
  clear hC
  unfold SBox
  go_enter Tryz.func59, Tryz.ntmps59
  go_wp2_with fail
  refine (satV va vl vc ad len cap nx vs vol _ hvl (HV.out.below T0.out.1)).mono ?_
  rintro e w1 ⟨rfl, b1⟩
  have T1 := hide (T0.out.below b1)
  clear b1 T0
  have x0 : w1.cell? ⟨w.heap.size, 0, none⟩ = some (.slice va vl vc) := T1.out.at 0 0 rfl rfl
  have x1 : w1.cell? ⟨w.heap.size, 1, none⟩ = some (.slice ad len cap) := T1.out.at 0 1 rfl rfl
  cases ha : atV vs vol with
  | none =>
    have E : Hid (C = 0) := by
      show _ = _
      rw [← HC.out]
      simp only [chunkS, rootV, ha, Option.bind_none]
    have e1 : atI none = -1 := rfl
    rw [e1]
    clear ha
    go_wp2
    go_ret
    exact ⟨by rw [E.out]; rfl, T1.out.1⟩
  | some k =>
    obtain ⟨v, hv, hid⟩ := atV_some ha
    have hkl := (List.getElem?_eq_some_iff.1 hv).1
    have hkv : (k : Int) < vl := by have := HVL.out; omega
    have k0 : (0 : Int) ≤ k := by omega
    have k1 : ¬ ((k : Int) < 0) := by omega
    have E : Hid (getT (rs.map ktell) v.2 sec = C) := by
      show _ = _
      rw [← HC.out]
      simp only [chunkS, rootV, ha, Option.bind_some, hv, Option.map_some]
    obtain ⟨b, off, e, hb, c0, c1⟩ := (HV.out.below T1.out.1).at hv
    subst e
    have e1 : atI (some k) = (k : Int) := rfl
    rw [e1]
    have CG := hide (sgetAt ad len cap rs v.2 sec w1.drew hl (HK.out.below T1.out.1.drew))
    have CF := hide (sgetAt ad len cap rs v.2 sec w1 hl (HK.out.below T1.out.1))
    rw [E.out] at CG CF
    have T1d := hide T1.out.1.drew
    have l0 := World.block_lt_of_cell? w1 _ x0
    have l1 := World.block_lt_of_cell? w1 _ x1
    have l2 := World.block_lt_of_cell? w1 _ c1
    clear ha hv hid hkl E
    first
      | (go_wp2_with fail
         refine CF.out.mono ?_
         rintro e w2 ⟨rfl, b2⟩
         have B2 := hide (T1.out.1.trans (b2.mono T1.out.1.size)))
      | (go_wp2
         go_region_held3 (fun w' => w'.cell? ⟨w.heap.size, 0, none⟩ = some (.slice (some ⟨b, off, none⟩) vl vc) ∧ w'.cell? ⟨w.heap.size, 1, none⟩ = some (.slice ad len cap) ∧ w'.cell? ⟨b, off + k * 2 + 1, none⟩ = some (.int .i64 v.2)) (first | exact ⟨x0, x1, c1⟩ | exact KY.out) ((go_at_call 77; (with_reducible refine Calls.mono CG.out ?_); rintro en w2 ⟨rfl, b2⟩; have KY : Hid (w2.cell? ⟨w.heap.size, 0, none⟩ = some (.slice (some ⟨b, off, none⟩) vl vc) ∧ w2.cell? ⟨w.heap.size, 1, none⟩ = some (.slice ad len cap) ∧ w2.cell? ⟨b, off + k * 2 + 1, none⟩ = some (.int .i64 v.2)) := ⟨(b2.cell l0).trans x0, (b2.cell l1).trans x1, (b2.cell l2).trans c1⟩))
         have B2 := hide (T1d.out.trans (b2.mono T1d.out.size)))
    all_goals
      clear CG CF
      go_wp2
      go_ret
      exact ⟨rfl, B2.out⟩
end Go.Proofs.YtcjgjkejhkhknacGreatDoor

namespace Go.Proofs.YtcjgjkejhkhknacGreatDoor
open Go.RowKit
open Words
def fdVal (x : Fnd) : Value := .agg #[.int .i64 x.block, .int .i64 x.leaf, .int .i64 x.page.kind, .int .i64 x.page.seq, .int .i64 x.page.tx, .int .i64 x.page.part, .int .i64 x.page.count, .string x.page.text]
def fdCells (x : Fnd) : List Value := [.int .i64 x.block, .int .i64 x.leaf, .int .i64 x.page.kind, .int .i64 x.page.seq, .int .i64 x.page.tx, .int .i64 x.page.part, .int .i64 x.page.count, .string x.page.text]
theorem infoFound : (Tryz.prog.info? 127).map (fun i => (i.zero, i.size, i.bytes)) = some (some (.agg #[.int .i64 0, .int .i64 0, .int .i64 0, .int .i64 0, .int .i64 0, .int .i64 0, .int .i64 0, .string ⟨#[]⟩]), 8, 72) := by kernel_rfl
def fcells (l : List Fnd) : List Value := l.flatMap fdCells
theorem fcells_snoc (l : List Fnd) (x : Fnd) : fcells l ++ fdCells x = fcells (l ++ [x]) := by simp [fcells]
theorem fd_one (x : Fnd) : ∀ u ∈ fdCells x, u.oneCell' = true := by
  intro u hu
  simp [fdCells] at hu
  rcases hu with h | h | h | h | h | h | h | h <;> subst h <;> rfl
theorem fcells_at : ∀ (l : List Fnd) (i : Nat) (x : Fnd), l[i]? = some x → ∀ j v, (fdCells x)[j]? = some v → (fcells l)[i * 8 + j]? = some v := by
  intro l
  induction l with
  | nil => intro i x h; simp at h
  | cons y l ih =>
    intro i x h j v hv
    have hj : j < 8 := (List.getElem?_eq_some_iff.1 hv).1
    have e : fcells (y :: l) = fdCells y ++ fcells l := by simp [fcells]
    rw [e]
    cases i with
    | zero =>
      simp at h
      subst h
      rw [List.getElem?_append_left (by show 0 * 8 + j < 8; omega)]
      simpa using hv
    | succ i =>
      rw [List.getElem?_cons_succ] at h
      rw [List.getElem?_append_right (by show 8 ≤ (i + 1) * 8 + j; omega)]
      have : (i + 1) * 8 + j - (fdCells y).length = i * 8 + j := by show (i + 1) * 8 + j - 8 = _; omega
      rw [this]
      exact ih i x h j v hv
end Go.Proofs.YtcjgjkejhkhknacGreatDoor

namespace Go.Proofs.YtcjgjkejhkhknacGreatDoor
open Go.RowKit
open Words
def FdRd (w : World) (a : Option Addr) (len : Nat) (ls : List Fnd) : Prop :=
  ls.length = len ∧ len ≤ maxLen ∧ (0 < len → ∃ b off, a = some ⟨b, off, none⟩ ∧ b < w.heap.size ∧ ∀ i t, ls[i]? = some t → ∀ j v, (fdCells t)[j]? = some v → w.cell? ⟨b, off + (i * 8 + j), none⟩ = some v)
theorem FdRd.below {w w' : World} {a : Option Addr} {len : Nat} {ls : List Fnd} (h : FdRd w a len ls) (hb : Below w.heap.size w w') : FdRd w' a len ls := by
  obtain ⟨h1, h2, h4⟩ := h
  refine ⟨h1, h2, fun h0 => ?_⟩
  obtain ⟨b, off, e, hl, hc⟩ := h4 h0
  have hs := hb.size
  exact ⟨b, off, e, by omega, fun i t ht j v hv => (hb.cell (show b < w.heap.size from hl)).trans (hc i t ht j v hv)⟩
theorem FdRd.at {w : World} {a : Option Addr} {len : Nat} {ls : List Fnd} (h : FdRd w a len ls) {k : Nat} {t : Fnd} (hk : ls[k]? = some t) :
    ∃ b off, a = some ⟨b, off, none⟩ ∧ b < w.heap.size ∧ w.cell? ⟨b, off + k * 8, none⟩ = some (.int .i64 t.block) ∧ w.cell? ⟨b, off + k * 8 + 1, none⟩ = some (.int .i64 t.leaf) ∧
      w.cell? ⟨b, off + k * 8 + 2, none⟩ = some (.int .i64 t.page.kind) ∧ w.cell? ⟨b, off + k * 8 + 2 + 1, none⟩ = some (.int .i64 t.page.seq) ∧ w.cell? ⟨b, off + k * 8 + 2 + 2, none⟩ = some (.int .i64 t.page.tx) ∧
      w.cell? ⟨b, off + k * 8 + 2 + 3, none⟩ = some (.int .i64 t.page.part) ∧ w.cell? ⟨b, off + k * 8 + 2 + 4, none⟩ = some (.int .i64 t.page.count) ∧ w.cell? ⟨b, off + k * 8 + 2 + 5, none⟩ = some (.string t.page.text) := by
  obtain ⟨h1, -, h4⟩ := h
  have hl := (List.getElem?_eq_some_iff.1 hk).1
  obtain ⟨b, off, e, hb, hc⟩ := h4 (by omega)
  have hc := hc k t hk
  refine ⟨b, off, e, hb, hc 0 _ rfl, ?_, ?_, ?_, ?_, ?_, ?_, ?_⟩
  · have := hc 1 _ rfl; rwa [← Nat.add_assoc] at this
  · have := hc 2 _ rfl; rwa [← Nat.add_assoc] at this
  · have := hc 3 _ rfl; rwa [← Nat.add_assoc] at this
  · have := hc 4 _ rfl; rwa [← Nat.add_assoc] at this
  · have := hc 5 _ rfl; rwa [← Nat.add_assoc] at this
  · have := hc 6 _ rfl; rwa [← Nat.add_assoc] at this
  · have := hc 7 _ rfl; rwa [← Nat.add_assoc] at this
end Go.Proofs.YtcjgjkejhkhknacGreatDoor

namespace Go.Proofs.YtcjgjkejhkhknacGreatDoor
theorem read_out {bs : List Bk} {b leaf : Int} (h : ¬ (0 ≤ b ∧ b ≤ (bs.length : Int) - 1)) : readF bs b leaf = (⟨#[]⟩, false) := by
  unfold readF
  cases hb : bs[b.toNat]? with
  | none => rfl
  | some r =>
    have := (List.getElem?_eq_some_iff.1 hb).1
    simp only
    cases hl : r.2.2[leaf.toNat]? with
    | none => rfl
    | some t => exact if_neg (fun hh => h ⟨hh.1, by omega⟩)
theorem read_leaf_out {bs : List Bk} {k : Nat} {r : Bk} {leaf : Int} (hr : bs[k]? = some r) (h : ¬ (0 ≤ leaf ∧ leaf ≤ (r.2.2.length : Int) - 1)) : readF bs (k : Int) leaf = (⟨#[]⟩, false) := by
  unfold readF
  rw [Int.toNat_natCast, hr]
  simp only
  cases hl : r.2.2[leaf.toNat]? with
  | none => rfl
  | some t =>
    have := (List.getElem?_eq_some_iff.1 hl).1
    exact if_neg (fun hh => h ⟨hh.2.1, by omega⟩)
theorem read_in {bs : List Bk} {k j : Nat} {r : Bk} {t : Int × ByteArray} (hr : bs[k]? = some r) (ht : r.2.2[j]? = some t) : (t.1 = 1 → readF bs (k : Int) (j : Int) = (t.2, true)) ∧ (t.1 ≠ 1 → readF bs (k : Int) (j : Int) = (⟨#[]⟩, false)) := by
  unfold readF
  rw [Int.toNat_natCast, hr]
  simp only
  rw [Int.toNat_natCast, ht]
  exact ⟨fun h => if_pos ⟨by omega, by omega, h⟩, fun h => if_neg (fun hh => h hh.2.2)⟩
end Go.Proofs.YtcjgjkejhkhknacGreatDoor
