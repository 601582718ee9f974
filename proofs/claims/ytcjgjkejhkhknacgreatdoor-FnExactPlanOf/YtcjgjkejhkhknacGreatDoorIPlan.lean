/-
  IPlan
-/
import Derived.Test.YtcjgjkejhkhknacGreatDoorPk17
import Derived.Test.YtcjgjkejhkhknacGreatDoorPk39
import Derived.Test.YtcjgjkejhkhknacGreatDoorPk44
import Derived.Test.YtcjgjkejhkhknacGreatDoorPk45
import Derived.Test.YtcjgjkejhkhknacGreatDoorPk33
import Derived.Test.YtcjgjkejhkhknacGreatDoorPk46
import Derived.Deep.RegionHeld3
set_option maxHeartbeats 2000000
set_option maxRecDepth 100000
namespace Go.Proofs.YtcjgjkejhkhknacGreatDoor
open Go.RowKit
open Words Sums Pack
def refO (d : Dv) (q : Ak) : Int := if (atV d.store.vols q.vol).isSome then 0 else 1
def refN (d : Dv) (q : Ak) : Int := if (atV d.store.vols q.vol).isSome then 2 else if q.kind = 4 ∧ (atV d.store.vols q.of).isSome = false then 1 else if 3 ≤ d.store.vols.length then 4 else 0
def refK (d : Dv) (q : Ak) : Int := if q.kind = 3 ∨ q.kind = 4 then refN d q else refO d q
def wrP (d : Dv) (q : Ak) : List Rc × ByteArray :=
 if sameP (scanF d.flash) (liveS d.store) q.text.data.toList = 0 then ([⟨4, q.vol, q.sector, d.store.next⟩], packB q.text)
 else ([⟨4, q.vol, q.sector, sameP (scanF d.flash) (liveS d.store) q.text.data.toList⟩], noT)
def plK (d : Dv) (q : Ak) : List Rc × ByteArray :=
 if q.kind = 3 ∨ q.kind = 4 then ([⟨2, q.vol, q.of, 0⟩], noT)
 else if q.kind = 1 then wrP d q
 else if q.kind = 2 then ([⟨5, q.vol, q.sector, 0⟩], noT)
 else if q.kind = 5 then ([⟨3, q.vol, 0, 0⟩], noT)
 else ([], noT)
theorem plan_ref {d : Dv} {q : Ak} (h : akB q = true) : planP d q = if refK d q = 0 then ((plK d q).1, (plK d q).2, 0) else ([], noT, refK d q) := by
 unfold planP refK plK refN refO wrP
 rw [if_neg (by rw [h]; simp)]
 by_cases k34 : q.kind = 3 ∨ q.kind = 4
 ·simp only [if_pos k34]
  repeat' split
  all_goals first
   | rfl
   | omega
   | (exfalso; simp_all; done)
 ·simp only [if_neg k34]
  cases (atV d.store.vols q.vol).isSome with
  | false => rfl
  | true =>
   simp only [if_true, Bool.true_eq_false, if_false]
   repeat' split
   all_goals rfl
theorem plan_wrong {d : Dv} {q : Ak} (h : akB q = false) : planP d q = ([], noT, 3) := by
 unfold planP
 rw [if_pos h]
def PnOut (w : World) (p : List Rc × ByteArray) (e : Ending) (w' : World) : Prop := ∃ x, e = .returned (.tuple #[x, .string p.2]) ∧ w'.ownsRow w.heap.size 75 4 x p.1.length (rccells (p.1.map Rc.tu)) ∧ Below w.heap.size w w'
theorem pn_one {w W : World} (b : Below w.heap.size w W) (r : Rc) (t : ByteArray) : PnOut w ([r], t) (.returned (.tuple #[.slice (some ⟨W.heap.size, 0, none⟩) 1 1, .string t])) (W.alloc (.cells #[.int .i64 r.kind, .int .i64 r.vol, .int .i64 r.arg, .int .i64 r.chunk] 75)) :=
 ⟨_, rfl, ⟨rfl, .inr ⟨W.heap.size, 1, _, rfl, b.size, heap_alloc_new W _, Nat.le_refl _, by unfold maxLen; omega, rfl, rfl⟩⟩, b.alloc b.size _⟩
theorem rows_form {W : World} {lo : Nat} {x : Value} {n : Nat} {l : List Value} (h : W.ownsRow lo 75 4 x n l) : ∃ a c, x = .slice a n c := by
 rcases h.2 with ⟨rfl, h0⟩ | ⟨g, cap, cur, rfl, -⟩
 ·exact ⟨none, 0, by rw [h0]⟩
 ·exact ⟨_, cap, rfl⟩
theorem qd_new (w : World) (k v s o : Int) (t : ByteArray) (a b c : Value) (n x y z : Int) : Below w.heap.size w ((w.alloc (.cells #[.int .i64 k, .int .i64 v, .int .i64 s, .int .i64 o, .string t] 26)).alloc (.cells #[a, b, c, .int .i64 n, .int .i64 x, .int .i64 y, .int .i64 z] 54)) ∧ AkAt ((w.alloc (.cells #[.int .i64 k, .int .i64 v, .int .i64 s, .int .i64 o, .string t] 26)).alloc (.cells #[a, b, c, .int .i64 n, .int .i64 x, .int .i64 y, .int .i64 z] 54)) w.heap.size ⟨k, v, s, o, t⟩ ∧ DAt ((w.alloc (.cells #[.int .i64 k, .int .i64 v, .int .i64 s, .int .i64 o, .string t] 26)).alloc (.cells #[a, b, c, .int .i64 n, .int .i64 x, .int .i64 y, .int .i64 z] 54)) (w.heap.size + 1) a b c n x y z := by
 have s0 : (w.alloc (.cells #[.int .i64 k, .int .i64 v, .int .i64 s, .int .i64 o, .string t] 26)).heap.size = w.heap.size + 1 := by simp
 have b0 : Below w.heap.size w (w.alloc (.cells #[.int .i64 k, .int .i64 v, .int .i64 s, .int .i64 o, .string t] 26)) := (Below.refl _ _).alloc (Nat.le_refl _) _
 have a0 : AkAt (w.alloc (.cells #[.int .i64 k, .int .i64 v, .int .i64 s, .int .i64 o, .string t] 26)) w.heap.size ⟨k, v, s, o, t⟩ := heap_alloc_new _ _
 have b1 := (Below.refl (w.alloc (.cells #[.int .i64 k, .int .i64 v, .int .i64 s, .int .i64 o, .string t] 26)).heap.size _).alloc (Nat.le_refl _) (.cells #[a, b, c, .int .i64 n, .int .i64 x, .int .i64 y, .int .i64 z] 54)
 refine ⟨b0.trans (b1.mono b0.size), a0.below b1, ?_⟩
 rw [← s0]
 exact heap_alloc_new _ _
theorem dq_new (w : World) (k v s o : Int) (t : ByteArray) (a b c : Value) (n x y z : Int) : Below w.heap.size w ((w.alloc (.cells #[a, b, c, .int .i64 n, .int .i64 x, .int .i64 y, .int .i64 z] 54)).alloc (.cells #[.int .i64 k, .int .i64 v, .int .i64 s, .int .i64 o, .string t] 26)) ∧ AkAt ((w.alloc (.cells #[a, b, c, .int .i64 n, .int .i64 x, .int .i64 y, .int .i64 z] 54)).alloc (.cells #[.int .i64 k, .int .i64 v, .int .i64 s, .int .i64 o, .string t] 26)) (w.heap.size + 1) ⟨k, v, s, o, t⟩ ∧ DAt ((w.alloc (.cells #[a, b, c, .int .i64 n, .int .i64 x, .int .i64 y, .int .i64 z] 54)).alloc (.cells #[.int .i64 k, .int .i64 v, .int .i64 s, .int .i64 o, .string t] 26)) w.heap.size a b c n x y z := by
 have s0 : (w.alloc (.cells #[a, b, c, .int .i64 n, .int .i64 x, .int .i64 y, .int .i64 z] 54)).heap.size = w.heap.size + 1 := by simp
 have b0 : Below w.heap.size w (w.alloc (.cells #[a, b, c, .int .i64 n, .int .i64 x, .int .i64 y, .int .i64 z] 54)) := (Below.refl _ _).alloc (Nat.le_refl _) _
 have a0 : DAt (w.alloc (.cells #[a, b, c, .int .i64 n, .int .i64 x, .int .i64 y, .int .i64 z] 54)) w.heap.size a b c n x y z := heap_alloc_new _ _
 have b1 := (Below.refl (w.alloc (.cells #[a, b, c, .int .i64 n, .int .i64 x, .int .i64 y, .int .i64 z] 54)).heap.size _).alloc (Nat.le_refl _) (.cells #[.int .i64 k, .int .i64 v, .int .i64 s, .int .i64 o, .string t] 26)
 refine ⟨b0.trans (b1.mono b0.size), ?_, a0.below b1⟩
 rw [← s0]
 exact heap_alloc_new _ _
theorem irefO (q : Ak) (x : Value) (d : Dv) (w : World) (h : DvIn w x d) : Calls Tryz.prog 68 #[akV q, x] w fun e w' => e = .returned (.int .i64 (refO d q)) ∧ Below w.heap.size w w' := by
 obtain ⟨k, v, s, o, t⟩ := q
 obtain ⟨fd, fc, va, vl, vc, ad, ln, cap, rfl, h1, h2, h3⟩ := h.form
 unfold akV
 simp only
 have hN := qd_new w k v s o t (.slice fd d.flash.length fc) (.slice va vl vc) (.slice ad ln cap) d.store.next d.seq d.tx d.base
 generalize hwa : (w.alloc (.cells #[.int .i64 k, .int .i64 v, .int .i64 s, .int .i64 o, .string t] 26)).alloc (.cells #[.slice fd d.flash.length fc, .slice va vl vc, .slice ad ln cap, .int .i64 d.store.next, .int .i64 d.seq, .int .i64 d.tx, .int .i64 d.base] 54) = wa at hN
 obtain ⟨bA, aA, gA⟩ := hN
 obtain ⟨q0, q1, q2, q3, q4⟩ := aA.cells
 simp only at q0 q1 q2 q3 q4
 obtain ⟨c0, c1, c2, c3, c4, c5, c6⟩ := gA.cells
 have CV := hide (ihasVol _ d v wa (h.below bA))
 have HB := hide bA
 obtain ⟨R, hR⟩ : ∃ R, refO d ⟨k, v, s, o, t⟩ = R := ⟨_, rfl⟩
 rw [hR]
 have HR : Hid ((if (atV d.store.vols v).isSome then 0 else 1) = R) := hR
 clear aA gA bA h h1 h2 h3 hR
 go_enter Tryz.func68, Tryz.ntmps68
 go_wp2_with fail
 clear hwa
 refine CV.out.mono ?_
 rintro e w1 ⟨rfl, b1⟩
 have B1 := hide (HB.out.trans (b1.mono HB.out.size))
 clear CV HB b1 q0 q1 q2 q3 q4 c0 c1 c2 c3 c4 c5 c6
 cases ha : (atV d.store.vols v).isSome with
 | true =>
  rw [ha, if_pos rfl] at HR
  go_wp2
  go_ret
  rw [← HR.out]
  exact ⟨rfl, B1.out⟩
 | false =>
  rw [ha, if_neg (by simp)] at HR
  go_wp2
  go_ret
  rw [← HR.out]
  exact ⟨rfl, B1.out⟩
theorem irefN (q : Ak) (x : Value) (d : Dv) (w : World) (h : DvIn w x d) : Calls Tryz.prog 71 #[akV q, x] w fun e w' => e = .returned (.int .i64 (refN d q)) ∧ Below w.heap.size w w' := by
 obtain ⟨k, v, s, o, t⟩ := q
 obtain ⟨fd, fc, va, vl, vc, ad, ln, cap, rfl, h1, h2, h3⟩ := h.form
 unfold akV
 simp only
 have hN := qd_new w k v s o t (.slice fd d.flash.length fc) (.slice va vl vc) (.slice ad ln cap) d.store.next d.seq d.tx d.base
 generalize hwa : (w.alloc (.cells #[.int .i64 k, .int .i64 v, .int .i64 s, .int .i64 o, .string t] 26)).alloc (.cells #[.slice fd d.flash.length fc, .slice va vl vc, .slice ad ln cap, .int .i64 d.store.next, .int .i64 d.seq, .int .i64 d.tx, .int .i64 d.base] 54) = wa at hN
 obtain ⟨bA, aA, gA⟩ := hN
 obtain ⟨q0, q1, q2, q3, q4⟩ := aA.cells
 simp only at q0 q1 q2 q3 q4
 obtain ⟨c0, c1, c2, c3, c4, c5, c6⟩ := gA.cells
 have CV := hide (ihasVol _ d v wa (h.below bA))
 have HB := hide bA
 have HA := hide aA
 have HG := hide gA
 have HX := hide h
 have HV := hide (stin_vols h3).2.1
 obtain ⟨R, hR⟩ : ∃ R, refN d ⟨k, v, s, o, t⟩ = R := ⟨_, rfl⟩
 rw [hR]
 have HR : Hid ((if (atV d.store.vols v).isSome then 2 else if k = 4 ∧ (atV d.store.vols o).isSome = false then 1 else if 3 ≤ d.store.vols.length then 4 else 0) = R) := hR
 clear aA gA bA h h1 h2 h3 hR
 go_enter Tryz.func71, Tryz.ntmps71
 go_wp2_with fail
 clear hwa
 refine CV.out.mono ?_
 rintro e w1 ⟨rfl, b1⟩
 have B1 := hide (HB.out.trans (b1.mono HB.out.size))
 have A1 := hide (HA.out.below b1)
 have G1 := hide (HG.out.below b1)
 clear CV HB HA HG b1 q0 q1 q2 q3 q4 c0 c1 c2 c3 c4 c5 c6
 cases ha : (atV d.store.vols v).isSome with
 | true =>
  rw [ha, if_pos rfl] at HR
  go_wp2
  go_ret
  rw [← HR.out]
  exact ⟨rfl, B1.out⟩
 | false =>
  rw [ha, if_neg (by simp)] at HR
  obtain ⟨q0, -, -, q3, -⟩ := A1.out.cells
  simp only at q0 q3
  obtain ⟨c0, c1, c2, c3, c4, c5, c6⟩ := G1.out.cells
  have hl : d.store.vols.length = vl := HV.out
  rw [hl] at HR
  clear hl
  by_cases k4 : (k == 4) = true
  ·have CO := hide (ihasVol _ d o w1 (HX.out.below B1.out))
   go_wp2_with fail
   refine CO.out.mono ?_
   rintro e w2 ⟨rfl, b2⟩
   have B2 := hide (B1.out.trans (b2.mono B1.out.size))
   have c1 := (G1.out.below b2).cells.2.1
   clear CO b2 q0 q3 c0 c2 c3 c4 c5 c6
   cases ho : (atV d.store.vols o).isSome with
   | false =>
    rw [if_pos ⟨by simpa using k4, ho⟩] at HR
    go_wp2
    go_ret
    rw [← HR.out]
    exact ⟨rfl, B2.out⟩
   | true =>
    rw [if_neg (by rw [ho]; simp)] at HR
    by_cases h3 : (3 : Int) ≤ vl
    ·rw [if_pos (by omega)] at HR
     go_wp2
     go_ret
     rw [← HR.out]
     exact ⟨rfl, B2.out⟩
    ·rw [if_neg (by omega)] at HR
     go_wp2
     go_ret
     rw [← HR.out]
     exact ⟨rfl, B2.out⟩
  ·rw [if_neg (fun h => k4 (by simpa using h.1))] at HR
   have k4 : (k == 4) = false := by simpa using k4
   by_cases h3 : (3 : Int) ≤ vl
   ·rw [if_pos (by omega)] at HR
    go_wp2
    go_ret
    rw [← HR.out]
    exact ⟨rfl, B1.out⟩
   ·rw [if_neg (by omega)] at HR
    go_wp2
    go_ret
    rw [← HR.out]
    exact ⟨rfl, B1.out⟩
theorem iplTrim (q : Ak) (x : Value) (d : Dv) (w : World) (h : DvIn w x d) : Calls Tryz.prog 70 #[akV q, x] w (PnOut w ([⟨5, q.vol, q.sector, 0⟩], noT)) := by
 obtain ⟨k, v, s, o, t⟩ := q
 obtain ⟨fd, fc, va, vl, vc, ad, ln, cap, rfl, h1, h2, h3⟩ := h.form
 unfold akV
 simp only
 have hN := qd_new w k v s o t (.slice fd d.flash.length fc) (.slice va vl vc) (.slice ad ln cap) d.store.next d.seq d.tx d.base
 generalize hwa : (w.alloc (.cells #[.int .i64 k, .int .i64 v, .int .i64 s, .int .i64 o, .string t] 26)).alloc (.cells #[.slice fd d.flash.length fc, .slice va vl vc, .slice ad ln cap, .int .i64 d.store.next, .int .i64 d.seq, .int .i64 d.tx, .int .i64 d.base] 54) = wa at hN
 obtain ⟨bA, aA, gA⟩ := hN
 obtain ⟨q0, q1, q2, q3, q4⟩ := aA.cells
 simp only at q0 q1 q2 q3 q4
 obtain ⟨c0, c1, c2, c3, c4, c5, c6⟩ := gA.cells
 have F := hide (pn_one bA ⟨5, v, s, 0⟩ noT)
 unfold noT at F
 simp only at F
 clear aA gA bA h h1 h2 h3 c0 c1 c2 c3 c4 c5 c6
 go_enter Tryz.func70, Tryz.ntmps70
 go_wp2
 subst hwa
 refine bodyPost_ret (results_tmp2 rfl _ _ _) rfl ?_
 exact F.out
theorem iplVol (q : Ak) (x : Value) (d : Dv) (w : World) (h : DvIn w x d) : Calls Tryz.prog 72 #[akV q, x] w (PnOut w ([⟨2, q.vol, q.of, 0⟩], noT)) := by
 obtain ⟨k, v, s, o, t⟩ := q
 obtain ⟨fd, fc, va, vl, vc, ad, ln, cap, rfl, h1, h2, h3⟩ := h.form
 unfold akV
 simp only
 have hN := qd_new w k v s o t (.slice fd d.flash.length fc) (.slice va vl vc) (.slice ad ln cap) d.store.next d.seq d.tx d.base
 generalize hwa : (w.alloc (.cells #[.int .i64 k, .int .i64 v, .int .i64 s, .int .i64 o, .string t] 26)).alloc (.cells #[.slice fd d.flash.length fc, .slice va vl vc, .slice ad ln cap, .int .i64 d.store.next, .int .i64 d.seq, .int .i64 d.tx, .int .i64 d.base] 54) = wa at hN
 obtain ⟨bA, aA, gA⟩ := hN
 obtain ⟨q0, q1, q2, q3, q4⟩ := aA.cells
 simp only at q0 q1 q2 q3 q4
 obtain ⟨c0, c1, c2, c3, c4, c5, c6⟩ := gA.cells
 have F := hide (pn_one bA ⟨2, v, o, 0⟩ noT)
 unfold noT at F
 simp only at F
 clear aA gA bA h h1 h2 h3 c0 c1 c2 c3 c4 c5 c6
 go_enter Tryz.func72, Tryz.ntmps72
 go_wp2
 subst hwa
 refine bodyPost_ret (results_tmp2 rfl _ _ _) rfl ?_
 exact F.out
theorem iplDrop (q : Ak) (x : Value) (d : Dv) (w : World) (h : DvIn w x d) : Calls Tryz.prog 73 #[akV q, x] w (PnOut w ([⟨3, q.vol, 0, 0⟩], noT)) := by
 obtain ⟨k, v, s, o, t⟩ := q
 obtain ⟨fd, fc, va, vl, vc, ad, ln, cap, rfl, h1, h2, h3⟩ := h.form
 unfold akV
 simp only
 have hN := qd_new w k v s o t (.slice fd d.flash.length fc) (.slice va vl vc) (.slice ad ln cap) d.store.next d.seq d.tx d.base
 generalize hwa : (w.alloc (.cells #[.int .i64 k, .int .i64 v, .int .i64 s, .int .i64 o, .string t] 26)).alloc (.cells #[.slice fd d.flash.length fc, .slice va vl vc, .slice ad ln cap, .int .i64 d.store.next, .int .i64 d.seq, .int .i64 d.tx, .int .i64 d.base] 54) = wa at hN
 obtain ⟨bA, aA, gA⟩ := hN
 obtain ⟨q0, q1, q2, q3, q4⟩ := aA.cells
 simp only at q0 q1 q2 q3 q4
 obtain ⟨c0, c1, c2, c3, c4, c5, c6⟩ := gA.cells
 have F := hide (pn_one bA ⟨3, v, 0, 0⟩ noT)
 unfold noT at F
 simp only at F
 clear aA gA bA h h1 h2 h3 c0 c1 c2 c3 c4 c5 c6
 go_enter Tryz.func73, Tryz.ntmps73
 go_wp2
 subst hwa
 refine bodyPost_ret (results_tmp2 rfl _ _ _) rfl ?_
 exact F.out
theorem iplNone (q : Ak) (x : Value) (d : Dv) (w : World) (h : DvIn w x d) : Calls Tryz.prog 74 #[akV q, x] w (PnOut w ([], noT)) := by
 obtain ⟨k, v, s, o, t⟩ := q
 obtain ⟨fd, fc, va, vl, vc, ad, ln, cap, rfl, h1, h2, h3⟩ := h.form
 unfold akV
 simp only
 have hN := qd_new w k v s o t (.slice fd d.flash.length fc) (.slice va vl vc) (.slice ad ln cap) d.store.next d.seq d.tx d.base
 generalize hwa : (w.alloc (.cells #[.int .i64 k, .int .i64 v, .int .i64 s, .int .i64 o, .string t] 26)).alloc (.cells #[.slice fd d.flash.length fc, .slice va vl vc, .slice ad ln cap, .int .i64 d.store.next, .int .i64 d.seq, .int .i64 d.tx, .int .i64 d.base] 54) = wa at hN
 obtain ⟨bA, aA, gA⟩ := hN
 obtain ⟨q0, q1, q2, q3, q4⟩ := aA.cells
 simp only at q0 q1 q2 q3 q4
 obtain ⟨c0, c1, c2, c3, c4, c5, c6⟩ := gA.cells
 have HB := hide bA
 clear aA gA bA h h1 h2 h3 c0 c1 c2 c3 c4 c5 c6
 go_enter Tryz.func74, Tryz.ntmps74
 go_wp2
 subst hwa
 refine bodyPost_ret (results_tmp2 rfl _ _ _) rfl ?_
 exact ⟨_, rfl, World.ownsRow_nil _ _ _ _, HB.out⟩
def WrSt (w W : World) (q : Ak) (a b c : Value) (n x y z : Int) (r : Rc) : Prop := Below w.heap.size w W ∧ AkAt W w.heap.size q ∧ DAt W (w.heap.size + 1) a b c n x y z ∧ W.heap[w.heap.size + 1 + 1]? = some (.cells #[.int .i64 r.kind, .int .i64 r.vol, .int .i64 r.arg, .int .i64 r.chunk] 75 (0, 0))
theorem WrSt.below {w W W' : World} {q : Ak} {a b c : Value} {n x y z : Int} {r : Rc} (h : WrSt w W q a b c n x y z r) (hb : Below W.heap.size W W') : WrSt w W' q a b c n x y z r :=
 ⟨h.1.trans (hb.mono h.1.size), h.2.1.below hb, h.2.2.1.below hb, (hb.block _ (Array.getElem?_eq_some_iff.1 h.2.2.2).1).trans h.2.2.2⟩
theorem WrSt.set {w W : World} {q : Ak} {a b c : Value} {n x y z k v g m : Int} (h : WrSt w W q a b c n x y z ⟨k, v, g, m⟩) (m' : Int) : WrSt w (W.setCell ⟨w.heap.size + 1 + 1, 3, none⟩ (.int .i64 m')) q a b c n x y z ⟨k, v, g, m'⟩ :=
 ⟨h.1.setCell (p := ⟨w.heap.size + 1 + 1, 3, none⟩) (by show _ ≤ w.heap.size + 1 + 1; omega) _, h.2.1.far (by omega), h.2.2.1.far (by omega), heap_setCell_same _ _ 3 _ _ _ h.2.2.2⟩
theorem wr_new (w : World) (k v s o : Int) (t : ByteArray) (a b c : Value) (n x y z : Int) (r : Rc) : WrSt w (((w.alloc (.cells #[.int .i64 k, .int .i64 v, .int .i64 s, .int .i64 o, .string t] 26)).alloc (.cells #[a, b, c, .int .i64 n, .int .i64 x, .int .i64 y, .int .i64 z] 54)).alloc (.cells #[.int .i64 r.kind, .int .i64 r.vol, .int .i64 r.arg, .int .i64 r.chunk] 75)) ⟨k, v, s, o, t⟩ a b c n x y z r := by
 obtain ⟨h1, h2, h3⟩ := qd_new w k v s o t a b c n x y z
 have hz : ((w.alloc (.cells #[.int .i64 k, .int .i64 v, .int .i64 s, .int .i64 o, .string t] 26)).alloc (.cells #[a, b, c, .int .i64 n, .int .i64 x, .int .i64 y, .int .i64 z] 54)).heap.size = w.heap.size + 1 + 1 := by simp
 generalize (w.alloc (.cells #[.int .i64 k, .int .i64 v, .int .i64 s, .int .i64 o, .string t] 26)).alloc (.cells #[a, b, c, .int .i64 n, .int .i64 x, .int .i64 y, .int .i64 z] 54) = W at h1 h2 h3 hz
 have b := (Below.refl W.heap.size W).alloc (Nat.le_refl _) (.cells #[.int .i64 r.kind, .int .i64 r.vol, .int .i64 r.arg, .int .i64 r.chunk] 75)
 refine ⟨h1.trans (b.mono h1.size), h2.below b, h3.below b, ?_⟩
 rw [← hz]
 exact heap_alloc_new _ _
theorem iplWrite (q : Ak) (x : Value) (d : Dv) (w : World) (h : DvIn w x d) (ht : q.text.size ≤ 1048576) (hH : HalvIn w) (hS : StepIn w) : Calls Tryz.prog 69 #[akV q, x] w (PnOut w (wrP d q)) := by
 obtain ⟨k, v, s, o, t⟩ := q
 obtain ⟨fd, fc, va, vl, vc, ad, ln, cap, rfl, h1, h2, h3⟩ := h.form
 unfold akV
 simp only at ht ⊢
 have W0 := hide (wr_new w k v s o t (.slice fd d.flash.length fc) (.slice va vl vc) (.slice ad ln cap) d.store.next d.seq d.tx d.base ⟨4, v, s, 0⟩)
 simp only at W0
 obtain ⟨R, hR⟩ : ∃ R, wrP d ⟨k, v, s, o, t⟩ = R := ⟨_, rfl⟩
 rw [hR]
 have HR : Hid ((if sameP (scanF d.flash) (liveS d.store) t.data.toList = 0 then ([⟨4, v, s, d.store.next⟩], packB t) else ([⟨4, v, s, sameP (scanF d.flash) (liveS d.store) t.data.toList⟩], noT)) = R) := hR
 have HLB : Hid ((liveS d.store).length ≤ 16777216) := by
  have e1 := live_bound d.store
  have e2 := (stin_vols h3).1
  have e3 := (stin_vols h3).2.1
  show _ ≤ _
  omega
 obtain ⟨q0, q1, q2, q3, q4⟩ := (qd_new w k v s o t (.slice fd d.flash.length fc) (.slice va vl vc) (.slice ad ln cap) d.store.next d.seq d.tx d.base).2.1.cells
 simp only at q0 q1 q2 q3 q4
 have H1 := hide h1
 have H2 := hide h2
 have H3 := hide h3
 have HH := hide hH
 have HST := hide hS
 clear h h1 h2 h3 hH hS hR
 go_enter Tryz.func69, Tryz.ntmps69
 go_upto_region 2 with fail
 generalize ((w.alloc (.cells #[.int .i64 k, .int .i64 v, .int .i64 s, .int .i64 o, .string t] 26)).alloc (.cells #[.slice fd d.flash.length fc, .slice va vl vc, .slice ad ln cap, .int .i64 d.store.next, .int .i64 d.seq, .int .i64 d.tx, .int .i64 d.base] 54)).alloc (.cells #[.int .i64 4, .int .i64 v, .int .i64 s, .int .i64 0] 75) = wa at W0 ⊢
 clear q0 q1 q2 q3 q4
 have WD := hide (W0.out.below (W' := wa.drew) (Below.refl _ _).drew)
 have CL := hide (ilive _ d.store wa.drew (H3.out.below WD.out.1))
 have SD : wa.drew.cell? ⟨w.heap.size + 1, 0, none⟩ = some (.slice fd d.flash.length fc) ∧ wa.drew.cell? ⟨w.heap.size + 1, 1, none⟩ = some (.slice va vl vc) ∧ wa.drew.cell? ⟨w.heap.size + 1, 2, none⟩ = some (.slice ad ln cap) ∧ wa.drew.cell? ⟨w.heap.size + 1, 3, none⟩ = some (.int .i64 d.store.next) ∧ wa.drew.cell? ⟨w.heap.size, 4, none⟩ = some (.string t) := ⟨WD.out.2.2.1.cells.1, WD.out.2.2.1.cells.2.1, WD.out.2.2.1.cells.2.2.1, WD.out.2.2.1.cells.2.2.2.1, WD.out.2.1.cells.2.2.2.2⟩
 obtain ⟨C, hC⟩ : ∃ C, sameP (scanF d.flash) (liveS d.store) t.data.toList = C := ⟨_, rfl⟩
 have HC := hide hC
 rw [hC] at HR
 obtain ⟨L, hL⟩ : ∃ L, liveS d.store = L := ⟨_, rfl⟩
 rw [hL] at CL HC HLB
 clear hC hL W0
 go_region_held3 (fun w' => w'.cell? ⟨w.heap.size + 1, 0, none⟩ = some (.slice fd d.flash.length fc) ∧ w'.cell? ⟨w.heap.size + 1, 1, none⟩ = some (.slice va vl vc) ∧ w'.cell? ⟨w.heap.size + 1, 2, none⟩ = some (.slice ad ln cap) ∧ w'.cell? ⟨w.heap.size + 1, 3, none⟩ = some (.int .i64 d.store.next) ∧ w'.cell? ⟨w.heap.size, 4, none⟩ = some (.string t)) (first | (with_reducible exact SD) | (with_reducible exact SE) | (with_reducible exact SF) | (with_reducible exact SG) | go_keep) (first
  | (go_at_call 101; (with_reducible refine Calls.mono CL.out ?_); rintro e w1 ⟨lv, rfl, ho, b1⟩; obtain ⟨la, lc, rfl, hi⟩ := ints_row ho (by have := HLB.out; unfold maxLen; omega); have W1 := hide (WD.out.below b1); have SE : w1.cell? ⟨w.heap.size + 1, 0, none⟩ = some (.slice fd d.flash.length fc) ∧ w1.cell? ⟨w.heap.size + 1, 1, none⟩ = some (.slice va vl vc) ∧ w1.cell? ⟨w.heap.size + 1, 2, none⟩ = some (.slice ad ln cap) ∧ w1.cell? ⟨w.heap.size + 1, 3, none⟩ = some (.int .i64 d.store.next) ∧ w1.cell? ⟨w.heap.size, 4, none⟩ = some (.string t) := ⟨W1.out.2.2.1.cells.1, W1.out.2.2.1.cells.2.1, W1.out.2.2.1.cells.2.2.1, W1.out.2.2.1.cells.2.2.2.1, W1.out.2.1.cells.2.2.2.2⟩; obtain ⟨rs, e1, i1, l1, ll1, tb1⟩ := (H1.out.below W1.out.1).lens H2.out; have CF := hide (ifind (.slice fd d.flash.length fc) rs la L.length lc L t w1 l1 ll1 tb1 i1 HLB.out hi ht (HH.out.on W1.out.1) (HST.out.on W1.out.1)); rw [e1, HC.out] at CF; clear ho b1 hi e1 i1 l1 ll1 tb1)
  | (go_at_call 100; (with_reducible refine Calls.mono CF.out ?_); rintro e w2 ⟨rfl, b2⟩; have W2 := hide (W1.out.below b2); have WF := hide (W2.out.set C); have SF : w2.cell? ⟨w.heap.size + 1, 0, none⟩ = some (.slice fd d.flash.length fc) ∧ w2.cell? ⟨w.heap.size + 1, 1, none⟩ = some (.slice va vl vc) ∧ w2.cell? ⟨w.heap.size + 1, 2, none⟩ = some (.slice ad ln cap) ∧ w2.cell? ⟨w.heap.size + 1, 3, none⟩ = some (.int .i64 d.store.next) ∧ w2.cell? ⟨w.heap.size, 4, none⟩ = some (.string t) := ⟨W2.out.2.2.1.cells.1, W2.out.2.2.1.cells.2.1, W2.out.2.2.1.cells.2.2.1, W2.out.2.2.1.cells.2.2.2.1, W2.out.2.1.cells.2.2.2.2⟩; have SG : (w2.setCell ⟨w.heap.size + 1 + 1, 3, none⟩ (.int .i64 C)).cell? ⟨w.heap.size + 1, 0, none⟩ = some (.slice fd d.flash.length fc) ∧ (w2.setCell ⟨w.heap.size + 1 + 1, 3, none⟩ (.int .i64 C)).cell? ⟨w.heap.size + 1, 1, none⟩ = some (.slice va vl vc) ∧ (w2.setCell ⟨w.heap.size + 1 + 1, 3, none⟩ (.int .i64 C)).cell? ⟨w.heap.size + 1, 2, none⟩ = some (.slice ad ln cap) ∧ (w2.setCell ⟨w.heap.size + 1 + 1, 3, none⟩ (.int .i64 C)).cell? ⟨w.heap.size + 1, 3, none⟩ = some (.int .i64 d.store.next) ∧ (w2.setCell ⟨w.heap.size + 1 + 1, 3, none⟩ (.int .i64 C)).cell? ⟨w.heap.size, 4, none⟩ = some (.string t) := ⟨WF.out.2.2.1.cells.1, WF.out.2.2.1.cells.2.1, WF.out.2.2.1.cells.2.2.1, WF.out.2.2.1.cells.2.2.2.1, WF.out.2.1.cells.2.2.2.2⟩; have r3 := cell_of_row _ _ 3 _ _ _ W2.out.2.2.2; have r4 := frozen_of_row _ _ 3 _ _ W2.out.2.2.2; clear b2))
 all_goals
  generalize w2.setCell ⟨w.heap.size + 1 + 1, 3, none⟩ (.int .i64 C) = w3 at WF ⊢
  clear SD SE SF SG r3 r4 CF CL W1 W2 WD
  have r0 := cell_of_row _ _ 0 _ _ _ WF.out.2.2.2
  have r1 := cell_of_row _ _ 1 _ _ _ WF.out.2.2.2
  have r2 := cell_of_row _ _ 2 _ _ _ WF.out.2.2.2
  have r3 := cell_of_row _ _ 3 _ _ _ WF.out.2.2.2
  simp only at r0 r1 r2 r3
  by_cases c0 : (C != 0) = true
  ·have HE : Hid (([⟨4, v, s, C⟩], noT) = R) := by show _ = _; rw [← HR.out, if_neg (by simpa using c0)]
   have FO := hide (pn_one WF.out.1 ⟨4, v, s, C⟩ noT)
   rw [HE.out] at FO
   unfold noT at FO
   simp only at FO
   clear HR
   go_wp2
   refine bodyPost_ret (results_tmp2 rfl _ _ _) rfl ?_
   exact FO.out
  ·have c0 : (C != 0) = false := by simpa using c0
   have HE : Hid (([⟨4, v, s, d.store.next⟩], packB t) = R) := by show _ = _; rw [← HR.out, if_pos (by simpa using c0)]
   have c3 := WF.out.2.2.1.cells.2.2.2.1
   have f3 := frozen_of_row _ _ 3 _ _ WF.out.2.2.2
   have W4 := hide (WF.out.set d.store.next)
   clear HR
   go_upto_region 6 with fail
   generalize w3.setCell ⟨w.heap.size + 1 + 1, 3, none⟩ (.int .i64 d.store.next) = w4 at W4 ⊢
   clear r0 r1 r2 r3 c3 f3 WF
   obtain ⟨pb, hpb⟩ := pack_is t
   have CP := hide (ipack_any t w4)
   rw [hpb] at CP
   have q4 := W4.out.2.1.cells.2.2.2.2
   simp only at q4
   clear hpb
   go_wp2_with fail
   refine CP.out.mono ?_
   rintro e w5 ⟨rfl, b5⟩
   have W5 := hide (W4.out.below b5)
   have r0 := cell_of_row _ _ 0 _ _ _ W5.out.2.2.2
   have r1 := cell_of_row _ _ 1 _ _ _ W5.out.2.2.2
   have r2 := cell_of_row _ _ 2 _ _ _ W5.out.2.2.2
   have r3 := cell_of_row _ _ 3 _ _ _ W5.out.2.2.2
   simp only at r0 r1 r2 r3
   have FO := hide (pn_one W5.out.1 ⟨4, v, s, d.store.next⟩ (packB t))
   rw [HE.out] at FO
   have HE2 : Hid (packB t = R.2) := by show _ = _; rw [← HE.out]
   simp only at FO
   clear CP b5 W4 q4 HE
   go_wp2
   refine bodyPost_ret (results_tmp2 rfl _ _ _) rfl ?_
   exact FO.out
def PqSt (w W : World) (q : Ak) (a b c : Value) (n x y z : Int) (g : Nat) (kc : Kd) : Prop := Below w.heap.size w W ∧ AkAt W (w.heap.size + 1) q ∧ DAt W w.heap.size a b c n x y z ∧ KdAt W g kc
theorem PqSt.below {w W W' : World} {q : Ak} {a b c : Value} {n x y z : Int} {g : Nat} {kc : Kd} (h : PqSt w W q a b c n x y z g kc) (hb : Below W.heap.size W W') : PqSt w W' q a b c n x y z g kc :=
 ⟨h.1.trans (hb.mono h.1.size), h.2.1.below hb, h.2.2.1.below hb, h.2.2.2.below hb⟩
theorem plan_out {w W W' : World} {p : List Rc × ByteArray} {e : Ending} (b : Below w.heap.size w W) (h : PnOut W p e W') : ∃ a c, e = .returned (.tuple #[.slice a p.1.length c, .string p.2]) ∧ PlOut w (p.1, p.2, 0) (.returned (.tuple #[.slice a p.1.length c, .string p.2, .int .i64 0])) W' := by
 obtain ⟨x, rfl, ho, hb⟩ := h
 obtain ⟨a, c, rfl⟩ := rows_form ho
 exact ⟨a, c, rfl, _, rfl, own_lower ho b.size, b.trans (hb.mono b.size)⟩
theorem plan_no {w W : World} (b : Below w.heap.size w W) (c : Int) : PlOut w ([], noT, c) (.returned (.tuple #[.slice none 0 0, .string ⟨#[]⟩, .int .i64 c])) W := ⟨_, rfl, World.ownsRow_nil _ _ _ _, b⟩
theorem iplanK (k v s o : Int) (t : ByteArray) (x : Value) (d : Dv) (w : World) (code : Int) (val : List Rc × ByteArray) (n1 n2 : Nat) (C1 C2 C3 C4 : Int) (h : DvIn w x d) (hok : akB ⟨k, v, s, o, t⟩ = true) (ek : kd k = ⟨C1, C2, C3, C4, .func (.func n1) #[] #[], .func (.func n2) #[] #[]⟩)
 (hr : ∀ W, Below w.heap.size w W → Calls Tryz.prog n1 #[.agg #[.int .i64 k, .int .i64 v, .int .i64 s, .int .i64 o, .string t], x] W fun e w' => e = .returned (.int .i64 code) ∧ Below W.heap.size W w')
 (hv : ∀ W, Below w.heap.size w W → Calls Tryz.prog n2 #[.agg #[.int .i64 k, .int .i64 v, .int .i64 s, .int .i64 o, .string t], x] W (PnOut W val)) (he1 : ∀ l W, (callFunc n1 l).run Tryz.prog W = .ok (.enter n1 l) W) (he2 : ∀ l W, (callFunc n2 l).run Tryz.prog W = .ok (.enter n2 l) W) (Q : List Rc × ByteArray × Int) (hp : Q = if code = 0 then (val.1, val.2, 0) else ([], noT, code)) : Calls Tryz.prog 13 #[x, akV ⟨k, v, s, o, t⟩] w (PlOut w Q) := by
 obtain ⟨fd, fc, va, vl, vc, ad, ln, cap, rfl, h1, h2, h3⟩ := h.form
 have HP := hide hp
 have HRF := hide hr
 have HVF := hide hv
 have CK := hide (irightK ⟨k, v, s, o, t⟩ ((w.alloc (.cells #[.slice fd d.flash.length fc, .slice va vl vc, .slice ad ln cap, .int .i64 d.store.next, .int .i64 d.seq, .int .i64 d.tx, .int .i64 d.base] 54)).alloc (.cells #[.int .i64 k, .int .i64 v, .int .i64 s, .int .i64 o, .string t] 26)))
 rw [hok] at CK
 simp only at CK
 rw [ek] at CK
 unfold akV kdV at CK
 unfold akV
 simp only at CK ⊢
 have hN := dq_new w k v s o t (.slice fd d.flash.length fc) (.slice va vl vc) (.slice ad ln cap) d.store.next d.seq d.tx d.base
 generalize hwa : (w.alloc (.cells #[.slice fd d.flash.length fc, .slice va vl vc, .slice ad ln cap, .int .i64 d.store.next, .int .i64 d.seq, .int .i64 d.tx, .int .i64 d.base] 54)).alloc (.cells #[.int .i64 k, .int .i64 v, .int .i64 s, .int .i64 o, .string t] 26) = wa at hN CK
 obtain ⟨bA, aA, gA⟩ := hN
 obtain ⟨q0, q1, q2, q3, q4⟩ := aA.cells
 simp only at q0 q1 q2 q3 q4
 have HB := hide bA
 have HA := hide aA
 have HG := hide gA
 clear bA aA gA h h1 h2 h3 hp ek hok hr hv
 go_enter Tryz.func13, Tryz.ntmps13
 go_wp2_with fail
 clear hwa
 refine CK.out.mono ?_
 rintro e w1 ⟨rfl, b1⟩
 have PS : Hid (PqSt w (w1.alloc (.cells #[.int .i64 C1, .int .i64 C2, .int .i64 C3, .int .i64 C4, .func (.func n1) #[] #[], .func (.func n2) #[] #[]] 68)) ⟨k, v, s, o, t⟩ (.slice fd d.flash.length fc) (.slice va vl vc) (.slice ad ln cap) d.store.next d.seq d.tx d.base w1.heap.size ⟨C1, C2, C3, C4, .func (.func n1) #[] #[], .func (.func n2) #[] #[]⟩) := by
  have b2 := b1.trans (((Below.refl w1.heap.size w1).alloc (Nat.le_refl _) (.cells #[.int .i64 C1, .int .i64 C2, .int .i64 C3, .int .i64 C4, .func (.func n1) #[] #[], .func (.func n2) #[] #[]] 68)).mono b1.size)
  exact ⟨HB.out.trans (b2.mono HB.out.size), HA.out.below b2, HG.out.below b2, heap_alloc_new _ _⟩
 clear CK HB HA HG b1 q0 q1 q2 q3 q4
 go_upto_region 4 with fail
 generalize w1.alloc (.cells #[.int .i64 C1, .int .i64 C2, .int .i64 C3, .int .i64 C4, .func (.func n1) #[] #[], .func (.func n2) #[] #[]] 68) = w2 at PS ⊢
 have HCR := hide (HRF.out w2 PS.out.1)
 obtain ⟨q0, q1, q2, q3, q4⟩ := PS.out.2.1.cells
 simp only at q0 q1 q2 q3 q4
 obtain ⟨c0, c1, c2, c3, c4, c5, c6⟩ := PS.out.2.2.1.cells
 obtain ⟨-, -, -, -, k4, k5⟩ := PS.out.2.2.2.cells
 simp only at k4 k5
 clear HRF
 go_wp2_with fail
 refine HCR.out.mono ?_
 rintro e w3 ⟨rfl, b3⟩
 have P3 := hide (PS.out.below b3)
 clear HCR PS b3 q0 q1 q2 q3 q4 c0 c1 c2 c3 c4 c5 c6 k4 k5
 by_cases z : (code != 0) = true
 ·have HE : Hid (Q = ([], noT, code)) := by show _ = _; rw [HP.out, if_neg (by simpa using z)]
  clear HP HVF
  go_wp2
  go_ret3
  rw [HE.out]
  exact plan_no P3.out.1 code
 ·have z : (code != 0) = false := by simpa using z
  have HE : Hid (Q = (val.1, val.2, 0)) := by show _ = _; rw [HP.out, if_pos (by simpa using z)]
  have B2 := hide P3.out.1
  have HCP := hide (HVF.out w3 B2.out)
  obtain ⟨q0, q1, q2, q3, q4⟩ := P3.out.2.1.cells
  simp only at q0 q1 q2 q3 q4
  obtain ⟨c0, c1, c2, c3, c4, c5, c6⟩ := P3.out.2.2.1.cells
  obtain ⟨-, -, -, -, k4, k5⟩ := P3.out.2.2.2.cells
  simp only at k4 k5
  clear HP HVF
  go_wp2_with fail
  refine HCP.out.mono ?_
  intro e w4 h4
  obtain ⟨pa, pc, rfl, h5⟩ := plan_out B2.out h4
  have FO := hide h5
  rw [← HE.out] at FO
  clear h4 h5 HCP P3 q0 q1 q2 q3 q4 c0 c1 c2 c3 c4 c5 c6 k4 k5
  go_wp2
  go_ret3
  exact FO.out
theorem iplan (x : Value) (d : Dv) (q : Ak) (w : World) (h : DvIn w x d) (hH : HalvIn w) (hS : StepIn w) : Calls Tryz.prog 13 #[x, akV q] w (PlOut w (planP d q)) := by
 obtain ⟨k, v, s, o, t⟩ := q
 cases hok : akB ⟨k, v, s, o, t⟩ with
 | true =>
  have hk : 1 ≤ k ∧ k ≤ 6 := by
   have := hok
   rw [akB_is] at this
   exact (of_decide_eq_true this).1
  have ht : t.size ≤ 64 := by
   have := hok
   unfold akB at this
   simp only at this
   split at this
   ·simp at this
   ·rename_i hx
    omega
  obtain rfl | rfl | rfl | rfl | rfl | rfl : k = 1 ∨ k = 2 ∨ k = 3 ∨ k = 4 ∨ k = 5 ∨ k = 6 := by omega
  ·exact iplanK 1 v s o t x d w (refO d ⟨1, v, s, o, t⟩) (wrP d ⟨1, v, s, o, t⟩) _ _ _ _ _ _ h hok rfl (fun W b => irefO ⟨1, v, s, o, t⟩ x d W (h.below b)) (fun W b => iplWrite ⟨1, v, s, o, t⟩ x d W (h.below b) (show t.size ≤ 1048576 by omega) (hH.on b) (hS.on b)) Tryz.call68 Tryz.call69 _ (by rw [plan_ref hok]; simp [refK, plK])
  ·exact iplanK 2 v s o t x d w (refO d ⟨2, v, s, o, t⟩) (([⟨5, v, s, 0⟩], noT)) _ _ _ _ _ _ h hok rfl (fun W b => irefO ⟨2, v, s, o, t⟩ x d W (h.below b)) (fun W b => iplTrim ⟨2, v, s, o, t⟩ x d W (h.below b)) Tryz.call68 Tryz.call70 _ (by rw [plan_ref hok]; simp [refK, plK])
  ·exact iplanK 3 v s o t x d w (refN d ⟨3, v, s, o, t⟩) (([⟨2, v, o, 0⟩], noT)) _ _ _ _ _ _ h hok rfl (fun W b => irefN ⟨3, v, s, o, t⟩ x d W (h.below b)) (fun W b => iplVol ⟨3, v, s, o, t⟩ x d W (h.below b)) Tryz.call71 Tryz.call72 _ (by rw [plan_ref hok]; simp [refK, plK])
  ·exact iplanK 4 v s o t x d w (refN d ⟨4, v, s, o, t⟩) (([⟨2, v, o, 0⟩], noT)) _ _ _ _ _ _ h hok rfl (fun W b => irefN ⟨4, v, s, o, t⟩ x d W (h.below b)) (fun W b => iplVol ⟨4, v, s, o, t⟩ x d W (h.below b)) Tryz.call71 Tryz.call72 _ (by rw [plan_ref hok]; simp [refK, plK])
  ·exact iplanK 5 v s o t x d w (refO d ⟨5, v, s, o, t⟩) (([⟨3, v, 0, 0⟩], noT)) _ _ _ _ _ _ h hok rfl (fun W b => irefO ⟨5, v, s, o, t⟩ x d W (h.below b)) (fun W b => iplDrop ⟨5, v, s, o, t⟩ x d W (h.below b)) Tryz.call68 Tryz.call73 _ (by rw [plan_ref hok]; simp [refK, plK])
  ·exact iplanK 6 v s o t x d w (refO d ⟨6, v, s, o, t⟩) (([], noT)) _ _ _ _ _ _ h hok rfl (fun W b => irefO ⟨6, v, s, o, t⟩ x d W (h.below b)) (fun W b => iplNone ⟨6, v, s, o, t⟩ x d W (h.below b)) Tryz.call68 Tryz.call74 _ (by rw [plan_ref hok]; simp [refK, plK])
 | false =>
  obtain ⟨fd, fc, va, vl, vc, ad, ln, cap, rfl, -⟩ := h.form
  have hp := plan_wrong (d := d) hok
  rw [hp]
  have hc : ∃ c1 c2 c3 c4 v1 v2, kd k = ⟨c1, c2, c3, c4, v1, v2⟩ ∧ ((v1 = .nilFunc ∧ v2 = .nilFunc) ∨ ∃ n1 n2, v1 = .func (.func n1) #[] #[] ∧ v2 = .func (.func n2) #[] #[]) := by
   by_cases h : 1 ≤ k ∧ k ≤ 6
   ·obtain ⟨c1, c2, c3, c4, n1, n2, e⟩ := kd_in h
    exact ⟨_, _, _, _, _, _, e, .inr ⟨_, _, rfl, rfl⟩⟩
   ·exact ⟨_, _, _, _, _, _, kd_not h, .inl ⟨rfl, rfl⟩⟩
  obtain ⟨k1, k2, k3, k4, v1, v2, hc, hv⟩ := hc
  have CK := hide (irightK ⟨k, v, s, o, t⟩ ((w.alloc (.cells #[.slice fd d.flash.length fc, .slice va vl vc, .slice ad ln cap, .int .i64 d.store.next, .int .i64 d.seq, .int .i64 d.tx, .int .i64 d.base] 54)).alloc (.cells #[.int .i64 k, .int .i64 v, .int .i64 s, .int .i64 o, .string t] 26)))
  rw [hok] at CK
  simp only at CK
  rw [hc] at CK
  unfold akV kdV at CK
  unfold akV
  simp only at CK ⊢
  have hN := dq_new w k v s o t (.slice fd d.flash.length fc) (.slice va vl vc) (.slice ad ln cap) d.store.next d.seq d.tx d.base
  generalize hwa : (w.alloc (.cells #[.slice fd d.flash.length fc, .slice va vl vc, .slice ad ln cap, .int .i64 d.store.next, .int .i64 d.seq, .int .i64 d.tx, .int .i64 d.base] 54)).alloc (.cells #[.int .i64 k, .int .i64 v, .int .i64 s, .int .i64 o, .string t] 26) = wa at hN CK
  obtain ⟨bA, aA, gA⟩ := hN
  obtain ⟨q0, q1, q2, q3, q4⟩ := aA.cells
  simp only at q0 q1 q2 q3 q4
  have HB := hide bA
  clear bA aA gA h hp hc hok hH hS
  rcases hv with ⟨rfl, rfl⟩ | ⟨n1, n2, rfl, rfl⟩
  all_goals
   go_enter Tryz.func13, Tryz.ntmps13
   go_wp2_with fail
   clear hwa
   refine CK.out.mono ?_
   rintro e w1 ⟨rfl, b1⟩
   have FB := hide (HB.out.trans (b1.mono HB.out.size))
   clear b1 CK HB q0 q1 q2 q3 q4
   go_wp2
   go_ret3
   exact plan_no (FB.out.alloc FB.out.size _) 3
end Go.Proofs.YtcjgjkejhkhknacGreatDoor
