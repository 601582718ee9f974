/-
  The draw of steps: spec.l08Steps.
-/
import Derived.Test.YtcjgjkejhkhknaaLs
import Derived.Deep.DeepCutAuto
namespace Go.Proofs.Ytcjgjkejhkhknaa
open Go.RowKit

theorem one_st (k b lf : Int) (t : ByteArray) : ∀ u ∈ [Value.int .i64 k, Value.int .i64 b, Value.int .i64 lf, Value.string t], u.oneCell' = true := by
  intro u hu
  simp at hu
  rcases hu with h | h | h | h <;> subst h <;> rfl
/-- What the draw answers: at most seven steps, in a row of its own. -/
def StepsD (w : World) (p : Nat) (ad : Option Addr) (len cap : Nat) (e : Ending) (w' : World) : Prop := ∃ g c l, e = .returned (.slice (some ⟨g, 0, none⟩) l.length c) ∧ l.length ≤ 7 ∧ w'.ownsRow (w.heap.size + 1) 49 4 (.slice (some ⟨g, 0, none⟩) l.length c) l.length (stcells l) ∧ Drawn w w' p ad len cap

set_option maxHeartbeats 8000000 in
set_option maxRecDepth 100000 in
theorem l08Steps_any (p : Nat) (ad : Option Addr) (len cap B : Nat) (v : Value) (bs : List Bk) (w : World) (hl : len ≤ 1048576) (hc : CurIn w p ad len cap) (hd : CodeIn w ad len B) (hB : B ≤ p) (hs : Sml bs) (hf : RdP p w v bs) :
    Calls Try.prog 55 #[.pointer (some ⟨p, 0, none⟩), .agg #[v]] w (StepsD w p ad len cap) := by
  obtain ⟨i0, hi0, hz0, hz1, hz2⟩ := info_parts infoSt
  obtain ⟨vd, vc, rfl⟩ := hf.rdb.form
  have hpw := hc.2.2.2.2.2
  have HD := hide hd
  have HS := hide hs
  have T0 := hide (Tk.three w #[.slice vd bs.length vc] #[] #[.slice vd bs.length vc] 28 49 28)
  have B0 := T0.out.1
  have o0 : (((w.alloc (.cells #[.slice vd bs.length vc] 28)).alloc (.cells #[] 49)).alloc (.cells #[.slice vd bs.length vc] 28)).ownsRow (w.heap.size + 1) 49 4 (.slice (some ⟨w.heap.size + 1, 0, none⟩) 0 0) 0 (stcells []) :=
    ⟨rfl, .inr ⟨w.heap.size + 1, 0, #[], rfl, Nat.le_refl _, T0.out.get 1 rfl, Nat.le_refl _, by unfold maxLen; omega, rfl, rfl⟩⟩
  have LB0 : Hid (Lb w (((w.alloc (.cells #[.slice vd bs.length vc] 28)).alloc (.cells #[] 49)).alloc (.cells #[.slice vd bs.length vc] 28)) p ad len cap (.slice vd bs.length vc) (.slice (some ⟨w.heap.size + 1, 0, none⟩) 0 0) bs []) :=
    ⟨(Drawn.refl hc).below B0 hpw, T0.out.get 0 rfl, hf.kept (Kept2.below B0), o0⟩
  clear hc hd hs hf B0 o0 T0
  go_enter Try.func55, Try.ntmps55
  go_wp2
  generalize ((w.alloc (.cells #[.slice vd bs.length vc] 28)).alloc (.cells #[] 49)).alloc (.cells #[.slice vd bs.length vc] 28) = wa at LB0 ⊢
  go_loopw [5, 7] (fun uv iv wr => ∃ (i ug uc : Nat) (l : List Stp) (nv : Value) (cs : List Bk), i ≤ 7 ∧ iv = .int .i64 i ∧ uv = .slice (some ⟨ug, 0, none⟩) l.length uc ∧ l.length ≤ i ∧ Hid (Sml cs) ∧ Hid (Lb w wr p ad len cap nv (.slice (some ⟨ug, 0, none⟩) l.length uc) cs l)) (fun _ iv _ => 7 - (intOf iv).toNat)
  case atStart => exact ⟨0, w.heap.size + 1, 0, [], _, bs, by omega, rfl, rfl, by simp, HS, LB0⟩
  case round =>
    obtain ⟨i, ug, uc, l, nv, cs, hi7, rfl, rfl, hli, HC, LB⟩ := hrel
    clear LB0
    obtain ⟨nd, nc, rfl⟩ := LB.out.2.2.1.rdb.form
    have L0 := hide (Ls.start LB.out)
    have hww : w.heap.size ≤ wr.heap.size := LB.out.1.1.size
    have h2w : w.heap.size + 1 + 1 < wr.heap.size := (Array.getElem?_eq_some_iff.1 LB.out.2.1).1
    have C0 := hide (below_any 7 p ad len cap B wr (by omega) hl L0.out.1.2 (L0.out.code HD.out hB hpw) hB)
    go_wp2_with fail
    refine C0.out.mono ?_
    rintro e x1 ⟨y, rfl, y0, y1, -, d1⟩
    have y2 := y1 (by omega)
    have L1 := hide (L0.out.drawn d1)
    clear d1 C0 L0 y1
    by_cases hlt : (i : Int) < y
    · have C1 := hide (below_any 5 p ad len cap B x1 (by omega) hl L1.out.1.2 (L1.out.code HD.out hB hpw) hB)
      go_wp2_with fail
      refine C1.out.mono ?_
      rintro e x2 ⟨y5, rfl, y50, y51, -, d2⟩
      have y52 := y51 (by omega)
      have L2 := hide (L1.out.drawn d2)
      clear d2 C1 L1 y51
      have hw1 : IntKind.i64.wrap (1 + y5) = 1 + y5 := by rw [IntKind.wrap_i64]; omega
      have C2 := hide (text_any (1 + y5) p ad len cap B x2 hl L2.out.1.2 (L2.out.code HD.out hB hpw) hB)
      go_wp2_with fail
      refine C2.out.mono ?_
      rintro e x3 ⟨t, rfl, -, -, d3⟩
      have L3 := hide ((L2.out.drawn d3).below hpw ((Below.refl _ _).alloc (Nat.le_refl _) (.cells #[.int .i64 1, .int .i64 0, .int .i64 0, .string ⟨t.toArray⟩] 49)))
      have hsc : wr.heap.size ≤ x3.heap.size := (L2.out.drawn d3).2.2.2.2.1
      have SC := hide (heap_alloc_new x3 (.cells #[.int .i64 1, .int .i64 0, .int .i64 0, .string ⟨t.toArray⟩] 49))
      obtain ⟨sc, hsce⟩ : ∃ sc, x3.heap.size = sc := ⟨_, rfl⟩
      rw [hsce] at hsc SC
      clear d3 C2 L2 hw1
      have nw : (x3.alloc (.cells #[.int .i64 1, .int .i64 0, .int .i64 0, .string ⟨t.toArray⟩] 49)).cell? ⟨w.heap.size + 1 + 1, 0, none⟩ = some (.slice nd cs.length nc) := cell_of_row _ _ 0 _ _ _ (LB.out.now L3.out hpw)
      have C3 := hide (splace_b (.slice nd cs.length nc) cs (x3.alloc (.cells #[.int .i64 1, .int .i64 0, .int .i64 0, .string ⟨t.toArray⟩] 49)) HC.out (LB.out.rdb L3.out))
      obtain ⟨pb, pl, pok, hpl⟩ : ∃ pb pl pok, placeF cs = (pb, pl, pok) := ⟨_, _, _, rfl⟩
      rw [hpl] at C3
      unfold plV at C3
      simp only at C3
      clear hpl
      go_wp2_with fail
      try rw [hsce]
      generalize x3.alloc (.cells #[.int .i64 1, .int .i64 0, .int .i64 0, .string ⟨t.toArray⟩] 49) = x4 at L3 SC C3 nw ⊢
      clear hsce
      refine C3.out.mono ?_
      rintro e x5 ⟨rfl, b5⟩
      have L5 := hide (L3.out.below hpw b5)
      have SC1 := hide ((b5.block _ (Array.getElem?_eq_some_iff.1 SC.out).1).trans SC.out)
      clear b5 C3 L3 nw SC
      have v1 : x5.cell? ⟨sc, 1, none⟩ = some (.int .i64 0) := cell_of_row _ _ 1 _ _ _ SC1.out
      have v2 : x5.cell? ⟨sc, 2, none⟩ = some (.int .i64 0) := cell_of_row _ _ 2 _ _ _ SC1.out
      have g1 := frozen_of_row _ _ 1 _ _ SC1.out
      have g2 := frozen_of_row _ _ 2 _ _ SC1.out
      have L6 := hide ((L5.out.put (o := 1) hpw hww hsc (.int .i64 pb)).put (o := 2) hpw hww hsc (.int .i64 pl))
      have SC : Hid (((x5.setCell ⟨sc, 1, none⟩ (.int .i64 pb)).setCell ⟨sc, 2, none⟩ (.int .i64 pl)).heap[sc]? = some (.cells #[.int .i64 1, .int .i64 pb, .int .i64 pl, .string ⟨t.toArray⟩] 49 (0, 0))) := row_set (row_set SC1.out 1 (.int .i64 pb)) 2 (.int .i64 pl)
      clear SC1 L5
      go_upto_region 10 with fail
      clear v1 v2 g1 g2
      generalize (x5.setCell ⟨sc, 1, none⟩ (.int .i64 pb)).setCell ⟨sc, 2, none⟩ (.int .i64 pl) = x6 at L6 SC ⊢
      cases pok with
      | false =>
        have C20 := hide (below_any 4 p ad len cap B x6 (by omega) hl L6.out.1.2 (L6.out.code HD.out hB hpw) hB)
        go_wp2_with fail
        refine C20.out.mono ?_
        rintro e z20 ⟨wb, rfl, -, -, -, d20⟩
        have M20 := hide (L6.out.drawn d20)
        have SC2 := hide ((d20.1.block _ (Array.getElem?_eq_some_iff.1 SC.out).1 (fun e => by injection e with e; omega)).trans SC.out)
        clear d20 C20 L6
        have v0 : z20.cell? ⟨sc, 0, none⟩ = some (.int .i64 1) := cell_of_row _ _ 0 _ _ _ SC2.out
        have v1 : z20.cell? ⟨sc, 1, none⟩ = some (.int .i64 pb) := cell_of_row _ _ 1 _ _ _ SC2.out
        have v2 : z20.cell? ⟨sc, 2, none⟩ = some (.int .i64 pl) := cell_of_row _ _ 2 _ _ _ SC2.out
        have v3 : z20.cell? ⟨sc, 3, none⟩ = some (.string ⟨t.toArray⟩) := cell_of_row _ _ 3 _ _ _ SC2.out
        have g0 := frozen_of_row _ _ 0 _ _ SC2.out
        have g1 := frozen_of_row _ _ 1 _ _ SC2.out
        have g2 := frozen_of_row _ _ 2 _ _ SC2.out
        have g3 := frozen_of_row _ _ 3 _ _ SC2.out
        have N20 := hide ((((M20.out.put (o := 0) hpw hww hsc (.int .i64 2)).put (o := 1) hpw hww hsc (.int .i64 wb)).put (o := 2) hpw hww hsc (.int .i64 0)).put (o := 3) hpw hww hsc (.string ⟨#[]⟩))
        have SC3 : Hid (((((z20.setCell ⟨sc, 0, none⟩ (.int .i64 2)).setCell ⟨sc, 1, none⟩ (.int .i64 wb)).setCell ⟨sc, 2, none⟩ (.int .i64 0)).setCell ⟨sc, 3, none⟩ (.string ⟨#[]⟩)).heap[sc]? = some (.cells #[.int .i64 2, .int .i64 wb, .int .i64 0, .string ⟨#[]⟩] 49 (0, 0))) := row_set (row_set (row_set (row_set SC2.out 0 (.int .i64 2)) 1 (.int .i64 wb)) 2 (.int .i64 0)) 3 (.string ⟨#[]⟩)
        clear M20 SC SC2
        have SC := SC3
        clear SC3
        go_upto_region 12 with fail
        clear v0 v1 v2 v3 g0 g1 g2 g3
        generalize (((z20.setCell ⟨sc, 0, none⟩ (.int .i64 2)).setCell ⟨sc, 1, none⟩ (.int .i64 wb)).setCell ⟨sc, 2, none⟩ (.int .i64 0)).setCell ⟨sc, 3, none⟩ (.string ⟨#[]⟩) = q20 at N20 SC ⊢
        have C21 := hide (once_any 24 p ad len cap B q20 (by omega) hl N20.out.1.2 (N20.out.code HD.out hB hpw) hB)
        go_wp2_with fail
        refine C21.out.mono ?_
        rintro e y21 ⟨o21, rfl, d21⟩
        have L21 := hide (N20.out.drawn d21)
        have SC2 := hide ((d21.1.block _ (Array.getElem?_eq_some_iff.1 SC.out).1 (fun e => by injection e with e; omega)).trans SC.out)
        clear d21 C21 N20 SC
        have SC := SC2
        clear SC2
        cases o21 with
        | false =>
          have nw : y21.cell? ⟨w.heap.size + 1 + 1, 0, none⟩ = some (.slice nd cs.length nc) := cell_of_row _ _ 0 _ _ _ (LB.out.now L21.out hpw)
          have q0 : y21.cell? ⟨sc, 0, none⟩ = some (.int .i64 2) := cell_of_row _ _ 0 _ _ _ SC.out
          have q1 : y21.cell? ⟨sc, 1, none⟩ = some (.int .i64 wb) := cell_of_row _ _ 1 _ _ _ SC.out
          have q2 : y21.cell? ⟨sc, 2, none⟩ = some (.int .i64 0) := cell_of_row _ _ 2 _ _ _ SC.out
          have q3 : y21.cell? ⟨sc, 3, none⟩ = some (.string ⟨#[]⟩) := cell_of_row _ _ 3 _ _ _ SC.out
          have CD := hide (sdo_b (.slice nd cs.length nc) cs (2, wb, 0, ⟨#[]⟩) y21 HC.out (LB.out.rdb L21.out))
          obtain ⟨cs', ok, hd⟩ : ∃ cs' ok, doF cs (2, wb, 0, ⟨#[]⟩) = (cs', ok) := ⟨_, _, rfl⟩
          have HC' : Hid (Sml cs') := by have := HC.out.step (2, wb, 0, ⟨#[]⟩); rw [hd] at this; exact this
          rw [hd] at CD
          unfold stV at CD
          simp only at CD
          clear hd
          go_wp2_with fail
          refine CD.out.mono ?_
          rintro e z1 ⟨nv', rfl, fo, b1⟩
          obtain ⟨nd', nc', rfl⟩ := fo.form
          have hnx := LB.out.now L21.out hpw
          have nl := (Array.getElem?_eq_some_iff.1 hnx).1
          have n1 : z1.cell? ⟨w.heap.size + 1 + 1, 0, none⟩ = some (.slice nd cs.length nc) := cell_of_row _ _ 0 _ _ _ ((b1.block _ nl).trans hnx)
          have f1 := frozen_of_row _ _ 0 _ _ ((b1.block _ nl).trans hnx)
          have sz := row_set_ne ((b1.block _ (Array.getElem?_eq_some_iff.1 SC.out).1).trans SC.out) (show sc ≠ w.heap.size + 1 + 1 by omega) 0 (.slice nd' cs'.length nc')
          have r0 : (z1.setCell ⟨w.heap.size + 1 + 1, 0, none⟩ (.slice nd' cs'.length nc')).cell? ⟨sc, 0, none⟩ = some (.int .i64 2) := cell_of_row _ _ 0 _ _ _ sz
          have r1 : (z1.setCell ⟨w.heap.size + 1 + 1, 0, none⟩ (.slice nd' cs'.length nc')).cell? ⟨sc, 1, none⟩ = some (.int .i64 wb) := cell_of_row _ _ 1 _ _ _ sz
          have r2 : (z1.setCell ⟨w.heap.size + 1 + 1, 0, none⟩ (.slice nd' cs'.length nc')).cell? ⟨sc, 2, none⟩ = some (.int .i64 0) := cell_of_row _ _ 2 _ _ _ sz
          have r3 : (z1.setCell ⟨w.heap.size + 1 + 1, 0, none⟩ (.slice nd' cs'.length nc')).cell? ⟨sc, 3, none⟩ = some (.string ⟨#[]⟩) := cell_of_row _ _ 3 _ _ _ sz
          have OW := hide ((LB.out.ownz L21.out hpw b1 (.slice nd' cs'.length nc')).alloc (.cells #[.int .i64 2, .int .i64 wb, .int .i64 0, .string ⟨#[]⟩] 49))
          have NX := hide (fun u' y => LB.out.next (s := (2, wb, 0, ⟨#[]⟩)) (u' := u') (y := y) (o := .cells #[.int .i64 2, .int .i64 wb, .int .i64 0, .string ⟨#[]⟩] 49) L21.out hpw b1 fo)
          have HZ := hide (show w.heap.size + 1 ≤ ((z1.setCell ⟨w.heap.size + 1 + 1, 0, none⟩ (.slice nd' cs'.length nc')).alloc (.cells #[.int .i64 2, .int .i64 wb, .int .i64 0, .string ⟨#[]⟩] 49)).heap.size by have := b1.size; simp [World.setCell]; omega)
          have HN5 := hide (new_cells (z1.setCell ⟨w.heap.size + 1 + 1, 0, none⟩ (.slice nd' cs'.length nc')) #[.int .i64 2, .int .i64 wb, .int .i64 0, .string ⟨#[]⟩] 49 z1.heap.size (by simp [World.setCell]))
          have hne : sc ≠ w.heap.size + 1 + 1 := by omega
          clear b1 fo hnx nl sz q0 q1 q2 q3 nw CD
          go_wp2_with (at_builtin; refine wpList_append_own _ rfl _ _ 40 rfl (w.heap.size + 1) 49 i0 (.agg #[.int .i64 0, .int .i64 0, .int .i64 0, .string ⟨#[]⟩]) 4 40 Try.underlying40 hi0 hz0 hz1 hz2 rfl (by decide) _ l.length (stcells l) rfl OW.out ⟨z1.heap.size, 0, none⟩ 1 1 [Value.int .i64 2, Value.int .i64 wb, Value.int .i64 0, Value.string ⟨#[]⟩] rfl rfl HN5.out (one_st _ _ _ _) ?m1 ?m2 HZ.out ?_)
          case m1 => unfold maxLen; omega
          case m2 => omega
          intro u' y ho hg _
          have LN := hide (NX.out u' y ho hg)
          obtain ⟨ud', uc', rfl, -, -, u3⟩ := frow_form ho
          obtain ⟨ug', rfl, -, -⟩ := u3 (by omega)
          have hll : (l ++ [((2, wb, 0, ⟨#[]⟩) : Stp)]).length = l.length + 1 := by simp
          generalize l ++ [((2, wb, 0, ⟨#[]⟩) : Stp)] = l' at LN hll
          rw [← hll] at LN ⊢
          clear ho hg NX OW HZ HN5 r0 r1 r2 r3 n1 f1 L21 LB u3
          go_wp2
          go_roundw
          case rel => exact ⟨i + 1, ug', uc', l', _, cs', by omega, by go_num, rfl, by omega, HC', LN⟩
          case measure => simp [intOf]; omega
        | true =>
          have C21 := hide (below_any 4 p ad len cap B y21 (by omega) hl L21.out.1.2 (L21.out.code HD.out hB hpw) hB)
          go_wp2_with fail
          refine C21.out.mono ?_
          rintro e z21x ⟨kk, rfl, -, -, -, d21⟩
          have M21 := hide (L21.out.drawn d21)
          have SC2 := hide ((d21.1.block _ (Array.getElem?_eq_some_iff.1 SC.out).1 (fun e => by injection e with e; omega)).trans SC.out)
          clear d21 C21 L21
          have v0 : z21x.cell? ⟨sc, 0, none⟩ = some (.int .i64 2) := cell_of_row _ _ 0 _ _ _ SC2.out
          have g0 := frozen_of_row _ _ 0 _ _ SC2.out
          have N21 := hide (M21.out.put (o := 0) hpw hww hsc (.int .i64 kk))
          have SC3 : Hid ((z21x.setCell ⟨sc, 0, none⟩ (.int .i64 kk)).heap[sc]? = some (.cells #[.int .i64 kk, .int .i64 wb, .int .i64 0, .string ⟨#[]⟩] 49 (0, 0))) := row_set SC2.out 0 (.int .i64 kk)
          clear M21 SC SC2
          have SC := SC3
          clear SC3
          go_upto_region 14 with fail
          clear v0 g0
          generalize z21x.setCell ⟨sc, 0, none⟩ (.int .i64 kk) = q21x at N21 SC ⊢
          have nw : q21x.cell? ⟨w.heap.size + 1 + 1, 0, none⟩ = some (.slice nd cs.length nc) := cell_of_row _ _ 0 _ _ _ (LB.out.now N21.out hpw)
          have q0 : q21x.cell? ⟨sc, 0, none⟩ = some (.int .i64 kk) := cell_of_row _ _ 0 _ _ _ SC.out
          have q1 : q21x.cell? ⟨sc, 1, none⟩ = some (.int .i64 wb) := cell_of_row _ _ 1 _ _ _ SC.out
          have q2 : q21x.cell? ⟨sc, 2, none⟩ = some (.int .i64 0) := cell_of_row _ _ 2 _ _ _ SC.out
          have q3 : q21x.cell? ⟨sc, 3, none⟩ = some (.string ⟨#[]⟩) := cell_of_row _ _ 3 _ _ _ SC.out
          have CD := hide (sdo_b (.slice nd cs.length nc) cs (kk, wb, 0, ⟨#[]⟩) q21x HC.out (LB.out.rdb N21.out))
          obtain ⟨cs', ok, hd⟩ : ∃ cs' ok, doF cs (kk, wb, 0, ⟨#[]⟩) = (cs', ok) := ⟨_, _, rfl⟩
          have HC' : Hid (Sml cs') := by have := HC.out.step (kk, wb, 0, ⟨#[]⟩); rw [hd] at this; exact this
          rw [hd] at CD
          unfold stV at CD
          simp only at CD
          clear hd
          go_wp2_with fail
          refine CD.out.mono ?_
          rintro e z1 ⟨nv', rfl, fo, b1⟩
          obtain ⟨nd', nc', rfl⟩ := fo.form
          have hnx := LB.out.now N21.out hpw
          have nl := (Array.getElem?_eq_some_iff.1 hnx).1
          have n1 : z1.cell? ⟨w.heap.size + 1 + 1, 0, none⟩ = some (.slice nd cs.length nc) := cell_of_row _ _ 0 _ _ _ ((b1.block _ nl).trans hnx)
          have f1 := frozen_of_row _ _ 0 _ _ ((b1.block _ nl).trans hnx)
          have sz := row_set_ne ((b1.block _ (Array.getElem?_eq_some_iff.1 SC.out).1).trans SC.out) (show sc ≠ w.heap.size + 1 + 1 by omega) 0 (.slice nd' cs'.length nc')
          have r0 : (z1.setCell ⟨w.heap.size + 1 + 1, 0, none⟩ (.slice nd' cs'.length nc')).cell? ⟨sc, 0, none⟩ = some (.int .i64 kk) := cell_of_row _ _ 0 _ _ _ sz
          have r1 : (z1.setCell ⟨w.heap.size + 1 + 1, 0, none⟩ (.slice nd' cs'.length nc')).cell? ⟨sc, 1, none⟩ = some (.int .i64 wb) := cell_of_row _ _ 1 _ _ _ sz
          have r2 : (z1.setCell ⟨w.heap.size + 1 + 1, 0, none⟩ (.slice nd' cs'.length nc')).cell? ⟨sc, 2, none⟩ = some (.int .i64 0) := cell_of_row _ _ 2 _ _ _ sz
          have r3 : (z1.setCell ⟨w.heap.size + 1 + 1, 0, none⟩ (.slice nd' cs'.length nc')).cell? ⟨sc, 3, none⟩ = some (.string ⟨#[]⟩) := cell_of_row _ _ 3 _ _ _ sz
          have OW := hide ((LB.out.ownz N21.out hpw b1 (.slice nd' cs'.length nc')).alloc (.cells #[.int .i64 kk, .int .i64 wb, .int .i64 0, .string ⟨#[]⟩] 49))
          have NX := hide (fun u' y => LB.out.next (s := (kk, wb, 0, ⟨#[]⟩)) (u' := u') (y := y) (o := .cells #[.int .i64 kk, .int .i64 wb, .int .i64 0, .string ⟨#[]⟩] 49) N21.out hpw b1 fo)
          have HZ := hide (show w.heap.size + 1 ≤ ((z1.setCell ⟨w.heap.size + 1 + 1, 0, none⟩ (.slice nd' cs'.length nc')).alloc (.cells #[.int .i64 kk, .int .i64 wb, .int .i64 0, .string ⟨#[]⟩] 49)).heap.size by have := b1.size; simp [World.setCell]; omega)
          have HN5 := hide (new_cells (z1.setCell ⟨w.heap.size + 1 + 1, 0, none⟩ (.slice nd' cs'.length nc')) #[.int .i64 kk, .int .i64 wb, .int .i64 0, .string ⟨#[]⟩] 49 z1.heap.size (by simp [World.setCell]))
          have hne : sc ≠ w.heap.size + 1 + 1 := by omega
          clear b1 fo hnx nl sz q0 q1 q2 q3 nw CD
          go_wp2_with (at_builtin; refine wpList_append_own _ rfl _ _ 40 rfl (w.heap.size + 1) 49 i0 (.agg #[.int .i64 0, .int .i64 0, .int .i64 0, .string ⟨#[]⟩]) 4 40 Try.underlying40 hi0 hz0 hz1 hz2 rfl (by decide) _ l.length (stcells l) rfl OW.out ⟨z1.heap.size, 0, none⟩ 1 1 [Value.int .i64 kk, Value.int .i64 wb, Value.int .i64 0, Value.string ⟨#[]⟩] rfl rfl HN5.out (one_st _ _ _ _) ?m1 ?m2 HZ.out ?_)
          case m1 => unfold maxLen; omega
          case m2 => omega
          intro u' y ho hg _
          have LN := hide (NX.out u' y ho hg)
          obtain ⟨ud', uc', rfl, -, -, u3⟩ := frow_form ho
          obtain ⟨ug', rfl, -, -⟩ := u3 (by omega)
          have hll : (l ++ [((kk, wb, 0, ⟨#[]⟩) : Stp)]).length = l.length + 1 := by simp
          generalize l ++ [((kk, wb, 0, ⟨#[]⟩) : Stp)] = l' at LN hll
          rw [← hll] at LN ⊢
          clear ho hg NX OW HZ HN5 r0 r1 r2 r3 n1 f1 N21 LB u3
          go_wp2
          go_roundw
          case rel => exact ⟨i + 1, ug', uc', l', _, cs', by omega, by go_num, rfl, by omega, HC', LN⟩
          case measure => simp [intOf]; omega
      | true =>
        have C7 := hide (once_any 5 p ad len cap B x6 (by omega) hl L6.out.1.2 (L6.out.code HD.out hB hpw) hB)
        go_wp2_with fail
        refine C7.out.mono ?_
        rintro e x7 ⟨o7, rfl, d7⟩
        have L7 := hide (L6.out.drawn d7)
        have SC2 := hide ((d7.1.block _ (Array.getElem?_eq_some_iff.1 SC.out).1 (fun e => by injection e with e; omega)).trans SC.out)
        clear d7 C7 L6 SC
        have SC := SC2
        clear SC2
        cases o7 with
        | true =>
          have C30 := hide (below_any 4 p ad len cap B x7 (by omega) hl L7.out.1.2 (L7.out.code HD.out hB hpw) hB)
          go_wp2_with fail
          refine C30.out.mono ?_
          rintro e z30 ⟨wb, rfl, -, -, -, d30⟩
          have M30 := hide (L7.out.drawn d30)
          have SC2 := hide ((d30.1.block _ (Array.getElem?_eq_some_iff.1 SC.out).1 (fun e => by injection e with e; omega)).trans SC.out)
          clear d30 C30 L7
          have v0 : z30.cell? ⟨sc, 0, none⟩ = some (.int .i64 1) := cell_of_row _ _ 0 _ _ _ SC2.out
          have v1 : z30.cell? ⟨sc, 1, none⟩ = some (.int .i64 pb) := cell_of_row _ _ 1 _ _ _ SC2.out
          have v2 : z30.cell? ⟨sc, 2, none⟩ = some (.int .i64 pl) := cell_of_row _ _ 2 _ _ _ SC2.out
          have v3 : z30.cell? ⟨sc, 3, none⟩ = some (.string ⟨t.toArray⟩) := cell_of_row _ _ 3 _ _ _ SC2.out
          have g0 := frozen_of_row _ _ 0 _ _ SC2.out
          have g1 := frozen_of_row _ _ 1 _ _ SC2.out
          have g2 := frozen_of_row _ _ 2 _ _ SC2.out
          have g3 := frozen_of_row _ _ 3 _ _ SC2.out
          have N30 := hide ((((M30.out.put (o := 0) hpw hww hsc (.int .i64 2)).put (o := 1) hpw hww hsc (.int .i64 wb)).put (o := 2) hpw hww hsc (.int .i64 0)).put (o := 3) hpw hww hsc (.string ⟨#[]⟩))
          have SC3 : Hid (((((z30.setCell ⟨sc, 0, none⟩ (.int .i64 2)).setCell ⟨sc, 1, none⟩ (.int .i64 wb)).setCell ⟨sc, 2, none⟩ (.int .i64 0)).setCell ⟨sc, 3, none⟩ (.string ⟨#[]⟩)).heap[sc]? = some (.cells #[.int .i64 2, .int .i64 wb, .int .i64 0, .string ⟨#[]⟩] 49 (0, 0))) := row_set (row_set (row_set (row_set SC2.out 0 (.int .i64 2)) 1 (.int .i64 wb)) 2 (.int .i64 0)) 3 (.string ⟨#[]⟩)
          clear M30 SC SC2
          have SC := SC3
          clear SC3
          go_upto_region 12 with fail
          clear v0 v1 v2 v3 g0 g1 g2 g3
          generalize (((z30.setCell ⟨sc, 0, none⟩ (.int .i64 2)).setCell ⟨sc, 1, none⟩ (.int .i64 wb)).setCell ⟨sc, 2, none⟩ (.int .i64 0)).setCell ⟨sc, 3, none⟩ (.string ⟨#[]⟩) = q30 at N30 SC ⊢
          have C31 := hide (once_any 24 p ad len cap B q30 (by omega) hl N30.out.1.2 (N30.out.code HD.out hB hpw) hB)
          go_wp2_with fail
          refine C31.out.mono ?_
          rintro e y31 ⟨o31, rfl, d31⟩
          have L31 := hide (N30.out.drawn d31)
          have SC2 := hide ((d31.1.block _ (Array.getElem?_eq_some_iff.1 SC.out).1 (fun e => by injection e with e; omega)).trans SC.out)
          clear d31 C31 N30 SC
          have SC := SC2
          clear SC2
          cases o31 with
          | false =>
            have nw : y31.cell? ⟨w.heap.size + 1 + 1, 0, none⟩ = some (.slice nd cs.length nc) := cell_of_row _ _ 0 _ _ _ (LB.out.now L31.out hpw)
            have q0 : y31.cell? ⟨sc, 0, none⟩ = some (.int .i64 2) := cell_of_row _ _ 0 _ _ _ SC.out
            have q1 : y31.cell? ⟨sc, 1, none⟩ = some (.int .i64 wb) := cell_of_row _ _ 1 _ _ _ SC.out
            have q2 : y31.cell? ⟨sc, 2, none⟩ = some (.int .i64 0) := cell_of_row _ _ 2 _ _ _ SC.out
            have q3 : y31.cell? ⟨sc, 3, none⟩ = some (.string ⟨#[]⟩) := cell_of_row _ _ 3 _ _ _ SC.out
            have CD := hide (sdo_b (.slice nd cs.length nc) cs (2, wb, 0, ⟨#[]⟩) y31 HC.out (LB.out.rdb L31.out))
            obtain ⟨cs', ok, hd⟩ : ∃ cs' ok, doF cs (2, wb, 0, ⟨#[]⟩) = (cs', ok) := ⟨_, _, rfl⟩
            have HC' : Hid (Sml cs') := by have := HC.out.step (2, wb, 0, ⟨#[]⟩); rw [hd] at this; exact this
            rw [hd] at CD
            unfold stV at CD
            simp only at CD
            clear hd
            go_wp2_with fail
            refine CD.out.mono ?_
            rintro e z1 ⟨nv', rfl, fo, b1⟩
            obtain ⟨nd', nc', rfl⟩ := fo.form
            have hnx := LB.out.now L31.out hpw
            have nl := (Array.getElem?_eq_some_iff.1 hnx).1
            have n1 : z1.cell? ⟨w.heap.size + 1 + 1, 0, none⟩ = some (.slice nd cs.length nc) := cell_of_row _ _ 0 _ _ _ ((b1.block _ nl).trans hnx)
            have f1 := frozen_of_row _ _ 0 _ _ ((b1.block _ nl).trans hnx)
            have sz := row_set_ne ((b1.block _ (Array.getElem?_eq_some_iff.1 SC.out).1).trans SC.out) (show sc ≠ w.heap.size + 1 + 1 by omega) 0 (.slice nd' cs'.length nc')
            have r0 : (z1.setCell ⟨w.heap.size + 1 + 1, 0, none⟩ (.slice nd' cs'.length nc')).cell? ⟨sc, 0, none⟩ = some (.int .i64 2) := cell_of_row _ _ 0 _ _ _ sz
            have r1 : (z1.setCell ⟨w.heap.size + 1 + 1, 0, none⟩ (.slice nd' cs'.length nc')).cell? ⟨sc, 1, none⟩ = some (.int .i64 wb) := cell_of_row _ _ 1 _ _ _ sz
            have r2 : (z1.setCell ⟨w.heap.size + 1 + 1, 0, none⟩ (.slice nd' cs'.length nc')).cell? ⟨sc, 2, none⟩ = some (.int .i64 0) := cell_of_row _ _ 2 _ _ _ sz
            have r3 : (z1.setCell ⟨w.heap.size + 1 + 1, 0, none⟩ (.slice nd' cs'.length nc')).cell? ⟨sc, 3, none⟩ = some (.string ⟨#[]⟩) := cell_of_row _ _ 3 _ _ _ sz
            have OW := hide ((LB.out.ownz L31.out hpw b1 (.slice nd' cs'.length nc')).alloc (.cells #[.int .i64 2, .int .i64 wb, .int .i64 0, .string ⟨#[]⟩] 49))
            have NX := hide (fun u' y => LB.out.next (s := (2, wb, 0, ⟨#[]⟩)) (u' := u') (y := y) (o := .cells #[.int .i64 2, .int .i64 wb, .int .i64 0, .string ⟨#[]⟩] 49) L31.out hpw b1 fo)
            have HZ := hide (show w.heap.size + 1 ≤ ((z1.setCell ⟨w.heap.size + 1 + 1, 0, none⟩ (.slice nd' cs'.length nc')).alloc (.cells #[.int .i64 2, .int .i64 wb, .int .i64 0, .string ⟨#[]⟩] 49)).heap.size by have := b1.size; simp [World.setCell]; omega)
            have HN5 := hide (new_cells (z1.setCell ⟨w.heap.size + 1 + 1, 0, none⟩ (.slice nd' cs'.length nc')) #[.int .i64 2, .int .i64 wb, .int .i64 0, .string ⟨#[]⟩] 49 z1.heap.size (by simp [World.setCell]))
            have hne : sc ≠ w.heap.size + 1 + 1 := by omega
            clear b1 fo hnx nl sz q0 q1 q2 q3 nw CD
            go_wp2_with (at_builtin; refine wpList_append_own _ rfl _ _ 40 rfl (w.heap.size + 1) 49 i0 (.agg #[.int .i64 0, .int .i64 0, .int .i64 0, .string ⟨#[]⟩]) 4 40 Try.underlying40 hi0 hz0 hz1 hz2 rfl (by decide) _ l.length (stcells l) rfl OW.out ⟨z1.heap.size, 0, none⟩ 1 1 [Value.int .i64 2, Value.int .i64 wb, Value.int .i64 0, Value.string ⟨#[]⟩] rfl rfl HN5.out (one_st _ _ _ _) ?m1 ?m2 HZ.out ?_)
            case m1 => unfold maxLen; omega
            case m2 => omega
            intro u' y ho hg _
            have LN := hide (NX.out u' y ho hg)
            obtain ⟨ud', uc', rfl, -, -, u3⟩ := frow_form ho
            obtain ⟨ug', rfl, -, -⟩ := u3 (by omega)
            have hll : (l ++ [((2, wb, 0, ⟨#[]⟩) : Stp)]).length = l.length + 1 := by simp
            generalize l ++ [((2, wb, 0, ⟨#[]⟩) : Stp)] = l' at LN hll
            rw [← hll] at LN ⊢
            clear ho hg NX OW HZ HN5 r0 r1 r2 r3 n1 f1 L31 LB u3
            go_wp2
            go_roundw
            case rel => exact ⟨i + 1, ug', uc', l', _, cs', by omega, by go_num, rfl, by omega, HC', LN⟩
            case measure => simp [intOf]; omega
          | true =>
            have C31 := hide (below_any 4 p ad len cap B y31 (by omega) hl L31.out.1.2 (L31.out.code HD.out hB hpw) hB)
            go_wp2_with fail
            refine C31.out.mono ?_
            rintro e z31x ⟨kk, rfl, -, -, -, d31⟩
            have M31 := hide (L31.out.drawn d31)
            have SC2 := hide ((d31.1.block _ (Array.getElem?_eq_some_iff.1 SC.out).1 (fun e => by injection e with e; omega)).trans SC.out)
            clear d31 C31 L31
            have v0 : z31x.cell? ⟨sc, 0, none⟩ = some (.int .i64 2) := cell_of_row _ _ 0 _ _ _ SC2.out
            have g0 := frozen_of_row _ _ 0 _ _ SC2.out
            have N31 := hide (M31.out.put (o := 0) hpw hww hsc (.int .i64 kk))
            have SC3 : Hid ((z31x.setCell ⟨sc, 0, none⟩ (.int .i64 kk)).heap[sc]? = some (.cells #[.int .i64 kk, .int .i64 wb, .int .i64 0, .string ⟨#[]⟩] 49 (0, 0))) := row_set SC2.out 0 (.int .i64 kk)
            clear M31 SC SC2
            have SC := SC3
            clear SC3
            go_upto_region 14 with fail
            clear v0 g0
            generalize z31x.setCell ⟨sc, 0, none⟩ (.int .i64 kk) = q31x at N31 SC ⊢
            have nw : q31x.cell? ⟨w.heap.size + 1 + 1, 0, none⟩ = some (.slice nd cs.length nc) := cell_of_row _ _ 0 _ _ _ (LB.out.now N31.out hpw)
            have q0 : q31x.cell? ⟨sc, 0, none⟩ = some (.int .i64 kk) := cell_of_row _ _ 0 _ _ _ SC.out
            have q1 : q31x.cell? ⟨sc, 1, none⟩ = some (.int .i64 wb) := cell_of_row _ _ 1 _ _ _ SC.out
            have q2 : q31x.cell? ⟨sc, 2, none⟩ = some (.int .i64 0) := cell_of_row _ _ 2 _ _ _ SC.out
            have q3 : q31x.cell? ⟨sc, 3, none⟩ = some (.string ⟨#[]⟩) := cell_of_row _ _ 3 _ _ _ SC.out
            have CD := hide (sdo_b (.slice nd cs.length nc) cs (kk, wb, 0, ⟨#[]⟩) q31x HC.out (LB.out.rdb N31.out))
            obtain ⟨cs', ok, hd⟩ : ∃ cs' ok, doF cs (kk, wb, 0, ⟨#[]⟩) = (cs', ok) := ⟨_, _, rfl⟩
            have HC' : Hid (Sml cs') := by have := HC.out.step (kk, wb, 0, ⟨#[]⟩); rw [hd] at this; exact this
            rw [hd] at CD
            unfold stV at CD
            simp only at CD
            clear hd
            go_wp2_with fail
            refine CD.out.mono ?_
            rintro e z1 ⟨nv', rfl, fo, b1⟩
            obtain ⟨nd', nc', rfl⟩ := fo.form
            have hnx := LB.out.now N31.out hpw
            have nl := (Array.getElem?_eq_some_iff.1 hnx).1
            have n1 : z1.cell? ⟨w.heap.size + 1 + 1, 0, none⟩ = some (.slice nd cs.length nc) := cell_of_row _ _ 0 _ _ _ ((b1.block _ nl).trans hnx)
            have f1 := frozen_of_row _ _ 0 _ _ ((b1.block _ nl).trans hnx)
            have sz := row_set_ne ((b1.block _ (Array.getElem?_eq_some_iff.1 SC.out).1).trans SC.out) (show sc ≠ w.heap.size + 1 + 1 by omega) 0 (.slice nd' cs'.length nc')
            have r0 : (z1.setCell ⟨w.heap.size + 1 + 1, 0, none⟩ (.slice nd' cs'.length nc')).cell? ⟨sc, 0, none⟩ = some (.int .i64 kk) := cell_of_row _ _ 0 _ _ _ sz
            have r1 : (z1.setCell ⟨w.heap.size + 1 + 1, 0, none⟩ (.slice nd' cs'.length nc')).cell? ⟨sc, 1, none⟩ = some (.int .i64 wb) := cell_of_row _ _ 1 _ _ _ sz
            have r2 : (z1.setCell ⟨w.heap.size + 1 + 1, 0, none⟩ (.slice nd' cs'.length nc')).cell? ⟨sc, 2, none⟩ = some (.int .i64 0) := cell_of_row _ _ 2 _ _ _ sz
            have r3 : (z1.setCell ⟨w.heap.size + 1 + 1, 0, none⟩ (.slice nd' cs'.length nc')).cell? ⟨sc, 3, none⟩ = some (.string ⟨#[]⟩) := cell_of_row _ _ 3 _ _ _ sz
            have OW := hide ((LB.out.ownz N31.out hpw b1 (.slice nd' cs'.length nc')).alloc (.cells #[.int .i64 kk, .int .i64 wb, .int .i64 0, .string ⟨#[]⟩] 49))
            have NX := hide (fun u' y => LB.out.next (s := (kk, wb, 0, ⟨#[]⟩)) (u' := u') (y := y) (o := .cells #[.int .i64 kk, .int .i64 wb, .int .i64 0, .string ⟨#[]⟩] 49) N31.out hpw b1 fo)
            have HZ := hide (show w.heap.size + 1 ≤ ((z1.setCell ⟨w.heap.size + 1 + 1, 0, none⟩ (.slice nd' cs'.length nc')).alloc (.cells #[.int .i64 kk, .int .i64 wb, .int .i64 0, .string ⟨#[]⟩] 49)).heap.size by have := b1.size; simp [World.setCell]; omega)
            have HN5 := hide (new_cells (z1.setCell ⟨w.heap.size + 1 + 1, 0, none⟩ (.slice nd' cs'.length nc')) #[.int .i64 kk, .int .i64 wb, .int .i64 0, .string ⟨#[]⟩] 49 z1.heap.size (by simp [World.setCell]))
            have hne : sc ≠ w.heap.size + 1 + 1 := by omega
            clear b1 fo hnx nl sz q0 q1 q2 q3 nw CD
            go_wp2_with (at_builtin; refine wpList_append_own _ rfl _ _ 40 rfl (w.heap.size + 1) 49 i0 (.agg #[.int .i64 0, .int .i64 0, .int .i64 0, .string ⟨#[]⟩]) 4 40 Try.underlying40 hi0 hz0 hz1 hz2 rfl (by decide) _ l.length (stcells l) rfl OW.out ⟨z1.heap.size, 0, none⟩ 1 1 [Value.int .i64 kk, Value.int .i64 wb, Value.int .i64 0, Value.string ⟨#[]⟩] rfl rfl HN5.out (one_st _ _ _ _) ?m1 ?m2 HZ.out ?_)
            case m1 => unfold maxLen; omega
            case m2 => omega
            intro u' y ho hg _
            have LN := hide (NX.out u' y ho hg)
            obtain ⟨ud', uc', rfl, -, -, u3⟩ := frow_form ho
            obtain ⟨ug', rfl, -, -⟩ := u3 (by omega)
            have hll : (l ++ [((kk, wb, 0, ⟨#[]⟩) : Stp)]).length = l.length + 1 := by simp
            generalize l ++ [((kk, wb, 0, ⟨#[]⟩) : Stp)] = l' at LN hll
            rw [← hll] at LN ⊢
            clear ho hg NX OW HZ HN5 r0 r1 r2 r3 n1 f1 N31 LB u3
            go_wp2
            go_roundw
            case rel => exact ⟨i + 1, ug', uc', l', _, cs', by omega, by go_num, rfl, by omega, HC', LN⟩
            case measure => simp [intOf]; omega
        | false =>
          have C40 := hide (once_any 24 p ad len cap B x7 (by omega) hl L7.out.1.2 (L7.out.code HD.out hB hpw) hB)
          go_wp2_with fail
          refine C40.out.mono ?_
          rintro e y40 ⟨o40, rfl, d40⟩
          have L40 := hide (L7.out.drawn d40)
          have SC2 := hide ((d40.1.block _ (Array.getElem?_eq_some_iff.1 SC.out).1 (fun e => by injection e with e; omega)).trans SC.out)
          clear d40 C40 L7 SC
          have SC := SC2
          clear SC2
          cases o40 with
          | false =>
            have nw : y40.cell? ⟨w.heap.size + 1 + 1, 0, none⟩ = some (.slice nd cs.length nc) := cell_of_row _ _ 0 _ _ _ (LB.out.now L40.out hpw)
            have q0 : y40.cell? ⟨sc, 0, none⟩ = some (.int .i64 1) := cell_of_row _ _ 0 _ _ _ SC.out
            have q1 : y40.cell? ⟨sc, 1, none⟩ = some (.int .i64 pb) := cell_of_row _ _ 1 _ _ _ SC.out
            have q2 : y40.cell? ⟨sc, 2, none⟩ = some (.int .i64 pl) := cell_of_row _ _ 2 _ _ _ SC.out
            have q3 : y40.cell? ⟨sc, 3, none⟩ = some (.string ⟨t.toArray⟩) := cell_of_row _ _ 3 _ _ _ SC.out
            have CD := hide (sdo_b (.slice nd cs.length nc) cs (1, pb, pl, ⟨t.toArray⟩) y40 HC.out (LB.out.rdb L40.out))
            obtain ⟨cs', ok, hd⟩ : ∃ cs' ok, doF cs (1, pb, pl, ⟨t.toArray⟩) = (cs', ok) := ⟨_, _, rfl⟩
            have HC' : Hid (Sml cs') := by have := HC.out.step (1, pb, pl, ⟨t.toArray⟩); rw [hd] at this; exact this
            rw [hd] at CD
            unfold stV at CD
            simp only at CD
            clear hd
            go_wp2_with fail
            refine CD.out.mono ?_
            rintro e z1 ⟨nv', rfl, fo, b1⟩
            obtain ⟨nd', nc', rfl⟩ := fo.form
            have hnx := LB.out.now L40.out hpw
            have nl := (Array.getElem?_eq_some_iff.1 hnx).1
            have n1 : z1.cell? ⟨w.heap.size + 1 + 1, 0, none⟩ = some (.slice nd cs.length nc) := cell_of_row _ _ 0 _ _ _ ((b1.block _ nl).trans hnx)
            have f1 := frozen_of_row _ _ 0 _ _ ((b1.block _ nl).trans hnx)
            have sz := row_set_ne ((b1.block _ (Array.getElem?_eq_some_iff.1 SC.out).1).trans SC.out) (show sc ≠ w.heap.size + 1 + 1 by omega) 0 (.slice nd' cs'.length nc')
            have r0 : (z1.setCell ⟨w.heap.size + 1 + 1, 0, none⟩ (.slice nd' cs'.length nc')).cell? ⟨sc, 0, none⟩ = some (.int .i64 1) := cell_of_row _ _ 0 _ _ _ sz
            have r1 : (z1.setCell ⟨w.heap.size + 1 + 1, 0, none⟩ (.slice nd' cs'.length nc')).cell? ⟨sc, 1, none⟩ = some (.int .i64 pb) := cell_of_row _ _ 1 _ _ _ sz
            have r2 : (z1.setCell ⟨w.heap.size + 1 + 1, 0, none⟩ (.slice nd' cs'.length nc')).cell? ⟨sc, 2, none⟩ = some (.int .i64 pl) := cell_of_row _ _ 2 _ _ _ sz
            have r3 : (z1.setCell ⟨w.heap.size + 1 + 1, 0, none⟩ (.slice nd' cs'.length nc')).cell? ⟨sc, 3, none⟩ = some (.string ⟨t.toArray⟩) := cell_of_row _ _ 3 _ _ _ sz
            have OW := hide ((LB.out.ownz L40.out hpw b1 (.slice nd' cs'.length nc')).alloc (.cells #[.int .i64 1, .int .i64 pb, .int .i64 pl, .string ⟨t.toArray⟩] 49))
            have NX := hide (fun u' y => LB.out.next (s := (1, pb, pl, ⟨t.toArray⟩)) (u' := u') (y := y) (o := .cells #[.int .i64 1, .int .i64 pb, .int .i64 pl, .string ⟨t.toArray⟩] 49) L40.out hpw b1 fo)
            have HZ := hide (show w.heap.size + 1 ≤ ((z1.setCell ⟨w.heap.size + 1 + 1, 0, none⟩ (.slice nd' cs'.length nc')).alloc (.cells #[.int .i64 1, .int .i64 pb, .int .i64 pl, .string ⟨t.toArray⟩] 49)).heap.size by have := b1.size; simp [World.setCell]; omega)
            have HN5 := hide (new_cells (z1.setCell ⟨w.heap.size + 1 + 1, 0, none⟩ (.slice nd' cs'.length nc')) #[.int .i64 1, .int .i64 pb, .int .i64 pl, .string ⟨t.toArray⟩] 49 z1.heap.size (by simp [World.setCell]))
            have hne : sc ≠ w.heap.size + 1 + 1 := by omega
            clear b1 fo hnx nl sz q0 q1 q2 q3 nw CD
            go_wp2_with (at_builtin; refine wpList_append_own _ rfl _ _ 40 rfl (w.heap.size + 1) 49 i0 (.agg #[.int .i64 0, .int .i64 0, .int .i64 0, .string ⟨#[]⟩]) 4 40 Try.underlying40 hi0 hz0 hz1 hz2 rfl (by decide) _ l.length (stcells l) rfl OW.out ⟨z1.heap.size, 0, none⟩ 1 1 [Value.int .i64 1, Value.int .i64 pb, Value.int .i64 pl, Value.string ⟨t.toArray⟩] rfl rfl HN5.out (one_st _ _ _ _) ?m1 ?m2 HZ.out ?_)
            case m1 => unfold maxLen; omega
            case m2 => omega
            intro u' y ho hg _
            have LN := hide (NX.out u' y ho hg)
            obtain ⟨ud', uc', rfl, -, -, u3⟩ := frow_form ho
            obtain ⟨ug', rfl, -, -⟩ := u3 (by omega)
            have hll : (l ++ [((1, pb, pl, ⟨t.toArray⟩) : Stp)]).length = l.length + 1 := by simp
            generalize l ++ [((1, pb, pl, ⟨t.toArray⟩) : Stp)] = l' at LN hll
            rw [← hll] at LN ⊢
            clear ho hg NX OW HZ HN5 r0 r1 r2 r3 n1 f1 L40 LB u3
            go_wp2
            go_roundw
            case rel => exact ⟨i + 1, ug', uc', l', _, cs', by omega, by go_num, rfl, by omega, HC', LN⟩
            case measure => simp [intOf]; omega
          | true =>
            have C40 := hide (below_any 4 p ad len cap B y40 (by omega) hl L40.out.1.2 (L40.out.code HD.out hB hpw) hB)
            go_wp2_with fail
            refine C40.out.mono ?_
            rintro e z40x ⟨kk, rfl, -, -, -, d40⟩
            have M40 := hide (L40.out.drawn d40)
            have SC2 := hide ((d40.1.block _ (Array.getElem?_eq_some_iff.1 SC.out).1 (fun e => by injection e with e; omega)).trans SC.out)
            clear d40 C40 L40
            have v0 : z40x.cell? ⟨sc, 0, none⟩ = some (.int .i64 1) := cell_of_row _ _ 0 _ _ _ SC2.out
            have g0 := frozen_of_row _ _ 0 _ _ SC2.out
            have N40 := hide (M40.out.put (o := 0) hpw hww hsc (.int .i64 kk))
            have SC3 : Hid ((z40x.setCell ⟨sc, 0, none⟩ (.int .i64 kk)).heap[sc]? = some (.cells #[.int .i64 kk, .int .i64 pb, .int .i64 pl, .string ⟨t.toArray⟩] 49 (0, 0))) := row_set SC2.out 0 (.int .i64 kk)
            clear M40 SC SC2
            have SC := SC3
            clear SC3
            go_upto_region 14 with fail
            clear v0 g0
            generalize z40x.setCell ⟨sc, 0, none⟩ (.int .i64 kk) = q40x at N40 SC ⊢
            have nw : q40x.cell? ⟨w.heap.size + 1 + 1, 0, none⟩ = some (.slice nd cs.length nc) := cell_of_row _ _ 0 _ _ _ (LB.out.now N40.out hpw)
            have q0 : q40x.cell? ⟨sc, 0, none⟩ = some (.int .i64 kk) := cell_of_row _ _ 0 _ _ _ SC.out
            have q1 : q40x.cell? ⟨sc, 1, none⟩ = some (.int .i64 pb) := cell_of_row _ _ 1 _ _ _ SC.out
            have q2 : q40x.cell? ⟨sc, 2, none⟩ = some (.int .i64 pl) := cell_of_row _ _ 2 _ _ _ SC.out
            have q3 : q40x.cell? ⟨sc, 3, none⟩ = some (.string ⟨t.toArray⟩) := cell_of_row _ _ 3 _ _ _ SC.out
            have CD := hide (sdo_b (.slice nd cs.length nc) cs (kk, pb, pl, ⟨t.toArray⟩) q40x HC.out (LB.out.rdb N40.out))
            obtain ⟨cs', ok, hd⟩ : ∃ cs' ok, doF cs (kk, pb, pl, ⟨t.toArray⟩) = (cs', ok) := ⟨_, _, rfl⟩
            have HC' : Hid (Sml cs') := by have := HC.out.step (kk, pb, pl, ⟨t.toArray⟩); rw [hd] at this; exact this
            rw [hd] at CD
            unfold stV at CD
            simp only at CD
            clear hd
            go_wp2_with fail
            refine CD.out.mono ?_
            rintro e z1 ⟨nv', rfl, fo, b1⟩
            obtain ⟨nd', nc', rfl⟩ := fo.form
            have hnx := LB.out.now N40.out hpw
            have nl := (Array.getElem?_eq_some_iff.1 hnx).1
            have n1 : z1.cell? ⟨w.heap.size + 1 + 1, 0, none⟩ = some (.slice nd cs.length nc) := cell_of_row _ _ 0 _ _ _ ((b1.block _ nl).trans hnx)
            have f1 := frozen_of_row _ _ 0 _ _ ((b1.block _ nl).trans hnx)
            have sz := row_set_ne ((b1.block _ (Array.getElem?_eq_some_iff.1 SC.out).1).trans SC.out) (show sc ≠ w.heap.size + 1 + 1 by omega) 0 (.slice nd' cs'.length nc')
            have r0 : (z1.setCell ⟨w.heap.size + 1 + 1, 0, none⟩ (.slice nd' cs'.length nc')).cell? ⟨sc, 0, none⟩ = some (.int .i64 kk) := cell_of_row _ _ 0 _ _ _ sz
            have r1 : (z1.setCell ⟨w.heap.size + 1 + 1, 0, none⟩ (.slice nd' cs'.length nc')).cell? ⟨sc, 1, none⟩ = some (.int .i64 pb) := cell_of_row _ _ 1 _ _ _ sz
            have r2 : (z1.setCell ⟨w.heap.size + 1 + 1, 0, none⟩ (.slice nd' cs'.length nc')).cell? ⟨sc, 2, none⟩ = some (.int .i64 pl) := cell_of_row _ _ 2 _ _ _ sz
            have r3 : (z1.setCell ⟨w.heap.size + 1 + 1, 0, none⟩ (.slice nd' cs'.length nc')).cell? ⟨sc, 3, none⟩ = some (.string ⟨t.toArray⟩) := cell_of_row _ _ 3 _ _ _ sz
            have OW := hide ((LB.out.ownz N40.out hpw b1 (.slice nd' cs'.length nc')).alloc (.cells #[.int .i64 kk, .int .i64 pb, .int .i64 pl, .string ⟨t.toArray⟩] 49))
            have NX := hide (fun u' y => LB.out.next (s := (kk, pb, pl, ⟨t.toArray⟩)) (u' := u') (y := y) (o := .cells #[.int .i64 kk, .int .i64 pb, .int .i64 pl, .string ⟨t.toArray⟩] 49) N40.out hpw b1 fo)
            have HZ := hide (show w.heap.size + 1 ≤ ((z1.setCell ⟨w.heap.size + 1 + 1, 0, none⟩ (.slice nd' cs'.length nc')).alloc (.cells #[.int .i64 kk, .int .i64 pb, .int .i64 pl, .string ⟨t.toArray⟩] 49)).heap.size by have := b1.size; simp [World.setCell]; omega)
            have HN5 := hide (new_cells (z1.setCell ⟨w.heap.size + 1 + 1, 0, none⟩ (.slice nd' cs'.length nc')) #[.int .i64 kk, .int .i64 pb, .int .i64 pl, .string ⟨t.toArray⟩] 49 z1.heap.size (by simp [World.setCell]))
            have hne : sc ≠ w.heap.size + 1 + 1 := by omega
            clear b1 fo hnx nl sz q0 q1 q2 q3 nw CD
            go_wp2_with (at_builtin; refine wpList_append_own _ rfl _ _ 40 rfl (w.heap.size + 1) 49 i0 (.agg #[.int .i64 0, .int .i64 0, .int .i64 0, .string ⟨#[]⟩]) 4 40 Try.underlying40 hi0 hz0 hz1 hz2 rfl (by decide) _ l.length (stcells l) rfl OW.out ⟨z1.heap.size, 0, none⟩ 1 1 [Value.int .i64 kk, Value.int .i64 pb, Value.int .i64 pl, Value.string ⟨t.toArray⟩] rfl rfl HN5.out (one_st _ _ _ _) ?m1 ?m2 HZ.out ?_)
            case m1 => unfold maxLen; omega
            case m2 => omega
            intro u' y ho hg _
            have LN := hide (NX.out u' y ho hg)
            obtain ⟨ud', uc', rfl, -, -, u3⟩ := frow_form ho
            obtain ⟨ug', rfl, -, -⟩ := u3 (by omega)
            have hll : (l ++ [((kk, pb, pl, ⟨t.toArray⟩) : Stp)]).length = l.length + 1 := by simp
            generalize l ++ [((kk, pb, pl, ⟨t.toArray⟩) : Stp)] = l' at LN hll
            rw [← hll] at LN ⊢
            clear ho hg NX OW HZ HN5 r0 r1 r2 r3 n1 f1 N40 LB u3
            go_wp2
            go_roundw
            case rel => exact ⟨i + 1, ug', uc', l', _, cs', by omega, by go_num, rfl, by omega, HC', LN⟩
            case measure => simp [intOf]; omega
    · have EN : Hid (StepsD w p ad len cap (.returned (.slice (some ⟨ug, 0, none⟩) l.length uc)) x1) := ⟨ug, uc, l, rfl, by omega, LB.out.own L1.out hpw, L1.out.1⟩
      clear LB L1
      go_wp2
      go_ret
      exact EN.out
end Go.Proofs.Ytcjgjkejhkhknaa
