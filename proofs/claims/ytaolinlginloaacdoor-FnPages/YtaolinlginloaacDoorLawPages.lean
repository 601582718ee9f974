/-
  The law on drawn pages.
-/
import Derived.Test.YtaolinlginloaacDoorDrawPg3
import Derived.Test.YtaolinlginloaacDoorTurnP
import Derived.Test.YtaolinlginloaacDoorICatch
import Derived.Test.YtaolinlginloaacDoorIPText
import Derived.Test.YtaolinlginloaacDoorPq18
import Derived.Laws.StructEq
namespace Go.Proofs.YtaolinlginloaacDoor
open Go.RowKit
open Words Sums

/-- A page that lies in block g. -/
def PgAt (W : World) (g : Nat) (k s x q c : Int) (t : ByteArray) : Prop := g < W.heap.size ∧
  (W.cell? ⟨g, 0, none⟩ = some (.int .i64 k) ∧ W.cell? ⟨g, 1, none⟩ = some (.int .i64 s) ∧ W.cell? ⟨g, 2, none⟩ = some (.int .i64 x) ∧ W.cell? ⟨g, 3, none⟩ = some (.int .i64 q) ∧ W.cell? ⟨g, 4, none⟩ = some (.int .i64 c) ∧ W.cell? ⟨g, 5, none⟩ = some (.string t))
theorem PgAt.next {W W' : World} {g : Nat} {k s x q c : Int} {t : ByteArray} (h : PgAt W g k s x q c t) (hb : Below W.heap.size W W') : PgAt W' g k s x q c t :=
  ⟨Nat.lt_of_lt_of_le h.1 hb.size, by rw [hb.cell h.1, hb.cell h.1, hb.cell h.1, hb.cell h.1, hb.cell h.1, hb.cell h.1]; exact h.2⟩
theorem pgAt_new (W : World) (k s x q c : Int) (t : ByteArray) : PgAt (W.alloc (.cells #[.int .i64 k, .int .i64 s, .int .i64 x, .int .i64 q, .int .i64 c, .string t] 35)) W.heap.size k s x q c t := by
  refine ⟨by simp, ?_⟩
  simp
/-- What a text is read as: a page or none, and what its bytes are then. -/
theorem read_case (t : ByteArray) : ∃ (p : Pg) (b : Bool), pgRes (readPg t) = .tuple #[pgVal p, .bool b] ∧ (b = true → ptRes p = .tuple #[.string t, .bool true]) := by
  cases h : readPg t with
  | none => exact ⟨_, _, rfl, fun e => by cases e⟩
  | some p =>
    obtain ⟨h1, h2⟩ := readPg_right h
    exact ⟨p, true, rfl, fun _ => by unfold ptRes; rw [if_pos h1, h2]⟩

set_option maxHeartbeats 4000000 in
set_option maxRecDepth 100000 in
theorem lawPages (ad : Option Addr) (len cap : Nat) (w : World) (hd : CodeIn w ad len w.heap.size) (ht : HalvIn w) :
    Calls Tryd.prog 5 #[.slice ad len cap] w fun e w' => e = .returned (.bool true) ∧ Below w.heap.size w w' := by
  have HD := hide hd
  have HT := hide ht
  clear hd ht
  by_cases hbig : (1048576 : Int) < len
  · go_enter Tryd.func5, Tryd.ntmps5
    go_wp2_with fail
    refine (big_any ad len cap _).mono ?_
    rintro e w1 ⟨rfl, rfl⟩
    rw [dcY hbig]
    go_wp2
    go_ret
    exact ⟨rfl, Below.refl _ _⟩
  · go_enter Tryd.func5, Tryd.ntmps5
    go_wp2_with fail
    refine (big_any ad len cap _).mono ?_
    rintro e w1 ⟨rfl, rfl⟩
    rw [dcN (show ¬ (1048576 : Int) < len by omega)]
    go_wp2_with fail
    refine (drawPageText_any ad len cap _ (by omega) HD.out).mono ?_
    rintro e w2 ⟨pg, rfl, hsz, b2⟩
    obtain ⟨S, ok, hpt, hS, hy, hn⟩ := ptRes_tuple pg
    have CP := hide (fun W h => ipageText pg W h)
    rw [hpt] at CP
    have CS1 := hide (fun W => spageOk pg W)
    have CI1 := hide (fun W => ipageOk pg W)
    have hdec : @decide pg.Right pg.decR = ok := by
      cases ok with
      | true => exact dcY (hy rfl).1
      | false => exact dcN (hn rfl).1
    rw [hdec] at CS1 CI1
    have hread : ok = true → readPg S = some pg := fun h => by rw [(hy h).2]; exact readPg_seal pg (hy h).1
    have hbent : ok = true → ∃ s, S = sealA s := fun h => ⟨_, (hy h).2⟩
    obtain ⟨pg1, rt, hr1, -⟩ := read_case S
    have hx : ok = true → rt = true ∧ pg1 = pg := fun h => by
      have h2 := hread h
      rw [h2] at hr1
      have h3 : Value.tuple #[pgVal pg, .bool true] = .tuple #[pgVal pg1, .bool rt] := hr1
      obtain ⟨k, s, x, q, c, t⟩ := pg
      obtain ⟨k1, s1, x1, q1, c1, t1⟩ := pg1
      unfold pgVal at h3
      simp at h3
      obtain ⟨⟨h4, h5, h6, h7, h8, h9⟩, h10⟩ := h3
      subst h4 h5 h6 h7 h8 h9 h10
      exact ⟨rfl, rfl⟩
    have CR := hide (fun W h => ireadPage S W (by unfold maxLen; omega) h)
    rw [hr1] at CR
    clear hread hr1 hdec hpt hy hn
    have HX := hide hx
    have HBT := hide hbent
    clear hx hbent
    obtain ⟨k, s, x, q, c, t⟩ := pg
    obtain ⟨k1, s1, x1, q1, c1, t1⟩ := pg1
    unfold pgVal at *
    simp only at *
    have B2 := hide (b2.alloc b2.size (.cells #[.int .i64 k, .int .i64 s, .int .i64 x, .int .i64 q, .int .i64 c, .string t] 35))
    have G3 := hide (pgAt_new w2 k s x q c t)
    clear b2
    go_wp2_with fail
    refine (CP.out _ (HT.out.on B2.out)).mono ?_
    rintro e w3 ⟨rfl, b3⟩
    have B3 := hide (B2.out.trans (b3.mono B2.out.size))
    have G4 := hide (G3.out.next b3)
    clear b3 B2 G3 CP
    go_wp2_with fail
    refine (CR.out _ (HT.out.on B3.out)).mono ?_
    rintro e w4 ⟨rfl, b4⟩
    have b4a : Below w4.heap.size w4 (w4.alloc (.cells #[.int .i64 k1, .int .i64 s1, .int .i64 x1, .int .i64 q1, .int .i64 c1, .string t1] 35)) := (Below.refl _ _).alloc (Nat.le_refl _) _
    have B4 := hide ((B3.out.trans (b4.mono B3.out.size)))
    have B5 := hide (B4.out.trans (b4a.mono B4.out.size))
    have G5 := hide ((G4.out.next b4).next b4a)
    have X5 := hide (pgAt_new w4 k1 s1 x1 q1 c1 t1)
    clear b4 b4a B3 B4 G4 CR
    obtain ⟨g0, g1, g2, g3, g4, g5⟩ := G5.out.2
    go_wp2_with fail
    refine (CS1.out _).mono ?_
    rintro e w5 ⟨rfl, b5⟩
    have B6 := hide (B5.out.trans (b5.mono B5.out.size))
    have G6 := hide (G5.out.next b5)
    have X6 := hide (X5.out.next b5)
    clear b5 B5 G5 X5 CS1 g0 g1 g2 g3 g4 g5
    obtain ⟨g0, g1, g2, g3, g4, g5⟩ := G6.out.2
    have okk : (ok != ok) = false := by cases ok <;> rfl
    go_wp2_with fail
    refine (CI1.out _).mono ?_
    rintro e w6 ⟨rfl, b6⟩
    have B7 := hide (B6.out.trans (b6.mono B6.out.size))
    have G7 := hide (G6.out.next b6)
    have X7 := hide (X6.out.next b6)
    clear b6 B6 G6 X6 CI1 g0 g1 g2 g3 g4 g5
    obtain ⟨g0, g1, g2, g3, g4, g5⟩ := G7.out.2
    obtain ⟨h0, h1, h2, h3, h4, h5⟩ := X7.out.2
    have REST : ∀ (rt' : Bool), True := fun _ => trivial
    clear REST
    cases ok with
    | true =>
      obtain ⟨rfl, hpp⟩ := HX.out rfl
      injection hpp with e1 e2 e3 e4 e5 e6
      subst e1 e2 e3 e4 e5 e6
      go_wp2_with fail
      refine (drawReadPage_any ad len cap _ (by omega) ((HD.out.on B7.out (Nat.le_refl _)).up B7.out.size)).mono ?_
      rintro e w7 ⟨T, rfl, hT, b7⟩
      obtain ⟨pg2, may, hr2, hagain⟩ := read_case T
      have CR2 := hide (fun W h => ireadPage T W (by unfold maxLen; omega) h)
      have CR3 := hide (fun W => sreadPage T W (by unfold maxLen; omega))
      rw [hr2] at CR2 CR3
      obtain ⟨T2, ok2, hp2, -, -, -⟩ := ptRes_tuple pg2
      have CP2 := hide (fun W h => ipageText pg2 W h)
      rw [hp2] at CP2
      have HAG : Hid (may = true → T2 = T) := fun h => by
        have := hagain h
        rw [hp2] at this
        simp at this
        exact this.1
      clear hr2 hagain hp2
      obtain ⟨k2, s2, x2, q2, c2, t2⟩ := pg2
      unfold pgVal at CR2 CR3 CP2
      simp only at CR2 CR3 CP2
      have B8 := hide (B7.out.trans (b7.mono B7.out.size))
      clear b7 B7 G7 X7 g0 g1 g2 g3 g4 g5 h0 h1 h2 h3 h4 h5
      go_wp2_with fail
      refine (CR2.out _ (HT.out.on B8.out)).mono ?_
      rintro e w8 ⟨rfl, b8⟩
      have b8a : Below w8.heap.size w8 (w8.alloc (.cells #[.int .i64 k2, .int .i64 s2, .int .i64 x2, .int .i64 q2, .int .i64 c2, .string t2] 35)) := (Below.refl _ _).alloc (Nat.le_refl _) _
      have B9 := hide (B8.out.trans (b8.mono B8.out.size))
      have B10 := hide (B9.out.trans (b8a.mono B9.out.size))
      have Y1 := hide (pgAt_new w8 k2 s2 x2 q2 c2 t2)
      clear b8 b8a B8 B9 CR2
      go_wp2_with fail
      refine (CR3.out _).mono ?_
      rintro e w9 ⟨rfl, b9⟩
      have b9a : Below w9.heap.size w9 (w9.alloc (.cells #[.int .i64 k2, .int .i64 s2, .int .i64 x2, .int .i64 q2, .int .i64 c2, .string t2] 35)) := (Below.refl _ _).alloc (Nat.le_refl _) _
      have B11 := hide (B10.out.trans (b9.mono B10.out.size))
      have B12 := hide (B11.out.trans (b9a.mono B11.out.size))
      have Y2 := hide ((Y1.out.next b9).next b9a)
      clear b9 b9a B10 B11 Y1 CR3
      obtain ⟨u0, u1, u2, u3, u4, u5⟩ := Y2.out.2
      go_wp2_with fail
      refine (CP2.out _ (HT.out.on B12.out)).mono ?_
      rintro e w10 ⟨rfl, b10⟩
      have B13 := hide (B12.out.trans (b10.mono B12.out.size))
      clear b10 B12 Y2 CP2 u0 u1 u2 u3 u4 u5
      go_wp2_with fail
      refine (places_any ad len cap _ (by omega) ((HD.out.on B13.out (Nat.le_refl _)).up B13.out.size)).mono ?_
      rintro e w11 ⟨g, cp, ps, rfl, hg, hgw, hpl, hall, hcell, b11⟩
      have kk0 := hcell 0 (by omega)
      have kk1 := hcell 1 (by omega)
      have pp0 := hall ps[0] (List.getElem_mem _)
      have pp1 := hall ps[1] (List.getElem_mem _)
      generalize ps[0] = z0 at kk0 pp0
      generalize ps[1] = z1 at kk1 pp1
      have B14 := hide (B13.out.trans (b11.mono B13.out.size))
      clear b11 B13 hcell hall hpl hg
      go_wp2_with fail
      refine (turned_any S g cp z0 z1 _ (by omega) hgw pp0 pp1 kk0 kk1).mono ?_
      rintro e w12 ⟨R, rfl, hR, hno, b12⟩
      obtain ⟨pg4, bent, hr4, -⟩ := read_case R
      have HNO : Hid (true = true → bent = false) := fun h => by
        obtain ⟨s', hs'⟩ := HBT.out (by first | exact h | trivial)
        have h1 := hno s' hs'
        have h2 : readPg R = none := by unfold readPg; rw [h1]
        rw [h2] at hr4
        have h3 : Value.tuple #[pgVal ⟨0, 0, 0, 0, 0, ⟨#[]⟩⟩, .bool false] = .tuple #[pgVal pg4, .bool bent] := hr4
        unfold pgVal at h3
        simp at h3
        exact h3.2.symm ▸ rfl
      have CR4 := hide (fun W h => ireadPage R W (by unfold maxLen; omega) h)
      rw [hr4] at CR4
      clear hr4 hno
      obtain ⟨k4, s4, x4, q4, c4, t4⟩ := pg4
      unfold pgVal at CR4
      simp only at CR4
      have B15 := hide (B14.out.trans (b12.mono B14.out.size))
      clear b12 B14 kk0 kk1 pp0 pp1
      go_wp2_with fail
      refine (CR4.out _ (HT.out.on B15.out)).mono ?_
      rintro e w13 ⟨rfl, b13⟩
      have B16 := hide (B15.out.trans (b13.mono B15.out.size))
      have B17 := hide (B16.out.alloc B16.out.size (.cells #[.int .i64 k4, .int .i64 s4, .int .i64 x4, .int .i64 q4, .int .i64 c4, .string t4] 35))
      clear b13 B15 B16 CR4
      cases may with
      | true =>
        obtain rfl := HAG.out (by first | rfl | trivial)
        have teq : (T2.toList == T2.toList) = true := by simp
        obtain rfl := HNO.out (by first | rfl | trivial)
        go_wp2
        go_ret
        exact ⟨rfl, B17.out⟩
      | false =>
        obtain rfl := HNO.out (by first | rfl | trivial)
        go_wp2
        go_ret
        exact ⟨rfl, B17.out⟩
    | false =>
      go_wp2_with fail
      refine (drawReadPage_any ad len cap _ (by omega) ((HD.out.on B7.out (Nat.le_refl _)).up B7.out.size)).mono ?_
      rintro e w7 ⟨T, rfl, hT, b7⟩
      obtain ⟨pg2, may, hr2, hagain⟩ := read_case T
      have CR2 := hide (fun W h => ireadPage T W (by unfold maxLen; omega) h)
      have CR3 := hide (fun W => sreadPage T W (by unfold maxLen; omega))
      rw [hr2] at CR2 CR3
      obtain ⟨T2, ok2, hp2, -, -, -⟩ := ptRes_tuple pg2
      have CP2 := hide (fun W h => ipageText pg2 W h)
      rw [hp2] at CP2
      have HAG : Hid (may = true → T2 = T) := fun h => by
        have := hagain h
        rw [hp2] at this
        simp at this
        exact this.1
      clear hr2 hagain hp2
      obtain ⟨k2, s2, x2, q2, c2, t2⟩ := pg2
      unfold pgVal at CR2 CR3 CP2
      simp only at CR2 CR3 CP2
      have B8 := hide (B7.out.trans (b7.mono B7.out.size))
      clear b7 B7 G7 X7 g0 g1 g2 g3 g4 g5 h0 h1 h2 h3 h4 h5
      go_wp2_with fail
      refine (CR2.out _ (HT.out.on B8.out)).mono ?_
      rintro e w8 ⟨rfl, b8⟩
      have b8a : Below w8.heap.size w8 (w8.alloc (.cells #[.int .i64 k2, .int .i64 s2, .int .i64 x2, .int .i64 q2, .int .i64 c2, .string t2] 35)) := (Below.refl _ _).alloc (Nat.le_refl _) _
      have B9 := hide (B8.out.trans (b8.mono B8.out.size))
      have B10 := hide (B9.out.trans (b8a.mono B9.out.size))
      have Y1 := hide (pgAt_new w8 k2 s2 x2 q2 c2 t2)
      clear b8 b8a B8 B9 CR2
      go_wp2_with fail
      refine (CR3.out _).mono ?_
      rintro e w9 ⟨rfl, b9⟩
      have b9a : Below w9.heap.size w9 (w9.alloc (.cells #[.int .i64 k2, .int .i64 s2, .int .i64 x2, .int .i64 q2, .int .i64 c2, .string t2] 35)) := (Below.refl _ _).alloc (Nat.le_refl _) _
      have B11 := hide (B10.out.trans (b9.mono B10.out.size))
      have B12 := hide (B11.out.trans (b9a.mono B11.out.size))
      have Y2 := hide ((Y1.out.next b9).next b9a)
      clear b9 b9a B10 B11 Y1 CR3
      obtain ⟨u0, u1, u2, u3, u4, u5⟩ := Y2.out.2
      go_wp2_with fail
      refine (CP2.out _ (HT.out.on B12.out)).mono ?_
      rintro e w10 ⟨rfl, b10⟩
      have B13 := hide (B12.out.trans (b10.mono B12.out.size))
      clear b10 B12 Y2 CP2 u0 u1 u2 u3 u4 u5
      go_wp2_with fail
      refine (places_any ad len cap _ (by omega) ((HD.out.on B13.out (Nat.le_refl _)).up B13.out.size)).mono ?_
      rintro e w11 ⟨g, cp, ps, rfl, hg, hgw, hpl, hall, hcell, b11⟩
      have kk0 := hcell 0 (by omega)
      have kk1 := hcell 1 (by omega)
      have pp0 := hall ps[0] (List.getElem_mem _)
      have pp1 := hall ps[1] (List.getElem_mem _)
      generalize ps[0] = z0 at kk0 pp0
      generalize ps[1] = z1 at kk1 pp1
      have B14 := hide (B13.out.trans (b11.mono B13.out.size))
      clear b11 B13 hcell hall hpl hg
      go_wp2_with fail
      refine (turned_any S g cp z0 z1 _ (by omega) hgw pp0 pp1 kk0 kk1).mono ?_
      rintro e w12 ⟨R, rfl, hR, hno, b12⟩
      obtain ⟨pg4, bent, hr4, -⟩ := read_case R
      have HNO : Hid (false = true → bent = false) := fun h => by
        obtain ⟨s', hs'⟩ := HBT.out (by first | exact h | trivial)
        have h1 := hno s' hs'
        have h2 : readPg R = none := by unfold readPg; rw [h1]
        rw [h2] at hr4
        have h3 : Value.tuple #[pgVal ⟨0, 0, 0, 0, 0, ⟨#[]⟩⟩, .bool false] = .tuple #[pgVal pg4, .bool bent] := hr4
        unfold pgVal at h3
        simp at h3
        exact h3.2.symm ▸ rfl
      have CR4 := hide (fun W h => ireadPage R W (by unfold maxLen; omega) h)
      rw [hr4] at CR4
      clear hr4 hno
      obtain ⟨k4, s4, x4, q4, c4, t4⟩ := pg4
      unfold pgVal at CR4
      simp only at CR4
      have B15 := hide (B14.out.trans (b12.mono B14.out.size))
      clear b12 B14 kk0 kk1 pp0 pp1
      go_wp2_with fail
      refine (CR4.out _ (HT.out.on B15.out)).mono ?_
      rintro e w13 ⟨rfl, b13⟩
      have B16 := hide (B15.out.trans (b13.mono B15.out.size))
      have B17 := hide (B16.out.alloc B16.out.size (.cells #[.int .i64 k4, .int .i64 s4, .int .i64 x4, .int .i64 q4, .int .i64 c4, .string t4] 35))
      clear b13 B15 B16 CR4
      cases may with
      | true =>
        obtain rfl := HAG.out (by first | rfl | trivial)
        have teq : (T2.toList == T2.toList) = true := by simp
        go_wp2
        go_ret
        exact ⟨rfl, B17.out⟩
      | false =>
        go_wp2
        go_ret
        exact ⟨rfl, B17.out⟩
end Go.Proofs.YtaolinlginloaacDoor
