/-
  The draw of a right flash.
-/
import Derived.Test.YthkkefbhcmhijaaPq13
import Derived.Test.YthkkefbhcmhijaaSNew
import Derived.Test.YthkkefbhcmhijaaSProg
import Derived.Test.YthkkefbhcmhijaaSWipe
import Derived.Test.YthkkefbhcmhijaaSBad
import Derived.Test.YthkkefbhcmhijaaPq26
import Derived.Test.YthkkefbhcmhijaaD3
import Derived.Deep.RegionWith
import Derived.Deep.RegionHeld3
namespace Go.Proofs.Ythkkefbhcmhijaa
open Go.RowKit

theorem FlashOf.drawn {w w' : World} {B p : Nat} {v : Value} {bs : List Bk} (h : FlashOf w B v bs) (hg : w.grownBy w' (some p)) (hp : p < B) : FlashOf w' B v bs := by
  obtain ⟨ss, e, hs⟩ := h
  exact ⟨ss, e, (hs.kept (fun g h1 h2 => hg.block g h2 (fun q => by cases q; omega))).up hg.size⟩
theorem FlashOf.lens {w : World} {B : Nat} {v : Value} {bs : List Bk} {n : Int} (h : FlashOf w B v bs) (hr : Right n bs) : ∃ ss, ss.map tellOf = bs ∧ FlashIn w B w.heap.size v ss ∧ ss.length ≤ 1048576 ∧ ∀ q ∈ ss, q.2.2.2.length ≤ 1048576 := by
  obtain ⟨ss, rfl, hs⟩ := h
  obtain ⟨-, l1, l2⟩ := hr.lens
  rw [List.length_map] at l1
  exact ⟨ss, rfl, hs, by omega, fun q hq => by have := l2 _ (List.mem_map_of_mem (f := tellOf) hq); simp only [tellOf] at this; omega⟩
/-- The cells of a block of a flash. -/
theorem FlashOf.blk {w : World} {B gu n cap : Nat} {bs : List Bk} {k : Nat} {r : Bk} (h : FlashOf w B (.slice (some ⟨gu, 0, none⟩) n cap) bs) (hr : bs[k]? = some r) :
    ∃ ld lcap, (w.cell? ⟨gu, k * 3, none⟩ = some (.bool r.1) ∧ w.cell? ⟨gu, k * 3 + 1, none⟩ = some (.int .i64 r.2.1) ∧ w.cell? ⟨gu, k * 3 + 2, none⟩ = some (.slice ld r.2.2.length lcap)) ∧ w.ownsRow B 41 2 (.slice ld r.2.2.length lcap) r.2.2.length (lcells r.2.2) := by
  obtain ⟨ss, rfl, hs⟩ := h
  rw [List.getElem?_map] at hr
  obtain ⟨s, hs2, rfl⟩ := Option.map_eq_some_iff.1 hr
  obtain ⟨ud', ucap', e, -, -, u3⟩ := frow_form hs.1
  injection e with e1 e2 e3
  subst e1 e2 e3
  obtain ⟨c1, c2, c3⟩ := kown_cells (k := k) (t := cellOf s) hs.1 (by rw [List.getElem?_map, hs2]; rfl)
  have hl := hs.2.2.1 s (List.mem_of_getElem? hs2)
  obtain ⟨x, y, u, ls⟩ := s
  simp only [cellOf] at c1 c2 c3
  simp only at hl
  obtain ⟨ld, lcap, rfl, -⟩ := frow_form hl.1
  exact ⟨ld, lcap, ⟨c1, c2, c3⟩, hl.1⟩
theorem FlashOf.ptr {w : World} {B n cap : Nat} {ad : Option Addr} {bs : List Bk} (h : FlashOf w B (.slice ad n cap) bs) (hn : 0 < bs.length) : ∃ gu, ad = some ⟨gu, 0, none⟩ ∧ B ≤ gu ∧ gu < w.heap.size ∧ n = bs.length := by
  obtain ⟨ss, rfl, hs⟩ := h
  obtain ⟨ud', ucap', e, -, -, u3⟩ := frow_form hs.1
  injection e with e1 e2 e3
  rw [List.length_map] at hn
  obtain ⟨gu, h1, h2, h3⟩ := u3 hn
  exact ⟨gu, e1.trans h1, h2, h3, by simpa using e2⟩

/-- Where the draw stands: the result's cell, the flash's cell, the flash, the cursor. -/
def DrawS (w wr : World) (gf p : Nat) (ad : Option Addr) (len cap : Nat) (v : Value) (bs : List Bk) : Prop :=
  wr.heap[w.heap.size]? = some (.cells #[.slice none 0 0] 26 (0, 0)) ∧ wr.heap[gf]? = some (.cells #[v] 26 (0, 0)) ∧ FlashOf wr (w.heap.size + 1) v bs ∧ Drawn w wr p ad len cap
theorem DrawS.below {w wr w' : World} {gf p : Nat} {ad : Option Addr} {len cap : Nat} {v : Value} {bs : List Bk} (h : DrawS w wr gf p ad len cap v bs) (hb : Below wr.heap.size wr w') (hp : p < w.heap.size) : DrawS w w' gf p ad len cap v bs := by
  obtain ⟨h1, h2, h3, h4⟩ := h
  exact ⟨(hb.block _ (Array.getElem?_eq_some_iff.1 h1).1).trans h1, (hb.block _ (Array.getElem?_eq_some_iff.1 h2).1).trans h2, h3.below hb, h4.below (hb.mono h4.1.size) hp⟩
theorem DrawS.drawn {w wr w' : World} {gf p : Nat} {ad : Option Addr} {len cap : Nat} {v : Value} {bs : List Bk} (h : DrawS w wr gf p ad len cap v bs) (hd : Drawn wr w' p ad len cap) (hp : p < w.heap.size) (hg : w.heap.size < gf) : DrawS w w' gf p ad len cap v bs := by
  obtain ⟨h1, h2, h3, h4⟩ := h
  exact ⟨(hd.1.block _ (Array.getElem?_eq_some_iff.1 h1).1 (fun e => by cases e; omega)).trans h1, (hd.1.block _ (Array.getElem?_eq_some_iff.1 h2).1 (fun e => by cases e; omega)).trans h2, h3.drawn hd.1 (by omega), h4.trans hd⟩
theorem DrawS.set {w wr w' : World} {gf p : Nat} {ad : Option Addr} {len cap : Nat} {v u : Value} {bs bs' : List Bk} (h : DrawS w wr gf p ad len cap v bs) (hb : Below wr.heap.size wr w') (hf : FlashOf w' wr.heap.size u bs') (hp : p < w.heap.size) (hg : w.heap.size < gf) : DrawS w (w'.setCell ⟨gf, 0, none⟩ u) gf p ad len cap u bs' := by
  have hlt := (Array.getElem?_eq_some_iff.1 h.2.1).1
  have hsz := h.2.2.2.1.size
  obtain ⟨h1, h2, h3, h4⟩ := h.below hb hp
  refine ⟨row_set_ne h1 (by omega) _ _, row_set h2 _ _, (hf.cell hlt 0 u).down (by omega), ?_⟩
  exact h4.below ((Below.refl _ _).setCell (p := ⟨gf, 0, none⟩) (by show _ ≤ gf; omega) u) hp
theorem DrawS.cell {w wr : World} {gf p : Nat} {ad : Option Addr} {len cap : Nat} {v : Value} {bs : List Bk} (h : DrawS w wr gf p ad len cap v bs) : wr.cell? ⟨gf, 0, none⟩ = some v ∧ wr.frozen? ⟨gf, 0, none⟩ = false := ⟨cell_of_row _ _ 0 _ _ _ h.2.1, frozen_of_row _ _ 0 _ _ h.2.1⟩
theorem DrawS.drew {w wr : World} {gf p : Nat} {ad : Option Addr} {len cap : Nat} {v : Value} {bs : List Bk} (h : DrawS w wr gf p ad len cap v bs) (hp : p < w.heap.size) : DrawS w wr.drew gf p ad len cap v bs := h.below (Below.refl _ _).drew hp
theorem DrawS.torn {w wr : World} {gf p : Nat} {ad : Option Addr} {len cap : Nat} {gu gl n vcap m lcap : Nat} {bs : List Bk} {k j : Nat} {r : Bk} (h : DrawS w wr gf p ad len cap (.slice (some ⟨gu, 0, none⟩) n vcap) bs) (hr : bs[k]? = some r) (hj : j < r.2.2.length) (hc : wr.cell? ⟨gu, k * 3 + 2, none⟩ = some (.slice (some ⟨gl, 0, none⟩) m lcap)) (hp : p < w.heap.size) :
    (∃ x, wr.cell? ⟨gl, j * 2, none⟩ = some x) ∧ (∃ x, wr.cell? ⟨gl, j * 2 + 1, none⟩ = some x) ∧ wr.frozen? ⟨gl, j * 2, none⟩ = false ∧ wr.frozen? ⟨gl, j * 2 + 1, none⟩ = false ∧ gu ≠ gl ∧ gf ≠ gl ∧
      ∀ (z : Int) (t : ByteArray), DrawS w ((wr.setCell ⟨gl, j * 2, none⟩ (.int .i64 z)).setCell ⟨gl, j * 2 + 1, none⟩ (.string t)) gf p ad len cap (.slice (some ⟨gu, 0, none⟩) n vcap) (bs.modify k (fun q => (q.1, q.2.1, q.2.2.set j (z, t)))) := by
  obtain ⟨h1, h2, h3, h4⟩ := h
  obtain ⟨gu', gl', lcap', e9, c9, x1, x2, f1, f2, hB, -, hne, hput⟩ := h3.put hr hj
  injection e9 with e9
  injection e9 with e9
  subst e9
  rw [hc] at c9
  injection c9 with c9
  injection c9 with c9 c10 c11
  injection c9 with c9
  injection c9 with c9
  subst c9
  have hap : gu ≠ gl := by
    obtain ⟨ss, rfl, hs⟩ := h3
    rw [List.getElem?_map] at hr
    obtain ⟨s, hs2, rfl⟩ := Option.map_eq_some_iff.1 hr
    obtain ⟨ud', ucap', e, -, -, u3⟩ := frow_form hs.1
    injection e with e1 e2 e3
    subst e1 e2 e3
    obtain ⟨-, -, c3⟩ := kown_cells (k := k) (t := cellOf s) hs.1 (by rw [List.getElem?_map, hs2]; rfl)
    rw [hc] at c3
    injection c3 with c3
    have hl := hs.2.2.1 s (List.mem_of_getElem? hs2)
    intro e
    refine leaf_not_block hs.1 hl.1 gu rfl ?_
    show (cellOf s).2.2.ownBlock = some gu
    rw [← c3, e]
    rfl
  refine ⟨x1, x2, f1, f2, hap, hne _ _ h2, fun z t => ⟨row_set_ne (row_set_ne h1 (hne _ _ h1) _ _) (hne _ _ h1) _ _, row_set_ne (row_set_ne h2 (hne _ _ h2) _ _) (hne _ _ h2) _ _, hput z t, ?_⟩⟩
  exact h4.below (((Below.refl _ _).setCell (p := ⟨gl, j * 2, none⟩) (by show _ ≤ gl; omega) _).setCell (p := ⟨gl, j * 2 + 1, none⟩) (by show _ ≤ gl; omega) _) hp
theorem dBelow {w wr : World} {gf p : Nat} {ad : Option Addr} {len cap B : Nat} {v : Value} {bs : List Bk} (n : Int) (h : DrawS w wr gf p ad len cap v bs) (hn : n ≤ 1000000000000) (hl : len ≤ 1048576) (hd : CodeIn w ad len B) (hB : B ≤ p) (hp : p < w.heap.size) (hg : w.heap.size < gf) :
    Calls Try.prog 18 #[.pointer (some ⟨p, 0, none⟩), .int .i64 n] wr fun e w' => ∃ x : Int, e = .returned (.int .i64 x) ∧ 0 ≤ x ∧ (0 < n → x < n) ∧ DrawS w w' gf p ad len cap v bs := by
  refine (below_any n p ad len cap B wr hn hl h.2.2.2.2 (h.2.2.2.code hd hB hp) hB).mono ?_
  rintro e w1 ⟨x, rfl, x0, x1, -, d1⟩
  exact ⟨x, rfl, x0, x1, h.drawn d1 hp hg⟩
theorem dText {w wr : World} {gf p : Nat} {ad : Option Addr} {len cap B : Nat} {v : Value} {bs : List Bk} (n : Int) (h : DrawS w wr gf p ad len cap v bs) (hl : len ≤ 1048576) (hd : CodeIn w ad len B) (hB : B ≤ p) (hp : p < w.heap.size) (hg : w.heap.size < gf) :
    Calls Try.prog 31 #[.pointer (some ⟨p, 0, none⟩), .int .i64 n] wr fun e w' => ∃ t : ByteArray, e = .returned (.string t) ∧ DrawS w w' gf p ad len cap v bs := by
  refine (text_any n p ad len cap B wr hl h.2.2.2.2 (h.2.2.2.code hd hB hp) hB).mono ?_
  rintro e w1 ⟨t, rfl, -, -, d1⟩
  exact ⟨_, rfl, h.drawn d1 hp hg⟩
theorem dOnce {w wr : World} {gf p : Nat} {ad : Option Addr} {len cap B : Nat} {v : Value} {bs : List Bk} (n : Int) (h : DrawS w wr gf p ad len cap v bs) (hn : n ≤ 1000000000000) (hl : len ≤ 1048576) (hd : CodeIn w ad len B) (hB : B ≤ p) (hp : p < w.heap.size) (hg : w.heap.size < gf) :
    Calls Try.prog 32 #[.pointer (some ⟨p, 0, none⟩), .int .i64 n] wr fun e w' => ∃ b : Bool, e = .returned (.bool b) ∧ DrawS w w' gf p ad len cap v bs := by
  refine (once_any n p ad len cap B wr hn hl h.2.2.2.2 (h.2.2.2.code hd hB hp) hB).mono ?_
  rintro e w1 ⟨b, rfl, d1⟩
  exact ⟨b, rfl, h.drawn d1 hp hg⟩
theorem dWipe {w wr : World} {gf p : Nat} {ad : Option Addr} {len cap : Nat} {v : Value} {bs : List Bk} {m : Int} (b : Int) (h : DrawS w wr gf p ad len cap v bs) (hr : Right m bs) :
    Calls Try.prog 28 #[.agg #[v], .int .i64 b] wr fun e w' => ∃ u, e = .returned (.tuple #[.agg #[u], .bool (wipeF bs b).2]) ∧ FlashOf w' wr.heap.size u (wipeF bs b).1 ∧ Below wr.heap.size wr w' := by
  obtain ⟨ss, rfl, i1, l, ll⟩ := h.2.2.1.lens hr
  exact swipe_any _ ss _ _ b wr l ll (Nat.le_refl _) i1
theorem dProg {w wr : World} {gf p : Nat} {ad : Option Addr} {len cap : Nat} {v : Value} {bs : List Bk} {m : Int} (b leaf : Int) (t : ByteArray) (h : DrawS w wr gf p ad len cap v bs) (hr : Right m bs) :
    Calls Try.prog 30 #[.agg #[v], .int .i64 b, .int .i64 leaf, .string t] wr fun e w' => ∃ u, e = .returned (.tuple #[.agg #[u], .bool (programF bs b leaf t).2]) ∧ FlashOf w' wr.heap.size u (programF bs b leaf t).1 ∧ Below wr.heap.size wr w' := by
  obtain ⟨ss, rfl, i1, l, ll⟩ := h.2.2.1.lens hr
  exact sprog_any _ ss _ _ b leaf t wr l ll (Nat.le_refl _) i1
theorem dBad {w wr : World} {gf p : Nat} {ad : Option Addr} {len cap : Nat} {v : Value} {bs : List Bk} {m : Int} (b : Int) (h : DrawS w wr gf p ad len cap v bs) (hr : Right m bs) :
    Calls Try.prog 33 #[.agg #[v], .int .i64 b] wr fun e w' => ∃ u, e = .returned (.agg #[u]) ∧ FlashOf w' wr.heap.size u (badF bs b) ∧ Below wr.heap.size wr w' := by
  obtain ⟨ss, rfl, i1, l, ll⟩ := h.2.2.1.lens hr
  exact sbad_any _ ss _ _ b wr l ll (Nat.le_refl _) i1

set_option maxHeartbeats 8000000 in
set_option maxRecDepth 100000 in
theorem l05_any (p : Nat) (ad : Option Addr) (len cap B : Nat) (w : World) (hl : len ≤ 1048576) (hc : CurIn w p ad len cap) (hd : CodeIn w ad len B) (hB : B ≤ p) :
    Calls Try.prog 15 #[.pointer (some ⟨p, 0, none⟩)] w fun e w' => ∃ v bs, e = .returned (.agg #[v]) ∧ Right 20 bs ∧ FlashOf w' w.heap.size v bs ∧ Drawn w w' p ad len cap := by
  have hpw := hc.2.2.2.2.2
  have hb0 := (Below.refl w.heap.size w).alloc (Nat.le_refl _) (.cells #[.slice none 0 0] 26)
  have R0 := hide (heap_alloc_new w (.cells #[.slice none 0 0] 26))
  have D0 := hide ((Drawn.refl hc).below hb0 hpw)
  have HD := hide hd
  have HD0 := hide (hd.on hb0 (by omega))
  have HZ := hide (show (w.alloc (.cells #[.slice none 0 0] 26)).heap.size = w.heap.size + 1 by simp)
  clear hc hd hb0
  go_enter Try.func15, Try.ntmps15
  go_wp2_with fail
  refine (below_any 5 p ad len cap B _ (by omega) hl D0.out.2 HD0.out hB).mono ?_
  rintro e w1 ⟨x, rfl, x0, x1, -, d1⟩
  have x2 := x1 (by omega)
  have hw3 : IntKind.i64.wrap (3 + x) = 3 + x := by rw [IntKind.wrap_i64]; omega
  have D1 := hide (D0.out.trans d1)
  have R1 := hide ((d1.1.block _ (by have := HZ.out; omega) (fun e => by cases e; omega)).trans R0.out)
  have s1 : w.heap.size + 1 ≤ w1.heap.size := by have := d1.1.size; have := HZ.out; omega
  clear d1 R0 D0 HD0 x1 HZ
  go_wp2_with fail
  refine (snew_any (3 + x) _).mono ?_
  rintro e w2 ⟨u, rfl, fo, b2⟩
  have hn := Right.new (n := 3 + x) (by omega)
  generalize newF (3 + x) = bs0 at fo hn
  obtain ⟨ud, ucap, rfl⟩ := fo.form
  have b3 := b2.alloc b2.size (.cells #[.slice ud bs0.length ucap] 26)
  have DS0 : Hid (DrawS w (w2.alloc (.cells #[.slice ud bs0.length ucap] 26)) w2.heap.size p ad len cap (.slice ud bs0.length ucap) bs0) :=
    ⟨(b3.block _ (by omega)).trans R1.out, heap_alloc_new w2 _, (fo.below ((Below.refl _ _).alloc (Nat.le_refl _) _)).down s1, D1.out.below (b3.mono (by omega)) hpw⟩
  have HR0 := hide hn
  have hgf : w.heap.size < w2.heap.size := by have := b2.size; omega
  clear fo b2 b3 hn R1 D1
  go_wp2
  generalize w2.alloc (.cells #[.slice ud bs0.length ucap] 26) = w3 at DS0 ⊢
  generalize w2.heap.size = gf at DS0 hgf ⊢
  go_loopw [5] (fun iv wr => ∃ (k : Nat) (v : Value) (bs : List Bk), k ≤ 20 ∧ iv = .int .i64 k ∧ Hid (Right (k : Int) bs) ∧ Hid (DrawS w wr gf p ad len cap v bs)) (fun iv _ => 20 - (intOf iv).toNat)
  case atStart => exact ⟨0, _, bs0, Nat.zero_le _, rfl, HR0, DS0⟩
  case round =>
    obtain ⟨k, v, bs, hk, rfl, HR, DS⟩ := hrel
    obtain ⟨vd, vcap, rfl⟩ := DS.out.2.2.1.form
    obtain ⟨l3, l10, -⟩ := HR.out.lens
    go_wp2_with fail
    refine (dBelow 20 DS.out (by omega) hl HD.out hB hpw hgf).mono ?_
    rintro e w4 ⟨y, rfl, y0, y1, ds4⟩
    have y2 := y1 (by omega)
    have DS4 := hide ds4
    obtain ⟨c4, f4⟩ := ds4.cell
    clear ds4 y1 DS
    by_cases hlt : (k : Int) < y
    · go_wp2_with fail
      refine (dBelow (bs.length : Int) DS4.out (by omega) hl HD.out hB hpw hgf).mono ?_
      rintro e w5 ⟨b, rfl, b0, b1, ds5⟩
      have b2 := b1 (by omega)
      have DS5 := hide ds5
      clear ds5 b1 DS4 c4 f4
      go_wp2_with fail
      refine (dBelow 8 DS5.out (by omega) hl HD.out hB hpw hgf).mono ?_
      rintro e w6 ⟨z, rfl, z0, -, ds6⟩
      have DS6 := hide ds6
      obtain ⟨c6, f6⟩ := ds6.cell
      clear ds6 DS5
      obtain ⟨kb, rfl⟩ : ∃ kb : Nat, b = kb := ⟨b.toNat, by omega⟩
      by_cases hz0 : z = 0
      · have e0 : (z == 0) = true := by simp [hz0]
        clear hz0
        go_wp2_with fail
        refine (dWipe (kb : Int) DS6.out HR.out).mono ?_
        rintro e w7 ⟨u, rfl, fo, b7⟩
        have DS7 := hide (DS6.out.set b7 fo hpw hgf)
        have HR7 := hide (HR.out.wipe (by omega) (kb : Int))
        obtain ⟨c7, f7⟩ := (DS6.out.below b7 hpw).cell
        generalize (wipeF bs (kb : Int)).1 = bs7 at fo DS7 HR7
        generalize (wipeF bs (kb : Int)).2 = ok7
        obtain ⟨ud7, ucap7, rfl⟩ := fo.form
        clear fo b7
        go_wp2
        refine ⟨⟨k + 1, _, bs7, by omega, (by first | rfl | go_num), (by simpa using HR7), DS7⟩, by simp [intOf]; omega⟩
      · have e0 : (z == 0) = false := by simpa using hz0
        by_cases hz1 : z = 1
        · have e1 : (z == 1) = true := by simp [hz1]
          clear hz0 hz1
          have hkb : kb < bs.length := by omega
          have hr : bs[kb]? = some bs[kb] := List.getElem?_eq_getElem hkb
          generalize bs[kb] = r at hr
          have h4 : r.2.2.length = 4 := HR.out.lens.2.2 r (List.mem_of_getElem? hr)
          obtain ⟨gu, rfl, hgu, hguw, -⟩ := DS6.out.2.2.1.ptr (by omega)
          obtain ⟨ld, lcap, ⟨k1, k2, k3⟩, own⟩ := DS6.out.2.2.1.blk hr
          have OWN := hide own
          have HRR := hide hr
          have H4 := hide h4
          obtain ⟨x, y', ls⟩ := r
          simp only at k1 k2 k3 h4
          have hl6 : ls.length ≤ 1048576 := by omega
          have b00 : (0 : Int) ≤ kb := by omega
          clear own hr h4
          go_wp2_with fail
          refine (snext_any x y' _ ls _ _ hl6 OWN.out).mono ?_
          rintro e w7 ⟨rfl, b7⟩
          have DS7 := hide (DS6.out.below b7 hpw)
          clear b7 c6 f6 k1 k2 k3 OWN DS6
          by_cases hnb : nextB ls < 4
          · obtain ⟨j, hj⟩ : ∃ j, nextB ls = j := ⟨_, rfl⟩
            have HJ := hide hj
            rw [hj] at hnb
            rw [hj]
            have hj4 : (j : Int) < 4 := by omega
            have j0 : (0 : Int) ≤ j := by omega
            obtain ⟨ld7, lcap7, ⟨k1, k2, k3⟩, own⟩ := DS7.out.2.2.1.blk HRR.out
            obtain ⟨c7, f7⟩ := DS7.out.cell
            simp only at k1 k2 k3
            have DS7d := hide (DS7.out.drew hpw)
            obtain ⟨ld8, lcap8, ⟨kd1, kd2, kd3⟩, own8⟩ := DS7d.out.2.2.1.blk HRR.out
            have e33 : (Value.slice ld8 ls.length lcap8) = .slice ld7 ls.length lcap7 := by
              have := kd3.symm.trans (show w7.drew.cell? ⟨gu, kb * 3 + 2, none⟩ = _ from k3)
              injection this
            injection e33 with e34 e35 e36
            subst e34 e36
            have OWN8 := hide own8
            have hjl : (j : Int) < ls.length := by have := H4.out; omega
            have hjn : j < ls.length := by omega
            obtain ⟨ld9, cap9, e9, -, -, l9⟩ := frow_form own8
            injection e9 with e10 e11 e12
            subst e10 e12
            obtain ⟨gl, rfl, -, -⟩ := l9 (by show 0 < ls.length; omega)
            clear own own8 e35 hj e11 l9
            go_wp2
            go_region_held3 (fun w' => w'.cell? ⟨gf, 0, none⟩ = some (.slice (some ⟨gu, 0, none⟩) bs.length vcap) ∧ w'.cell? ⟨gu, kb * 3, none⟩ = some (.bool x) ∧ w'.cell? ⟨gu, kb * 3 + 1, none⟩ = some (.int .i64 y') ∧ w'.cell? ⟨gu, kb * 3 + 2, none⟩ = some (.slice (some ⟨gl, 0, none⟩) ls.length lcap8)) (first | go_keep | exact K8 | exact ⟨cell_two K8.1 HG, cell_two K8.2.1 HU, cell_two K8.2.2.1 HU, cell_two K8.2.2.2 HU⟩) (
              (go_at_call 29; with_reducible refine Calls.mono (snext_any x y' _ ls _ _ hl6 OWN8.out) ?_; rintro en w8 ⟨rfl, b8⟩; have DS8 := hide (DS7d.out.below b8 hpw); have K8 : w8.cell? ⟨gf, 0, none⟩ = some (.slice (some ⟨gu, 0, none⟩) bs.length vcap) ∧ w8.cell? ⟨gu, kb * 3, none⟩ = some (.bool x) ∧ w8.cell? ⟨gu, kb * 3 + 1, none⟩ = some (.int .i64 y') ∧ w8.cell? ⟨gu, kb * 3 + 2, none⟩ = some (.slice (some ⟨gl, 0, none⟩) ls.length lcap8) := ⟨DS8.out.cell.1, (b8.cell (World.block_lt_of_cell? w7.drew _ kd1)).trans kd1, (b8.cell (World.block_lt_of_cell? w7.drew _ kd2)).trans kd2, (b8.cell (World.block_lt_of_cell? w7.drew _ kd3)).trans kd3⟩; obtain ⟨⟨x1, d1⟩, ⟨x2, d2⟩, g1, g2, HU, HG, hput⟩ := DS8.out.torn (j := j) HRR.out hjn K8.2.2.2 hpw; have DS9 := hide (hput 2 ⟨#[116, 111]⟩); rw [HJ.out]; clear b8 hput))
            all_goals
              have HR9 := hide (HR.out.put HRR.out (by show nextB ls < 4; rw [HJ.out]; exact hnb) 2 ⟨#[116, 111]⟩ (by omega) (by decide))
              simp only [HJ.out] at HR9
              go_wp2
              refine ⟨⟨k + 1, _, _, by omega, (by first | rfl | go_num), hide (HR9.out.mono (by omega)), DS9⟩, by simp [intOf]; omega⟩
          · have hnb2 : ¬ ((nextB ls : Nat) : Int) < 4 := by omega
            go_wp2
            refine ⟨⟨k + 1, _, bs, by omega, (by first | rfl | go_num), hide (HR.out.mono (by omega)), DS7⟩, by simp [intOf]; omega⟩
        · have e1 : (z == 1) = false := by simpa using hz1
          clear hz0 hz1
          have hkb : kb < bs.length := by omega
          have hr : bs[kb]? = some bs[kb] := List.getElem?_eq_getElem hkb
          generalize bs[kb] = r at hr
          have h4 : r.2.2.length = 4 := HR.out.lens.2.2 r (List.mem_of_getElem? hr)
          obtain ⟨gu, rfl, hgu, hguw, -⟩ := DS6.out.2.2.1.ptr (by omega)
          have DS6d := hide (DS6.out.drew hpw)
          obtain ⟨ld, lcap, ⟨k1, k2, k3⟩, own⟩ := DS6d.out.2.2.1.blk hr
          have OWN := hide own
          obtain ⟨x, y', ls⟩ := r
          simp only at k1 k2 k3 h4
          have hl6 : ls.length ≤ 1048576 := by omega
          have b00 : (0 : Int) ≤ kb := by omega
          have k1' : w6.cell? ⟨gu, kb * 3, none⟩ = some (.bool x) := k1
          have k2' : w6.cell? ⟨gu, kb * 3 + 1, none⟩ = some (.int .i64 y') := k2
          have k3' : w6.cell? ⟨gu, kb * 3 + 2, none⟩ = some (.slice ld ls.length lcap) := k3
          clear own hr h4 k1 k2 k3
          go_wp2
          go_region_with (first
            | (go_at_call 29; refine (snext_any x y' _ ls _ _ hl6 OWN.out).mono ?_; rintro en w7 ⟨rfl, b7⟩; have DS7 := hide (DS6d.out.below b7 hpw); obtain ⟨c7, f7⟩ := DS7.out.cell; clear b7)
            | (go_at_call 18; refine (dBelow 5 DS7.out (by omega) hl HD.out hB hpw hgf).mono ?_; rintro en w8 ⟨x5, rfl, x50, x51, ds8⟩; have x52 := x51 (by omega); have hw5 : IntKind.i64.wrap (1 + x5) = 1 + x5 := (by rw [IntKind.wrap_i64]; omega); have DS8 := hide ds8; obtain ⟨c8, f8⟩ := ds8.cell; clear ds8 x51)
            | (go_at_call 31; refine (dText (1 + x5) DS8.out hl HD.out hB hpw hgf).mono ?_; rintro en w9 ⟨t, rfl, ds9⟩; have DS9 := hide ds9; obtain ⟨c9, f9⟩ := ds9.cell; clear ds9)
            | (go_at_call 30; refine (dProg (kb : Int) ((nextB ls : Nat) : Int) t DS9.out HR.out).mono ?_; rintro en w10 ⟨u, rfl, fo, b10⟩; have DS10 := hide (DS9.out.set b10 fo hpw hgf); have HR10 := hide (HR.out.prog (kb : Int) ((nextB ls : Nat) : Int) t); obtain ⟨c10, f10⟩ := (DS9.out.below b10 hpw).cell; generalize programF bs (kb : Int) ((nextB ls : Nat) : Int) t = pr at fo DS10 HR10 ⊢; obtain ⟨ud10, ucap10, rfl⟩ := fo.form; clear fo b10))
          all_goals
            go_wp2
            refine ⟨⟨k + 1, _, pr.1, by omega, (by first | rfl | go_num), hide (HR10.out.mono (by omega)), DS10⟩, by simp [intOf]; omega⟩
    · clear y2
      go_wp2_with fail
      refine (dOnce 4 DS4.out (by omega) hl HD.out hB hpw hgf).mono ?_
      rintro e w5 ⟨q, rfl, ds5⟩
      have DS5 := hide ds5
      have HR2 := hide (HR.out.mono (show (k : Int) ≤ 20 by omega))
      obtain ⟨c5, f5⟩ := ds5.cell
      have DS5d := hide (ds5.drew hpw)
      clear ds5 DS4 c4 f4 HR
      cases q with
      | false =>
        have n1 : w5.cell? ⟨w.heap.size, 0, none⟩ = some (.slice none 0 0) := cell_of_row _ _ 0 _ _ _ DS5.out.1
        have f1 := frozen_of_row _ _ 0 _ _ DS5.out.1
        have Q1 := hide (row_set DS5.out.1 0 (.slice vd bs.length vcap))
        have G := hide (DS5.out.2.2.1.cell (show w.heap.size < w.heap.size + 1 by omega) 0 (.slice vd bs.length vcap))
        have DE := hide (DS5.out.2.2.2.below ((Below.refl _ _).setCell (p := ⟨w.heap.size, 0, none⟩) (Nat.le_refl _) (.slice vd bs.length vcap)) hpw)
        go_wp2
        exact bodyPost_ret (results_cell_row rfl _ _ w.heap.size 26 _ (0, 0) _ rfl Q1.out Try.underlying26 rfl infoFlash1) rfl ⟨_, _, rfl, HR2.out, G.out.down (by omega), DE.out⟩
      | true =>
        have hl0 : (0 : Int) < bs.length := by omega
        have hl1 : (bs.length : Int) ≤ 1000000000000 := by omega
        go_wp2
        go_region_with (first
          | (go_at_call 18; refine (dBelow (bs.length : Int) DS5d.out hl1 hl HD.out hB hpw hgf).mono ?_; rintro en w6 ⟨b, rfl, b0, b1, ds6⟩; have DS6 := hide ds6; obtain ⟨c6, f6⟩ := ds6.cell; clear ds6 b1)
          | (go_at_call 33; refine (dBad b DS6.out HR2.out).mono ?_; rintro en w7 ⟨u, rfl, fo, b7⟩; have DS7 := hide (DS6.out.set b7 fo hpw hgf); have HR7 := hide (HR2.out.bad b); obtain ⟨c7, f7⟩ := (DS6.out.below b7 hpw).cell; generalize badF bs b = bs7 at fo DS7 HR7; obtain ⟨ud7, ucap7, rfl⟩ := fo.form; clear fo b7))
        all_goals
          obtain ⟨c8, f8⟩ := DS7.out.cell
          generalize w7.setCell ⟨gf, 0, none⟩ (.slice ud7 bs7.length ucap7) = w8 at DS7 c8 f8 ⊢
          have n1 : w8.cell? ⟨w.heap.size, 0, none⟩ = some (.slice none 0 0) := cell_of_row _ _ 0 _ _ _ DS7.out.1
          have f1 := frozen_of_row _ _ 0 _ _ DS7.out.1
          have Q1 := hide (row_set DS7.out.1 0 (.slice ud7 bs7.length ucap7))
          have G := hide (DS7.out.2.2.1.cell (show w.heap.size < w.heap.size + 1 by omega) 0 (.slice ud7 bs7.length ucap7))
          have DE := hide (DS7.out.2.2.2.below ((Below.refl _ _).setCell (p := ⟨w.heap.size, 0, none⟩) (Nat.le_refl _) (.slice ud7 bs7.length ucap7)) hpw)
          go_wp2
          exact bodyPost_ret (results_cell_row rfl _ _ w.heap.size 26 _ (0, 0) _ rfl Q1.out Try.underlying26 rfl infoFlash1) rfl ⟨_, _, rfl, HR7.out, G.out.down (by omega), DE.out⟩
end Go.Proofs.Ythkkefbhcmhijaa
