/-
  The draw of any flash: spec.l05Any.
-/
import Derived.Test.YtaolinlginloaacDoorDrawF
import Derived.Test.YtaolinlginloaacDoorRdM
import Derived.Test.YtaolinlginloaacDoorPq17
import Derived.Deep.RegionWith
import Derived.BigRegion
namespace Go.Proofs.YtaolinlginloaacDoor
open Go.RowKit

/-- All of its rows lie from block lo on. -/
def GeV (lo : Nat) (v : Value) (rs : List Rw) : Prop := (∀ g n c, v = .slice (some g) n c → lo ≤ g.block) ∧ ∀ r ∈ rs, ∀ g n c, r.2.2.1 = .slice (some g) n c → lo ≤ g.block
theorem own_ge {w : World} {B : Nat} {e : TypeId} {size n m cap : Nat} {g : Addr} {xs : List Value} (h : w.ownsRow B e size (.slice (some g) m cap) n xs) : B ≤ g.block := by
  rcases h.2 with ⟨h1, -⟩ | ⟨g', cap', cur, h1, h2, -⟩
  · cases h1
  · injection h1 with h1
    injection h1 with h1
    subst h1
    exact h2
theorem FlashIn.ge {w : World} {lo hi : Nat} {v : Value} {rs : List Rw} (h : FlashIn w lo hi v rs) : GeV lo v rs := by
  refine ⟨fun g n c e => ?_, fun r hr g n c e => ?_⟩
  · have := h.1
    rw [e] at this
    exact own_ge this
  · have := (h.2.2.1 r hr).1
    rw [e] at this
    exact own_ge this
theorem GeV.set {lo : Nat} {v : Value} {rs : List Rw} (h : GeV lo v rs) (k : Nat) (r : Rw) (hr : ∀ g n c, r.2.2.1 = .slice (some g) n c → lo ≤ g.block) : GeV lo v (rs.set k r) := by
  refine ⟨h.1, fun q hq => ?_⟩
  rcases List.mem_or_eq_of_mem_set hq with hq | rfl
  · exact h.2 q hq
  · exact hr
/-- Short lists, in rows from block lo on. -/
def LenG (lo : Nat) (v : Value) (rs : List Rw) : Prop := LenF rs ∧ GeV lo v rs
/-- What the draw answers. -/
def AnyG (w : World) (p : Nat) (ad : Option Addr) (len cap : Nat) (e : Ending) (w' : World) : Prop := ∃ v rs, e = .returned (.agg #[v]) ∧ LenG (w.heap.size + 1) v rs ∧ FlashRd w' v rs ∧ Drawn w w' p ad len cap
def AnyF (w : World) (p : Nat) (ad : Option Addr) (len cap : Nat) (e : Ending) (w' : World) : Prop := ∃ v rs, e = .returned (.agg #[v]) ∧ LenF rs ∧ FlashRd w' v rs ∧ Drawn w w' p ad len cap
/-- Where the draw stands at its end. -/
def EndA (w wr : World) (gf p : Nat) (ad : Option Addr) (len cap : Nat) (v : Value) (rs : List Rw) : Prop :=
  wr.heap[w.heap.size]? = some (.cells #[.slice none 0 0] 48 (0, 0)) ∧ wr.heap[gf]? = some (.cells #[v] 48 (0, 0)) ∧ FlashRd wr v rs ∧ LenG (w.heap.size + 1) v rs ∧ Drawn w wr p ad len cap
theorem EndA.of {w wr : World} {gf p : Nat} {ad : Option Addr} {len cap : Nat} {v : Value} {bs : List Bk} {n : Int} (h : DrawS w wr gf p ad len cap v bs) (hr : Right n bs) : ∃ rs, EndA w wr gf p ad len cap v rs := by
  obtain ⟨h1, h2, ⟨ss, e, h3⟩, h4⟩ := h
  exact ⟨ss, h1, h2, h3.rd, ⟨LenF.of hr e, h3.ge⟩, h4⟩
theorem EndA.fin {w wr : World} {gf p : Nat} {ad : Option Addr} {len cap : Nat} {v : Value} {rs : List Rw} (h : EndA w wr gf p ad len cap v rs) (hp : p < w.heap.size) : (wr.setCell ⟨w.heap.size, 0, none⟩ v).heap[w.heap.size]? = some (.cells #[v] 48 (0, 0)) ∧ FlashRd (wr.setCell ⟨w.heap.size, 0, none⟩ v) v rs ∧ Drawn w (wr.setCell ⟨w.heap.size, 0, none⟩ v) p ad len cap := by
  obtain ⟨h1, h2, h3, h4, h5⟩ := h
  exact ⟨row_set h1 _ _, rd_aside h3 h1 v, h5.below ((Below.refl _ _).setCell (p := ⟨w.heap.size, 0, none⟩) (Nat.le_refl _) v) hp⟩

theorem DrawS.one {w wr : World} {gf p : Nat} {ad : Option Addr} {len cap gu gl n vcap m lcap k : Nat} {bs : List Bk} {r : Bk} (h : DrawS w wr gf p ad len cap (.slice (some ⟨gu, 0, none⟩) n vcap) bs) (hr : bs[k]? = some r) (hc : wr.cell? ⟨gu, k * 3 + 2, none⟩ = some (.slice (some ⟨gl, 0, none⟩) m lcap)) :
    ∃ ss s, ss.map tellOf = bs ∧ FlashIn wr (w.heap.size + 1) wr.heap.size (.slice (some ⟨gu, 0, none⟩) n vcap) ss ∧ n = ss.length ∧ ss[k]? = some s ∧ tellOf s = r ∧ s.2.2.1 = .slice (some ⟨gl, 0, none⟩) m lcap ∧ w.heap.size + 1 ≤ gu ∧ w.heap.size + 1 ≤ gl ∧ (∀ i cs, wr.heap[i]? = some (.cells cs 48 (0, 0)) → i ≠ gu ∧ i ≠ gl) := by
  obtain ⟨h1, h2, ⟨ss, e, h3⟩, h4⟩ := h
  subst e
  rw [List.getElem?_map] at hr
  obtain ⟨s, hs2, hs3⟩ := Option.map_eq_some_iff.1 hr
  have hn : n = ss.length := by
    obtain ⟨a, c, e, -⟩ := frow_form h3.1
    injection e
  subst hn
  obtain ⟨-, -, c3⟩ := kown_cells (k := k) (t := cellOf s) h3.1 (by rw [List.getElem?_map, hs2]; rfl)
  rw [hc] at c3
  injection c3 with c3
  have hl := h3.2.2.1 s (List.mem_of_getElem? hs2)
  have hl2 := hl.1
  rw [show s.2.2.1 = .slice (some ⟨gl, 0, none⟩) m lcap from c3.symm] at hl2
  exact ⟨ss, s, rfl, h3, rfl, hs2, hs3, c3.symm, (h3.1.lt gu rfl).1, (hl2.lt gl rfl).1, fun i cs hi => ⟨block_not_flash h3.1 i cs hi, leaf_not_flash hl2 i cs hi⟩⟩
/-- A leaf's Is is written. -/
theorem DrawS.isOf {w wr : World} {gf p : Nat} {ad : Option Addr} {len cap gu gl n vcap m lcap k j : Nat} {bs : List Bk} {r : Bk} {q : Int} (h : DrawS w wr gf p ad len cap (.slice (some ⟨gu, 0, none⟩) n vcap) bs) (hR : Right q bs) (hr : bs[k]? = some r) (hj : j < r.2.2.length) (hc : wr.cell? ⟨gu, k * 3 + 2, none⟩ = some (.slice (some ⟨gl, 0, none⟩) m lcap)) (hp : p < w.heap.size) :
    (∃ x, wr.cell? ⟨gl, j * 2, none⟩ = some x) ∧ wr.frozen? ⟨gl, j * 2, none⟩ = false ∧ gf ≠ gl ∧ ∀ z : Int, ∃ rs, EndA w (wr.setCell ⟨gl, j * 2, none⟩ (.int .i64 z)) gf p ad len cap (.slice (some ⟨gu, 0, none⟩) n vcap) rs := by
  obtain ⟨ss, s, e, h3, hn, hs, hs2, hu, q1, q2, hne⟩ := h.one hr hc
  obtain ⟨h1, h2, -, h4⟩ := h
  subst hs2
  obtain ⟨t0, ht⟩ : ∃ t0, s.2.2.2[j]? = some t0 := ⟨_, List.getElem?_eq_getElem hj⟩
  have hl := (h3.2.2.1 s (List.mem_of_getElem? hs)).1
  have hm : m = s.2.2.2.length := by
    obtain ⟨a, c, e, -⟩ := frow_form hl
    rw [hu] at e
    injection e
  rw [hu, ← hm] at hl
  obtain ⟨d1, -⟩ := lown_cells hl ht
  have hlen := LenF.of hR e
  refine ⟨⟨_, d1⟩, hl.frozenAt _, (hne _ _ h2).2, fun z => ⟨_, row_set_ne h1 (hne _ _ h1).2 _ _, row_set_ne h2 (hne _ _ h2).2 _ _, (h3.leafIs hs hu ht z).rd, ⟨hlen.set k _ ?_ ?_, (h3.leafIs hs hu ht z).ge⟩, ?_⟩⟩
  · show (s.2.2.2.set j (z, t0.2)).length ≤ 4
    rw [List.length_set]
    exact (hlen.2 s (List.mem_of_getElem? hs)).1
  · intro t ht2
    rcases List.mem_or_eq_of_mem_set ht2 with h5 | rfl
    · exact (hlen.2 s (List.mem_of_getElem? hs)).2 t h5
    · exact (hlen.2 s (List.mem_of_getElem? hs)).2 t0 (List.mem_of_getElem? ht)
  · exact h4.below ((Below.refl _ _).setCell (p := ⟨gl, j * 2, none⟩) (by show _ ≤ gl; omega) _) hp
/-- The leaves of a block begin at the second one. -/
theorem DrawS.tail {w wr : World} {gf p : Nat} {ad : Option Addr} {len cap gu gl n vcap m lcap k : Nat} {bs : List Bk} {r : Bk} {q : Int} (h : DrawS w wr gf p ad len cap (.slice (some ⟨gu, 0, none⟩) n vcap) bs) (hR : Right q bs) (hr : bs[k]? = some r) (hc : wr.cell? ⟨gu, k * 3 + 2, none⟩ = some (.slice (some ⟨gl, 0, none⟩) (m + 1) lcap)) (hp : p < w.heap.size) :
    wr.frozen? ⟨gu, k * 3 + 2, none⟩ = false ∧ gf ≠ gu ∧ ∃ rs, EndA w (wr.setCell ⟨gu, k * 3 + 2, none⟩ (.slice (some ⟨gl, 2, none⟩) m (lcap - 1))) gf p ad len cap (.slice (some ⟨gu, 0, none⟩) n vcap) rs := by
  obtain ⟨ss, s, e, h3, hn, hs, hs2, hu, q1, q2, hne⟩ := h.one hr hc
  obtain ⟨h1, h2, -, h4⟩ := h
  have hlen := LenF.of hR e
  refine ⟨by subst hn; exact h3.1.frozenAt _, (hne _ _ h2).1, _, row_set_ne h1 (hne _ _ h1).1 _ _, row_set_ne h2 (hne _ _ h2).1 _ _, rd_tail h3 hn hs hu, ⟨hlen.set k _ ?_ ?_, h3.ge.set k _ (fun g n c e => by injection e with e; injection e with e; subst e; exact q2)⟩, ?_⟩
  · show (s.2.2.2.drop 1).length ≤ 4
    rw [List.length_drop]
    have := (hlen.2 s (List.mem_of_getElem? hs)).1
    omega
  · intro t ht
    exact (hlen.2 s (List.mem_of_getElem? hs)).2 t (List.mem_of_mem_drop ht)
  · exact h4.below ((Below.refl _ _).setCell (p := ⟨gu, k * 3 + 2, none⟩) (by show _ ≤ gu; omega) _) hp
/-- A block's Wear is written. -/
theorem DrawS.wearOf {w wr : World} {gf p : Nat} {ad : Option Addr} {len cap gu gl n vcap m lcap k : Nat} {bs : List Bk} {r : Bk} {q : Int} (h : DrawS w wr gf p ad len cap (.slice (some ⟨gu, 0, none⟩) n vcap) bs) (hR : Right q bs) (hr : bs[k]? = some r) (hc : wr.cell? ⟨gu, k * 3 + 2, none⟩ = some (.slice (some ⟨gl, 0, none⟩) m lcap)) (hp : p < w.heap.size) :
    wr.frozen? ⟨gu, k * 3 + 1, none⟩ = false ∧ gf ≠ gu ∧ ∀ z : Int, ∃ rs, EndA w (wr.setCell ⟨gu, k * 3 + 1, none⟩ (.int .i64 z)) gf p ad len cap (.slice (some ⟨gu, 0, none⟩) n vcap) rs := by
  obtain ⟨ss, s, e, h3, hn, hs, hs2, hu, q1, q2, hne⟩ := h.one hr hc
  obtain ⟨h1, h2, -, h4⟩ := h
  have hlen := LenF.of hR e
  have hm := hlen.2 s (List.mem_of_getElem? hs)
  exact ⟨by subst hn; exact h3.1.frozenAt _, (hne _ _ h2).1, fun z => ⟨_, row_set_ne h1 (hne _ _ h1).1 _ _, row_set_ne h2 (hne _ _ h2).1 _ _, (h3.wear hn hs z).rd, ⟨hlen.set k _ hm.1 hm.2, (h3.wear hn hs z).ge⟩, h4.below ((Below.refl _ _).setCell (p := ⟨gu, k * 3 + 1, none⟩) (by show _ ≤ gu; omega) _) hp⟩⟩
theorem FlashRd.cut {w : World} {vd : Option Addr} {n cap m : Nat} {rs : List Rw} (h : FlashRd w (.slice vd n cap) rs) (hn : n = rs.length) (hm : m ≤ n) (c : Nat) (hv : vd = none → c = 0) : FlashRd w (.slice vd m c) (rs.take m) := by
  subst hn
  refine ⟨vd, c, by rw [List.length_take, Nat.min_eq_left hm], hv, fun k r hr => ?_⟩
  rw [List.getElem?_take] at hr
  split at hr
  · exact h.at hr
  · cases hr
/-- The blocks end earlier. -/
theorem DrawS.cut {w wr : World} {gf p : Nat} {ad : Option Addr} {len cap n vcap m c : Nat} {gv : Addr} {bs : List Bk} {q : Int} (h : DrawS w wr gf p ad len cap (.slice (some gv) n vcap) bs) (hR : Right q bs) (hm : m ≤ n) (hp : p < w.heap.size) (hg : w.heap.size < gf) :
    ∃ rs, EndA w (wr.setCell ⟨gf, 0, none⟩ (.slice (some gv) m c)) gf p ad len cap (.slice (some gv) m c) rs := by
  obtain ⟨h1, h2, ⟨ss, e, h3⟩, h4⟩ := h
  have hlen := LenF.of hR e
  have hn : n = ss.length := by
    obtain ⟨a, c, e, -⟩ := frow_form h3.1
    injection e
  exact ⟨_, row_set_ne h1 (by omega) _ _, row_set h2 _ _, rd_aside (h3.rd.cut hn hm c (fun e => by cases e)) h2 _, ⟨hlen.take m, fun g n c e => (by injection e with e; injection e with e; subst e; exact h3.ge.1 _ _ _ rfl), fun r hr => h3.ge.2 r (List.mem_of_mem_take hr)⟩, h4.below ((Below.refl _ _).setCell (p := ⟨gf, 0, none⟩) (by show _ ≤ gf; omega) _) hp⟩
theorem drawn_cell {w w' : World} {p : Nat} {ad : Option Addr} {len cap : Nat} (h : Drawn w w' p ad len cap) {g o : Nat} {x : Value} (hx : w.cell? ⟨g, o, none⟩ = some x) (hg : g ≠ p) : w'.cell? ⟨g, o, none⟩ = some x :=
  (World.cell?_of_block (h.1.block g (World.block_lt_of_cell? w _ hx) (fun e => hg (by injection e)))).trans hx
theorem below_as {w wr : World} {gf p : Nat} {ad : Option Addr} {len cap B : Nat} {v : Value} {bs : List Bk} (n : Int) (h : DrawS w wr gf p ad len cap v bs) (hn : n ≤ 1000000000000) (hl : len ≤ 1048576) (hd : CodeIn w ad len B) (hB : B ≤ p) (hp : p < w.heap.size) (hg : w.heap.size < gf) :
    Calls Tryd.prog 60 #[.pointer (some ⟨p, 0, none⟩), .int .i64 n] wr fun e w' => ∃ x : Int, e = .returned (.int .i64 x) ∧ 0 ≤ x ∧ (0 < n → x < n) ∧ DrawS w w' gf p ad len cap v bs ∧ Drawn wr w' p ad len cap := by
  refine (below_any n p ad len cap B wr hn hl h.2.2.2.2 (h.2.2.2.code hd hB hp) hB).mono ?_
  rintro e w1 ⟨x, rfl, x0, x1, -, d1⟩
  exact ⟨x, rfl, x0, x1, h.drawn d1 hp hg, d1⟩

set_option maxHeartbeats 8000000 in
set_option maxRecDepth 100000 in
theorem l05Any_ge (p : Nat) (ad : Option Addr) (len cap B : Nat) (w : World) (hl : len ≤ 1048576) (hc : CurIn w p ad len cap) (hd : CodeIn w ad len B) (hB : B ≤ p) :
    Calls Tryd.prog 86 #[.pointer (some ⟨p, 0, none⟩)] w (AnyG w p ad len cap) := by
  have hpw := hc.2.2.2.2.2
  have hb0 := (Below.refl w.heap.size w).alloc (Nat.le_refl _) (.cells #[.slice none 0 0] 48)
  have R0 := hide (heap_alloc_new w (.cells #[.slice none 0 0] 48))
  have D0 := hide ((Drawn.refl hc).below hb0 hpw)
  have HD := hide hd
  have HD0 := hide (hd.on hb0 (by omega))
  have HZ := hide (show (w.alloc (.cells #[.slice none 0 0] 48)).heap.size = w.heap.size + 1 by simp)
  clear hc hd hb0
  go_enter Tryd.func86, Tryd.ntmps86
  go_wp2_with fail
  refine (l05_any p ad len cap B _ hl D0.out.2 HD0.out hB).mono ?_
  rintro e w1 ⟨v0, bs, rfl, hr, fo, d1⟩
  have HR := hide hr
  have D1 := hide (D0.out.trans d1)
  have R1 := hide ((d1.1.block _ (by have := HZ.out; omega) (fun e => by cases e; omega)).trans R0.out)
  have s1 : w.heap.size + 1 ≤ w1.heap.size := by have := d1.1.size; have := HZ.out; omega
  obtain ⟨ss0, e0, i0, l0, ll0⟩ := fo.lens hr
  have CC := hide (scopy_any v0 ss0 _ _ w1 l0 ll0 (Nat.le_refl _) i0)
  rw [e0] at CC
  obtain ⟨v0d, v0c, rfl⟩ := fo.form
  clear d1 R0 D0 HD0 HZ fo hr i0 e0 l0 ll0
  go_wp2_with fail
  refine CC.out.mono ?_
  rintro e w2 ⟨u, rfl, fo, b2⟩
  obtain ⟨ud, ucap, rfl⟩ := fo.form
  have b3 := b2.alloc b2.size (.cells #[.slice ud bs.length ucap] 48)
  have DS0 : Hid (DrawS w (w2.alloc (.cells #[.slice ud bs.length ucap] 48)) w2.heap.size p ad len cap (.slice ud bs.length ucap) bs) :=
    ⟨(b3.block _ (by omega)).trans R1.out, heap_alloc_new w2 _, (fo.below ((Below.refl _ _).alloc (Nat.le_refl _) _)).down s1, D1.out.below (b3.mono (by omega)) hpw⟩
  have hgf : w.heap.size < w2.heap.size := by have := b2.size; omega
  obtain ⟨l3, l10, -⟩ := HR.out.lens
  obtain ⟨gu, rfl, hgu1, hgu2, -⟩ := fo.ptr (by omega)
  have hgu : w.heap.size + 1 ≤ gu := by omega
  clear fo b2 b3 R1 D1 CC hgu1 hgu2
  go_wp2_with fail
  generalize w2.alloc (.cells #[.slice (some ⟨gu, 0, none⟩) bs.length ucap] 48) = w3 at DS0 ⊢
  generalize w2.heap.size = gf at DS0 hgf ⊢
  refine (dBelow (bs.length : Int) DS0.out (by omega) hl HD.out hB hpw hgf).mono ?_
  rintro e w5 ⟨b, rfl, b0, b1, ds5⟩
  have b2 := b1 (by omega)
  have DS5 := hide ds5
  clear ds5 b1 DS0
  go_wp2_with fail
  refine (dBelow 16 DS5.out (by omega) hl HD.out hB hpw hgf).mono ?_
  rintro e w6 ⟨z, rfl, z0, -, ds6⟩
  have DS6 := hide ds6
  obtain ⟨c6, f6⟩ := ds6.cell
  clear ds6 DS5
  obtain ⟨kb, rfl⟩ : ∃ kb : Nat, b = kb := ⟨b.toNat, by omega⟩
  have hkb : kb < bs.length := by omega
  have b00 : (0 : Int) ≤ kb := by omega
  have hr : bs[kb]? = some bs[kb] := List.getElem?_eq_getElem hkb
  generalize bs[kb] = r at hr
  have h4 : r.2.2.length = 4 := HR.out.lens.2.2 r (List.mem_of_getElem? hr)
  have htx : ∀ t ∈ r.2.2, t.2.size ≤ 120 := HR.out.tx r (List.mem_of_getElem? hr)
  obtain ⟨ld, lcap, ⟨k1, k2, k3⟩, own⟩ := DS6.out.2.2.1.blk hr
  obtain ⟨x, y', ls⟩ := r
  simp only at k1 k2 k3 h4 htx own
  rw [h4] at k3
  obtain ⟨ld9, cap9, e9, q1, q2, l9⟩ := frow_form own
  injection e9 with e10 e11 e12
  subst e10 e12
  obtain ⟨gl, rfl, hgl, -⟩ := l9 (by show 0 < ls.length; omega)
  have hlc : 4 ≤ lcap := by have : ls.length ≤ lcap := q1; omega
  have hlc2 : lcap ≤ 9223372036854775807 := q2
  have HRR := hide hr
  have H4 := hide h4
  have HTX := hide htx
  have hgup : gu ≠ p := by omega
  have hglp : gl ≠ p := by omega
  have hgfp : gf ≠ p := by omega
  clear own l9 hr h4 htx e11 q1 q2
  by_cases hz0 : z = 0
  · subst hz0
    have DS6d := hide (DS6.out.drew hpw)
    go_wp2
    go_region_with (first
      | (go_at_call 60; (with_reducible refine Calls.mono (below_as 4 DS6d.out (by omega) hl HD.out hB hpw hgf) ?_); rintro en w7 ⟨x4, rfl, x40, x41, ds7, d7⟩; have x42 := x41 (by omega); obtain ⟨j, ej⟩ : ∃ j : Nat, x4 = j := ⟨x4.toNat, by omega⟩; subst ej; have DS7 := hide ds7; have c7 := ds7.cell.1; have m7 : w7.cell? ⟨gu, kb * 3 + 2, none⟩ = some (.slice (some ⟨gl, 0, none⟩) 4 lcap) := drawn_cell d7 (show w6.drew.cell? ⟨gu, kb * 3 + 2, none⟩ = some (.slice (some ⟨gl, 0, none⟩) 4 lcap) from k3) hgup; clear ds7 x41 d7)
      | (go_at_call 60; (with_reducible refine Calls.mono (below_as 5 DS7.out (by omega) hl HD.out hB hpw hgf) ?_); rintro en w8 ⟨x5, rfl, x50, x51, ds8, d8⟩; have DS8 := hide ds8; have c8 := ds8.cell.1; have m8 : w8.cell? ⟨gu, kb * 3 + 2, none⟩ = some (.slice (some ⟨gl, 0, none⟩) 4 lcap) := drawn_cell d8 m7 hgup; obtain ⟨⟨xo, co⟩, fo, hgg, hen⟩ := ds8.isOf (j := j) HR.out HRR.out (by show j < ls.length; have := H4.out; omega) m8 hpw; clear ds8 x51 d8))
    all_goals
      obtain ⟨rs, en⟩ := hen x5
      have EN := hide en
      clear en hen co fo c6 f6 k1 k2 k3 c7 m7 c8 m8
      generalize w8.setCell ⟨gl, j * 2, none⟩ (.int .i64 x5) = w9 at EN ⊢
      have n1 : w9.cell? ⟨w.heap.size, 0, none⟩ = some (.slice none 0 0) := cell_of_row _ _ 0 _ _ _ EN.out.1
      have f1 := frozen_of_row _ _ 0 _ _ EN.out.1
      have c1 : w9.cell? ⟨gf, 0, none⟩ = some (.slice (some ⟨gu, 0, none⟩) bs.length ucap) := cell_of_row _ _ 0 _ _ _ EN.out.2.1
      have QE := hide (EN.out.fin hpw)
      go_wp2
      exact bodyPost_ret (results_cell_row rfl _ _ w.heap.size 48 _ (0, 0) _ rfl QE.out.1 Tryd.underlying48 rfl infoFlash1) rfl ⟨_, _, rfl, EN.out.2.2.2.1, QE.out.2.1, QE.out.2.2⟩
  · have e0 : (z == 0) = false := by simpa using hz0
    by_cases hz1 : z = 1
    · subst hz1
      have DS6d := hide (DS6.out.drew hpw)
      obtain ⟨ft, hgg, rs, en⟩ := DS6d.out.tail (m := 3) HR.out HRR.out k3 hpw
      have EN : Hid (EndA w (w6.setCell ⟨gu, kb * 3 + 2, none⟩ (.slice (some ⟨gl, 2, none⟩) 3 (lcap - 1))).drew gf p ad len cap (.slice (some ⟨gu, 0, none⟩) bs.length ucap) rs) := en
      have ft2 : w6.frozen? ⟨gu, kb * 3 + 2, none⟩ = false := ft
      clear en
      go_wp2
      go_region
      all_goals
        clear c6 f6 k1 k2 k3 ft ft2
        generalize (w6.setCell ⟨gu, kb * 3 + 2, none⟩ (.slice (some ⟨gl, 2, none⟩) 3 (lcap - 1))).drew = w9 at EN ⊢
        have n1 : w9.cell? ⟨w.heap.size, 0, none⟩ = some (.slice none 0 0) := cell_of_row _ _ 0 _ _ _ EN.out.1
        have f1 := frozen_of_row _ _ 0 _ _ EN.out.1
        have c1 : w9.cell? ⟨gf, 0, none⟩ = some (.slice (some ⟨gu, 0, none⟩) bs.length ucap) := cell_of_row _ _ 0 _ _ _ EN.out.2.1
        have QE := hide (EN.out.fin hpw)
        go_wp2
        exact bodyPost_ret (results_cell_row rfl _ _ w.heap.size 48 _ (0, 0) _ rfl QE.out.1 Tryd.underlying48 rfl infoFlash1) rfl ⟨_, _, rfl, EN.out.2.2.2.1, QE.out.2.1, QE.out.2.2⟩
    · have e1 : (z == 1) = false := by simpa using hz1
      by_cases hz2 : z = 2
      · subst hz2
        have bA := (Below.refl w6.heap.size w6).alloc (Nat.le_refl _) (.cells #[.int .i64 (-1), .int .i64 1000000000, .int .i64 1000000001] 3)
        have DSa := hide (DS6.out.below bA.drew hpw)
        have ca : (w6.alloc (.cells #[.int .i64 (-1), .int .i64 1000000000, .int .i64 1000000001] 3)).cell? ⟨gf, 0, none⟩ = some (.slice (some ⟨gu, 0, none⟩) bs.length ucap) := DSa.out.cell.1
        have ka : (w6.alloc (.cells #[.int .i64 (-1), .int .i64 1000000000, .int .i64 1000000001] 3)).drew.cell? ⟨gu, kb * 3 + 2, none⟩ = some (.slice (some ⟨gl, 0, none⟩) 4 lcap) := (bA.drew.cell (World.block_lt_of_cell? w6 _ k3)).trans k3
        have kw : (w6.alloc (.cells #[.int .i64 (-1), .int .i64 1000000000, .int .i64 1000000001] 3)).drew.cell? ⟨gu, kb * 3 + 1, none⟩ = some (.int .i64 y') := (bA.drew.cell (World.block_lt_of_cell? w6 _ k2)).trans k2
        have hp6 : p < w6.heap.size := by have := DS6.out.2.2.2.1.size; omega
        have CP : Hid (Calls Tryd.prog 76 #[.pointer (some ⟨p, 0, none⟩), .slice (some ⟨w6.heap.size, 0, none⟩) 3 3] (w6.alloc (.cells #[.int .i64 (-1), .int .i64 1000000000, .int .i64 1000000001] 3)).drew fun e w' => ∃ x : Int, e = .returned (.int .i64 x) ∧ Drawn (w6.alloc (.cells #[.int .i64 (-1), .int .i64 1000000000, .int .i64 1000000001] 3)).drew w' p ad len cap) := by
          have := pickInt_any w6.heap.size [-1, 1000000000, 1000000001] p ad len cap B (w6.alloc (.cells #[.int .i64 (-1), .int .i64 1000000000, .int .i64 1000000001] 3)).drew (by simp) (by simp) (by omega) (fun j hj => by
            match j, hj with
            | 0, _ => exact cell_of_row _ _ 0 _ _ _ (heap_alloc_new w6 _)
            | 1, _ => exact cell_of_row _ _ 1 _ _ _ (heap_alloc_new w6 _)
            | 2, _ => exact cell_of_row _ _ 2 _ _ _ (heap_alloc_new w6 _)) hl DSa.out.2.2.2.2 (DSa.out.2.2.2.code HD.out hB hpw) hB
          exact this
        clear bA
        go_wp2
        go_region_with ((go_at_call 76; (with_reducible refine Calls.mono CP.out ?_); rintro en w8 ⟨x5, rfl, d8⟩; have DS8 := hide (DSa.out.drawn d8 hpw hgf); have c8 := DS8.out.cell.1; have m8 : w8.cell? ⟨gu, kb * 3 + 2, none⟩ = some (.slice (some ⟨gl, 0, none⟩) 4 lcap) := drawn_cell d8 ka hgup; have o8 : w8.cell? ⟨gu, kb * 3 + 1, none⟩ = some (.int .i64 y') := drawn_cell d8 kw hgup; obtain ⟨fo, hgg, hen⟩ := DS8.out.wearOf HR.out HRR.out m8 hpw; clear d8))
        all_goals
          obtain ⟨rs, en⟩ := hen x5
          have EN := hide en
          clear en hen fo c6 f6 k1 k2 k3 c8 m8 o8 ca ka kw CP
          generalize w8.setCell ⟨gu, kb * 3 + 1, none⟩ (.int .i64 x5) = w9 at EN ⊢
          have n1 : w9.cell? ⟨w.heap.size, 0, none⟩ = some (.slice none 0 0) := cell_of_row _ _ 0 _ _ _ EN.out.1
          have f1 := frozen_of_row _ _ 0 _ _ EN.out.1
          have c1 : w9.cell? ⟨gf, 0, none⟩ = some (.slice (some ⟨gu, 0, none⟩) bs.length ucap) := cell_of_row _ _ 0 _ _ _ EN.out.2.1
          have QE := hide (EN.out.fin hpw)
          go_wp2
          exact bodyPost_ret (results_cell_row rfl _ _ w.heap.size 48 _ (0, 0) _ rfl QE.out.1 Tryd.underlying48 rfl infoFlash1) rfl ⟨_, _, rfl, EN.out.2.2.2.1, QE.out.2.1, QE.out.2.2⟩
      · have e2 : (z == 2) = false := by simpa using hz2
        by_cases hz3 : z = 3
        · subst hz3
          have DS6d := hide (DS6.out.drew hpw)
          have hlen3 : (3 : Int) ≤ bs.length := by omega
          obtain ⟨hcu, hcm⟩ : bs.length ≤ ucap ∧ ucap ≤ 9223372036854775807 := by
            obtain ⟨ss, e, h3⟩ := DS6.out.2.2.1
            obtain ⟨ad', cap', e', q1, q2, -⟩ := frow_form h3.1
            injection e' with e1 e2 e3
            subst e3
            exact ⟨by rw [e2]; exact q1, q2⟩
          go_wp2
          go_region_with ((go_at_call 60; (with_reducible refine Calls.mono (below_as 3 DS6d.out (by omega) hl HD.out hB hpw hgf) ?_); rintro en w7 ⟨x4, rfl, x40, x41, ds7, d7⟩; have x42 := x41 (by omega); obtain ⟨j, ej⟩ : ∃ j : Nat, x4 = j := ⟨x4.toNat, by omega⟩; subst ej; have DS7 := hide ds7; obtain ⟨c7, f7⟩ := ds7.cell; have j0 : (0 : Int) ≤ j := (by omega); have jc : (j : Int) ≤ ucap := (by omega); clear ds7 x41 d7))
          all_goals
            obtain ⟨rs, en⟩ := DS7.out.cut (m := j) (c := ucap) HR.out (by omega) hpw hgf
            have EN := hide en
            clear en c6 f6 k1 k2 k3 c7 f7
            generalize w7.setCell ⟨gf, 0, none⟩ (.slice (some ⟨gu, 0, none⟩) j ucap) = w9 at EN ⊢
            have n1 : w9.cell? ⟨w.heap.size, 0, none⟩ = some (.slice none 0 0) := cell_of_row _ _ 0 _ _ _ EN.out.1
            have f1 := frozen_of_row _ _ 0 _ _ EN.out.1
            have c1 : w9.cell? ⟨gf, 0, none⟩ = some (.slice (some ⟨gu, 0, none⟩) j ucap) := cell_of_row _ _ 0 _ _ _ EN.out.2.1
            have QE := hide (EN.out.fin hpw)
            go_wp2
            exact bodyPost_ret (results_cell_row rfl _ _ w.heap.size 48 _ (0, 0) _ rfl QE.out.1 Tryd.underlying48 rfl infoFlash1) rfl ⟨_, _, rfl, EN.out.2.2.2.1, QE.out.2.1, QE.out.2.2⟩
        · have e3 : (z == 3) = false := by simpa using hz3
          obtain ⟨rs, en⟩ := EndA.of DS6.out HR.out
          have EN := hide en
          clear en c6 f6 k1 k2 k3
          have n1 : w6.cell? ⟨w.heap.size, 0, none⟩ = some (.slice none 0 0) := cell_of_row _ _ 0 _ _ _ EN.out.1
          have f1 := frozen_of_row _ _ 0 _ _ EN.out.1
          have c1 : w6.cell? ⟨gf, 0, none⟩ = some (.slice (some ⟨gu, 0, none⟩) bs.length ucap) := cell_of_row _ _ 0 _ _ _ EN.out.2.1
          have QE := hide (EN.out.fin hpw)
          go_wp2
          exact bodyPost_ret (results_cell_row rfl _ _ w.heap.size 48 _ (0, 0) _ rfl QE.out.1 Tryd.underlying48 rfl infoFlash1) rfl ⟨_, _, rfl, EN.out.2.2.2.1, QE.out.2.1, QE.out.2.2⟩
theorem l05Any_any (p : Nat) (ad : Option Addr) (len cap B : Nat) (w : World) (hl : len ≤ 1048576) (hc : CurIn w p ad len cap) (hd : CodeIn w ad len B) (hB : B ≤ p) :
    Calls Tryd.prog 86 #[.pointer (some ⟨p, 0, none⟩)] w (AnyF w p ad len cap) := by
  refine (l05Any_ge p ad len cap B w hl hc hd hB).mono ?_
  rintro e w' ⟨v, rs, he, h1, h2, h3⟩
  exact ⟨v, rs, he, h1.1, h2, h3⟩
end Go.Proofs.YtaolinlginloaacDoor
