/-
  ReadM; IClone; Rd; IRead; PgV; IPageOk
-/
import Derived.Test.YtfmnaidhfgmemaaGreatDoorPk14
import Derived.Test.YtfmnaidhfgmemaaGreatDoorShelf
import Derived.Test.YtfmnaidhfgmemaaGreatDoorPk0
import Derived.Test.YtfmnaidhfgmemaaGreatDoorPk7
namespace Go.Proofs.YtfmnaidhfgmemaaGreatDoor
theorem read_out {bs : List Bk} {b leaf : Int} (h : ¬ (0 ≤ b ∧ b ≤ (bs.length : Int) - 1)) : readF bs b leaf = (⟨#[]⟩, false) := by
  unfold readF
  cases hb : bs[b.toNat]? with
  | none => rfl
  | some r =>
    have := (List.getElem?_eq_some_iff.1 hb).1
    simp only
    cases hl : r.2.2[leaf.toNat]? with
    | none => rfl
    | some t => exact if_neg (fun hh => h ⟨hh.1, by omega⟩)
theorem read_leaf_out {bs : List Bk} {k : Nat} {r : Bk} {leaf : Int} (hr : bs[k]? = some r) (h : ¬ (0 ≤ leaf ∧ leaf ≤ (r.2.2.length : Int) - 1)) : readF bs (k : Int) leaf = (⟨#[]⟩, false) := by
  unfold readF
  rw [Int.toNat_natCast, hr]
  simp only
  cases hl : r.2.2[leaf.toNat]? with
  | none => rfl
  | some t =>
    have := (List.getElem?_eq_some_iff.1 hl).1
    exact if_neg (fun hh => h ⟨hh.2.1, by omega⟩)
theorem read_in {bs : List Bk} {k j : Nat} {r : Bk} {t : Int × ByteArray} (hr : bs[k]? = some r) (ht : r.2.2[j]? = some t) : (t.1 = 1 → readF bs (k : Int) (j : Int) = (t.2, true)) ∧ (t.1 ≠ 1 → readF bs (k : Int) (j : Int) = (⟨#[]⟩, false)) := by
  unfold readF
  rw [Int.toNat_natCast, hr]
  simp only
  rw [Int.toNat_natCast, ht]
  exact ⟨fun h => if_pos ⟨by omega, by omega, h⟩, fun h => if_neg (fun hh => h hh.2.2)⟩
end Go.Proofs.YtfmnaidhfgmemaaGreatDoor

namespace Go.Proofs.YtfmnaidhfgmemaaGreatDoor
open Go.RowKit
theorem fclone_any (s : ByteArray) (w : World) (hs : s.size ≤ 1048576) :
    Calls Tryz.prog 175 #[.string s] w fun e w' => e = .returned (.string s) ∧ Below w.heap.size w w' := by
  go_enter Tryz.func175, Tryz.ntmps175
  go_wp2_with fail
  refine (Tryz.stringslite_Clone s _ (by omega)).mono ?_
  rintro e w' ⟨rfl, hb⟩
  go_wp2
  go_ret
  exact ⟨rfl, hb⟩
end Go.Proofs.YtfmnaidhfgmemaaGreatDoor

namespace Go.Proofs.YtfmnaidhfgmemaaGreatDoor
open Go.RowKit
def LeafRd (w : World) (u : Value) (ls : List (Int × ByteArray)) : Prop :=
  ∃ ld lc, u = .slice ld ls.length lc ∧ (ld = none → lc = 0) ∧ ∀ j t, ls[j]? = some t → ∃ gl o, ld = some ⟨gl, o, none⟩ ∧ w.cell? ⟨gl, o + j * 2, none⟩ = some (.int .i64 t.1) ∧ w.cell? ⟨gl, o + j * 2 + 1, none⟩ = some (.string t.2)
def FlashRd (w : World) (v : Value) (rs : List Rw) : Prop :=
  ∃ vd vcap, v = .slice vd rs.length vcap ∧ (vd = none → vcap = 0) ∧ ∀ k r, rs[k]? = some r → ∃ g, vd = some ⟨g, 0, none⟩ ∧ (w.cell? ⟨g, k * 3, none⟩ = some (.bool r.1) ∧ w.cell? ⟨g, k * 3 + 1, none⟩ = some (.int .i64 r.2.1) ∧ w.cell? ⟨g, k * 3 + 2, none⟩ = some r.2.2.1) ∧ LeafRd w r.2.2.1 r.2.2.2
theorem LeafRd.below {w w' : World} {u : Value} {ls : List (Int × ByteArray)} (h : LeafRd w u ls) (hb : Below w.heap.size w w') : LeafRd w' u ls := by
  obtain ⟨ld, lc, e, en, h⟩ := h
  refine ⟨ld, lc, e, en, fun j t ht => ?_⟩
  obtain ⟨gl, o, e2, c1, c2⟩ := h j t ht
  exact ⟨gl, o, e2, (hb.cell (World.block_lt_of_cell? w _ c1)).trans c1, (hb.cell (World.block_lt_of_cell? w _ c2)).trans c2⟩
theorem FlashRd.below {w w' : World} {v : Value} {rs : List Rw} (h : FlashRd w v rs) (hb : Below w.heap.size w w') : FlashRd w' v rs := by
  obtain ⟨vd, vcap, e, en, h⟩ := h
  refine ⟨vd, vcap, e, en, fun k r hr => ?_⟩
  obtain ⟨g, e2, ⟨c1, c2, c3⟩, hl⟩ := h k r hr
  exact ⟨g, e2, ⟨(hb.cell (World.block_lt_of_cell? w _ c1)).trans c1, (hb.cell (World.block_lt_of_cell? w _ c2)).trans c2, (hb.cell (World.block_lt_of_cell? w _ c3)).trans c3⟩, hl.below hb⟩
theorem FlashRd.at {w : World} {vd : Option Addr} {n vcap k : Nat} {rs : List Rw} {r : Rw} (h : FlashRd w (.slice vd n vcap) rs) (hr : rs[k]? = some r) : ∃ g, vd = some ⟨g, 0, none⟩ ∧ (w.cell? ⟨g, k * 3, none⟩ = some (.bool r.1) ∧ w.cell? ⟨g, k * 3 + 1, none⟩ = some (.int .i64 r.2.1) ∧ w.cell? ⟨g, k * 3 + 2, none⟩ = some r.2.2.1) ∧ LeafRd w r.2.2.1 r.2.2.2 := by
  obtain ⟨vd', vcap', e, -, h⟩ := h
  injection e with e1 e2 e3
  subst e1
  exact h k r hr
theorem own_nil {w : World} {B : Nat} {e : TypeId} {size n cap m : Nat} {a : Option Addr} {xs : List Value} (h : w.ownsRow B e size (.slice a m cap) n xs) : a = none → cap = 0 := by
  rintro rfl
  rcases h.2 with ⟨h, -⟩ | ⟨g, cap', cur, h, -⟩
  · injection h
  · cases h
theorem LeafIn.rd {w : World} {lo hi : Nat} {u : Value} {ls : List (Int × ByteArray)} (h : LeafIn w lo hi u ls) : LeafRd w u ls := by
  obtain ⟨ld, lc, rfl, -, -, l3⟩ := frow_form h.1
  refine ⟨ld, lc, rfl, own_nil h.1, fun j t ht => ?_⟩
  obtain ⟨gl, rfl, -, -⟩ := l3 (by have := (List.getElem?_eq_some_iff.1 ht).1; omega)
  obtain ⟨d1, d2⟩ := lown_cells h.1 ht
  exact ⟨gl, 0, rfl, by rw [Nat.zero_add]; exact d1, by rw [Nat.zero_add]; exact d2⟩
theorem FlashIn.rd {w : World} {lo hi : Nat} {v : Value} {rs : List Rw} (h : FlashIn w lo hi v rs) : FlashRd w v rs := by
  obtain ⟨vd, vcap, rfl, -, -, a3⟩ := frow_form h.1
  refine ⟨vd, vcap, rfl, own_nil h.1, fun k r hr => ?_⟩
  obtain ⟨g, rfl, -, -⟩ := a3 (by have := (List.getElem?_eq_some_iff.1 hr).1; omega)
  exact ⟨g, rfl, kown_cells (k := k) (t := cellOf r) h.1 (by rw [List.getElem?_map, hr]; rfl), (h.2.2.1 r (List.mem_of_getElem? hr)).rd⟩
theorem LeafRd.cells {w : World} {gl o n lc : Nat} {ls : List (Int × ByteArray)} (h : LeafRd w (.slice (some ⟨gl, o, none⟩) n lc) ls) (j : Nat) (u : Value) (hj : (lcells ls)[j]? = some u) : w.cell? ⟨gl, o + j, none⟩ = some u := by
  obtain ⟨ld, lc', e, -, h⟩ := h
  injection e with e1 e2 e3
  subst e1
  have hlt := (List.getElem?_eq_some_iff.1 hj).1
  rw [lcells_len] at hlt
  obtain ⟨t, ht⟩ : ∃ t, ls[j / 2]? = some t := ⟨_, List.getElem?_eq_getElem (by omega)⟩
  obtain ⟨gl', o', e4, c1, c2⟩ := h _ t ht
  injection e4 with e4
  injection e4 with e5 e6
  subst e5 e6
  obtain ⟨k1, k2⟩ := lcells_at ls (j / 2) t ht
  rcases Nat.mod_two_eq_zero_or_one j with hm | hm
  · have e : j / 2 * 2 = j := by omega
    rw [e] at k1 c1
    rw [hj] at k1
    cases k1
    exact c1
  · have e : j / 2 * 2 + 1 = j := by omega
    rw [e, hj] at k2
    cases k2
    rw [Nat.add_assoc, e] at c2
    exact c2
theorem LeafRd.head {w : World} {ld : Option Addr} {n lc : Nat} {ls : List (Int × ByteArray)} (h : LeafRd w (.slice ld n lc) ls) (hn : 0 < ls.length) : ∃ gl o, ld = some ⟨gl, o, none⟩ := by
  obtain ⟨ld', lc', e, -, h⟩ := h
  injection e with e1 e2 e3
  subst e1
  obtain ⟨gl, o, e, -⟩ := h 0 _ (List.getElem?_eq_getElem hn)
  exact ⟨gl, o, e⟩
theorem LeafRd.two {w : World} {gl o n lc j : Nat} {ls : List (Int × ByteArray)} {t : Int × ByteArray} (h : LeafRd w (.slice (some ⟨gl, o, none⟩) n lc) ls) (ht : ls[j]? = some t) : w.cell? ⟨gl, o + j * 2, none⟩ = some (.int .i64 t.1) ∧ w.cell? ⟨gl, o + j * 2 + 1, none⟩ = some (.string t.2) := by
  obtain ⟨k1, k2⟩ := lcells_at ls j t ht
  exact ⟨h.cells _ _ k1, h.cells _ _ k2⟩
end Go.Proofs.YtfmnaidhfgmemaaGreatDoor

namespace Go.Proofs.YtfmnaidhfgmemaaGreatDoor
open Go.RowKit
set_option maxHeartbeats 400000 in
set_option maxRecDepth 100000 in
theorem iread_rd (v : Value) (rs : List Rw) (b leaf : Int) (w : World) (hl : rs.length ≤ 1048576) (hll : ∀ r ∈ rs, r.2.2.2.length ≤ 1048576) (htx : TxB rs) (ha : FlashRd w v rs) :
    Calls Tryz.prog 165 #[.agg #[v], .int .i64 b, .int .i64 leaf] w fun e w' => e = .returned (.tuple #[.string (readF (rs.map tellOf) b leaf).1, .bool (readF (rs.map tellOf) b leaf).2]) ∧ Below w.heap.size w w' := by
  have h1 := ha
  obtain ⟨vd, vcap, rfl, -⟩ := h1
  have HLL := hide hll
  have HTX := hide htx
  have HB0 := hide ((Below.refl w.heap.size w).alloc (Nat.le_refl _) (.cells #[.slice vd rs.length vcap] 39))
  have HA := hide (ha.below HB0.out)
  clear ha hll htx
  go_enter Tryz.func165, Tryz.ntmps165
  go_wp2_with fail
  generalize w.alloc (.cells #[.slice vd rs.length vcap] 39) = w2 at HB0 HA ⊢
  by_cases hb : 0 ≤ b ∧ b ≤ (rs.length : Int) - 1
  · obtain ⟨k, rfl⟩ : ∃ k : Nat, b = k := ⟨b.toNat, by omega⟩
    have hkl : k < rs.length := by omega
    have hr : rs[k]? = some rs[k] := List.getElem?_eq_getElem hkl
    generalize rs[k] = r at hr
    obtain ⟨g, eg, -, -⟩ := HA.out.at hr
    subst eg
    refine (iat_in g rs.length vcap k _ hl hkl).mono ?_
    rintro e w3 ⟨rfl, b3⟩
    have HA3 := hide (HA.out.below b3)
    have HB3 := hide (HB0.out.trans (b3.mono HB0.out.size))
    have hmem := List.mem_of_getElem? hr
    have hrl := HLL.out r hmem
    have htx := HTX.out r hmem
    obtain ⟨g', eg, ⟨-, -, c3⟩, hlf⟩ := HA3.out.at hr
    injection eg with eg
    injection eg with eg
    subst eg
    have HBR : Hid ((rs.map tellOf)[k]? = some (tellOf r)) := by show _ = _; rw [List.getElem?_map, hr]; rfl
    obtain ⟨x, y, u, ls⟩ := r
    simp only at c3
    simp only at hlf hrl htx
    obtain ⟨ld, capl, rfl, -, l3⟩ := hlf
    have L3 := hide l3
    have HTX2 := hide htx
    clear hr hmem l3 hb b3 htx
    by_cases hf : 0 ≤ leaf ∧ leaf ≤ (ls.length : Int) - 1
    · obtain ⟨j, rfl⟩ : ∃ j : Nat, leaf = j := ⟨leaf.toNat, by omega⟩
      have hjl : j < ls.length := by omega
      obtain ⟨z, t, ht⟩ : ∃ z t, ls[j]? = some (z, t) := ⟨ls[j].1, ls[j].2, List.getElem?_eq_getElem hjl⟩
      obtain ⟨gl, lo, el, d1, d2⟩ := L3.out j (z, t) ht
      subst el
      simp only at d1 d2
      have hts := HTX2.out _ (List.mem_of_getElem? ht)
      simp only at hts
      have RI := hide (read_in (t := (z, t)) HBR.out ht)
      clear ht hf
      go_wp2_with fail
      refine (ilat_off g (k * 3) gl lo ls.length capl j _ hrl hjl c3).mono ?_
      rintro e w4 ⟨rfl, rfl⟩
      by_cases hz : z = 1
      · have HP : Hid (readF (rs.map tellOf) (k : Int) (j : Int) = (t, true)) := RI.out.1 hz
        have e1 : (z != 1) = false := by simp [hz]
        clear hz
        go_wp2_with fail
        refine (fclone_any t _ hts).mono ?_
        rintro e w5 ⟨rfl, b5⟩
        have HB5 := hide (HB3.out.trans (b5.mono HB3.out.size))
        clear b5
        go_wp2
        go_ret2
        exact ⟨by rw [HP.out]; rfl, HB5.out⟩
      · have HP : Hid (readF (rs.map tellOf) (k : Int) (j : Int) = (⟨#[]⟩, false)) := RI.out.2 hz
        have e1 : (z != 1) = true := by simp [hz]
        clear hz
        go_wp2
        go_ret2
        exact ⟨by rw [HP.out]; rfl, HB3.out⟩
    · have HP : Hid (readF (rs.map tellOf) (k : Int) leaf = (⟨#[]⟩, false)) := read_leaf_out HBR.out hf
      go_wp2_with fail
      refine (ilat_out g (k * 3) ls.length capl ld leaf _ hrl hf c3).mono ?_
      rintro e w4 ⟨rfl, rfl⟩
      clear hf
      go_wp2
      go_ret2
      exact ⟨by rw [HP.out]; rfl, HB3.out⟩
  · have HP : Hid (readF (rs.map tellOf) b leaf = (⟨#[]⟩, false)) := read_out (by rw [List.length_map]; exact hb)
    refine (iat_out vd rs.length vcap b _ hl hb).mono ?_
    rintro e w3 ⟨rfl, b3⟩
    have HB3 := hide (HB0.out.trans (b3.mono HB0.out.size))
    clear hb b3
    go_wp2
    go_ret2
    exact ⟨by rw [HP.out]; rfl, HB3.out⟩
end Go.Proofs.YtfmnaidhfgmemaaGreatDoor

namespace Go.Proofs.YtfmnaidhfgmemaaGreatDoor
open Go.RowKit
open Words
def pgVal (p : Pg) : Value := .agg #[.int .i64 p.kind, .int .i64 p.seq, .int .i64 p.tx, .int .i64 p.part, .int .i64 p.count, .string p.text]
end Go.Proofs.YtfmnaidhfgmemaaGreatDoor

namespace Go.Proofs.YtfmnaidhfgmemaaGreatDoor
open Go.RowKit
open Words
def partP (k q c : Int) : Prop := k = 1 ∧ c = 1 ∧ q = 0 ∨ k = 2 ∧ 1 ≤ c ∧ c ≤ 9 ∧ 0 ≤ q ∧ q < c
def partB (k q c : Int) : Bool := decide (k = 1 ∧ c = 1 ∧ q = 0 ∨ k = 2 ∧ 1 ≤ c ∧ c ≤ 9 ∧ 0 ≤ q ∧ q < c)
theorem partB_yes {k q c : Int} (h : partP k q c) : partB k q c = true := dcY h
theorem partB_no {k q c : Int} (h : ¬ partP k q c) : partB k q c = false := dcN h
set_option maxHeartbeats 400000 in
set_option maxRecDepth 100000 in
theorem ipart_any (k s x q c : Int) (t : ByteArray) (w : World) :
    Calls Tryz.prog 156 #[.agg #[.int .i64 k, .int .i64 s, .int .i64 x, .int .i64 q, .int .i64 c, .string t]] w fun e w' => e = .returned (.bool (partB k q c)) ∧ Below w.heap.size w w' := by
  have HB := hide ((Below.refl w.heap.size w).alloc (Nat.le_refl _) (.cells #[.int .i64 k, .int .i64 s, .int .i64 x, .int .i64 q, .int .i64 c, .string t] 92))
  by_cases h1 : k = 1
  · subst h1
    have HE : Hid (partB 1 q c = (decide (c = 1) && decide (q = 0))) := by
      show _ = _
      by_cases a : c = 1 <;> by_cases b : q = 0 <;> simp [partB, a, b]
    by_cases a : (c == 1) = true
    · go_enter Tryz.func156, Tryz.ntmps156
      go_wp2
      go_ret
      exact ⟨by rw [HE.out]; simp at a; by_cases b : q = 0 <;> simp [a, b], HB.out⟩
    · have a : (c == 1) = false := by simpa using a
      go_enter Tryz.func156, Tryz.ntmps156
      go_wp2
      go_ret
      exact ⟨by rw [HE.out]; simp at a; by_cases b : q = 0 <;> simp [a, b], HB.out⟩
  · have h1' : (k == 1) = false := by simpa using h1
    by_cases h2 : k = 2
    · subst h2
      have HE : Hid (partB 2 q c = decide (1 ≤ c ∧ c ≤ 9 ∧ 0 ≤ q ∧ q < c)) := by
        show _ = _
        simp [partB]
      clear h1 h1'
      by_cases a1 : 1 ≤ c
      · by_cases a2 : c ≤ 9
        · by_cases a3 : 0 ≤ q
          · go_enter Tryz.func156, Tryz.ntmps156
            go_wp2
            go_ret
            exact ⟨by rw [HE.out]; simp [a1, a2, a3], HB.out⟩
          · go_enter Tryz.func156, Tryz.ntmps156
            go_wp2
            go_ret
            exact ⟨by rw [HE.out]; simp; omega, HB.out⟩
        · go_enter Tryz.func156, Tryz.ntmps156
          go_wp2
          go_ret
          exact ⟨by rw [HE.out]; simp; omega, HB.out⟩
      · go_enter Tryz.func156, Tryz.ntmps156
        go_wp2
        go_ret
        exact ⟨by rw [HE.out]; simp; omega, HB.out⟩
    · have h2' : (k == 2) = false := by simpa using h2
      have HE : Hid (partB k q c = false) := by
        show _ = _
        simp [partB, h1, h2]
      clear h1 h2
      go_enter Tryz.func156, Tryz.ntmps156
      go_wp2
      go_ret
      exact ⟨by rw [HE.out]; rfl, HB.out⟩
theorem right_eq (k s x q c : Int) (t : ByteArray) : (Pg.mk k s x q c t).Right ↔ (1 ≤ s ∧ s ≤ 1000000000 ∧ 1 ≤ x ∧ x ≤ 1000000000) ∧ partP k q c ∧ (t.size : Int) ≤ 90 := by
  unfold Pg.Right partP
  simp only
  constructor
  · rintro ⟨h, h1, h2, h3, h4, h5⟩; exact ⟨⟨h1, h2, h3, h4⟩, h, h5⟩
  · rintro ⟨⟨h1, h2, h3, h4⟩, h, h5⟩; exact ⟨h, h1, h2, h3, h4, h5⟩
set_option maxHeartbeats 400000 in
set_option maxRecDepth 100000 in
theorem ipageOk (p : Pg) (w : World) :
    Calls Tryz.prog 135 #[pgVal p] w fun e w' => e = .returned (.bool (@decide p.Right p.decR)) ∧ Below w.heap.size w w' := by
  obtain ⟨k, s, x, q, c, t⟩ := p
  have HE := hide (right_eq k s x q c t)
  have HB := hide ((Below.refl w.heap.size w).alloc (Nat.le_refl _) (.cells #[.int .i64 k, .int .i64 s, .int .i64 x, .int .i64 q, .int .i64 c, .string t] 92))
  unfold pgVal
  simp only
  by_cases a1 : s < 1
  · go_enter Tryz.func135, Tryz.ntmps135
    go_wp2
    go_ret
    exact ⟨by rw [dcN (fun h => by have := (HE.out.1 h).1; omega)]; rfl, HB.out⟩
  by_cases a2 : 1000000000 < s
  · go_enter Tryz.func135, Tryz.ntmps135
    go_wp2
    go_ret
    exact ⟨by rw [dcN (fun h => by have := (HE.out.1 h).1; omega)]; rfl, HB.out⟩
  by_cases a3 : x < 1
  · go_enter Tryz.func135, Tryz.ntmps135
    go_wp2
    go_ret
    exact ⟨by rw [dcN (fun h => by have := (HE.out.1 h).1; omega)]; rfl, HB.out⟩
  by_cases a4 : 1000000000 < x
  · go_enter Tryz.func135, Tryz.ntmps135
    go_wp2
    go_ret
    exact ⟨by rw [dcN (fun h => by have := (HE.out.1 h).1; omega)]; rfl, HB.out⟩
  by_cases a5 : partP k q c
  · go_enter Tryz.func135, Tryz.ntmps135
    go_wp2_with fail
    refine (ipart_any k s x q c t _).mono ?_
    rintro e w1 ⟨rfl, hb⟩
    rw [partB_yes a5]
    have A5 := hide a5
    clear a5
    have hs := HB.out.size
    have kp : ∀ i, i < 6 → w1.cell? ⟨w.heap.size, i, none⟩ = (w.alloc (.cells #[.int .i64 k, .int .i64 s, .int .i64 x, .int .i64 q, .int .i64 c, .string t] 92)).cell? ⟨w.heap.size, i, none⟩ := fun i _ => hb.cell (by simp)
    have k5 := kp 5 (by omega)
    simp at k5
    clear kp
    go_wp2
    go_ret
    have e : @decide (Pg.mk k s x q c t).Right (Pg.mk k s x q c t).decR = decide ((t.size : Int) ≤ 90) := dcE (HE.out.trans ⟨fun h => h.2.2, fun h => ⟨by omega, A5.out, h⟩⟩)
    exact ⟨by rw [e]; rfl, HB.out.trans (hb.mono hs)⟩
  · go_enter Tryz.func135, Tryz.ntmps135
    go_wp2_with fail
    refine (ipart_any k s x q c t _).mono ?_
    rintro e w1 ⟨rfl, hb⟩
    rw [partB_no a5]
    have A5 := hide a5
    clear a5
    have hs := HB.out.size
    go_wp2
    go_ret
    exact ⟨by rw [dcN (fun h => A5.out (HE.out.1 h).2.1)]; rfl, HB.out.trans (hb.mono hs)⟩
end Go.Proofs.YtfmnaidhfgmemaaGreatDoor
