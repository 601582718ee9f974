/-
  Fla; FMath; Rd; SNext; SIn; SMay; SLeaf; SOk
-/
import Derived.Test.YtiicghepilbgfaaGreatDoorPk29
import Derived.Test.YtiicghepilbgfaaGreatDoorFRow
import Derived.Test.YtiicghepilbgfaaGreatDoorPk3
import Derived.Test.YtiicghepilbgfaaGreatDoorPk0
/-
  A flash among what a law holds.
-/
namespace Go.Proofs.YtiicghepilbgfaaGreatDoor
open Go.RowKit

/-- A flash in blocks from lo on and below hi. -/
def Fla (lo hi : Nat) (v : Value) (bs : List Bk) : World → Prop := fun W => ∃ ss : List Rw, ss.map tellOf = bs ∧ FlashIn W lo hi v ss
theorem Fla.loc (lo hi : Nat) (v : Value) (bs : List Bk) : Loc lo hi (Fla lo hi v bs) := by
  rintro w w' hk ⟨ss, e, h⟩
  exact ⟨ss, e, h.kept hk⟩
theorem Fla.form {w : World} {lo hi : Nat} {v : Value} {bs : List Bk} (h : Fla lo hi v bs w) : ∃ ad cap, v = .slice ad bs.length cap ∧ (0 < bs.length → ∃ g, ad = some ⟨g, 0, none⟩ ∧ lo ≤ g ∧ g < hi) := by
  obtain ⟨ss, rfl, h⟩ := h
  obtain ⟨ad, cap, rfl, -, -, h3⟩ := frow_form h.1
  refine ⟨ad, cap, by simp, fun hp => ?_⟩
  obtain ⟨g, e, h4, -⟩ := h3 (by simpa using hp)
  subst e
  exact ⟨g, rfl, h4, h.2.1 g rfl⟩
/-- What a function answered joins what is held. -/
theorem Tk.fla {w wi wj : World} {hs : List Hold} {v : Value} {bs : List Bk} (T : Tk w wi hs) (hb : Below wi.heap.size wi wj) (f : FlashOf wj wi.heap.size v bs) : Tk w wj ((wi.heap.size, wj.heap.size, Fla wi.heap.size wj.heap.size v bs) :: hs) := T.add hb (Fla.loc _ _ _ _) f
theorem Fla.of {w : World} {lo hi B : Nat} {v : Value} {bs : List Bk} (h : Fla lo hi v bs w) (hh : hi ≤ w.heap.size) (hB : B ≤ lo) : FlashOf w B v bs := by
  obtain ⟨ss, e, h⟩ := h
  exact ⟨ss, e, (h.up hh).down hB⟩
/-- The cells of a block. -/
theorem Fla.cells {w : World} {lo hi g n cap k : Nat} {bs : List Bk} {b : Bk} (h : Fla lo hi (.slice (some ⟨g, 0, none⟩) n cap) bs w) (hb : bs[k]? = some b) : w.cell? ⟨g, k * 3, none⟩ = some (.bool b.1) ∧ w.cell? ⟨g, k * 3 + 1, none⟩ = some (.int .i64 b.2.1) ∧ ∃ u, w.cell? ⟨g, k * 3 + 2, none⟩ = some u ∧ w.ownsRow lo 130 2 u b.2.2.length (lcells b.2.2) := by
  obtain ⟨ss, rfl, h⟩ := h
  rw [List.getElem?_map] at hb
  cases hr : ss[k]? with
  | none => rw [hr] at hb; cases hb
  | some r =>
    rw [hr] at hb
    cases hb
    have hn : n = ss.length := by
      obtain ⟨ad, c, e, -⟩ := frow_form h.1
      injection e
    subst hn
    obtain ⟨c1, c2, c3⟩ := kown_cells (k := k) (t := cellOf r) h.1 (by rw [List.getElem?_map, hr]; rfl)
    exact ⟨c1, c2, _, c3, (h.2.2.1 r (List.mem_of_getElem? hr)).1⟩
/-- Numbers that lie in a block. -/
def Nums (g : Nat) (l : List Int) : World → Prop := fun W => ∀ j x, l[j]? = some x → W.cell? ⟨g, j, none⟩ = some (.int .i64 x)
theorem Nums.loc (g : Nat) (l : List Int) : Loc g (g + 1) (Nums g l) := fun w w' hk h j x hx => (World.cell?_of_block (hk g (Nat.le_refl _) (by omega))).trans (h j x hx)
end Go.Proofs.YtiicghepilbgfaaGreatDoor

/-
  What chapter 5 says of flashes, in plain words.
-/
namespace Go.Proofs.YtiicghepilbgfaaGreatDoor

/-- No text of these is too long for the program. -/
def Tx (ls : List (Int × ByteArray)) : Prop := ∀ t ∈ ls, t.2.size ≤ 1048576
def TxB (rs : List Rw) : Prop := ∀ r ∈ rs, Tx r.2.2.2
theorem Tx.succ {ls : List (Int × ByteArray)} {k : Nat} {t : Int × ByteArray} (h : Tx (ls.take k)) (ht : ls[k]? = some t) (hs : t.2.size ≤ 1048576) : Tx (ls.take (k + 1)) := by
  obtain ⟨h1, h2⟩ := List.getElem?_eq_some_iff.1 ht
  rw [List.take_succ_eq_append_getElem h1, h2]
  intro u hu
  rcases List.mem_append.1 hu with hu | hu
  · exact h u hu
  · rw [List.mem_singleton] at hu
    subst hu
    exact hs
theorem TxB.succ {rs : List Rw} {k : Nat} {r : Rw} (h : TxB (rs.take k)) (hr : rs[k]? = some r) (hs : Tx r.2.2.2) : TxB (rs.take (k + 1)) := by
  obtain ⟨h1, h2⟩ := List.getElem?_eq_some_iff.1 hr
  rw [List.take_succ_eq_append_getElem h1, h2]
  intro u hu
  rcases List.mem_append.1 hu with hu | hu
  · exact h u hu
  · rw [List.mem_singleton] at hu
    subst hu
    exact hs
end Go.Proofs.YtiicghepilbgfaaGreatDoor

/-
  Flashes that can be read, whoever owns them, and wherever their leaves begin.
-/
namespace Go.Proofs.YtiicghepilbgfaaGreatDoor
open Go.RowKit

def LeafRd (w : World) (u : Value) (ls : List (Int × ByteArray)) : Prop :=
  ∃ ld lc, u = .slice ld ls.length lc ∧ (ld = none → lc = 0) ∧ ∀ j t, ls[j]? = some t → ∃ gl o, ld = some ⟨gl, o, none⟩ ∧ w.cell? ⟨gl, o + j * 2, none⟩ = some (.int .i64 t.1) ∧ w.cell? ⟨gl, o + j * 2 + 1, none⟩ = some (.string t.2)
def FlashRd (w : World) (v : Value) (rs : List Rw) : Prop :=
  ∃ vd vcap, v = .slice vd rs.length vcap ∧ (vd = none → vcap = 0) ∧ ∀ k r, rs[k]? = some r → ∃ g, vd = some ⟨g, 0, none⟩ ∧ (w.cell? ⟨g, k * 3, none⟩ = some (.bool r.1) ∧ w.cell? ⟨g, k * 3 + 1, none⟩ = some (.int .i64 r.2.1) ∧ w.cell? ⟨g, k * 3 + 2, none⟩ = some r.2.2.1) ∧ LeafRd w r.2.2.1 r.2.2.2
theorem LeafRd.below {w w' : World} {u : Value} {ls : List (Int × ByteArray)} (h : LeafRd w u ls) (hb : Below w.heap.size w w') : LeafRd w' u ls := by
  obtain ⟨ld, lc, e, en, h⟩ := h
  refine ⟨ld, lc, e, en, fun j t ht => ?_⟩
  obtain ⟨gl, o, e2, c1, c2⟩ := h j t ht
  exact ⟨gl, o, e2, (hb.cell (World.block_lt_of_cell? w _ c1)).trans c1, (hb.cell (World.block_lt_of_cell? w _ c2)).trans c2⟩
theorem FlashRd.below {w w' : World} {v : Value} {rs : List Rw} (h : FlashRd w v rs) (hb : Below w.heap.size w w') : FlashRd w' v rs := by
  obtain ⟨vd, vcap, e, en, h⟩ := h
  refine ⟨vd, vcap, e, en, fun k r hr => ?_⟩
  obtain ⟨g, e2, ⟨c1, c2, c3⟩, hl⟩ := h k r hr
  exact ⟨g, e2, ⟨(hb.cell (World.block_lt_of_cell? w _ c1)).trans c1, (hb.cell (World.block_lt_of_cell? w _ c2)).trans c2, (hb.cell (World.block_lt_of_cell? w _ c3)).trans c3⟩, hl.below hb⟩
theorem FlashRd.at {w : World} {vd : Option Addr} {n vcap k : Nat} {rs : List Rw} {r : Rw} (h : FlashRd w (.slice vd n vcap) rs) (hr : rs[k]? = some r) : ∃ g, vd = some ⟨g, 0, none⟩ ∧ (w.cell? ⟨g, k * 3, none⟩ = some (.bool r.1) ∧ w.cell? ⟨g, k * 3 + 1, none⟩ = some (.int .i64 r.2.1) ∧ w.cell? ⟨g, k * 3 + 2, none⟩ = some r.2.2.1) ∧ LeafRd w r.2.2.1 r.2.2.2 := by
  obtain ⟨vd', vcap', e, -, h⟩ := h
  injection e with e1 e2 e3
  subst e1
  exact h k r hr
theorem own_nil {w : World} {B : Nat} {e : TypeId} {size n cap m : Nat} {a : Option Addr} {xs : List Value} (h : w.ownsRow B e size (.slice a m cap) n xs) : a = none → cap = 0 := by
  rintro rfl
  rcases h.2 with ⟨h, -⟩ | ⟨g, cap', cur, h, -⟩
  · injection h
  · cases h
theorem LeafIn.rd {w : World} {lo hi : Nat} {u : Value} {ls : List (Int × ByteArray)} (h : LeafIn w lo hi u ls) : LeafRd w u ls := by
  obtain ⟨ld, lc, rfl, -, -, l3⟩ := frow_form h.1
  refine ⟨ld, lc, rfl, own_nil h.1, fun j t ht => ?_⟩
  obtain ⟨gl, rfl, -, -⟩ := l3 (by have := (List.getElem?_eq_some_iff.1 ht).1; omega)
  obtain ⟨d1, d2⟩ := lown_cells h.1 ht
  exact ⟨gl, 0, rfl, by rw [Nat.zero_add]; exact d1, by rw [Nat.zero_add]; exact d2⟩
theorem FlashIn.rd {w : World} {lo hi : Nat} {v : Value} {rs : List Rw} (h : FlashIn w lo hi v rs) : FlashRd w v rs := by
  obtain ⟨vd, vcap, rfl, -, -, a3⟩ := frow_form h.1
  refine ⟨vd, vcap, rfl, own_nil h.1, fun k r hr => ?_⟩
  obtain ⟨g, rfl, -, -⟩ := a3 (by have := (List.getElem?_eq_some_iff.1 hr).1; omega)
  exact ⟨g, rfl, kown_cells (k := k) (t := cellOf r) h.1 (by rw [List.getElem?_map, hr]; rfl), (h.2.2.1 r (List.mem_of_getElem? hr)).rd⟩
theorem addr_offR (g o j : Nat) : (⟨g, o, none⟩ : Addr).add j = ⟨g, o + j, none⟩ := by
  simp only [Addr.add]
  split <;> simp_all
theorem LeafRd.cells {w : World} {gl o n lc : Nat} {ls : List (Int × ByteArray)} (h : LeafRd w (.slice (some ⟨gl, o, none⟩) n lc) ls) (j : Nat) (u : Value) (hj : (lcells ls)[j]? = some u) : w.cell? ⟨gl, o + j, none⟩ = some u := by
  obtain ⟨ld, lc', e, -, h⟩ := h
  injection e with e1 e2 e3
  subst e1
  have hlt := (List.getElem?_eq_some_iff.1 hj).1
  rw [lcells_len] at hlt
  obtain ⟨t, ht⟩ : ∃ t, ls[j / 2]? = some t := ⟨_, List.getElem?_eq_getElem (by omega)⟩
  obtain ⟨gl', o', e4, c1, c2⟩ := h _ t ht
  injection e4 with e4
  injection e4 with e5 e6
  subst e5 e6
  obtain ⟨k1, k2⟩ := lcells_at ls (j / 2) t ht
  rcases Nat.mod_two_eq_zero_or_one j with hm | hm
  · have e : j / 2 * 2 = j := by omega
    rw [e] at k1 c1
    rw [hj] at k1
    cases k1
    exact c1
  · have e : j / 2 * 2 + 1 = j := by omega
    rw [e, hj] at k2
    cases k2
    rw [Nat.add_assoc, e] at c2
    exact c2
/-- Where leaves begin. -/
theorem LeafRd.head {w : World} {ld : Option Addr} {n lc : Nat} {ls : List (Int × ByteArray)} (h : LeafRd w (.slice ld n lc) ls) (hn : 0 < ls.length) : ∃ gl o, ld = some ⟨gl, o, none⟩ := by
  obtain ⟨ld', lc', e, -, h⟩ := h
  injection e with e1 e2 e3
  subst e1
  obtain ⟨gl, o, e, -⟩ := h 0 _ (List.getElem?_eq_getElem hn)
  exact ⟨gl, o, e⟩
theorem LeafRd.two {w : World} {gl o n lc j : Nat} {ls : List (Int × ByteArray)} {t : Int × ByteArray} (h : LeafRd w (.slice (some ⟨gl, o, none⟩) n lc) ls) (ht : ls[j]? = some t) : w.cell? ⟨gl, o + j * 2, none⟩ = some (.int .i64 t.1) ∧ w.cell? ⟨gl, o + j * 2 + 1, none⟩ = some (.string t.2) := by
  obtain ⟨k1, k2⟩ := lcells_at ls j t ht
  exact ⟨h.cells _ _ k1, h.cells _ _ k2⟩
theorem LeafRd.none0 {w : World} {ld : Option Addr} {n lc : Nat} {ls : List (Int × ByteArray)} (h : LeafRd w (.slice ld n lc) ls) : ld = none → lc = 0 := by
  obtain ⟨ld', lc', e, h, -⟩ := h
  injection e with e1 e2 e3
  subst e1 e3
  exact h
theorem FlashRd.head {w : World} {vd : Option Addr} {n vcap : Nat} {rs : List Rw} (h : FlashRd w (.slice vd n vcap) rs) (hn : 0 < rs.length) : ∃ g, vd = some ⟨g, 0, none⟩ := by
  obtain ⟨g, e, -⟩ := h.at (List.getElem?_eq_getElem hn)
  exact ⟨g, e⟩
end Go.Proofs.YtiicghepilbgfaaGreatDoor

/-
  spec.NextBlank.
-/
namespace Go.Proofs.YtiicghepilbgfaaGreatDoor
open Go.RowKit

end Go.Proofs.YtiicghepilbgfaaGreatDoor

/-
  spec.l01In.
-/
namespace Go.Proofs.YtiicghepilbgfaaGreatDoor
open Go.RowKit
set_option maxHeartbeats 400000 in
set_option maxRecDepth 100000 in
theorem sin_b (x lo hi : Int) (b : Bool) (w : World) (h : (lo ≤ x ∧ x ≤ hi ∧ b = true) ∨ ((x < lo ∨ lo ≤ x ∧ ¬ x ≤ hi) ∧ b = false)) :
    Calls Tryz.prog 36 #[.int .i64 x, .int .i64 lo, .int .i64 hi] w fun e w' => e = .returned (.bool b) ∧ w' = w := by
  rcases h with ⟨h1, h2, rfl⟩ | ⟨h1 | ⟨h1, h2⟩, rfl⟩
  all_goals
    go_enter Tryz.func36, Tryz.ntmps36
    go_wp2
    go_ret
    exact ⟨rfl, rfl⟩
theorem sin_any (x lo hi : Int) (w : World) :
    Calls Tryz.prog 36 #[.int .i64 x, .int .i64 lo, .int .i64 hi] w fun e w' => e = .returned (.bool (decide (lo ≤ x ∧ x ≤ hi))) ∧ w' = w := by
  apply sin_b
  by_cases h : lo ≤ x ∧ x ≤ hi
  · exact .inl ⟨h.1, h.2, decide_eq_true h⟩
  · exact .inr ⟨by omega, decide_eq_false h⟩
end Go.Proofs.YtiicghepilbgfaaGreatDoor

/-
  spec.l05May.
-/
namespace Go.Proofs.YtiicghepilbgfaaGreatDoor
open Go.RowKit

theorem mayP_out {bs : List Bk} {b leaf : Int} {t : ByteArray} (h : ¬ (0 ≤ b ∧ b ≤ (bs.length : Int) - 1)) : mayP bs b leaf t = false := by
  unfold mayP
  cases hb : bs[b.toNat]? with
  | none => rfl
  | some r =>
    have := (List.getElem?_eq_some_iff.1 hb).1
    exact decide_eq_false (fun hh => h ⟨hh.1, by omega⟩)
theorem mayP_in {bs : List Bk} {b leaf : Int} {t : ByteArray} {r : Bk} (h0 : 0 ≤ b) (hr : bs[b.toNat]? = some r) : mayP bs b leaf t = decide (r.1 = false ∧ leaf < 4 ∧ leaf = nextB r.2.2 ∧ 1 ≤ t.size ∧ t.size ≤ 120) := by
  unfold mayP
  rw [hr]
  simp [h0]

end Go.Proofs.YtiicghepilbgfaaGreatDoor

/-
  spec.l05Leaf.
-/
namespace Go.Proofs.YtiicghepilbgfaaGreatDoor
open Go.RowKit

end Go.Proofs.YtiicghepilbgfaaGreatDoor

/-
  spec.FlashOk.
-/
namespace Go.Proofs.YtiicghepilbgfaaGreatDoor
open Go.RowKit

end Go.Proofs.YtiicghepilbgfaaGreatDoor
