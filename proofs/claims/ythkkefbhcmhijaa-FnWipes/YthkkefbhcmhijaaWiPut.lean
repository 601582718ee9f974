/-
  A block of one flash laid into another: what can be read then.
-/
import Derived.Test.YthkkefbhcmhijaaDrMath
namespace Go.Proofs.Ythkkefbhcmhijaa
open Go.RowKit

theorem rd_put {w : World} {B gn n cap : Nat} {bs : List Bk} {k : Nat} {x : Bool} {y : Int} {ls : List (Int × ByteArray)} {ld : Option Addr} {lcap : Nat} {f : Bk → Bk}
    (h : FlashOf w B (.slice (some ⟨gn, 0, none⟩) n cap) (bs.modify k f)) (hr : bs[k]? = some (x, y, ls)) (hl : RdL w ld ls) (hlg : ∀ gl, ld = some ⟨gl, 0, none⟩ → gl ≠ gn) :
    RdF (((w.setCell ⟨gn, k * 3, none⟩ (.bool x)).setCell ⟨gn, k * 3 + 1, none⟩ (.int .i64 y)).setCell ⟨gn, k * 3 + 2, none⟩ (.slice ld ls.length lcap)) gn bs := by
  have far : ∀ (W : World) (i b o : Nat) (v : Value), b ≠ gn ∨ o ≠ i → (W.setCell ⟨gn, i, none⟩ v).cell? ⟨b, o, none⟩ = W.cell? ⟨b, o, none⟩ := fun W i b o v hne => World.cell?_setCell_other _ _ _ _ (fun e => by injection e with e1 e2; rcases hne with q | q; exact q e1.symm; exact q e2.symm)
  have leafs : ∀ (ld' : Option Addr) (ls' : List (Int × ByteArray)), RdL w ld' ls' → (∀ gl, ld' = some ⟨gl, 0, none⟩ → gl ≠ gn) → RdL (((w.setCell ⟨gn, k * 3, none⟩ (.bool x)).setCell ⟨gn, k * 3 + 1, none⟩ (.int .i64 y)).setCell ⟨gn, k * 3 + 2, none⟩ (.slice ld ls.length lcap)) ld' ls' := by
    intro ld' ls' h1 h2 j t ht
    obtain ⟨gl, e, c1, c2⟩ := h1 j t ht
    have hne := h2 gl e
    exact ⟨gl, e, by rw [far _ _ _ _ _ (.inl hne), far _ _ _ _ _ (.inl hne), far _ _ _ _ _ (.inl hne)]; exact c1, by rw [far _ _ _ _ _ (.inl hne), far _ _ _ _ _ (.inl hne), far _ _ _ _ _ (.inl hne)]; exact c2⟩
  intro k' r' hr'
  by_cases hk : k' = k
  · subst hk
    rw [hr] at hr'
    cases hr'
    have hm : (bs.modify k' f)[k']? = some (f (x, y, ls)) := by rw [List.getElem?_modify, hr]; simp
    obtain ⟨ld1, lc1, ⟨c1, c2, c3⟩, -⟩ := h.blk hm
    refine ⟨ld, lcap, ⟨?_, ?_, ?_⟩, leafs _ _ hl hlg⟩
    · rw [far _ _ _ _ _ (.inr (by omega)), far _ _ _ _ _ (.inr (by omega))]
      exact World.cell?_setCell_same _ _ _ c1
    · rw [far _ _ _ _ _ (.inr (by omega))]
      exact World.cell?_setCell_same _ _ _ ((far _ _ _ _ _ (.inr (by omega))).trans c2)
    · exact World.cell?_setCell_same _ _ _ ((far _ _ _ _ _ (.inr (by omega))).trans ((far _ _ _ _ _ (.inr (by omega))).trans c3))
  · have hm : (bs.modify k f)[k']? = some r' := by
      rw [List.getElem?_modify, hr']
      simp
      exact fun e => absurd e.symm hk
    obtain ⟨ld1, lc1, ⟨c1, c2, c3⟩, own⟩ := h.blk hm
    obtain ⟨ld2, lc2, ⟨d1, d2, d3⟩, hrd⟩ := h.rd k' r' hm
    rw [c3] at d3
    cases d3
    refine ⟨ld1, lc1, ⟨?_, ?_, ?_⟩, leafs _ _ hrd ?_⟩
    · rw [far _ _ _ _ _ (.inr (by omega)), far _ _ _ _ _ (.inr (by omega)), far _ _ _ _ _ (.inr (by omega))]
      exact c1
    · rw [far _ _ _ _ _ (.inr (by omega)), far _ _ _ _ _ (.inr (by omega)), far _ _ _ _ _ (.inr (by omega))]
      exact c2
    · rw [far _ _ _ _ _ (.inr (by omega)), far _ _ _ _ _ (.inr (by omega)), far _ _ _ _ _ (.inr (by omega))]
      exact c3
    · intro gl e hg
      subst e hg
      obtain ⟨ss, -, hs⟩ := h
      exact leaf_not_block hs.1 own gl rfl rfl

theorem same_n {w : World} (ga gb cpa cpb n : Nat) {bs : List Bk} {m : Int} (hn : bs.length = n) (hr : Right m bs) (ha : RdF w ga bs) (hb : RdF w gb bs) :
    Calls Try.prog 11 #[.agg #[.slice (some ⟨ga, 0, none⟩) n cpa], .agg #[.slice (some ⟨gb, 0, none⟩) n cpb]] w fun e w' => e = .returned (.bool true) ∧ Below w.heap.size w w' := by
  subst hn
  exact same_any ga gb cpa cpb bs w (by have := hr.lens.2.1; omega) (fun r h => by have := hr.lens.2.2 r h; omega) ha hb
theorem blank_next : nextB blank4 = 0 := by decide
/-- What a flash is in a world that keeps all below. -/
theorem flash_low {w w' : World} {lo hi : Nat} {v : Value} {bs : List Bk} (h : hi ≤ w.heap.size ∧ ∃ ss : List Rw, ss.map tellOf = bs ∧ FlashIn w lo hi v ss) (hb : Below hi w w') : FlashOf w' lo v bs := by
  obtain ⟨h1, ss, e, hs⟩ := h
  exact ⟨ss, e, (hs.kept (fun g _ hg => hb.block g hg)).up (Nat.le_trans h1 hb.size)⟩

/-- A block of the flash f, which lies below gf, is laid into the flash n, which lies above: f is as it was, n can be read as f. -/
theorem wi_put {w : World} {lof gf gu lo gn n vcap cap k lcf : Nat} {ldf : Option Addr} {bs : List Bk} {x : Bool} {y : Int} {ls : List (Int × ByteArray)} {f : Bk → Bk}
    (hf : gf ≤ w.heap.size ∧ ∃ ss : List Rw, ss.map tellOf = bs ∧ FlashIn w lof gf (.slice (some ⟨gu, 0, none⟩) n vcap) ss) (hn : FlashOf w lo (.slice (some ⟨gn, 0, none⟩) n cap) (bs.modify k f)) (hg : gf < gn)
    (hr : bs[k]? = some (x, y, ls)) (f3 : w.cell? ⟨gu, k * 3 + 2, none⟩ = some (.slice ldf ls.length lcf)) (W : World) (hW : W = (((w.setCell ⟨gn, k * 3, none⟩ (.bool x)).setCell ⟨gn, k * 3 + 1, none⟩ (.int .i64 y)).setCell ⟨gn, k * 3 + 2, none⟩ (.slice ldf ls.length lcf)).drew) :
    Below gf w W ∧ RdF W gn bs ∧ FlashOf W lof (.slice (some ⟨gu, 0, none⟩) n vcap) bs ∧ (∀ b o, b ≠ gn → W.cell? ⟨b, o, none⟩ = w.cell? ⟨b, o, none⟩) ∧
      (∀ (B : Nat) (v : Value) (m : Nat) (xs : List Value), w.ownsRow B 41 2 v m xs → W.ownsRow B 41 2 v m xs) := by
  subst hW
  have hb : Below gf w (((w.setCell ⟨gn, k * 3, none⟩ (.bool x)).setCell ⟨gn, k * 3 + 1, none⟩ (.int .i64 y)).setCell ⟨gn, k * 3 + 2, none⟩ (.slice ldf ls.length lcf)).drew :=
    ((((Below.refl gf w).setCell (p := ⟨gn, k * 3, none⟩) (Nat.le_of_lt hg) _).setCell (p := ⟨gn, k * 3 + 1, none⟩) (Nat.le_of_lt hg) _).setCell (p := ⟨gn, k * 3 + 2, none⟩) (Nat.le_of_lt hg) _).drew
  have ff : FlashOf w lof (.slice (some ⟨gu, 0, none⟩) n vcap) bs := flash_low hf (Below.refl _ _)
  obtain ⟨ld1, lc1, ⟨c1, c2, c3⟩, own⟩ := ff.blk hr
  obtain ⟨ld2, lc2, ⟨d1, d2, d3⟩, hrd⟩ := ff.rd k _ hr
  simp only at c3 d3 own hrd
  rw [f3] at c3 d3
  cases c3
  cases d3
  have hne : ∀ gl, ldf = some ⟨gl, 0, none⟩ → gl ≠ gn := by
    intro gl e hgl
    subst e hgl
    obtain ⟨ss, -, hs⟩ := hn
    exact leaf_not_block hs.1 own gl rfl rfl
  refine ⟨hb, rd_put (lcap := lcf) hn hr hrd hne, flash_low hf hb, fun b o hbn => ?_, fun B v m xs h => ?_⟩
  · exact World.cell?_of_block ((Below.heap_setCell _ ⟨gn, k * 3 + 2, none⟩ _ _ hbn).trans ((Below.heap_setCell _ ⟨gn, k * 3 + 1, none⟩ _ _ hbn).trans (Below.heap_setCell _ ⟨gn, k * 3, none⟩ _ _ hbn)))
  · obtain ⟨ss, -, hs⟩ := hn
    have q : v.ownBlock = none ∨ v.ownBlock ≠ some gn := Or.inr (leaf_not_block hs.1 h gn rfl)
    have h3 := ((h.kept (grown_cell w gn (k * 3) (.bool x)) q).kept (grown_cell _ gn (k * 3 + 1) (.int .i64 y)) q).kept (grown_cell _ gn (k * 3 + 2) (.slice ldf ls.length lcf)) q
    exact own_below h3 (Below.refl _ _).drew
end Go.Proofs.Ythkkefbhcmhijaa
