/-
  FdR; TxC; D3
-/
import Derived.Test.YtddekdgbfnjhdacPk13
import Derived.Test.YtddekdgbfnjhdacPk14
import Derived.Test.YtddekdgbfnjhdacTxN
import Derived.Test.YtddekdgbfnjhdacTxRow
import Derived.Test.YtddekdgbfnjhdacTxMath2
import Derived.Test.YtddekdgbfnjhdacPk1
/-
  Rows of what a scan found that can be read.
-/
namespace Go.Proofs.Ytddekdgbfnjhdac
open Go.RowKit
open Words

def FdRd (w : World) (a : Option Addr) (len : Nat) (ls : List Fnd) : Prop :=
  ls.length = len ∧ len ≤ maxLen ∧ (0 < len → ∃ b off, a = some ⟨b, off, none⟩ ∧ b < w.heap.size ∧ ∀ i t, ls[i]? = some t → ∀ j v, (fdCells t)[j]? = some v → w.cell? ⟨b, off + (i * 8 + j), none⟩ = some v)
theorem FdRd.below {w w' : World} {a : Option Addr} {len : Nat} {ls : List Fnd} (h : FdRd w a len ls) (hb : Below w.heap.size w w') : FdRd w' a len ls := by
  obtain ⟨h1, h2, h4⟩ := h
  refine ⟨h1, h2, fun h0 => ?_⟩
  obtain ⟨b, off, e, hl, hc⟩ := h4 h0
  have hs := hb.size
  exact ⟨b, off, e, by omega, fun i t ht j v hv => (hb.cell (show b < w.heap.size from hl)).trans (hc i t ht j v hv)⟩
theorem FdRd.at {w : World} {a : Option Addr} {len : Nat} {ls : List Fnd} (h : FdRd w a len ls) {k : Nat} {t : Fnd} (hk : ls[k]? = some t) :
    ∃ b off, a = some ⟨b, off, none⟩ ∧ b < w.heap.size ∧ w.cell? ⟨b, off + k * 8, none⟩ = some (.int .i64 t.block) ∧ w.cell? ⟨b, off + k * 8 + 1, none⟩ = some (.int .i64 t.leaf) ∧
      w.cell? ⟨b, off + k * 8 + 2, none⟩ = some (.int .i64 t.page.kind) ∧ w.cell? ⟨b, off + k * 8 + 2 + 1, none⟩ = some (.int .i64 t.page.seq) ∧ w.cell? ⟨b, off + k * 8 + 2 + 2, none⟩ = some (.int .i64 t.page.tx) ∧
      w.cell? ⟨b, off + k * 8 + 2 + 3, none⟩ = some (.int .i64 t.page.part) ∧ w.cell? ⟨b, off + k * 8 + 2 + 4, none⟩ = some (.int .i64 t.page.count) ∧ w.cell? ⟨b, off + k * 8 + 2 + 5, none⟩ = some (.string t.page.text) := by
  obtain ⟨h1, -, h4⟩ := h
  have hl := (List.getElem?_eq_some_iff.1 hk).1
  obtain ⟨b, off, e, hb, hc⟩ := h4 (by omega)
  have hc := hc k t hk
  refine ⟨b, off, e, hb, hc 0 _ rfl, ?_, ?_, ?_, ?_, ?_, ?_, ?_⟩
  · have := hc 1 _ rfl; rwa [← Nat.add_assoc] at this
  · have := hc 2 _ rfl; rwa [← Nat.add_assoc] at this
  · have := hc 3 _ rfl; rwa [← Nat.add_assoc] at this
  · have := hc 4 _ rfl; rwa [← Nat.add_assoc] at this
  · have := hc 5 _ rfl; rwa [← Nat.add_assoc] at this
  · have := hc 6 _ rfl; rwa [← Nat.add_assoc] at this
  · have := hc 7 _ rfl; rwa [← Nat.add_assoc] at this
theorem Sli.fdrd {lo hi n c : Nat} {ad : Option Addr} {M : List Fnd} {W : World} (h : Sli 68 lo hi (.slice ad n c) n (fcells M) W) (hn : M.length = n) (hm : n ≤ maxLen) (hh : hi ≤ W.heap.size) : FdRd W ad n M := by
  refine ⟨hn, hm, fun h0 => ?_⟩
  rcases h with ⟨e, rfl⟩ | ⟨g, cap, e, h1, h2, h3⟩
  · omega
  · injection e with e1 e2 e3
    refine ⟨g, 0, e1, by omega, fun i t hi j v hj => ?_⟩
    rw [Nat.zero_add]
    exact h3.cell (fcells_at M i t hi j v hj)
end Go.Proofs.Ytddekdgbfnjhdac

/-
  What TxPages, Gather and SinceBase do.
-/
namespace Go.Proofs.Ytddekdgbfnjhdac
open Go.RowKit
open Words

/-- What a TxPages does. -/
def TxPagesC (f : Nat) : Prop := ∀ (seq tx : Int) (ad : Option Addr) (len cap : Nat) (l : List Rc) (w : World), len ≤ 1048576 → RcRow w ad len (l.map Rc.tu) → Calls Try.prog f #[.int .i64 seq, .int .i64 tx, .slice ad len cap] w (PgOut w (txOut seq tx l) (decide (TxOk seq tx l)))
/-- What a Gather does. -/
def GatherC (f : Nat) : Prop := ∀ (ad : Option Addr) (len cap : Nat) (M : List Fnd) (w : World), len ≤ 1048576 → sumF (fun p => p.text.size) (M.map Fnd.page) ≤ 1048576 → FdRd w ad len M → Calls Try.prog f #[.slice ad len cap] w (TxOut w (gatherP (M.map Fnd.page)))
/-- What a SinceBase does. -/
def SinceC (f : Nat) : Prop := ∀ (ad : Option Addr) (len cap : Nat) (rs : List Xw) (L : List TxR) (w : World), len ≤ 1048576 → len ≤ cap → (∀ r ∈ rs, r.2.2.2.length ≤ 1048576) → rs.map xtell = L.map TxR.tu → TxRd w ad len rs → Calls Try.prog f #[.slice ad len cap] w (TxOut w (sinceP L))
theorem XOwn.cap {W : World} {B n c : Nat} {ad : Option Addr} {rs : List Xw} (h : XOwn W B (.slice ad n c) rs) : n ≤ c := by
  rcases h.1.2 with ⟨e, -⟩ | ⟨g, cap, cur, e, -, -, h1, -⟩
  · cases e; exact Nat.le_refl _
  · injection e with e1 e2 e3
    omega
theorem TxOut.rows {w w' : World} {L : List TxR} {e : Ending} (h : TxOut w L e w') {n : Nat} (hn : L.length = n) : ∃ (ad : Option Addr) (c : Nat) (rs : List Xw), e = .returned (.slice ad n c) ∧ rs.length = n ∧ rs.map xtell = L.map TxR.tu ∧ XOwn w' w.heap.size (.slice ad n c) rs ∧ Below w.heap.size w w' := by
  obtain ⟨uv, rs, rfl, hx, ht, hb⟩ := h
  have hl : rs.length = n := by have := congrArg List.length ht; simp only [List.length_map] at this; omega
  obtain ⟨ad, c, rfl⟩ := hx.form
  rw [hl] at hx ⊢
  exact ⟨ad, c, rs, rfl, hl, ht, hx, hb⟩
end Go.Proofs.Ytddekdgbfnjhdac

/-
  A new cursor.
-/
namespace Go.Proofs.Ytddekdgbfnjhdac
open Go.RowKit

set_option maxHeartbeats 400000 in
set_option maxRecDepth 100000 in
theorem new_any (ad : Option Addr) (len cap B : Nat) (w : World) (hl : len ≤ 1048576) (hd : CodeIn w ad len B) :
    Calls Try.prog 38 #[.slice ad len cap] w fun e w' => ∃ p, e = .returned (.pointer (some ⟨p, 0, none⟩)) ∧ w.heap.size ≤ p ∧ CurIn w' p ad len cap ∧ Below w.heap.size w w' := by
  have HD := hide hd
  clear hd
  go_enter Try.func38, Try.ntmps38
  go_wp2
  go_loop [3, 4] (fun hv iv => ∃ (x : Int) (k : Nat), k ≤ len ∧ hv = .int .i64 x ∧ iv = .int .i64 k) (fun _ iv => len - (intOf iv).toNat)
  case atStart => exact ⟨_, 0, Nat.zero_le _, rfl, rfl⟩
  case round =>
    obtain ⟨x, k, hk, rfl, rfl⟩ := hrel
    by_cases hlt : (k : Int) < len
    · by_cases h4 : (k : Int) < 4000
      · obtain ⟨b, off, rfl, hbB, c, hc8, hcell⟩ := HD.out k (by omega)
        go_wp2
        go_round
        case rel => exact ⟨_, k + 1, by omega, rfl, by go_num⟩
        case measure => simp [intOf]; omega
      · go_wp2
        go_ret
        refine ⟨w.heap.size, rfl, Nat.le_refl _, ?_, (Below.refl _ _).alloc (Nat.le_refl _) _⟩
        exact ⟨by simp, ⟨0, by omega, by simp⟩, ⟨x, by simp⟩, by simp, by simp, by simp⟩
    · go_wp2
      go_ret
      refine ⟨w.heap.size, rfl, Nat.le_refl _, ?_, (Below.refl _ _).alloc (Nat.le_refl _) _⟩
      exact ⟨by simp, ⟨0, by omega, by simp⟩, ⟨x, by simp⟩, by simp, by simp, by simp⟩
end Go.Proofs.Ytddekdgbfnjhdac
