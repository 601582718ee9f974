/-
  LawM; LawT2; LawSt; Gt
-/
import Derived.Test.YthgfhjfnlecolapLawB
import Derived.Test.YthgfhjfnlecolapFMark
import Derived.Test.YthgfhjfnlecolapPk48
import Derived.Test.YthgfhjfnlecolapPk43
import Derived.Test.YthgfhjfnlecolapLwSt
import Derived.Test.YthgfhjfnlecolapMkSt
/-
  A flash that is marked, and held, by the laws.
-/
namespace Go.Proofs.Ythgfhjfnlecolap
open Go.RowKit

theorem mark_of (a : Value) (bs : List Bk) (lo hi : Nat) (w : World) (ho : Okk bs) (ha : hi ≤ w.heap.size ∧ Inn w lo hi a bs) :
    Calls Try.prog 20 #[.agg #[a], .int .i64 1] w fun e w' => e = .returned (.int .i64 ((endK 1 bs : Nat) : Int)) ∧ Hid (Mrk w' lo hi a (endK 1 bs)) ∧ Hid (Kept2 w w' (Apart lo hi)) := by
  obtain ⟨rs, e1, i1, l, ll, e2⟩ := ha.2.lens ho
  refine (markFlash_any a rs lo hi w l ll (by rw [e2]; exact ho.2.2) ha.1 i1).mono ?_
  rintro e w' ⟨rfl, h1, h2⟩
  rw [e2]
  exact ⟨rfl, ⟨rs, l, ll, e2, h1.out⟩, h2⟩
theorem held_of (a : Value) (n lo hi : Nat) (w : World) (hn : n ≤ 1000000000) (ha : hi ≤ w.heap.size ∧ Mrk w lo hi a n) :
    Calls Try.prog 21 #[.agg #[a], .int .i64 1] w fun e w' => e = .returned (.int .i64 (n : Int)) ∧ Below w.heap.size w w' := by
  obtain ⟨rs, l, ll, e2, i1⟩ := ha.2
  subst e2
  exact heldFlash_any a rs lo hi w l ll hn ha.1 i1
end Go.Proofs.Ythgfhjfnlecolap

/-
  What the exact laws over flashes hold: flashes that are marked, and stay so.
-/
namespace Go.Proofs.Ythgfhjfnlecolap
open Go.RowKit

def Mrq (lo hi : Nat) (u : Value) (n : Nat) : World → Prop := fun W => Mrk W lo hi u n
theorem Mrq.loc (lo hi : Nat) (u : Value) (n : Nat) : Loc lo hi (Mrq lo hi u n) := fun _ _ hk h => Mrk.kept h hk
/-- A flash is marked: what lies apart from it stays. -/
theorem markk_tk {w wi : World} {hs hs' : List Hold} {u : Value} {l1 h1 N : Nat} {bs : List Bk} (T : Tk w wi hs) (n1 : Nat) (ho : Okk bs) (hN : endK 1 bs = N) (e1 : hs[n1]? = some (l1, h1, Fla l1 h1 u bs)) (hlo : w.heap.size ≤ l1) (hh : ∀ x ∈ hs', x ∈ hs ∧ (x.2.1 ≤ l1 ∨ h1 ≤ x.1)) :
    Calls Try.prog 20 #[.agg #[u], .int .i64 1] wi fun e w' => e = .returned (.int .i64 (N : Int)) ∧ Tk w w' ((l1, h1, Mrq l1 h1 u N) :: hs') ∧ wi.heap.size ≤ w'.heap.size := by
  subst hN
  refine (mark_of u bs l1 h1 wi ho ⟨T.hi n1 e1, T.get n1 e1⟩).mono ?_
  rintro e w2 ⟨rfl, M, K⟩
  exact ⟨rfl, T.touch (show Kept2 wi w2 (Apt l1 h1) from K.out) hlo (T.hi n1 e1) (Mrq.loc _ _ _ _) M.out hh, K.out.2.2.2.1⟩
theorem held_tk {w wi : World} {hs : List Hold} {u : Value} {l1 h1 N : Nat} (T : Tk w wi hs) (n1 : Nat) (hN : N ≤ 1000000000) (e1 : hs[n1]? = some (l1, h1, Mrq l1 h1 u N)) :
    Calls Try.prog 21 #[.agg #[u], .int .i64 1] wi fun e w' => e = .returned (.int .i64 (N : Int)) ∧ Tk w w' hs ∧ wi.heap.size ≤ w'.heap.size := by
  refine (held_of u N l1 h1 wi hN ⟨T.hi n1 e1, T.get n1 e1⟩).mono ?_
  rintro e w2 ⟨rfl, b2⟩
  exact ⟨rfl, T.below b2, b2.size⟩
end Go.Proofs.Ythgfhjfnlecolap

/-
  What chapter 8's exact laws hold: rows of steps among the rest.
-/
namespace Go.Proofs.Ythgfhjfnlecolap
open Go.RowKit

theorem endK_sum1 (k : Nat) (bs : List Bk) : k ≤ endK k bs := by
  induction bs generalizing k with
  | nil => exact Nat.le_refl _
  | cons r bs ih =>
    simp only [endK]
    have := ih (k + 2 + 2 * r.2.2.length)
    omega
theorem Sli.strd {lo hi n g cap : Nat} {l : List Stp} {w : World} (h : Sli 40 lo hi (.slice (some ⟨g, 0, none⟩) n cap) n (stcells l) w) (hn : l.length = n) (h1 : n ≤ cap) (h2 : cap ≤ 9223372036854775807) : StRd w (.slice (some ⟨g, 0, none⟩) n cap) l := by
  subst hn
  refine ⟨_, _, rfl, h1, h2, (fun e => by cases e), fun i s hs => ⟨g, 0, rfl, ?_⟩⟩
  rw [Nat.zero_add]
  have f := h.flt
  exact ⟨f.cell (stcells_at l i s hs 0 _ rfl), f.cell (stcells_at l i s hs 1 _ rfl), f.cell (stcells_at l i s hs 2 _ rfl), f.cell (stcells_at l i s hs 3 _ rfl)⟩
theorem tost_tk {w wi : World} {hs : List Hold} {a : Option Addr} {len cap : Nat} {l : List Stp} (T : Tk w wi hs) (H : StRow w a len l) (hl : len ≤ 1048576) :
    Calls Try.prog 24 #[.slice a len cap] wi fun e w' => ∃ g, e = .returned (.slice (some ⟨g, 0, none⟩) len len) ∧ Tk w w' ((wi.heap.size, w'.heap.size, Sli 40 wi.heap.size w'.heap.size (.slice (some ⟨g, 0, none⟩) len len) len (stcells l)) :: hs) ∧ wi.heap.size ≤ w'.heap.size := by
  refine (toSts_any a len cap l wi hl (H.below T.1)).mono ?_
  rintro e w2 ⟨g, rfl, o2, b2⟩
  rw [H.1] at o2
  exact ⟨g, rfl, T.add b2 (Sli.loc _ _ _ _ _ _) (Sli.of o2), b2.size⟩
theorem eqst_tk {w wi : World} {hs : List Hold} {u v : Value} {l1 h1 l2 h2 n : Nat} {M : List Stp} (T : Tk w wi hs) (n1 n2 : Nat) (hl : n ≤ 1000000000) (hn : M.length = n) (e1 : hs[n1]? = some (l1, h1, Sli 40 l1 h1 u n (stcells M))) (e2 : hs[n2]? = some (l2, h2, Sli 40 l2 h2 v n (stcells M))) :
    Calls Try.prog 26 #[u, v] wi fun e w' => e = .returned (.bool true) ∧ Tk w w' hs ∧ wi.heap.size ≤ w'.heap.size := by
  subst hn
  refine (eqSts_same _ _ M _ _ _ _ wi (by omega) (T.get n1 e1) (T.get n2 e2)).mono ?_
  rintro e w2 ⟨rfl, b2⟩
  exact ⟨rfl, T.below b2, b2.size⟩
theorem markst_tk {w wi : World} {hs hs' : List Hold} {u : Value} {l1 h1 n k : Nat} {M : List Stp} (T : Tk w wi hs) (n1 : Nat) (hl : n ≤ 1000000000) (hn : M.length = n) (hk : 0 < k) (hk1 : k ≤ 100000000000) (e1 : hs[n1]? = some (l1, h1, Sli 40 l1 h1 u n (stcells M))) (hlo : w.heap.size ≤ l1) (hh : ∀ x ∈ hs', x ∈ hs ∧ (x.2.1 ≤ l1 ∨ h1 ≤ x.1)) :
    Calls Try.prog 27 #[u, .int .i64 (k : Int)] wi fun e w' => e = .returned (.int .i64 ((k + n * 4 : Nat) : Int)) ∧ Tk w w' hs' ∧ wi.heap.size ≤ w'.heap.size := by
  refine (markSt_any l1 h1 u n k (stcells M) wi hl (by rw [stcells_len, hn]) hk hk1 (T.hi n1 e1) (T.get n1 e1)).mono ?_
  rintro e w2 ⟨rfl, h2, h3⟩
  exact ⟨rfl, T.spoil h3.out hlo (T.hi n1 e1) hh, h3.out.2.2.2.1⟩
end Go.Proofs.Ythgfhjfnlecolap

/-
  A call that answers a flash into a cell of its own, whichever came first.
-/
namespace Go.Proofs.Ythgfhjfnlecolap
open Go.RowKit

theorem bel_trans {w w1 w2 : World} {B : Nat} (h : Below B w w1) (hB : B ≤ w1.heap.size) (b : Below w1.heap.size w1 w2) : Below B w w2 := h.trans (b.mono hB)
/-- The cell, the flash, and all that was held before. -/
def Gt (w wr : World) (hs : List Hold) (s0 c : Nat) (u : Value) (R : List Bk) : Prop := ∃ lo hi, s0 ≤ lo ∧ s0 ≤ c ∧ (c + 1 ≤ lo ∨ hi ≤ c) ∧ Tk w wr ((c, c + 1, Cel c #[u] 30) :: (lo, hi, Fla lo hi u R) :: hs)
theorem Gt.late {w wS w3 : World} {hs : List Hold} {s : Nat} {u : Value} {R : List Bk} (T : Tk w wS hs) (hb : Below wS.heap.size wS w3) (f : FlashOf w3 s u R) (h : wS.heap.size ≤ s) : Gt w (w3.alloc (.cells #[u] 30)) hs wS.heap.size w3.heap.size u R := by
  have T1 := (T.below hb).put (Nat.le_refl _) (Fla.loc s w3.heap.size u R) f
  exact ⟨s, w3.heap.size, h, hb.size, Or.inr (Nat.le_refl _), T1.celln rfl _ _⟩
theorem Gt.early {w wS w3 : World} {hs : List Hold} {s c : Nat} {u z : Value} {R : List Bk} (T : Tk w wS hs) (hb : Below wS.heap.size wS w3) (f : FlashOf w3 s u R) (hc : w3.heap[c]? = some (.cells #[z] 30 (0, 0))) (h0 : wS.heap.size ≤ c) (h1 : c < s) : Gt w (w3.setCell ⟨c, 0, none⟩ u) hs wS.heap.size c u R := by
  have hlt := (Array.getElem?_eq_some_iff.1 hc).1
  have hz := T.1.size
  have T1 := ((T.below hb).put (Nat.le_refl _) (Fla.loc s w3.heap.size u R) f).put (lo := c) (hi := c + 1) (P := Cel c #[z] 30) hlt (Cel.loc _ _ _) hc
  refine ⟨s, w3.heap.size, by omega, h0, Or.inl h1, T1.write 0 rfl (by omega) u (fun x hx => ?_)⟩
  rcases List.mem_cons.1 hx with rfl | hx
  · exact ⟨List.mem_of_getElem? (i := 1) rfl, Or.inr h1⟩
  · exact ⟨List.mem_cons_of_mem _ (List.mem_cons_of_mem _ hx), Or.inl (Nat.le_trans (T.2 x hx).1 h0)⟩
end Go.Proofs.Ythgfhjfnlecolap
