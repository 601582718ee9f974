/-
  What a step of the round reads and makes, in the walk's words.
-/
import Derived.Test.YtaolinlginloaacDoorRowW
import Derived.Laws.BitsAllLaws
namespace Go.Proofs.YtaolinlginloaacDoor
open Go.RowKit
open Dig

theorem and_lt32 (x y : Nat) (hx : x < 4294967296) : x &&& y < 4294967296 := Nat.lt_of_le_of_lt Nat.and_le_left hx
theorem ch_open (e f g : Nat) (he : e < 4294967296) (hf : f < 4294967296) (hg : g < 4294967296) :
    ∃ p ne q r : Nat, bits .and .u32 (e : Int) (f : Int) = p ∧ IntKind.u32.wrap (4294967295 - (e : Int)) = ne ∧ bits .and .u32 (ne : Int) (g : Int) = q ∧ bits .xor .u32 (p : Int) (q : Int) = r ∧ ch e f g = r ∧ r < 4294967296 := by
  have hp := and_lt32 e f he
  have hq := and_lt32 (4294967295 - e) g (by omega)
  refine ⟨e &&& f, 4294967295 - e, (4294967295 - e) &&& g, (e &&& f) ^^^ ((4294967295 - e) &&& g), ?_, ?_, ?_, ?_, rfl, Nat.xor_lt_two_pow (n := 32) hp hq⟩
  · exact u32_and_nat e f he hf
  · rw [IntKind.wrap_u32']; omega
  · exact u32_and_nat _ g (by omega) hg
  · exact u32_xor_nat _ _ hp hq
theorem maj_open (a b c : Nat) (ha : a < 4294967296) (hb : b < 4294967296) (hc : c < 4294967296) :
    ∃ p q r s m : Nat, bits .and .u32 (a : Int) (b : Int) = p ∧ bits .and .u32 (a : Int) (c : Int) = q ∧ bits .and .u32 (b : Int) (c : Int) = r ∧ bits .xor .u32 (p : Int) (q : Int) = s ∧ bits .xor .u32 (s : Int) (r : Int) = m ∧ maj a b c = m ∧ m < 4294967296 := by
  have hp := and_lt32 a b ha
  have hq := and_lt32 a c ha
  have hr := and_lt32 b c hb
  have hs := Nat.xor_lt_two_pow (n := 32) hp hq
  refine ⟨a &&& b, a &&& c, b &&& c, (a &&& b) ^^^ (a &&& c), _, u32_and_nat a b ha hb, u32_and_nat a c ha hc, u32_and_nat b c hb hc, u32_xor_nat _ _ hp hq, u32_xor_nat _ _ hs hr, rfl, Nat.xor_lt_two_pow (n := 32) hs hr⟩
theorem t1_open (e f g h k w s r : Nat) (hs : sig e 64 2048 33554432 false = s) (hr : ch e f g = r) :
    ∃ y1 y2 y3 y4 : Nat, IntKind.u32.wrap ((h : Int) + s) = y1 ∧ IntKind.u32.wrap ((y1 : Int) + r) = y2 ∧ IntKind.u32.wrap ((y2 : Int) + k) = y3 ∧ IntKind.u32.wrap ((y3 : Int) + w) = y4 ∧ t1 e f g h k w = y4 ∧ y4 < 4294967296 := by
  refine ⟨(h + s) % 4294967296, ((h + s) % 4294967296 + r) % 4294967296, (((h + s) % 4294967296 + r) % 4294967296 + k) % 4294967296, ((((h + s) % 4294967296 + r) % 4294967296 + k) % 4294967296 + w) % 4294967296, ?_, ?_, ?_, ?_, ?_, Nat.mod_lt _ (by omega)⟩
  · rw [IntKind.wrap_u32']; omega
  · rw [IntKind.wrap_u32']; omega
  · rw [IntKind.wrap_u32']; omega
  · rw [IntKind.wrap_u32']; omega
  · unfold t1
    rw [hs, hr]
    omega
theorem t2_open (a b c s m : Nat) (hs : sig a 4 8192 4194304 false = s) (hm : maj a b c = m) : ((s : Int) + (m : Int)) % 4294967296 = (t2 a b c : Nat) ∧ t2 a b c < 4294967296 := by
  refine ⟨?_, Nat.mod_lt _ (by omega)⟩
  unfold t2
  rw [hs, hm]
  omega

/-- The state while it is shifted. -/
def sh (v : List Nat) (i : Nat) : List Nat := v.take (i + 1) ++ (v.drop i).take (7 - i)
theorem sh_7 (v : List Nat) (h : v.length = 8) : sh v 7 = v := by
  unfold sh
  rw [List.take_of_length_le (by omega)]
  simp
theorem sh_step (v : List Nat) (h : v.length = 8) (i : Nat) (hi : i < 7) (x : Nat) (hx : v[i]? = some x) : (sh v (i + 1)).set (i + 1) x = sh v i ∧ (sh v (i + 1))[i]? = some x ∧ (sh v (i + 1)).length = 8 := by
  match v, h with
  | [a, b, c, d, e, f, g, k], _ =>
    match i, hi with
    | 0, _ => simp at hx; subst hx; exact ⟨rfl, rfl, rfl⟩
    | 1, _ => simp at hx; subst hx; exact ⟨rfl, rfl, rfl⟩
    | 2, _ => simp at hx; subst hx; exact ⟨rfl, rfl, rfl⟩
    | 3, _ => simp at hx; subst hx; exact ⟨rfl, rfl, rfl⟩
    | 4, _ => simp at hx; subst hx; exact ⟨rfl, rfl, rfl⟩
    | 5, _ => simp at hx; subst hx; exact ⟨rfl, rfl, rfl⟩
    | 6, _ => simp at hx; subst hx; exact ⟨rfl, rfl, rfl⟩
theorem sh_0 (a b c d e f g h x y : Nat) : ((sh [a, b, c, d, e, f, g, h] 0).set 4 x).set 0 y = [y, a, b, c, x, e, f, g] := rfl
theorem sh_04 (a b c d e f g h : Nat) : (sh [a, b, c, d, e, f, g, h] 0)[4]? = some d := rfl

theorem words_alloc {w : World} {g : Nat} {l : List Nat} (h : WordsAt w g l) (o : Obj) : WordsAt (w.alloc o) g l :=
  ⟨by simp; have := h.1; omega, fun j hj => by rw [World.cell?_alloc_lt _ _ _ (show g < w.heap.size from h.1)]; exact h.2 j hj⟩
theorem words_grown {w w2 : World} {g : Nat} {l : List Nat} {r : Option Nat} (h : WordsAt w g l) (hg : w.grownBy w2 r) (hne : r ≠ some g) : WordsAt w2 g l :=
  ⟨Nat.lt_of_lt_of_le h.1 hg.size, fun j hj => by rw [World.cell?_of_block (w := w) (hg.block g h.1 (fun e => hne e.symm))]; exact h.2 j hj⟩
theorem words_at {w : World} {g : Nat} {l : List Nat} (h : WordsAt w g l) (j x : Nat) (hx : l[j]? = some x) : w.cell? ⟨g, j, none⟩ = some (.int .u32 (x : Nat)) := by
  obtain ⟨h1, h2⟩ := List.getElem?_eq_some_iff.1 hx
  rw [h.2 j h1, h2]
/-- Words that may be written. -/
def VAt (w : World) (g : Nat) (l : List Nat) : Prop := WordsAt w g l ∧ ∀ j, w.frozen? ⟨g, j, none⟩ = false
theorem VAt.set {w : World} {g : Nat} {l : List Nat} (h : VAt w g l) (i y : Nat) : VAt (w.setCell ⟨g, i, none⟩ (.int .u32 y)) g (l.set i y) := by
  refine ⟨⟨by simpa using h.1.1, fun j hj => ?_⟩, fun j => by rw [World.frozen?_setCell]; exact h.2 j⟩
  have hj2 : j < l.length := by simpa using hj
  by_cases hij : i = j
  · subst hij
    rw [World.cell?_setCell_same _ _ _ (h.1.2 i hj2)]
    simp
  · rw [World.cell?_setCell_other _ _ _ _ (fun e => hij (by injection e)), h.1.2 j hj2]
    simp [hij]
theorem words_set {w : World} {g r i : Nat} {l : List Nat} {u : Value} (h : WordsAt w g l) (hne : r ≠ g) : WordsAt (w.setCell ⟨r, i, none⟩ u) g l :=
  ⟨by simpa using h.1, fun j hj => by rw [World.cell?_setCell_other _ _ _ _ (fun e => hne (by injection e))]; exact h.2 j hj⟩
theorem getD_some (l : List Nat) (n : Nat) (h : n < l.length) : l[n]? = some (l.getD n 0) := by
  rw [List.getD_eq_getElem?_getD, List.getElem?_eq_getElem h]; rfl
end Go.Proofs.YtaolinlginloaacDoor
