/-
  An arena with some trees, as spec.l11Arena draws it: what it keeps.
-/
import Derived.Test.YtnebelflnpbbiadSPut
import Derived.Test.YtnebelflnpbbiadTrMath2
import Derived.Test.YtnebelflnpbbiadD2
namespace Go.Proofs.Ytnebelflnpbbiad
open Go.RowKit
open Words

/-- An arena under way, and its roots. -/
def ForSt (w W : World) (h p : Nat) (ad : Option Addr) (len cap : Nat) (av rv : Value) (ks : List Kn) (R : List Int) (lo hi : Nat) : Prop :=
  W.heap[h]? = some (.cells #[.slice none 0 0] 26 (0, 0)) ∧ W.heap[h + 1]? = some (.cells #[av] 26 (0, 0)) ∧ Kns lo hi av ks W ∧ W.ownsRow (h + 1 + 1) 3 1 rv R.length (icells R) ∧ (∀ g, rv.ownBlock = some g → g < lo ∨ hi ≤ g) ∧ (h + 1 + 1 ≤ lo ∧ lo ≤ hi ∧ hi ≤ W.heap.size) ∧ Drawn w W p ad len cap
theorem ForSt.go {w W W' : World} {h p : Nat} {ad : Option Addr} {len cap : Nat} {av rv : Value} {ks : List Kn} {R : List Int} {lo hi : Nat} (H : ForSt w W h p ad len cap av rv ks R lo hi) (hp : p < h) (d : Drawn W W' p ad len cap) : ForSt w W' h p ad len cap av rv ks R lo hi := by
  obtain ⟨h1, h2, h3, h4, h5, ⟨h6, h7, h8⟩, h9⟩ := H
  have hh := (Array.getElem?_eq_some_iff.1 h2).1
  have bk : ∀ k, k < W.heap.size → k ≠ p → W'.heap[k]? = W.heap[k]? := fun k hk hn => d.1.block k hk (fun e => by injection e with e; exact hn e)
  refine ⟨(bk h (by omega) (by omega)).trans h1, (bk (h + 1) (by omega) (by omega)).trans h2, Kns.loc _ _ _ _ W W' (fun g g1 g2 => bk g (by omega) (by omega)) h3, ?_, h5, ⟨h6, h7, Nat.le_trans h8 d.1.size⟩, h9.trans d⟩
  refine h4.kept d.1 ?_
  cases hv : rv.ownBlock with
  | none => exact Or.inl rfl
  | some g => exact Or.inr (fun e => by have := (own_block_lt h4 g hv).1; injection e with e; omega)
/-- A block more. -/
theorem ForSt.al {w W : World} {h p : Nat} {ad : Option Addr} {len cap : Nat} {av rv : Value} {ks : List Kn} {R : List Int} {lo hi : Nat} (H : ForSt w W h p ad len cap av rv ks R lo hi) (hp : p < w.heap.size) (o : Obj) : ForSt w (W.alloc o) h p ad len cap av rv ks R lo hi := by
  have bA := (Below.refl W.heap.size W).alloc (Nat.le_refl _) o
  obtain ⟨h1, h2, h3, h4, h5, ⟨h6, h7, h8⟩, h9⟩ := H
  have hh := (Array.getElem?_eq_some_iff.1 h2).1
  exact ⟨(bA.block h (by omega)).trans h1, (bA.block (h + 1) (by omega)).trans h2, Kns.loc _ _ _ _ W _ (fun g g1 g2 => bA.block g (by omega)) h3, own_below h4 bA, h5, ⟨h6, h7, Nat.le_trans h8 bA.size⟩, h9.below (bA.mono h9.1.size) hp⟩
/-- Right, and all its roots are. -/
def ForOk (ks : List Kn) (R : List Int) : Prop := arB ks = true ∧ (∀ r ∈ R, rootB ks r = true) ∧ R ≠ [] ∧ ks.length + 2 = R.length * 2
def ForD (w : World) (p : Nat) (ad : Option Addr) (len cap : Nat) (e : Ending) (w' : World) : Prop :=
  ∃ av rv ks R lo hi, e = .returned (.tuple #[.agg #[av], rv]) ∧ R.length ≤ 8 ∧ ForOk ks R ∧ Kns lo hi av ks w' ∧ w'.ownsRow w.heap.size 3 1 rv R.length (icells R) ∧ (∀ g, rv.ownBlock = some g → g < lo ∨ hi ≤ g) ∧ (w.heap.size ≤ lo ∧ lo ≤ hi ∧ hi ≤ w'.heap.size) ∧ Drawn w w' p ad len cap
/-- No trees yet. -/
theorem ForSt.new {w : World} {p : Nat} {ad : Option Addr} {len cap : Nat} (hc : CurIn w p ad len cap) : ForSt w (((w.alloc (.cells #[.slice none 0 0] 26)).alloc (.cells #[.slice none 0 0] 26)).alloc (.cells #[.int .i64 (-1)] 3)) w.heap.size p ad len cap (.slice none 0 0) (.slice (some ⟨w.heap.size + 1 + 1, 0, none⟩) 1 1) [] [-1] (w.heap.size + 1 + 1 + 1) (w.heap.size + 1 + 1 + 1) := by
  have hpw := hc.2.2.2.2.2
  have z2 : ((w.alloc (.cells #[.slice none 0 0] 26)).alloc (.cells #[.slice none 0 0] 26)).heap.size = w.heap.size + 1 + 1 := by simp
  have T := ((Tk.two w #[.slice none 0 0] #[.slice none 0 0] 26 26).celln z2 #[.int .i64 (-1)] 3)
  refine ⟨T.get 2 rfl, T.get 1 rfl, ⟨[], rfl, Or.inl ⟨rfl, rfl⟩, (fun _ h => by cases h), List.Pairwise.nil, by unfold maxLen; simp⟩, ⟨rfl, Or.inr ⟨w.heap.size + 1 + 1, 1, _, rfl, Nat.le_refl _, T.get 0 rfl, Nat.le_refl _, by unfold maxLen; omega, rfl, rfl⟩⟩, (fun g e => by simp [Value.ownBlock] at e; omega), ⟨by omega, by omega, T.hi 0 rfl⟩, ?_⟩
  exact (Drawn.refl hc).below T.1 hpw
theorem ForOk.new : ForOk [] [-1] := ⟨rfl, by simp; rfl, by simp, rfl⟩
/-- One tree more. -/
theorem ForOk.put {ks : List Kn} {R : List Int} {r n : Int} {s : Nat} (h : ForOk ks R) (hr : r ∈ R) (hs : s ≤ 15) (hn : 0 ≤ n) : putL ks r (s : Int) n = ks ++ [putLf ks r s n, putTop ks r s] ∧ putR ks r (s : Int) n = (ks.length : Int) + 1 ∧ ForOk (ks ++ [putLf ks r s n, putTop ks r s]) (R ++ [(ks.length : Int) + 1]) := by
  obtain ⟨h1, h2, h3, h4⟩ := h
  have hb : putB ks r (s : Int) n = true := by rw [putB, askB, h1, h2 r hr, decide_eq_true (show (0 : Int) ≤ (s : Int) by omega), decide_eq_true (show (s : Int) ≤ 15 by omega), decide_eq_true hn]; rfl
  refine ⟨by rw [putL, if_pos hb, Int.toNat_natCast], by rw [putR, if_pos hb], put_right h1 (h2 r hr) hs hn, fun x hx => ?_, by simp, by simp only [List.length_append, List.length_cons, List.length_nil]; omega⟩
  rcases List.mem_append.1 hx with hx | hx
  · exact root_old (h2 x hx)
  · rw [List.mem_singleton] at hx
    subst hx
    exact put_root
end Go.Proofs.Ytnebelflnpbbiad
