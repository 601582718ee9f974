/-
  Rows of tokens that a call makes; bytes of a text.
-/
import Derived.Test.YtaolinlginloaabRows3
import Derived.Test.YtaolinlginloaabPkMM
namespace Go.Proofs.Ytaolinlginloaab
open Go.RowKit
open Pack

theorem byte_ofT (s : ByteArray) (j : Nat) (a : Int) (ha : a = j) (hj : j < s.size) (W : World) : (Instr.index 9 (.string s) (.int .i64 a)).run Try.prog W = .ok (.int .u8 (((s.data.toList.getD j 0).toNat : Nat) : Int)) W := by
  subst ha
  rw [run_index_string W 9 s .i64 j Try.underlying9, dif_pos (by omega)]
  have : s.data.toList.getD j 0 = s[j] := by
    rw [List.getD_eq_getElem?_getD, List.getElem?_eq_getElem (by simpa using hj)]
    rfl
  rw [this]
  rfl

/-- A new row of tokens that the call owns. -/
def TRow (w : World) (e : Ending) (w' : World) (l : List (Nat × Nat × List UInt8)) : Prop := ∃ v : Value, e = .returned v ∧ w'.ownsRow w.heap.size 46 3 v l.length (tcells l) ∧ Below w.heap.size w w'
theorem own_slice3 {w : World} {base : Nat} {v : Value} {l : List (Nat × Nat × List UInt8)} (h : w.ownsRow base 46 3 v l.length (tcells l)) (h0 : 0 < l.length) : ∃ g cap, v = .slice (some ⟨g, 0, none⟩) l.length cap := by
  rcases h.2 with ⟨-, h0'⟩ | ⟨g, cap, cur, rfl, -⟩
  · omega
  · exact ⟨g, cap, rfl⟩

theorem three_new (w : World) (a b c : Value) (t : TypeId) : ∀ (j : Nat) (u : Value), [a, b, c][j]? = some u → (w.alloc (.cells #[a, b, c] t)).cell? ((⟨w.heap.size, 0, none⟩ : Addr).add j) = some u := by
  intro j u hj
  match j, hj with
  | 0, hj => simp at hj; subst hj; simp [Addr.add]
  | 1, hj => simp at hj; subst hj; simp [Addr.add]
  | 2, hj => simp at hj; subst hj; simp [Addr.add]
theorem tok3_one (a b : Int) (u : ByteArray) : ∀ v ∈ [Value.int .i64 a, Value.int .i64 b, Value.string u], v.oneCell' = true := by
  intro v hv
  rcases List.mem_cons.1 hv with h | h
  · subst h; rfl
  · rcases List.mem_cons.1 h with h | h
    · subst h; rfl
    · rcases List.mem_cons.1 h with h | h
      · subst h; rfl
      · cases h
theorem own_grown3 {B : Nat} {w wr w2 : World} {v : Value} {n : Nat} {xs : List Value} {e : TypeId} {o : Obj} (hb : Below B w wr) (hB : B ≤ wr.heap.size)
    (hown : wr.ownsRow B e 3 v n xs) (hg : (wr.alloc o).grownBy w2 v.ownBlock) : Below B w w2 :=
  (hb.alloc hB _).grown hg (by simp; omega) (fun k hk => (hown.lt k hk).1)
end Go.Proofs.Ytaolinlginloaab
