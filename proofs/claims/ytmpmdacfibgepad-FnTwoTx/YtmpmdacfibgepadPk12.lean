/-
  ImplVar; SVar; SByte; SRecText
-/
import Derived.Test.YtmpmdacfibgepadPk0
import Derived.Test.YtmpmdacfibgepadMath
import Derived.Lib.Hide
import Derived.Test.YtmpmdacfibgepadPgMath
import Derived.Test.YtmpmdacfibgepadSRecOk
import Derived.Deep.RegionHeld3
/-
  The walk of impl.VarText.
-/
namespace Go.Proofs.Ytmpmdacfibgepad
open Go.RowKit
open Words

theorem acc_len {acc : List UInt8} {m n : Nat} (h : acc ++ varL m = varL n) (hn : n < 9223372036854775808) : acc.length ≤ 9 := by
  have h1 := congrArg List.length h
  have h2 := varL_len n hn
  simp at h1
  omega
theorem acc_step {acc : List UInt8} {m n : Nat} (h : acc ++ varL m = varL n) (hm : 128 ≤ m) : (acc ++ [UInt8.ofNat (m % 128 + 128)]) ++ varL (m / 128) = varL n := by
  rw [← h, varL_high m hm]; simp
theorem byte_of (m : Nat) : ((UInt8.ofNat (m % 128 + 128)).toNat : Int) = (m : Int) % 128 + 128 := by
  simp; omega

theorem byte_of' (m : Nat) (h : m < 128) : ((UInt8.ofNat m).toNat : Int) = (m : Int) := by
  simp; omega

set_option maxHeartbeats 400000 in
theorem implVar_yes (n : Nat) (w : World) (hn : n ≤ 1000000000) :
    Calls Try.prog 98 #[.int .i64 n] w fun e w' => e = .returned (.tuple #[.string ⟨(varL n).toArray⟩, .bool true]) ∧ Below w.heap.size w w' := by
  obtain ⟨i0, hi, hz0, hz1, hz2⟩ := info_parts infoByte
  have hlen := varL_len n (by omega)
  have g1 : ¬ (n : Int) < 0 := by omega
  have g2 : ¬ (1000000000 : Int) < n := by omega
  go_enter Try.func98, Try.ntmps98
  go_wp2
  go_loopw [0, 4] (fun nv out wr => ∃ (m : Nat) (acc : List UInt8), nv = .int .i64 m ∧ m ≤ n ∧ Hid (acc ++ varL m = varL n) ∧ wr.ownsRow w.heap.size 5 1 out acc.length (bcells acc) ∧ Below w.heap.size w wr) (fun nv _ _ => (intOf nv).toNat)
  case atStart => exact ⟨n, [], rfl, Nat.le_refl _, rfl, World.ownsRow_nil _ _ _ _, Below.refl _ _⟩
  case round =>
    obtain ⟨m, acc, rfl, hm, hacc, hown, hbel⟩ := hrel
    have hsz := hbel.size
    have hal := acc_len hacc (by omega)
    by_cases hlt : 128 ≤ (m : Int)
    · go_wp2_with (at_builtin; refine wpList_append_own _ rfl _ _ 22 rfl w.heap.size 5 i0 (.int .u8 0) 1 1 Try.underlying22 hi hz0 hz1 hz2 rfl (by decide) _ _ _ rfl (hown.alloc _) ⟨wr.heap.size, 0, none⟩ 1 1 [Value.int .u8 _] rfl rfl (one_cell _ _ _) (one_u8 _) ?c1 ?c2 ?c3 ?_)
      case c1 => unfold maxLen; omega
      case c2 => omega
      case c3 => first | omega | (simp; omega)
      intro v' w1 hown' hgrow _
      have hb1 := own_grown hbel (by omega) hown hgrow
      rw [bcells_snoc acc _ _ (byte_of m)] at hown'
      have hacc' := acc_step hacc (by omega)
      clear hown hgrow hacc
      go_wp2
      go_roundw
      case rel => exact ⟨m / 128, _, by go_num, by omega, hacc', by simpa using hown', hb1⟩
      case measure => simp [intOf]; omega
    · go_wp2_with (at_builtin; refine wpList_append_own _ rfl _ _ 22 rfl w.heap.size 5 i0 (.int .u8 0) 1 1 Try.underlying22 hi hz0 hz1 hz2 rfl (by decide) _ _ _ rfl (hown.alloc _) ⟨wr.heap.size, 0, none⟩ 1 1 [Value.int .u8 _] rfl rfl (one_cell _ _ _) (one_u8 _) ?c1 ?c2 ?c3 ?_)
      case c1 => unfold maxLen; omega
      case c2 => omega
      case c3 => first | omega | (simp; omega)
      intro v' w1 hown' hgrow _
      have hb1 := own_grown hbel (by omega) hown hgrow
      rw [bcells_snoc acc _ _ (byte_of' m (by omega))] at hown'
      have e : acc ++ [UInt8.ofNat m] = varL n := by rw [← hacc.out, varL_low m (by omega)]
      have eN : acc.length + 1 = (acc ++ [UInt8.ofNat m]).length := by simp
      rw [eN, e] at hown'
      have E := Lib.hid e
      clear hown hgrow hacc e eN
      obtain ⟨l, hl⟩ : ∃ l, l = varL n := ⟨_, rfl⟩
      rw [← hl] at hown' hlen
      have HL := Lib.hid hl
      clear hl E
      rcases hown'.2 with ⟨-, h0⟩ | ⟨g, cap, cur, rfl, -, -, -, -, -, -⟩
      · omega
      · have hcv := run_convert_bytes_back (P := Try.prog) w1 22 9 5 ⟨g, 0, none⟩ cap l Try.underlying22 Try.underlying5 Try.underlying9 (fun j hj => hown'.cells (g := g) rfl j _ (bcells_at l j hj))
        go_wp2
        go_ret2
        exact ⟨by rw [HL.out]; rfl, hb1⟩
theorem implVar_no (n : Int) (w : World) (hn : n < 0 ∨ 1000000000 < n) :
    Calls Try.prog 98 #[.int .i64 n] w fun e w' => e = .returned (.tuple #[.string ⟨#[]⟩, .bool false]) ∧ w' = w := by
  rcases hn with h | h
  · go_enter Try.func98, Try.ntmps98
    go_wp2
    go_ret2
    exact ⟨rfl, rfl⟩
  · have g1 : ¬ n < 0 := by omega
    go_enter Try.func98, Try.ntmps98
    go_wp2
    go_ret2
    exact ⟨rfl, rfl⟩
end Go.Proofs.Ytmpmdacfibgepad

/-
  spec.l01Var.
-/
namespace Go.Proofs.Ytmpmdacfibgepad
open Go.RowKit
open Words

end Go.Proofs.Ytmpmdacfibgepad

/-
  spec.l06Byte.
-/
namespace Go.Proofs.Ytmpmdacfibgepad
open Go.RowKit
open Words

theorem i_nat {x : Int} (h : 0 ≤ x) : ∃ n : Nat, x = n ∧ x.toNat = n := ⟨x.toNat, by omega, rfl⟩

end Go.Proofs.Ytmpmdacfibgepad

/-
  spec.RecText.
-/
namespace Go.Proofs.Ytmpmdacfibgepad
open Go.RowKit
open Words

def rtRes (r : Rc) : Value := letI := r.decR; if r.Right then .tuple #[.string (recA r), .bool true] else .tuple #[.string ⟨#[]⟩, .bool false]
theorem recA_size (r : Rc) (h : r.Right) : (recA r).size ≤ 19 := by
  have e : (recA r).size = (recA r).data.toList.length := rfl
  rw [e, recA_list]
  exact (recL_len r h).2

theorem cell_new4 (w w1 : World) (a b c d : Value) (ty : TypeId) (hb : Below (w.alloc (.cells #[a, b, c, d] ty)).heap.size (w.alloc (.cells #[a, b, c, d] ty)) w1) :
    w1.cell? ⟨w.heap.size, 0, none⟩ = some a ∧ w1.cell? ⟨w.heap.size, 1, none⟩ = some b ∧ w1.cell? ⟨w.heap.size, 2, none⟩ = some c ∧ w1.cell? ⟨w.heap.size, 3, none⟩ = some d := by
  refine ⟨?_, ?_, ?_, ?_⟩ <;> (rw [hb.cell (by simp)]; simp)

/-- A record in a block of its own, in a world that came of another. -/
def RIn (w a : World) (k v x c : Int) : Prop := Below w.heap.size w a ∧ w.heap.size < a.heap.size ∧
  (a.cell? ⟨w.heap.size, 0, none⟩ = some (.int .i64 k) ∧ a.cell? ⟨w.heap.size, 1, none⟩ = some (.int .i64 v) ∧ a.cell? ⟨w.heap.size, 2, none⟩ = some (.int .i64 x) ∧ a.cell? ⟨w.heap.size, 3, none⟩ = some (.int .i64 c))
theorem RIn.next {w a b : World} {k v x c : Int} (h : RIn w a k v x c) (hb : Below a.heap.size a b) : RIn w b k v x c :=
  ⟨h.1.trans (hb.mono h.1.size), Nat.lt_of_lt_of_le h.2.1 hb.size, by rw [hb.cell h.2.1, hb.cell h.2.1, hb.cell h.2.1, hb.cell h.2.1]; exact h.2.2⟩
theorem RIn.drew {w a : World} {k v x c : Int} (h : RIn w a k v x c) : RIn w a.drew k v x c := ⟨h.1.drew, h.2.1, h.2.2⟩

end Go.Proofs.Ytmpmdacfibgepad
