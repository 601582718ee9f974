/-
  LawGaF; OpFd
-/
import Derived.Test.YtmpmdacfibgepagLawGa
import Derived.Test.YtmpmdacfibgepagIGath
import Derived.Test.YtmpmdacfibgepagPk31
import Derived.ProofKit
import Derived.OpenShut
import Derived.ShutString
import Derived.Deep.Strs
import Derived.Deep.Slices
/-
  FnExactGather.
-/
namespace Go.Proofs.Ytmpmdacfibgepag
open Go.RowKit
open Words

theorem lawGa (a : Option Addr) (len cap : Nat) (ls : List (Int × Int × Int × Int × Int × Int × Int × ByteArray)) (w : World) (h : FdRow w a len ls) :
    Calls Try.prog 6 #[.slice a len cap] w fun e w' => e = .returned (.bool true) ∧ Below w.heap.size w w' :=
  lawGa_of a len cap ls w h igather
end Go.Proofs.Ytmpmdacfibgepag

/-
  A row of what scans found that comes in as an argument.
-/
namespace Go.Proofs.Ytmpmdacfibgepag
open Go.ChangeShapes Go.WideShapes Go.ChangeAt Go.RowKit Go.Deep
set_option maxRecDepth 100000

section
variable {H : Type} {enc : TypeId × Value → H} {w : World} {base : Nat} {sp : Nat → Bool} {held : Bool}
theorem cells9Fd : Try.prog.cellsOf 9 = 1 := by kernel_rfl
theorem cells3Fd : Try.prog.cellsOf 3 = 1 := by kernel_rfl
theorem cellsPgL : Try.prog.cellsOf 89 = 6 := by kernel_rfl
theorem cellsFd : Try.prog.cellsOf 91 = 8 := by kernel_rfl
theorem addrFd (b off j : Nat) : (⟨b, off, none⟩ : Addr).add j = ⟨b, off + j, none⟩ := by
  simp only [Addr.add]
  split <;> simp_all
theorem trodFd3 {P : Program} {t : TypeId} {f0 f1 f2 : Field} {fuel : Nat} {cs : List Value} {x : DataW H × List MemPlace} (ht : P.underlying t = some (.struct #[f0, f1, f2])) (h : DataW.trod enc P w base sp held fuel t cs = some x) :
    ∃ y0 y1 y2 n, DataW.trod enc P w base sp held n f0.type ((cs.drop f0.offset).take (P.cellsOf f0.type)) = some y0 ∧ DataW.trod enc P w base sp held n f1.type ((cs.drop f1.offset).take (P.cellsOf f1.type)) = some y1 ∧ DataW.trod enc P w base sp held n f2.type ((cs.drop f2.offset).take (P.cellsOf f2.type)) = some y2 := by
  obtain ⟨xs, n, _, rfl, hl, hlen, hf⟩ := DataW.trod_struct ht h
  match xs, hlen with
  | [y0, y1, y2], _ => exact ⟨y0, y1, y2, n, by simpa using hf 0 f0 rfl, by simpa using hf 1 f1 rfl, by simpa using hf 2 f2 rfl⟩
theorem trodPg6 {P : Program} {t : TypeId} {f0 f1 f2 f3 f4 f5 : Field} {fuel : Nat} {cs : List Value} {x : DataW H × List MemPlace} (ht : P.underlying t = some (.struct #[f0, f1, f2, f3, f4, f5])) (h : DataW.trod enc P w base sp held fuel t cs = some x) :
    ∃ y0 y1 y2 y3 y4 y5 n, DataW.trod enc P w base sp held n f0.type ((cs.drop f0.offset).take (P.cellsOf f0.type)) = some y0 ∧ DataW.trod enc P w base sp held n f1.type ((cs.drop f1.offset).take (P.cellsOf f1.type)) = some y1 ∧ DataW.trod enc P w base sp held n f2.type ((cs.drop f2.offset).take (P.cellsOf f2.type)) = some y2 ∧ DataW.trod enc P w base sp held n f3.type ((cs.drop f3.offset).take (P.cellsOf f3.type)) = some y3 ∧ DataW.trod enc P w base sp held n f4.type ((cs.drop f4.offset).take (P.cellsOf f4.type)) = some y4 ∧ DataW.trod enc P w base sp held n f5.type ((cs.drop f5.offset).take (P.cellsOf f5.type)) = some y5 := by
  obtain ⟨xs, n, _, rfl, hl, hlen, hf⟩ := DataW.trod_struct ht h
  match xs, hlen with
  | [y0, y1, y2, y3, y4, y5], _ => exact ⟨y0, y1, y2, y3, y4, y5, n, by simpa using hf 0 f0 rfl, by simpa using hf 1 f1 rfl, by simpa using hf 2 f2 rfl, by simpa using hf 3 f3 rfl, by simpa using hf 4 f4 rfl, by simpa using hf 5 f5 rfl⟩
theorem open_fds {a : Option Addr} {len cap : Nat} {d : DataW H} {ps : List MemPlace} (hd : DataW.Trod enc Try.prog w base sp held 44 (.slice a len cap) d ps) : ∃ ls, FdRow w a len ls := by
  obtain ⟨fuel, hf⟩ := hd
  rcases open_slice Try.underlying44 hf with ⟨hcs, _⟩ | ⟨x, l, c, m, n, D, Pl, hcs, _, hl, hm, hmm, _, hx⟩
  · simp [Value.cells] at hcs
    obtain ⟨rfl, rfl, rfl⟩ := hcs
    exact ⟨[], rfl, by omega, by simp, fun h => by omega⟩
  · simp [Value.cells] at hcs
    obtain ⟨rfl, rfl, rfl⟩ := hcs
    have hlm : len ≤ m := by rw [hmm]; split <;> omega
    have each : ∀ i, i < len → ∃ t : Int × Int × Int × Int × Int × Int × Int × ByteArray, w.cell? (x.add (i * 8)) = some (.int .i64 t.1) ∧ w.cell? (x.add (i * 8 + 1)) = some (.int .i64 t.2.1) ∧ w.cell? (x.add (i * 8 + 2)) = some (.int .i64 t.2.2.1) ∧ w.cell? (x.add (i * 8 + 3)) = some (.int .i64 t.2.2.2.1) ∧ w.cell? (x.add (i * 8 + 4)) = some (.int .i64 t.2.2.2.2.1) ∧ w.cell? (x.add (i * 8 + 5)) = some (.int .i64 t.2.2.2.2.2.1) ∧ w.cell? (x.add (i * 8 + 6)) = some (.int .i64 t.2.2.2.2.2.2.1) ∧ w.cell? (x.add (i * 8 + 7)) = some (.string t.2.2.2.2.2.2.2) ∧ t.2.2.2.2.2.2.2.size ≤ maxLen := by
      intro i hi
      obtain ⟨cs, h1, h2⟩ := hx i (by omega)
      rw [cellsFd] at h1
      obtain ⟨_, hlen, hcell⟩ := World.cells?_some h1
      obtain ⟨y0, y1, y2, k, g0, g1, gp⟩ := trodFd3 Try.underlying91 h2
      obtain ⟨z0, z1, z2, z3, z4, z5, k2, g2, g3, g4, g5, g6, g7⟩ := trodPg6 Try.underlying89 gp
      simp only [cells3Fd, cells9Fd, cellsPgL] at g0 g1 g2 g3 g4 g5 g6 g7
      match cs, hlen with
      | [u0, u1, u2, u3, u4, u5, u6, u7], _ =>
        obtain ⟨k0, e0, -, -⟩ := DataW.trod_int Try.underlying3 g0
        obtain ⟨k1, e1, -, -⟩ := DataW.trod_int Try.underlying3 g1
        obtain ⟨k2, e2, -, -⟩ := DataW.trod_int Try.underlying3 g2
        obtain ⟨k3, e3, -, -⟩ := DataW.trod_int Try.underlying3 g3
        obtain ⟨k4, e4, -, -⟩ := DataW.trod_int Try.underlying3 g4
        obtain ⟨k5, e5, -, -⟩ := DataW.trod_int Try.underlying3 g5
        obtain ⟨k6, e6, -, -⟩ := DataW.trod_int Try.underlying3 g6
        obtain ⟨k7, e7, -, ht7⟩ := DataW.trod_string Try.underlying9 g7
        simp at e0 e1 e2 e3 e4 e5 e6 e7
        subst e0 e1 e2 e3 e4 e5 e6 e7
        have f0 := hcell 0 (by simp)
        have f1 := hcell 1 (by simp)
        have f2 := hcell 2 (by simp)
        have f3 := hcell 3 (by simp)
        have f4 := hcell 4 (by simp)
        have f5 := hcell 5 (by simp)
        have f6 := hcell 6 (by simp)
        have f7 := hcell 7 (by simp)
        rw [add_add] at f0 f1 f2 f3 f4 f5 f6 f7
        exact ⟨(k0, k1, k2, k3, k4, k5, k6, k7), by simpa using f0, by simpa using f1, by simpa using f2, by simpa using f3, by simpa using f4, by simpa using f5, by simpa using f6, by simpa using f7, ht7⟩
    obtain ⟨f, hq⟩ := choose_lt each
    refine ⟨(List.range len).map f, by simp, by omega, ?_, fun h0 => ?_⟩
    · intro t ht
      obtain ⟨i, hi, rfl⟩ := List.mem_map.1 ht
      exact (hq i (List.mem_range.1 hi)).2.2.2.2.2.2.2.2
    · obtain ⟨b, off, spot⟩ := x
      have hspot : spot = none := by simpa [Addr.add] using World.cell?_spot (hq 0 h0).1
      subst hspot
      refine ⟨b, off, rfl, ?_, fun i t hi => ?_⟩
      · have := World.block_lt_of_cell? w _ (hq 0 h0).1
        rw [addrFd] at this
        exact this
      · obtain ⟨hi1, hi2⟩ := List.getElem?_eq_some_iff.1 hi
        have hil : i < len := by simpa using hi1
        have ht : t = f i := by rw [← hi2]; simp
        subst ht
        have := hq i hil
        rw [addrFd, addrFd, addrFd, addrFd, addrFd, addrFd, addrFd, addrFd] at this
        exact ⟨this.1, this.2.1, this.2.2.1, this.2.2.2.1, this.2.2.2.2.1, this.2.2.2.2.2.1, this.2.2.2.2.2.2.1, this.2.2.2.2.2.2.2.1⟩
end
end Go.Proofs.Ytmpmdacfibgepag
