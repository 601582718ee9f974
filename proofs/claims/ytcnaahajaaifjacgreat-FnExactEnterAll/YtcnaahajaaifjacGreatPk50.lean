/-
  LawEnAF; OpVl; OpKn; OpSto; OpRc
-/
import Derived.Test.YtcnaahajaaifjacGreatLawEnA
import Derived.Test.YtcnaahajaaifjacGreatPk49
import Derived.Test.YtcnaahajaaifjacGreatPk6
import Derived.ProofKit
import Derived.OpenShut
import Derived.ShutString
import Derived.Deep.Strs
import Derived.Deep.Slices
import Derived.Test.YtcnaahajaaifjacGreatPk2
import Derived.Test.YtcnaahajaaifjacGreatPk15
/-
  FnExactEnterAll, whole.
-/
namespace Go.Proofs.YtcnaahajaaifjacGreat
open Go.RowKit
open Words

theorem lawEnA (va : Option Addr) (vl vc : Nat) (ad : Option Addr) (len cap : Nat) (nx : Int) (vs : List (Int × Int)) (rs : List Kw) (la : Option Addr) (n lc : Nat) (ls : List (Int × Int × Int × Int)) (w : World) (h : VlRow w va vl vs) (hk : KnRd w ad len rs) (hq : RcRow w la n ls) :
    Calls Tryz.prog 3 #[.agg #[.slice va vl vc, .slice ad len cap, .int .i64 nx], .slice la n lc] w fun e w' => e = .returned (.bool true) ∧ Below w.heap.size w w' := lena_of va vl vc ad len cap nx vs rs la n lc ls w h hk hq ienterAll
end Go.Proofs.YtcnaahajaaifjacGreat

/-
  A Vol that comes in as an argument, and a row of them.
-/
namespace Go.Proofs.YtcnaahajaaifjacGreat
open Go.ChangeShapes Go.WideShapes Go.ChangeAt Go.RowKit Go.Deep
set_option maxRecDepth 100000

section
variable {H : Type} {enc : TypeId × Value → H} {w : World} {base : Nat} {sp : Nat → Bool} {held : Bool}
theorem cells9Vl : Tryz.prog.cellsOf 9 = 1 := by kernel_rfl
theorem cells3Vl : Tryz.prog.cellsOf 3 = 1 := by kernel_rfl
theorem cells4Vl : Tryz.prog.cellsOf 4 = 1 := by kernel_rfl
theorem cellsVl : Tryz.prog.cellsOf 71 = 2 := by kernel_rfl
theorem addrVl (b off j : Nat) : (⟨b, off, none⟩ : Addr).add j = ⟨b, off + j, none⟩ := by
  simp only [Addr.add]
  split <;> simp_all
theorem trodVl {P : Program} {t : TypeId} {f0 f1 : Field} {fuel : Nat} {cs : List Value} {x : DataW H × List MemPlace} (ht : P.underlying t = some (.struct #[f0, f1])) (h : DataW.trod enc P w base sp held fuel t cs = some x) :
    ∃ y0 y1 n, DataW.trod enc P w base sp held n f0.type ((cs.drop f0.offset).take (P.cellsOf f0.type)) = some y0 ∧ DataW.trod enc P w base sp held n f1.type ((cs.drop f1.offset).take (P.cellsOf f1.type)) = some y1 := by
  obtain ⟨xs, n, _, rfl, hl, hlen, hf⟩ := DataW.trod_struct ht h
  match xs, hlen with
  | [y0, y1], _ => exact ⟨y0, y1, n, by simpa using hf 0 f0 rfl, by simpa using hf 1 f1 rfl⟩

theorem open_vl {r : Reach} {b0 : Nat} {v : Value} {d : DataW H} {ps : List MemPlace} (hval : Value.okWide Tryz.prog w r b0 71 v) (hd : DataW.Trod enc Tryz.prog w base sp held 71 v d ps) :
    ∃ (x0 : Int) (x1 : Int), v = .agg #[.int .i64 x0, .int .i64 x1] ∧ True := by
  obtain ⟨cs, rfl, hcs⟩ := okWide_struct Tryz.underlying71 hval
  obtain ⟨fuel, hf⟩ := hd
  obtain ⟨y0, y1, n, h0, h1⟩ := trodVl Tryz.underlying71 hf
  rw [cellsVl] at hcs
  simp only [cells3Vl, Value.cells] at h0 h1
  match cs, hcs with
  | ⟨[u0, u1]⟩, _ =>
    obtain ⟨k0, e0, -, -⟩ := DataW.trod_int Tryz.underlying3 h0
    obtain ⟨k1, e1, -, -⟩ := DataW.trod_int Tryz.underlying3 h1
    simp at e0 e1
    subst e0 e1
    exact ⟨k0, k1, rfl, trivial⟩
theorem open_vls {a : Option Addr} {len cap : Nat} {d : DataW H} {ps : List MemPlace} (hd : DataW.Trod enc Tryz.prog w base sp held 22 (.slice a len cap) d ps) : ∃ ls, VlRow w a len ls := by
  obtain ⟨fuel, hf⟩ := hd
  rcases open_slice Tryz.underlying22 hf with ⟨hcs, _⟩ | ⟨x, l, c, m, n, D, Pl, hcs, _, hl, hm, hmm, _, hx⟩
  · simp [Value.cells] at hcs
    obtain ⟨rfl, rfl, rfl⟩ := hcs
    exact ⟨[], rfl, by omega, by simp, fun h => by omega⟩
  · simp [Value.cells] at hcs
    obtain ⟨rfl, rfl, rfl⟩ := hcs
    have hlm : len ≤ m := by rw [hmm]; split <;> omega
    have each : ∀ i, i < len → ∃ t : Int × Int, w.cell? (x.add (i * 2)) = some (.int .i64 t.1) ∧ w.cell? (x.add (i * 2 + 1)) = some (.int .i64 t.2) ∧ True := by
      intro i hi
      obtain ⟨cs, h1, h2⟩ := hx i (by omega)
      rw [cellsVl] at h1
      obtain ⟨_, hlen, hcell⟩ := World.cells?_some h1
      obtain ⟨y0, y1, k, g0, g1⟩ := trodVl Tryz.underlying71 h2
      simp only [cells3Vl] at g0 g1
      match cs, hlen with
      | [u0, u1], _ =>
        obtain ⟨k0, e0, -, -⟩ := DataW.trod_int Tryz.underlying3 g0
        obtain ⟨k1, e1, -, -⟩ := DataW.trod_int Tryz.underlying3 g1
        simp at e0 e1
        subst e0 e1
        have f0 := hcell 0 (by simp)
        have f1 := hcell 1 (by simp)
        rw [add_add] at f0 f1
        exact ⟨(k0, k1), by simpa using f0, by simpa using f1, trivial⟩
    obtain ⟨f, hq⟩ := choose_lt each
    refine ⟨(List.range len).map f, by simp, by omega, ?_, fun h0 => ?_⟩
    · intro t ht
      obtain ⟨i, hi, rfl⟩ := List.mem_map.1 ht
      exact (hq i (List.mem_range.1 hi)).2.2
    · obtain ⟨b, off, spot⟩ := x
      have hspot : spot = none := by simpa [Addr.add] using World.cell?_spot (hq 0 h0).1
      subst hspot
      refine ⟨b, off, rfl, ?_, fun i t hi => ?_⟩
      · have := World.block_lt_of_cell? w _ (hq 0 h0).1
        rw [addrVl] at this
        exact this
      · obtain ⟨hi1, hi2⟩ := List.getElem?_eq_some_iff.1 hi
        have hil : i < len := by simpa using hi1
        have ht : t = f i := by rw [← hi2]; simp
        subst ht
        have := hq i hil
        rw [addrVl, addrVl] at this
        exact ⟨this.1, this.2.1⟩
end
end Go.Proofs.YtcnaahajaaifjacGreat

/-
  An arena that comes in as an argument.
-/
namespace Go.Proofs.YtcnaahajaaifjacGreat
open Go.ChangeShapes Go.WideShapes Go.ChangeAt Go.RowKit Go.Deep
set_option maxRecDepth 100000

section
variable {H : Type} {enc : TypeId × Value → H} {w : World} {base : Nat} {sp : Nat → Bool} {held : Bool}
theorem kcells3 : Tryz.prog.cellsOf 3 = 1 := by kernel_rfl
theorem kcells4 : Tryz.prog.cellsOf 4 = 1 := by kernel_rfl
theorem kcellsIs : Tryz.prog.cellsOf 81 = 1 := by kernel_rfl
theorem kcellsKn : Tryz.prog.cellsOf 83 = 2 := by kernel_rfl
theorem kaddr (b off j : Nat) : (⟨b, off, none⟩ : Addr).add j = ⟨b, off + j, none⟩ := by
  simp only [Addr.add]
  split <;> simp_all
theorem trodKn2 {P : Program} {t : TypeId} {f0 f1 : Field} {fuel : Nat} {cs : List Value} {x : DataW H × List MemPlace} (ht : P.underlying t = some (.struct #[f0, f1])) (h : DataW.trod enc P w base sp held fuel t cs = some x) :
    ∃ y0 y1 n, DataW.trod enc P w base sp held n f0.type ((cs.drop f0.offset).take (P.cellsOf f0.type)) = some y0 ∧ DataW.trod enc P w base sp held n f1.type ((cs.drop f1.offset).take (P.cellsOf f1.type)) = some y1 := by
  obtain ⟨xs, n, _, rfl, hl, hlen, hf⟩ := DataW.trod_struct ht h
  match xs, hlen with
  | [y0, y1], _ => exact ⟨y0, y1, n, by simpa using hf 0 f0 rfl, by simpa using hf 1 f1 rfl⟩
theorem trodAr1 {P : Program} {t : TypeId} {f0 : Field} {fuel : Nat} {cs : List Value} {x : DataW H × List MemPlace} (ht : P.underlying t = some (.struct #[f0])) (h : DataW.trod enc P w base sp held fuel t cs = some x) :
    ∃ y0 n, DataW.trod enc P w base sp held n f0.type ((cs.drop f0.offset).take (P.cellsOf f0.type)) = some y0 := by
  obtain ⟨xs, n, _, rfl, hl, hlen, hf⟩ := DataW.trod_struct ht h
  match xs, hlen with
  | [y0], _ => exact ⟨y0, n, by simpa using hf 0 f0 rfl⟩
theorem open_isl {v : Value} {fuel : Nat} {y : DataW H × List MemPlace} (hf : DataW.trod enc Tryz.prog w base sp held fuel 81 [v] = some y) : ∃ ls, ISl w v ls := by
  rcases open_slice Tryz.underlying81 hf with ⟨hcs, _⟩ | ⟨x, len, c, m, n, D, Pl, hcs, h1, hl, hm, hmm, h2, hx⟩
  · simp at hcs
    subst hcs
    exact ⟨[], none, 0, rfl, fun _ => rfl, rfl, by unfold maxLen; simp, fun h => by simp at h⟩
  · simp at hcs
    subst hcs
    have hlm : len ≤ m := by rw [hmm]; split <;> omega
    have each : ∀ i, i < len → ∃ t : Int, w.cell? (x.add i) = some (.int .i64 t) := by
      intro i hi
      obtain ⟨cs, h1, h2⟩ := hx i (by omega)
      rw [kcells3] at h1
      obtain ⟨_, hlen, hcell⟩ := World.cells?_some h1
      obtain ⟨k0, e0, -, -⟩ := DataW.trod_int Tryz.underlying3 h2
      subst e0
      have f0 := hcell 0 (by simp)
      rw [add_add] at f0
      exact ⟨k0, by simpa using f0⟩
    obtain ⟨f, hq⟩ := choose_lt each
    refine ⟨(List.range len).map f, some x, c, by simp, (fun e => by cases e), by simp, by simpa using by omega, fun h0 => ?_⟩
    rw [List.length_map, List.length_range] at h0
    obtain ⟨b, off, spot⟩ := x
    have hspot : spot = none := by simpa [Addr.add] using World.cell?_spot (hq 0 h0)
    subst hspot
    refine ⟨b, off, rfl, ?_, fun i t hi => ?_⟩
    · have := World.block_lt_of_cell? w _ (hq 0 h0)
      rw [kaddr] at this
      exact this
    · obtain ⟨hi1, hi2⟩ := List.getElem?_eq_some_iff.1 hi
      have hil : i < len := by simpa using hi1
      have ht : t = f i := by rw [← hi2]; simp
      subst ht
      have := hq i hil
      rw [kaddr] at this
      exact this
theorem open_kns {v : Value} {fuel : Nat} {y : DataW H × List MemPlace} (hf : DataW.trod enc Tryz.prog w base sp held fuel 23 [v] = some y) : ∃ a len cap rs, v = .slice a len cap ∧ KnRd w a len rs := by
  rcases open_slice Tryz.underlying23 hf with ⟨hcs, _⟩ | ⟨x, len, c, m, n, D, Pl, hcs, _, hl, hm, hmm, _, hx⟩
  · simp at hcs
    subst hcs
    exact ⟨none, 0, 0, [], rfl, rfl, by omega, (fun _ h => by cases h), fun h => by omega⟩
  · simp at hcs
    subst hcs
    have hlm : len ≤ m := by rw [hmm]; split <;> omega
    have each : ∀ i, i < len → ∃ t : Kw, w.cell? (x.add (i * 2)) = some (.bool t.1) ∧ w.cell? (x.add (i * 2 + 1)) = some t.2.1 ∧ ISl w t.2.1 t.2.2 := by
      intro i hi
      obtain ⟨cs, h1, h2⟩ := hx i (by omega)
      rw [kcellsKn] at h1
      obtain ⟨_, hlen, hcell⟩ := World.cells?_some h1
      obtain ⟨y0, y1, k, g0, g1⟩ := trodKn2 Tryz.underlying83 h2
      simp only [kcells4, kcellsIs] at g0 g1
      match cs, hlen with
      | [u0, u1], _ =>
        obtain ⟨k0, e0, _⟩ := DataW.trod_bool Tryz.underlying4 g0
        simp at e0
        subst e0
        obtain ⟨ls, hls⟩ := open_isl (v := u1) (by simpa using g1)
        have f0 := hcell 0 (by simp)
        have f1 := hcell 1 (by simp)
        rw [add_add] at f0 f1
        exact ⟨(k0, u1, ls), by simpa using f0, by simpa using f1, hls⟩
    haveI : Inhabited Kw := ⟨(false, .slice none 0 0, [])⟩
    obtain ⟨f, hq⟩ := choose_lt each
    refine ⟨some x, len, c, (List.range len).map f, rfl, by simp, by omega, ?_, fun h0 => ?_⟩
    · intro t ht
      obtain ⟨i, hi, rfl⟩ := List.mem_map.1 ht
      exact (hq i (List.mem_range.1 hi)).2.2
    · obtain ⟨b, off, spot⟩ := x
      have hspot : spot = none := by simpa [Addr.add] using World.cell?_spot (hq 0 h0).1
      subst hspot
      refine ⟨b, off, rfl, ?_, fun i t hi => ?_⟩
      · have := World.block_lt_of_cell? w _ (hq 0 h0).1
        rw [kaddr] at this
        exact this
      · obtain ⟨hi1, hi2⟩ := List.getElem?_eq_some_iff.1 hi
        have hil : i < len := by simpa using hi1
        have ht : t = f i := by rw [← hi2]; simp
        subst ht
        have := hq i hil
        rw [kaddr, kaddr] at this
        exact ⟨this.1, this.2.1⟩
theorem open_arena {r : Reach} {b0 : Nat} {v : Value} {d : DataW H} {ps : List MemPlace} (hval : Value.okWide Tryz.prog w r b0 25 v) (hd : DataW.Trod enc Tryz.prog w base sp held 25 v d ps) : ∃ a len cap rs, v = .agg #[.slice a len cap] ∧ KnRd w a len rs := by
  obtain ⟨cs, rfl, hcs⟩ := okWide_struct Tryz.underlying25 hval
  obtain ⟨fuel, hf⟩ := hd
  obtain ⟨y0, k, g0⟩ := trodAr1 Tryz.underlying25 hf
  have h1 : Tryz.prog.cellsOf 25 = 1 := by kernel_rfl
  have h2 : Tryz.prog.cellsOf 23 = 1 := by kernel_rfl
  rw [h1] at hcs
  rw [h2] at g0
  match cs, hcs with
  | ⟨[u]⟩, _ =>
    obtain ⟨a, len, cap, rs, e, hr⟩ := open_kns (v := u) (by simpa [Value.cells] using g0)
    subst e
    exact ⟨a, len, cap, rs, rfl, hr⟩
end
end Go.Proofs.YtcnaahajaaifjacGreat

/-
  A Store that comes in as an argument.
-/
namespace Go.Proofs.YtcnaahajaaifjacGreat
open Go.ChangeShapes Go.WideShapes Go.ChangeAt Go.RowKit Go.Deep
set_option maxRecDepth 100000

section
variable {H : Type} {enc : TypeId × Value → H} {w : World} {base : Nat} {sp : Nat → Bool} {held : Bool}
theorem trodSt3 {P : Program} {t : TypeId} {f0 f1 f2 : Field} {fuel : Nat} {cs : List Value} {x : DataW H × List MemPlace} (ht : P.underlying t = some (.struct #[f0, f1, f2])) (h : DataW.trod enc P w base sp held fuel t cs = some x) :
    ∃ y0 y1 y2 n, DataW.trod enc P w base sp held n f0.type ((cs.drop f0.offset).take (P.cellsOf f0.type)) = some y0 ∧ DataW.trod enc P w base sp held n f1.type ((cs.drop f1.offset).take (P.cellsOf f1.type)) = some y1 ∧ DataW.trod enc P w base sp held n f2.type ((cs.drop f2.offset).take (P.cellsOf f2.type)) = some y2 := by
  obtain ⟨xs, n, _, rfl, hl, hlen, hf⟩ := DataW.trod_struct ht h
  match xs, hlen with
  | [y0, y1, y2], _ => exact ⟨y0, y1, y2, n, by simpa using hf 0 f0 rfl, by simpa using hf 1 f1 rfl, by simpa using hf 2 f2 rfl⟩
theorem open_store {r : Reach} {b0 : Nat} {v : Value} {d : DataW H} {ps : List MemPlace} (hval : Value.okWide Tryz.prog w r b0 27 v) (hd : DataW.Trod enc Tryz.prog w base sp held 27 v d ps) :
    ∃ va vl vc ad len cap nx vs rs, v = .agg #[.slice va vl vc, .slice ad len cap, .int .i64 nx] ∧ VlRow w va vl vs ∧ KnRd w ad len rs := by
  obtain ⟨cs, rfl, hcs⟩ := okWide_struct Tryz.underlying27 hval
  obtain ⟨fuel, hf⟩ := hd
  obtain ⟨y0, y1, y2, k, g0, g1, g2⟩ := trodSt3 Tryz.underlying27 hf
  have h1 : Tryz.prog.cellsOf 27 = 3 := by kernel_rfl
  have h2 : Tryz.prog.cellsOf 22 = 1 := by kernel_rfl
  have h3 : Tryz.prog.cellsOf 25 = 1 := by kernel_rfl
  have h4 : Tryz.prog.cellsOf 23 = 1 := by kernel_rfl
  rw [h1] at hcs
  simp only [h2, h3, kcells3, Value.cells] at g0 g1 g2
  match cs, hcs with
  | ⟨[u0, u1, u2]⟩, _ =>
    simp at g0 g1 g2
    obtain ⟨nx, e2, -, -⟩ := DataW.trod_int Tryz.underlying3 g2
    obtain ⟨y3, k3, g3⟩ := trodAr1 Tryz.underlying25 g1
    rw [h4] at g3
    obtain ⟨ad, len, cap, rs, e1, hr⟩ := open_kns (v := u1) (by simpa using g3)
    have e0 : ∃ a l c, u0 = .slice a l c := by
      rcases open_slice Tryz.underlying22 g0 with ⟨q, _⟩ | ⟨x, l, c, m, n, D, Pl, q, _⟩
      · exact ⟨none, 0, 0, by simpa using q⟩
      · exact ⟨some x, l, c, by simpa using q⟩
    obtain ⟨va, vl, vc, rfl⟩ := e0
    obtain ⟨vs, hv⟩ := open_vls (a := va) (len := vl) (cap := vc) ⟨k, by simpa [Value.cells] using g0⟩
    simp at e2
    subst e1 e2
    exact ⟨va, vl, vc, ad, len, cap, nx, vs, rs, rfl, hv, hr⟩
end
end Go.Proofs.YtcnaahajaaifjacGreat

/-
  A Rec that comes in as an argument, and a row of them.
-/
namespace Go.Proofs.YtcnaahajaaifjacGreat
open Go.ChangeShapes Go.WideShapes Go.ChangeAt Go.RowKit Go.Deep
set_option maxRecDepth 100000

section
variable {H : Type} {enc : TypeId × Value → H} {w : World} {base : Nat} {sp : Nat → Bool} {held : Bool}
theorem cells9Rc : Tryz.prog.cellsOf 9 = 1 := by kernel_rfl
theorem cells3Rc : Tryz.prog.cellsOf 3 = 1 := by kernel_rfl
theorem cells4Rc : Tryz.prog.cellsOf 4 = 1 := by kernel_rfl
theorem cellsRc : Tryz.prog.cellsOf 56 = 4 := by kernel_rfl
theorem addrRc (b off j : Nat) : (⟨b, off, none⟩ : Addr).add j = ⟨b, off + j, none⟩ := by
  simp only [Addr.add]
  split <;> simp_all
theorem trodRc {P : Program} {t : TypeId} {f0 f1 f2 f3 : Field} {fuel : Nat} {cs : List Value} {x : DataW H × List MemPlace} (ht : P.underlying t = some (.struct #[f0, f1, f2, f3])) (h : DataW.trod enc P w base sp held fuel t cs = some x) :
    ∃ y0 y1 y2 y3 n, DataW.trod enc P w base sp held n f0.type ((cs.drop f0.offset).take (P.cellsOf f0.type)) = some y0 ∧ DataW.trod enc P w base sp held n f1.type ((cs.drop f1.offset).take (P.cellsOf f1.type)) = some y1 ∧ DataW.trod enc P w base sp held n f2.type ((cs.drop f2.offset).take (P.cellsOf f2.type)) = some y2 ∧ DataW.trod enc P w base sp held n f3.type ((cs.drop f3.offset).take (P.cellsOf f3.type)) = some y3 := by
  obtain ⟨xs, n, _, rfl, hl, hlen, hf⟩ := DataW.trod_struct ht h
  match xs, hlen with
  | [y0, y1, y2, y3], _ => exact ⟨y0, y1, y2, y3, n, by simpa using hf 0 f0 rfl, by simpa using hf 1 f1 rfl, by simpa using hf 2 f2 rfl, by simpa using hf 3 f3 rfl⟩

theorem open_rc {r : Reach} {b0 : Nat} {v : Value} {d : DataW H} {ps : List MemPlace} (hval : Value.okWide Tryz.prog w r b0 56 v) (hd : DataW.Trod enc Tryz.prog w base sp held 56 v d ps) :
    ∃ (x0 : Int) (x1 : Int) (x2 : Int) (x3 : Int), v = .agg #[.int .i64 x0, .int .i64 x1, .int .i64 x2, .int .i64 x3] ∧ True := by
  obtain ⟨cs, rfl, hcs⟩ := okWide_struct Tryz.underlying56 hval
  obtain ⟨fuel, hf⟩ := hd
  obtain ⟨y0, y1, y2, y3, n, h0, h1, h2, h3⟩ := trodRc Tryz.underlying56 hf
  rw [cellsRc] at hcs
  simp only [cells3Rc, Value.cells] at h0 h1 h2 h3
  match cs, hcs with
  | ⟨[u0, u1, u2, u3]⟩, _ =>
    obtain ⟨k0, e0, -, -⟩ := DataW.trod_int Tryz.underlying3 h0
    obtain ⟨k1, e1, -, -⟩ := DataW.trod_int Tryz.underlying3 h1
    obtain ⟨k2, e2, -, -⟩ := DataW.trod_int Tryz.underlying3 h2
    obtain ⟨k3, e3, -, -⟩ := DataW.trod_int Tryz.underlying3 h3
    simp at e0 e1 e2 e3
    subst e0 e1 e2 e3
    exact ⟨k0, k1, k2, k3, rfl, trivial⟩
theorem open_rcs {a : Option Addr} {len cap : Nat} {d : DataW H} {ps : List MemPlace} (hd : DataW.Trod enc Tryz.prog w base sp held 28 (.slice a len cap) d ps) : ∃ ls, RcRow w a len ls := by
  obtain ⟨fuel, hf⟩ := hd
  rcases open_slice Tryz.underlying28 hf with ⟨hcs, _⟩ | ⟨x, l, c, m, n, D, Pl, hcs, _, hl, hm, hmm, _, hx⟩
  · simp [Value.cells] at hcs
    obtain ⟨rfl, rfl, rfl⟩ := hcs
    exact ⟨[], rfl, by omega, by simp, fun h => by omega⟩
  · simp [Value.cells] at hcs
    obtain ⟨rfl, rfl, rfl⟩ := hcs
    have hlm : len ≤ m := by rw [hmm]; split <;> omega
    have each : ∀ i, i < len → ∃ t : Int × Int × Int × Int, w.cell? (x.add (i * 4)) = some (.int .i64 t.1) ∧ w.cell? (x.add (i * 4 + 1)) = some (.int .i64 t.2.1) ∧ w.cell? (x.add (i * 4 + 2)) = some (.int .i64 t.2.2.1) ∧ w.cell? (x.add (i * 4 + 3)) = some (.int .i64 t.2.2.2) ∧ True := by
      intro i hi
      obtain ⟨cs, h1, h2⟩ := hx i (by omega)
      rw [cellsRc] at h1
      obtain ⟨_, hlen, hcell⟩ := World.cells?_some h1
      obtain ⟨y0, y1, y2, y3, k, g0, g1, g2, g3⟩ := trodRc Tryz.underlying56 h2
      simp only [cells3Rc] at g0 g1 g2 g3
      match cs, hlen with
      | [u0, u1, u2, u3], _ =>
        obtain ⟨k0, e0, -, -⟩ := DataW.trod_int Tryz.underlying3 g0
        obtain ⟨k1, e1, -, -⟩ := DataW.trod_int Tryz.underlying3 g1
        obtain ⟨k2, e2, -, -⟩ := DataW.trod_int Tryz.underlying3 g2
        obtain ⟨k3, e3, -, -⟩ := DataW.trod_int Tryz.underlying3 g3
        simp at e0 e1 e2 e3
        subst e0 e1 e2 e3
        have f0 := hcell 0 (by simp)
        have f1 := hcell 1 (by simp)
        have f2 := hcell 2 (by simp)
        have f3 := hcell 3 (by simp)
        rw [add_add] at f0 f1 f2 f3
        exact ⟨(k0, k1, k2, k3), by simpa using f0, by simpa using f1, by simpa using f2, by simpa using f3, trivial⟩
    obtain ⟨f, hq⟩ := choose_lt each
    refine ⟨(List.range len).map f, by simp, by omega, ?_, fun h0 => ?_⟩
    · intro t ht
      obtain ⟨i, hi, rfl⟩ := List.mem_map.1 ht
      exact (hq i (List.mem_range.1 hi)).2.2.2.2
    · obtain ⟨b, off, spot⟩ := x
      have hspot : spot = none := by simpa [Addr.add] using World.cell?_spot (hq 0 h0).1
      subst hspot
      refine ⟨b, off, rfl, ?_, fun i t hi => ?_⟩
      · have := World.block_lt_of_cell? w _ (hq 0 h0).1
        rw [addrRc] at this
        exact this
      · obtain ⟨hi1, hi2⟩ := List.getElem?_eq_some_iff.1 hi
        have hil : i < len := by simpa using hi1
        have ht : t = f i := by rw [← hi2]; simp
        subst ht
        have := hq i hil
        rw [addrRc, addrRc, addrRc, addrRc] at this
        exact ⟨this.1, this.2.1, this.2.2.1, this.2.2.2.1⟩
end
end Go.Proofs.YtcnaahajaaifjacGreat
