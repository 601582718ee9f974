/-
  PkRM; Rows3; GRow; GMath; Fits; IPlain; PkMM; TRows; Bytes; Start; PMap; PKey; Note; WithB; PkCut; IMatch; LMath; Longest; ITok; IPack; IUnp; SMatch; STok; SPack; INewest; FdEql; SRead
-/
import Derived.Test.YtfmnaidhfgmemaaGreatDoorPk15
import Derived.Test.YtfmnaidhfgmemaaGreatDoorPk0
import Derived.Lib.AppendStr
import Derived.Deep.MidRow
import Derived.Maps.GroupsBeside
import Derived.WideKeyEntry
import Derived.DeepKeys4
import Derived.Test.YtfmnaidhfgmemaaGreatDoorShelf
import Derived.Test.YtfmnaidhfgmemaaGreatDoorPk31
import Derived.WalkLawsBesides
import Derived.Laws.StructEq
import Derived.Test.YtfmnaidhfgmemaaGreatDoorPk5
import Derived.Test.YtfmnaidhfgmemaaGreatDoorPk14
import Derived.Test.YtfmnaidhfgmemaaGreatDoorPk16
import Derived.Deep.RegionHeld3
namespace Go.Proofs.YtfmnaidhfgmemaaGreatDoor.Pack
end Go.Proofs.YtfmnaidhfgmemaaGreatDoor.Pack

namespace Go.Proofs.YtfmnaidhfgmemaaGreatDoor
open Go.RowKit
open Pack
end Go.Proofs.YtfmnaidhfgmemaaGreatDoor

namespace Go.Proofs.YtfmnaidhfgmemaaGreatDoor
open Go.RowKit
end Go.Proofs.YtfmnaidhfgmemaaGreatDoor

namespace Go.Proofs.YtfmnaidhfgmemaaGreatDoor
open Go.RowKit
open Pack
end Go.Proofs.YtfmnaidhfgmemaaGreatDoor

namespace Go.Proofs.YtfmnaidhfgmemaaGreatDoor
open Go.RowKit
open Pack
end Go.Proofs.YtfmnaidhfgmemaaGreatDoor

namespace Go.Proofs.YtfmnaidhfgmemaaGreatDoor
open Go.RowKit
open Pack
end Go.Proofs.YtfmnaidhfgmemaaGreatDoor

namespace Go.Proofs.YtfmnaidhfgmemaaGreatDoor.Pack
end Go.Proofs.YtfmnaidhfgmemaaGreatDoor.Pack

namespace Go.Proofs.YtfmnaidhfgmemaaGreatDoor
open Go.RowKit
open Pack
end Go.Proofs.YtfmnaidhfgmemaaGreatDoor

namespace Go.Proofs.YtfmnaidhfgmemaaGreatDoor
open Go.RowKit
end Go.Proofs.YtfmnaidhfgmemaaGreatDoor

namespace Go.Proofs.YtfmnaidhfgmemaaGreatDoor
open Go.RowKit
end Go.Proofs.YtfmnaidhfgmemaaGreatDoor

namespace Go.Proofs.YtfmnaidhfgmemaaGreatDoor
open Go.RowKit Go.Maps Go.WideElems Go.MapKept
open Go.WideMaps (KeyLaw)
open Go.ChangeMaps (setBlock heap_setBlock_same heap_setBlock_other)
section
variable {H : Type} {P : Program} {k : TypeId} {w w0 : World} {base : Nat} {e : TypeId} {q : IntKind} {b n : Nat} {D : DataW H} {t E : TypeId}
end
end Go.Proofs.YtfmnaidhfgmemaaGreatDoor

namespace Go.Proofs.YtfmnaidhfgmemaaGreatDoor
open Go.RowKit Go.Maps Go.WideElems Go.MapKept
open Go.WideMaps (KeyLaw)
open Go.ChangeShapes (lits)
set_option maxRecDepth 100000
end Go.Proofs.YtfmnaidhfgmemaaGreatDoor

namespace Go.Proofs.YtfmnaidhfgmemaaGreatDoor
open Go.RowKit
end Go.Proofs.YtfmnaidhfgmemaaGreatDoor

namespace Go.Proofs.YtfmnaidhfgmemaaGreatDoor
open Go.RowKit
open Pack
end Go.Proofs.YtfmnaidhfgmemaaGreatDoor

namespace Go.Proofs.YtfmnaidhfgmemaaGreatDoor
open Go.RowKit
open Pack
def BA (l : List UInt8) : ByteArray := ⟨l.toArray⟩
end Go.Proofs.YtfmnaidhfgmemaaGreatDoor

namespace Go.Proofs.YtfmnaidhfgmemaaGreatDoor
open Go.RowKit
open Pack
end Go.Proofs.YtfmnaidhfgmemaaGreatDoor

namespace Go.Proofs.YtfmnaidhfgmemaaGreatDoor.Pack
open Go.Proofs.YtfmnaidhfgmemaaGreatDoor
end Go.Proofs.YtfmnaidhfgmemaaGreatDoor.Pack

namespace Go.Proofs.YtfmnaidhfgmemaaGreatDoor
open Go.RowKit
open Pack
end Go.Proofs.YtfmnaidhfgmemaaGreatDoor

namespace Go.Proofs.YtfmnaidhfgmemaaGreatDoor
open Go.RowKit
open Pack
end Go.Proofs.YtfmnaidhfgmemaaGreatDoor

namespace Go.Proofs.YtfmnaidhfgmemaaGreatDoor
open Go.RowKit
open Pack
end Go.Proofs.YtfmnaidhfgmemaaGreatDoor

namespace Go.Proofs.YtfmnaidhfgmemaaGreatDoor
open Go.RowKit
open Pack
end Go.Proofs.YtfmnaidhfgmemaaGreatDoor

namespace Go.Proofs.YtfmnaidhfgmemaaGreatDoor
open Go.RowKit
open Pack
end Go.Proofs.YtfmnaidhfgmemaaGreatDoor

namespace Go.Proofs.YtfmnaidhfgmemaaGreatDoor
open Go.RowKit
open Pack
end Go.Proofs.YtfmnaidhfgmemaaGreatDoor

namespace Go.Proofs.YtfmnaidhfgmemaaGreatDoor
open Go.RowKit
open Pack
end Go.Proofs.YtfmnaidhfgmemaaGreatDoor

namespace Go.Proofs.YtfmnaidhfgmemaaGreatDoor
open Go.RowKit
open Words Pack
def NewL (M : List Fnd) (l : List (Int × Value)) : Prop := ∀ c, atG l c = (newP M c).map fdVal
theorem tyNP : Tryz.prog.underlying 204 = some (.map 3 116) := Tryz.underlying204
theorem zeroFd (w : World) : (zeroValue 116).run Tryz.prog w = .ok (.agg #[.int .i64 0, .int .i64 0, .int .i64 0, .int .i64 0, .int .i64 0, .int .i64 0, .int .i64 0, .string ⟨#[]⟩]) w := by kernel_rfl
def NM (W : World) (B : Nat) (M : List Fnd) : Prop := ∃ l, MapG enI W B l ∧ NewL M l
theorem NM.below {W W' : World} {B : Nat} {M : List Fnd} (h : NM W B M) (b : Below W.heap.size W W') : NM W' B M := by
  obtain ⟨l, h1, h2⟩ := h
  exact ⟨l, h1.below b, h2⟩
theorem NM.look {W : World} {B : Nat} {M : List Fnd} (h : NM W B M) (x : Int) (c : Bool) :
    (Instr.lookup 204 (.map (some B)) (.int .i64 x) c).run Tryz.prog W = .ok (if c then .tuple #[fdVal (fdOr (newP M x)), .bool (newP M x).isSome] else fdVal (fdOr (newP M x))) W := by
  obtain ⟨l, h1, h2⟩ := h
  have := h1.look tyNP keysI (zeroFd W) x c
  rw [h2 x] at this
  rw [show (Value.int .i64 x) = enI x from rfl, this]
  cases newP M x <;> rfl
theorem NM.put {W : World} {B : Nat} {M : List Fnd} (h : NM W B M) {x : Fnd} (hx : x.page.kind = 1) :
    ∃ W', (Instr.mapUpdate 204 (.map (some B)) (.int .i64 x.page.tx) (fdVal x)).run Tryz.prog W = .ok () W' ∧ NM W' B (M ++ [x]) ∧ W.grownBy W' (some B) := by
  obtain ⟨l, h1, h2⟩ := h
  obtain ⟨W', e1, e2, e3, -⟩ := h1.new tyNP keysI x.page.tx (fdVal x)
  refine ⟨W', e1, ⟨_, e2, fun c => ?_⟩, e3⟩
  rw [atG_new, newP_snoc, h2 c]
  unfold isData
  rw [hx]
  by_cases e : c = x.page.tx
  · subst e; simp
  · have : ¬ x.page.tx = c := fun q => e q.symm
    simp [e, this]
theorem NM.skip {W : World} {B : Nat} {M : List Fnd} (h : NM W B M) {x : Fnd} (hx : x.page.kind ≠ 1) : NM W B (M ++ [x]) := by
  obtain ⟨l, h1, h2⟩ := h
  refine ⟨l, h1, fun c => ?_⟩
  rw [newP_snoc, h2 c]
  unfold isData
  simp [hx]
theorem take_snoc {M : List Fnd} {k : Nat} {x : Fnd} (h : M[k]? = some x) : M.take (k + 1) = M.take k ++ [x] := by rw [List.take_add_one, h]; rfl
set_option maxHeartbeats 2000000 in
set_option maxRecDepth 100000 in
theorem inewestOf (ad : Option Addr) (len cap : Nat) (M : List Fnd) (w : World) (hl : len ≤ 1099511627776) (h : FdRd w ad len M) :
    Calls Tryz.prog 125 #[.slice ad len cap] w fun e w' => ∃ B, e = .returned (.map (some B)) ∧ w.heap.size ≤ B ∧ NM w' B M ∧ Below w.heap.size w w' := by
  have HN := hide (show M.length = len from h.1)
  have HR := hide h
  have hmm := @run_makeMap Tryz.prog
  have b0 : Below w.heap.size w (w.alloc (.map #[] 0)) := (Below.refl _ _).alloc (Nat.le_refl _) _
  have N0 : Hid (NM (w.alloc (.map #[] 0)) w.heap.size (M.take 0)) := ⟨[], MapG.made w, fun c => rfl⟩
  have B0 := hide b0
  clear h b0
  go_enter Tryz.func125, Tryz.ntmps125
  go_wp2
  go_loopw [9] (fun iv wr => ∃ k : Nat, iv = .int .i64 k ∧ k ≤ len ∧ Hid (NM wr w.heap.size (M.take k)) ∧ Hid (Below w.heap.size w wr)) (fun iv _ => len - (intOf iv).toNat)
  case atStart => exact ⟨0, rfl, Nat.zero_le _, N0, B0⟩
  case round =>
    rename World => wr
    obtain ⟨k, rfl, hk, N1, B1⟩ := hrel
    clear N0 B0
    have hk0 : (0 : Int) ≤ k := by omega
    by_cases hlt : (k : Int) < len
    · obtain ⟨x, hx⟩ : ∃ x, M[k]? = some x := ⟨_, List.getElem?_eq_getElem (by have := HN.out; omega)⟩
      obtain ⟨rb, ro, rfl, -, c0, c1, c2, c3, c4, c5, c6, c7, d4⟩ := (HR.out.below B1.out).all hx
      have hT := take_snoc hx
      obtain ⟨xb, xl, pk, pq, px, pp, pc, pt⟩ := x
      simp only at c0 c1 c2 c3 c4 c5 c6 c7 d4
      have ba : Below wr.heap.size wr (wr.alloc (.cells #[.int .i64 xb, .int .i64 xl, .int .i64 pk, .int .i64 pq, .int .i64 px, .int .i64 pp, .int .i64 pc, .string pt] 116)) := (Below.refl _ _).alloc (Nat.le_refl _) _
      have N2 := hide (N1.out.below ba)
      have B2 := hide (B1.out.trans (ba.mono B1.out.size))
      have FA : Hid (FdAt (wr.alloc (.cells #[.int .i64 xb, .int .i64 xl, .int .i64 pk, .int .i64 pq, .int .i64 px, .int .i64 pp, .int .i64 pc, .string pt] 116)) wr.heap.size ⟨xb, xl, pk, pq, px, pp, pc, pt⟩) := heap_alloc_new _ _
      obtain ⟨y0, y1, y2, y3, y4, y5, y6, y7⟩ := FA.out.cells
      simp only at y0 y1 y2 y3 y4 y5 y6 y7
      by_cases q1 : (pk == 1) = true
      · obtain ⟨W3, e3, n3, g3⟩ := N2.out.put (x := ⟨xb, xl, pk, pq, px, pp, pc, pt⟩) (by simpa using q1)
        unfold fdVal at e3
        simp only at e3
        have N3 : Hid (NM W3 w.heap.size (M.take (k + 1))) := by rw [hT]; exact n3
        have B3 := hide (B2.out.grown g3 B2.out.size (fun j hj => by cases hj; exact Nat.le_refl _))
        clear hx hT n3 g3 N1 B1 N2 B2 ba FA
        go_wp2
        go_roundw
        case rel => exact ⟨k + 1, by go_num, by omega, N3, B3⟩
        case measure => simp [intOf]; omega
      · have N3 : Hid (NM (wr.alloc (.cells #[.int .i64 xb, .int .i64 xl, .int .i64 pk, .int .i64 pq, .int .i64 px, .int .i64 pp, .int .i64 pc, .string pt] 116)) w.heap.size (M.take (k + 1))) := by rw [hT]; exact N2.out.skip (by simpa using q1)
        have q1 : (pk == 1) = false := by simpa using q1
        clear hx hT N1 B1 N2 ba FA
        go_wp2
        go_roundw
        case rel => exact ⟨k + 1, by go_num, by omega, N3, B2⟩
        case measure => simp [intOf]; omega
    · have N2 : Hid (NM wr w.heap.size M) := by
        have := N1.out
        rw [List.take_of_length_le (by have := HN.out; omega)] at this
        exact this
      clear N1
      go_wp2
      go_ret
      exact ⟨w.heap.size, rfl, Nat.le_refl _, N2.out, B1.out⟩
end Go.Proofs.YtfmnaidhfgmemaaGreatDoor

namespace Go.Proofs.YtfmnaidhfgmemaaGreatDoor
open Go.RowKit
open Words
theorem info3z : (Tryz.prog.info? 3).map (·.size) = some 1 := by kernel_rfl
theorem info9z : (Tryz.prog.info? 9).map (·.size) = some 1 := by kernel_rfl
theorem infoPgzE : (Tryz.prog.info? 92).map (·.size) = some 6 := by kernel_rfl
theorem eqz_int (d : Nat) (a b : Int) (W : World) : (Op.equalIn (d + 1) 3 (.int .i64 a) (.int .i64 b)).run Tryz.prog W = .ok (a == b) W := run_equalIn_int W d 3 .i64 .i64 a b Tryz.underlying3
theorem eqz_str (d : Nat) (a b : ByteArray) (W : World) : (Op.equalIn (d + 1) 9 (.string a) (.string b)).run Tryz.prog W = .ok (a.toList == b.toList) W := run_equalIn_string W d 9 a b Tryz.underlying9
def pgB (p q : Pg) : Bool := p.kind == q.kind && (p.seq == q.seq && (p.tx == q.tx && (p.part == q.part && (p.count == q.count && p.text.toList == q.text.toList))))
set_option maxHeartbeats 1000000 in
theorem eqz_page (d : Nat) (p q : Pg) (W : World) : (Op.equalIn (d + 2) 92 (.agg #[.int .i64 p.kind, .int .i64 p.seq, .int .i64 p.tx, .int .i64 p.part, .int .i64 p.count, .string p.text]) (.agg #[.int .i64 q.kind, .int .i64 q.seq, .int .i64 q.tx, .int .i64 q.part, .int .i64 q.count, .string q.text])).run Tryz.prog W = .ok (pgB p q) W := by
  obtain ⟨i3, h3, z3⟩ := Option.map_eq_some_iff.1 info3z
  obtain ⟨i9, h9, z9⟩ := Option.map_eq_some_iff.1 info9z
  rw [run_equalIn_struct W (d + 1) _ _ _ (by simp [Program.fieldsOf, Tryz.underlying92]) (by kernel_rfl)]
  have eqi : ∀ (a b : Int) (W : World), (Op.equalIn (d + 1) 3 (.int .i64 a) (.int .i64 b)).run Tryz.prog W = .ok (a == b) W := fun a b W => eqz_int d a b W
  have eqs : ∀ (a b : ByteArray) (W : World), (Op.equalIn (d + 1) 9 (.string a) (.string b)).run Tryz.prog W = .ok (a.toList == b.toList) W := fun a b W => eqz_str d a b W
  simp [Program.fieldsOf, Tryz.underlying92, Op.eqFields, part, isAgg, sizeOf, typeInfo, run_underlying Tryz.underlying3, run_underlying Tryz.underlying9, h3, z3, h9, z9, eqi, eqs, pgB]
  cases h0 : p.kind == q.kind <;> simp at h0 <;> simp [h0]
  cases h1 : p.seq == q.seq <;> simp at h1 <;> simp [h1]
  cases h2 : p.tx == q.tx <;> simp at h2 <;> simp [h2]
  cases h3 : p.part == q.part <;> simp at h3 <;> simp [h3]
  cases h4 : p.count == q.count <;> simp at h4 <;> simp [h4]
  by_cases h5 : p.text.toList = q.text.toList <;> simp [h5]
set_option maxHeartbeats 1000000 in
theorem fd_eql (x y : Fnd) (W : World) : (binOp .eql 116 (fdVal x) (fdVal y)).run Tryz.prog W = .ok (.bool (x.block == y.block && (x.leaf == y.leaf && pgB x.page y.page))) W := by
  unfold fdVal
  rw [run_eql_struct]
  have e : (Op.equalIn 10000 116 (.agg #[.int .i64 x.block, .int .i64 x.leaf, .int .i64 x.page.kind, .int .i64 x.page.seq, .int .i64 x.page.tx, .int .i64 x.page.part, .int .i64 x.page.count, .string x.page.text]) (.agg #[.int .i64 y.block, .int .i64 y.leaf, .int .i64 y.page.kind, .int .i64 y.page.seq, .int .i64 y.page.tx, .int .i64 y.page.part, .int .i64 y.page.count, .string y.page.text])).run Tryz.prog W = .ok (x.block == y.block && (x.leaf == y.leaf && pgB x.page y.page)) W := by
    show (Op.equalIn (9999 + 1) _ _ _).run _ _ = _
    obtain ⟨i3, h3, z3⟩ := Option.map_eq_some_iff.1 info3z
    obtain ⟨ip, hp, zp⟩ := Option.map_eq_some_iff.1 infoPgzE
    rw [run_equalIn_struct W 9999 _ _ _ (by simp [Program.fieldsOf, Tryz.underlying116]) (by kernel_rfl)]
    have eqi : ∀ (a b : Int) (W : World), (Op.equalIn 9999 3 (.int .i64 a) (.int .i64 b)).run Tryz.prog W = .ok (a == b) W := fun a b W => eqz_int 9998 a b W
    have eqp := fun (W : World) => eqz_page 9997 x.page y.page W
    simp only [show (9997 + 2 : Nat) = 9999 from rfl] at eqp
    simp [Program.fieldsOf, Tryz.underlying116, Op.eqFields, part, isAgg, sizeOf, typeInfo, run_underlying Tryz.underlying3, run_underlying Tryz.underlying92, h3, z3, hp, zp, eqi, eqp]
    cases h0 : x.block == y.block <;> simp at h0 <;> simp [h0]
    cases h1 : x.leaf == y.leaf <;> simp at h1 <;> simp [h1]
    cases pgB x.page y.page <;> simp
  rw [e]
  rfl
theorem fndB_is (x y : Fnd) : (x.block == y.block && (x.leaf == y.leaf && pgB x.page y.page)) = fndB x y := by
  unfold fndB pgB
  rw [Lib.toList_data, Lib.toList_data]
  simp only [Bool.and_assoc]
  congr 7
  exact Bool.eq_iff_iff.2 (by simp)
end Go.Proofs.YtfmnaidhfgmemaaGreatDoor

namespace Go.Proofs.YtfmnaidhfgmemaaGreatDoor
open Go.RowKit
set_option maxHeartbeats 400000 in
set_option maxRecDepth 100000 in
theorem sread_rd (v : Value) (rs : List Rw) (b leaf : Int) (w : World) (hl : rs.length ≤ 1048576) (hll : ∀ r ∈ rs, r.2.2.2.length ≤ 1048576) (ha : FlashRd w v rs) :
    Calls Tryz.prog 57 #[.agg #[v], .int .i64 b, .int .i64 leaf] w fun e w' => e = .returned (.tuple #[.string (readF (rs.map tellOf) b leaf).1, .bool (readF (rs.map tellOf) b leaf).2]) ∧ Below w.heap.size w w' := by
  have h1 := ha
  obtain ⟨vd, vcap, rfl, -⟩ := h1
  have HLL := hide hll
  have HB0 := hide ((Below.refl w.heap.size w).alloc (Nat.le_refl _) (.cells #[.slice vd rs.length vcap] 39))
  have HA := hide (ha.below HB0.out)
  have r0 := heap_alloc_new w (.cells #[.slice vd rs.length vcap] 39)
  have k0 : (w.alloc (.cells #[.slice vd rs.length vcap] 39)).cell? ⟨w.heap.size, 0, none⟩ = some (.slice vd rs.length vcap) := cell_of_row _ _ 0 _ _ _ r0
  have K0 := hide k0
  have hw1 : IntKind.i64.wrap ((rs.length : Int) - 1) = (rs.length : Int) - 1 := by rw [IntKind.wrap_i64]; omega
  clear ha hll r0 k0
  go_enter Tryz.func57, Tryz.ntmps57
  go_wp2_with fail
  refine (sin_any b 0 ((rs.length : Int) - 1) _).mono ?_
  rintro e w2 ⟨rfl, rfl⟩
  generalize w.alloc (.cells #[.slice vd rs.length vcap] 39) = w2 at HB0 HA K0 ⊢
  have k0 := K0.out
  by_cases hb : 0 ≤ b ∧ b ≤ (rs.length : Int) - 1
  · rw [decide_eq_true hb]
    obtain ⟨k, rfl⟩ : ∃ k : Nat, b = k := ⟨b.toNat, by omega⟩
    have hkl : k < rs.length := by omega
    have hr : rs[k]? = some rs[k] := List.getElem?_eq_getElem hkl
    generalize rs[k] = r at hr
    have hmem := List.mem_of_getElem? hr
    have hrl := HLL.out r hmem
    obtain ⟨g, eg, ⟨c1, c2, c3⟩, hlf⟩ := HA.out.at hr
    subst eg
    have HBR : Hid ((rs.map tellOf)[k]? = some (tellOf r)) := by show _ = _; rw [List.getElem?_map, hr]; rfl
    obtain ⟨x, y, u, ls⟩ := r
    simp only at c1 c2 c3
    simp only at hlf hrl
    obtain ⟨ld, capl, rfl, -, l3⟩ := hlf
    have L3 := hide l3
    have kk0 : (0 : Int) ≤ k := by omega
    have kk1 : (k : Int) < rs.length := by omega
    have hw2 : IntKind.i64.wrap ((ls.length : Int) - 1) = (ls.length : Int) - 1 := by rw [IntKind.wrap_i64]; omega
    clear hr hmem l3 c1 c2 hb
    go_wp2_with fail
    refine (sin_any leaf 0 ((ls.length : Int) - 1) _).mono ?_
    rintro e w3 ⟨rfl, rfl⟩
    by_cases hf : 0 ≤ leaf ∧ leaf ≤ (ls.length : Int) - 1
    · rw [decide_eq_true hf]
      obtain ⟨j, rfl⟩ : ∃ j : Nat, leaf = j := ⟨leaf.toNat, by omega⟩
      have hjl : j < ls.length := by omega
      obtain ⟨z, t, ht⟩ : ∃ z t, ls[j]? = some (z, t) := ⟨ls[j].1, ls[j].2, List.getElem?_eq_getElem hjl⟩
      obtain ⟨gl, lo, el, d1, d2⟩ := L3.out j (z, t) ht
      subst el
      simp only at d1 d2
      have RI := hide (read_in (t := (z, t)) HBR.out ht)
      have j0 : (0 : Int) ≤ j := by omega
      have j1 : (j : Int) < ls.length := by omega
      clear ht hf
      by_cases hz : z = 1
      · have HP : Hid (readF (rs.map tellOf) (k : Int) (j : Int) = (t, true)) := RI.out.1 hz
        have e1 : (z != 1) = false := by simp [hz]
        clear hz
        go_wp2
        go_ret2
        exact ⟨by rw [HP.out]; rfl, HB0.out⟩
      · have HP : Hid (readF (rs.map tellOf) (k : Int) (j : Int) = (⟨#[]⟩, false)) := RI.out.2 hz
        have e1 : (z != 1) = true := by simp [hz]
        clear hz
        go_wp2
        go_ret2
        exact ⟨by rw [HP.out]; rfl, HB0.out⟩
    · rw [decide_eq_false hf]
      have HP : Hid (readF (rs.map tellOf) (k : Int) leaf = (⟨#[]⟩, false)) := read_leaf_out HBR.out hf
      clear hf
      go_wp2
      go_ret2
      exact ⟨by rw [HP.out]; rfl, HB0.out⟩
  · rw [decide_eq_false hb]
    have HP : Hid (readF (rs.map tellOf) b leaf = (⟨#[]⟩, false)) := read_out (by rw [List.length_map]; exact hb)
    clear hb
    go_wp2
    go_ret2
    exact ⟨by rw [HP.out]; rfl, HB0.out⟩
end Go.Proofs.YtfmnaidhfgmemaaGreatDoor
