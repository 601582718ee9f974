/-
  IPartsOf; IBld
-/
import Derived.Test.YtcjgjkejhkhknaaIBegin
import Derived.Test.YtcjgjkejhkhknaaPq61
import Derived.Test.YtcjgjkejhkhknaaPq0
import Derived.Test.YtcjgjkejhkhknaaPq30
import Derived.Test.YtcjgjkejhkhknaaSReadRecs
import Derived.Lib.Builder
import Derived.Lib.Strings
import Derived.Lib.Slices
import Derived.Shelf.Strings.BuilderX
/-
  impl.partsOf.
-/
namespace Go.Proofs.Ytcjgjkejhkhknaa
open Go.RowKit
open Words

theorem FdRd.at8 {w : World} {a : Option Addr} {len : Nat} {ls : List Fnd} (h : FdRd w a len ls) {k : Nat} {t : Fnd} (hk : ls[k]? = some t) :
    ∃ b off, a = some ⟨b, off, none⟩ ∧ w.cell? ⟨b, off + k * 8, none⟩ = some (.int .i64 t.block) ∧ w.cell? ⟨b, off + k * 8 + 1, none⟩ = some (.int .i64 t.leaf) ∧
      w.cell? ⟨b, off + k * 8 + 2, none⟩ = some (.int .i64 t.page.kind) ∧ w.cell? ⟨b, off + k * 8 + 3, none⟩ = some (.int .i64 t.page.seq) ∧ w.cell? ⟨b, off + k * 8 + 4, none⟩ = some (.int .i64 t.page.tx) ∧
      w.cell? ⟨b, off + k * 8 + 5, none⟩ = some (.int .i64 t.page.part) ∧ w.cell? ⟨b, off + k * 8 + 6, none⟩ = some (.int .i64 t.page.count) ∧ w.cell? ⟨b, off + k * 8 + 7, none⟩ = some (.string t.page.text) := by
  obtain ⟨b, off, e, -, c0, c1, c2, c3, c4, c5, c6, c7⟩ := h.at hk
  exact ⟨b, off, e, c0, c1, c2, c3, c4, c5, c6, c7⟩

set_option maxHeartbeats 2000000 in
set_option maxRecDepth 100000 in
theorem ipartsOf (ad : Option Addr) (len cap : Nat) (M : List Fnd) (w : World) (hl : len ≤ 1048576) (h : FdRd w ad len M) :
    Calls Try.prog 69 #[.slice ad len cap] w fun e w' => ∃ G, e = .returned (.map (some w.heap.size)) ∧ PM w.heap.size w' w.heap.size G ∧ OutA (M.map Fnd.page) (M.map Fnd.page) G ∧ Below w.heap.size w w' := by
  have HR := hide h
  have HN := hide (show M.length = len from h.1)
  clear h
  obtain ⟨ps, hps⟩ : ∃ ps, M.map Fnd.page = ps := ⟨_, rfl⟩
  rw [hps]
  have HP := hide hps
  have HPL : Hid (ps.length = len) := by show _ = _; rw [← hps, List.length_map]; exact HN.out
  clear hps
  have hmm := @run_makeMap Try.prog
  have P0 := hide (PM.start w)
  have B0 := hide ((Below.refl w.heap.size w).alloc (Nat.le_refl _) (.map #[] 0))
  have O0 : Hid (OutB (ps.take 0) []) := OutB.nil
  go_enter Try.func69, Try.ntmps69
  go_wp2
  clear hmm
  generalize w.alloc (.map #[] 0) = wa at P0 B0 ⊢
  go_loopw [11] (fun iv wr => ∃ (k : Nat) (G : Gm), k ≤ len ∧ iv = .int .i64 k ∧ Hid (PM w.heap.size wr w.heap.size G) ∧ Hid (OutB (ps.take k) G) ∧ Hid (Below w.heap.size w wr)) (fun iv _ => len - (intOf iv).toNat)
  case atStart => exact ⟨0, [], Nat.zero_le _, rfl, P0, O0, B0⟩
  case round =>
    obtain ⟨k, G, hk, rfl, P, O, BW⟩ := hrel
    clear P0 O0 B0
    by_cases hlt : (k : Int) < len
    · have hkl : k < M.length := by have := HN.out; omega
      obtain ⟨x, hx⟩ : ∃ x, M[k]? = some x := ⟨_, List.getElem?_eq_getElem hkl⟩
      have hpm : ps[k]? = some x.page := by rw [← HP.out, List.getElem?_map, hx]; rfl
      obtain ⟨rb, ro, rfl, c0, c1, c2, c3, c4, c5, c6, c7⟩ := (HR.out.below BW.out).at8 hx
      have HX := hide hpm
      clear hx hpm hkl
      obtain ⟨xb, xl, pg⟩ := x
      simp only at c0 c1 c2 c3 c4 c5 c6 c7 HX
      have k0 : (0 : Int) ≤ k := by omega
      have bA := (Below.refl wr.heap.size wr).alloc (Nat.le_refl _) (.cells #[.int .i64 xb, .int .i64 xl, .int .i64 pg.kind, .int .i64 pg.seq, .int .i64 pg.tx, .int .i64 pg.part, .int .i64 pg.count, .string pg.text] 72)
      have P1 := hide (P.out.below bA)
      have B1 := hide (BW.out.trans (bA.mono BW.out.size))
      have CB := hide (ibegin w.heap.size w.heap.size G (ps.take k) pg _ P1.out O.out)
      unfold pgVal at CB
      clear bA P BW O
      go_wp2_with fail
      generalize wr.alloc (.cells #[.int .i64 xb, .int .i64 xl, .int .i64 pg.kind, .int .i64 pg.seq, .int .i64 pg.tx, .int .i64 pg.part, .int .i64 pg.count, .string pg.text] 72) = wb at P1 B1 CB ⊢
      refine CB.out.mono ?_
      rintro e w1 ⟨rfl, G', p1, o1, b1⟩
      have P2 := hide p1
      have B2 := hide (B1.out.trans b1)
      have O2 := hide o1
      rw [show ps.take k ++ [pg] = ps.take (k + 1) by rw [List.take_add_one, HX.out]; rfl] at O2
      clear p1 o1 b1 CB P1 B1 c0 c1 c2 c3 c4 c5 c6 c7
      go_wp2
      go_roundw
      case rel => exact ⟨k + 1, G', by omega, by go_num, P2, O2, B2⟩
      case measure => simp [intOf]; omega
    · have hke : ps.take k = ps := List.take_of_length_le (by have := HPL.out; omega)
      rw [hke] at O
      have A0 : Hid (OutA ps (ps.take 0) G) := O.out.outA
      clear hke O
      go_wp2
      go_loopw [22] (fun iv wr => ∃ (k : Nat) (G : Gm), k ≤ len ∧ iv = .int .i64 k ∧ Hid (PM w.heap.size wr w.heap.size G) ∧ Hid (OutA ps (ps.take k) G) ∧ Hid (Below w.heap.size w wr)) (fun iv _ => len - (intOf iv).toNat)
      case atStart => exact ⟨0, G, Nat.zero_le _, rfl, P, A0, BW⟩
      case round =>
        obtain ⟨j, H, hj, rfl, Q, O, BJ⟩ := hrel
        clear P A0 BW
        by_cases hlt2 : (j : Int) < len
        · have hjl : j < M.length := by have := HN.out; omega
          obtain ⟨x, hx⟩ : ∃ x, M[j]? = some x := ⟨_, List.getElem?_eq_getElem hjl⟩
          have hpm : ps[j]? = some x.page := by rw [← HP.out, List.getElem?_map, hx]; rfl
          obtain ⟨rb, ro, rfl, c0, c1, c2, c3, c4, c5, c6, c7⟩ := (HR.out.below BJ.out).at8 hx
          have HX := hide hpm
          clear hx hpm hjl
          obtain ⟨xb, xl, pg⟩ := x
          simp only at c0 c1 c2 c3 c4 c5 c6 c7 HX
          have j0 : (0 : Int) ≤ j := by omega
          have bA := (Below.refl wr.heap.size wr).alloc (Nat.le_refl _) (.cells #[.int .i64 xb, .int .i64 xl, .int .i64 pg.kind, .int .i64 pg.seq, .int .i64 pg.tx, .int .i64 pg.part, .int .i64 pg.count, .string pg.text] 72)
          have P1 := hide (Q.out.below bA)
          have B1 := hide (BJ.out.trans (bA.mono BJ.out.size))
          have CB := hide (iadd w.heap.size w.heap.size H ps (ps.take j) pg _ P1.out O.out)
          unfold pgVal at CB
          clear bA Q BJ O
          go_wp2_with fail
          generalize wr.alloc (.cells #[.int .i64 xb, .int .i64 xl, .int .i64 pg.kind, .int .i64 pg.seq, .int .i64 pg.tx, .int .i64 pg.part, .int .i64 pg.count, .string pg.text] 72) = wb at P1 B1 CB ⊢
          refine CB.out.mono ?_
          rintro e w1 ⟨rfl, G', p1, o1, b1⟩
          have P2 := hide p1
          have B2 := hide (B1.out.trans b1)
          have O2 := hide o1
          rw [show ps.take j ++ [pg] = ps.take (j + 1) by rw [List.take_add_one, HX.out]; rfl] at O2
          clear p1 o1 b1 CB P1 B1 c0 c1 c2 c3 c4 c5 c6 c7
          go_wp2
          go_roundw
          case rel => exact ⟨j + 1, G', by omega, by go_num, P2, O2, B2⟩
          case measure => simp [intOf]; omega
        · have hje : ps.take j = ps := List.take_of_length_le (by have := HPL.out; omega)
          rw [hje] at O
          clear hje
          go_wp2
          go_ret
          exact ⟨rfl, H, Q.out, O.out, BJ.out⟩
end Go.Proofs.Ytcjgjkejhkhknaa

/-
  strings.Builder: WriteString onto a builder of the call's own.
-/
namespace Go.Proofs.Ytcjgjkejhkhknaa
open Go.RowKit

theorem bldSize : (Try.prog.info? 177).map (·.size) = some 2 := by kernel_rfl
theorem bldLies : liesAt Try.prog Try.prog.depth 177 (2 / Try.prog.cellsOf 177) 0 177 1 = true := by kernel_rfl
theorem bldByte : (Try.prog.info? 5).map (fun i => (i.zero, i.size, i.bytes)) = some (some (.int .u8 0), 1, 1) := by kernel_rfl

set_option maxHeartbeats 1000000 in
set_option maxRecDepth 100000 in
theorem bldUsed (b : Nat) (w : World) (h0 : w.cell? ⟨b, 0, none⟩ = some (.pointer (some ⟨b, 0, none⟩))) :
    Calls Try.prog 139 #[.pointer (some ⟨b, 0, none⟩)] w fun e w' => e = .returned (.tuple #[]) ∧ w' = w := by
  obtain ⟨j, hj, -⟩ := Option.map_eq_some_iff.1 bldSize
  have hq := Lib.run_neq_ptr_same w ⟨b, 0, none⟩ Try.underlying175 hj
  clear hj
  go_enter Try.func139, Try.ntmps139
  go_wp2
  go_end0
  exact ⟨rfl, rfl⟩

set_option maxHeartbeats 1000000 in
set_option maxRecDepth 100000 in
theorem bldFresh (b : Nat) (w : World) (h0 : w.cell? ⟨b, 0, none⟩ = some (.pointer none)) (hsh : w.shape? b = some (177, 2)) (hfz : w.frozen? ⟨b, 0, none⟩ = false) :
    Calls Try.prog 139 #[.pointer (some ⟨b, 0, none⟩)] w fun e w' => e = .returned (.tuple #[]) ∧ w' = w.setCell ⟨b, 0, none⟩ (.pointer (some ⟨b, 0, none⟩)) := by
  obtain ⟨j, hj, hjs⟩ := Option.map_eq_some_iff.1 bldSize
  have q1 : (convert 175 218 (.pointer (some ⟨b, 0, none⟩))).run Try.prog w = .ok (.pointer (some ⟨b, 0, none⟩)) w := by
    simp [convert, run_underlying Try.underlying175, run_underlying Try.underlying218]
    show Sem.run Try.prog (underlying 175 >>= _) w = _
    simp [run_underlying Try.underlying175, run_underlying Try.underlying218, Conv.seenAt, viewAt, cellsIn, hsh, sizeOf, typeInfo, hj, hjs]
  have q2 : (convert 218 175 (.pointer (some ⟨b, 0, none⟩))).run Try.prog w = .ok (.pointer (some ⟨b, 0, none⟩)) w := by
    have hl := bldLies
    simp [convert, run_underlying Try.underlying175, run_underlying Try.underlying218]
    show Sem.run Try.prog (underlying 218 >>= _) w = _
    simp [run_underlying Try.underlying175, run_underlying Try.underlying218, Conv.seenAt, viewAt, hsh, variablesAt, hl, sizeOf, typeInfo, hj]
  clear hj
  go_enter Try.func139, Try.ntmps139
  go_wp2
  rw [run_callFunc_extern Try.func150 (by kernel_rfl) (by kernel_rfl) (by kernel_rfl) (e := Extern.AbiNoEscape.same) (by kernel_rfl)]
  rw [Lib.run_noEscape]
  simp only [Result.andThen]
  rw [Oper.upon_value]
  go_wp2
  go_end0
  exact ⟨rfl, rfl⟩

/-- A builder of the call's own that holds these bytes. -/
def Bld (B b : Nat) (l : List UInt8) (w : World) : Prop := Lib.IsBuilder 177 5 B b (Lib.byteCells l) w
theorem Bld.fresh {w : World} {B b : Nat} (hB : B ≤ b) (h : w.heap[b]? = some (.cells #[.pointer none, .slice none 0 0] 177 (0, 0))) : Bld B b [] w :=
  .inl ⟨hB, .slice none 0 0, h, World.ownsRow_nil _ _ _ _, by simp [Value.ownBlock]⟩
theorem BldAt.kept {w w' : World} {T e : TypeId} {B b : Nat} {p : Value} {bs : List Value} (h : Lib.BuilderAt T e B b p bs w) (hk : ∀ i, B ≤ i → i < w.heap.size → w'.heap[i]? = w.heap[i]?) : Lib.BuilderAt T e B b p bs w' := by
  obtain ⟨h1, v, h2, h3, h4⟩ := h
  exact ⟨h1, v, (hk b h1 (Array.getElem?_eq_some_iff.1 h2).1).trans h2, own_kept h3 (fun i hi hb => hk i (h3.lt i hb).1 hi), h4⟩
theorem Bld.kept {w w' : World} {B b : Nat} {l : List UInt8} (h : Bld B b l w) (hk : ∀ i, B ≤ i → i < w.heap.size → w'.heap[i]? = w.heap[i]?) : Bld B b l w' := by
  rcases h with h | h
  · exact .inl (BldAt.kept h hk)
  · exact .inr (BldAt.kept h hk)
theorem Bld.lt {w : World} {B b : Nat} {l : List UInt8} (h : Bld B b l w) : B ≤ b ∧ b < w.heap.size := by
  rcases h with h | h
  · exact ⟨h.1, h.lt⟩
  · exact ⟨h.1, h.lt⟩

set_option maxHeartbeats 2000000 in
set_option maxRecDepth 100000 in
theorem bldWrite (B b : Nat) (l : List UInt8) (s : ByteArray) (w : World) (h : Bld B b l w) (hl : l.length + s.size ≤ 1048576) :
    Calls Try.prog 119 #[.pointer (some ⟨b, 0, none⟩), .string s] w fun e w' => e = .returned (.tuple #[.int .i64 s.size, .nilIface]) ∧ Bld B b (l ++ s.data.toList) w' ∧ Below B w w' := by
  have hlt := h.lt
  have C : Hid (Calls Try.prog 139 #[.pointer (some ⟨b, 0, none⟩)] w fun e w' => e = .returned (.tuple #[]) ∧ Lib.BuilderAt 177 5 B b (.pointer (some ⟨b, 0, none⟩)) (Lib.byteCells l) w' ∧ Below B w w') := by
    rcases h with h | h
    · refine (bldFresh b w h.cell0 h.shape h.frozen0).mono ?_
      rintro e w' ⟨rfl, rfl⟩
      exact ⟨rfl, h.used _, (Below.refl B w).setCell (p := ⟨b, 0, none⟩) h.1 _⟩
    · refine (bldUsed b w h.cell0).mono ?_
      rintro e w' ⟨rfl, rfl⟩
      exact ⟨rfl, h, Below.refl B _⟩
  have hlc : (Lib.byteCells l).length = l.length := by simp [Lib.byteCells]
  obtain ⟨i0, hi, hz0, hz1, hz2⟩ := info_parts bldByte
  have I0 := hide hi
  have Z0 := hide hz0
  have Z1 := hide hz1
  have Z2 := hide hz2
  clear h hi hz0 hz1 hz2
  go_enter Try.func119, Try.ntmps119
  go_wp2_with fail
  refine C.out.mono ?_
  rintro e w1 ⟨rfl, h1, hb1⟩
  obtain ⟨hB, v, hbk, hown, hne⟩ := h1
  rw [hlc] at hown
  have c1 : w1.cell? ⟨b, 1, none⟩ = some v := by rw [Lib.cell_of_heap hbk]; rfl
  have HB1 := hide hb1
  have HBK := hide hbk
  have HOW := hide hown
  have HNE := hide hne
  have hsz1 := hb1.size
  clear C hb1 hbk hown hne
  go_wp2_with (at_builtin; refine Lib.wpList_append_own_string _ rfl _ _ 22 9 rfl B 5 i0 Try.underlying22 Try.underlying9 I0.out Z0.out Z1.out Z2.out _ _ _ rfl HOW.out s rfl ?c3 ?c4 ?c5 ?_)
  case c3 => unfold maxLen; omega
  case c4 => omega
  case c5 => omega
  intro v' w2 hown' hgrow _
  have hb2 : w2.heap[b]? = some (.cells #[.pointer (some ⟨b, 0, none⟩), v] 177 (0, 0)) := (hgrow.block b (Array.getElem?_eq_some_iff.1 HBK.out).1 (fun e => HNE.out e.symm)).trans HBK.out
  have d1 : w2.cell? ⟨b, 1, none⟩ = some v := by rw [Lib.cell_of_heap hb2]; rfl
  have f1 : w2.frozen? ⟨b, 1, none⟩ = false := Lib.frozen_of_heap hb2 1
  obtain ⟨ao, n', cap, rfl⟩ : ∃ ao n' cap, v' = .slice ao n' cap := by
    rcases hown'.2 with ⟨hv, _⟩ | ⟨g, cap, cur, hv, _⟩
    · exact ⟨_, _, _, hv⟩
    · exact ⟨_, _, _, hv⟩
  have R1 : Hid (Bld B b (l ++ s.data.toList) (w2.setCell ⟨b, 1, none⟩ (.slice ao n' cap))) := by
    refine .inr (Lib.BuilderAt.put hlt.1 hb2 ?_ (by decide))
    have e1 : Lib.byteCells (l ++ s.data.toList) = Lib.byteCells l ++ Lib.strCells s := by simp [Lib.byteCells, Lib.strCells]
    rw [e1, List.length_append, Lib.strCells_length, hlc]
    exact hown'
  have R2 : Hid (Below B w (w2.setCell ⟨b, 1, none⟩ (.slice ao n' cap))) := (HB1.out.grown hgrow (by omega) (fun k hk => (HOW.out.lt k hk).1)).setCell (p := ⟨b, 1, none⟩) hlt.1 _
  clear hown' hgrow HOW HNE HBK HB1 hb2 I0 Z0 Z1 Z2 c1
  go_wp2
  go_ret2
  exact ⟨rfl, R1.out, R2.out⟩
theorem bldString (B b : Nat) (l : List UInt8) (w : World) (h : Bld B b l w) : Calls Try.prog 121 #[.pointer (some ⟨b, 0, none⟩)] w fun e w' => e = .returned (.string ⟨l.toArray⟩) ∧ Below B w w' :=
  Try.Builder_String_any B b l w h (by have := h.lt; omega)
end Go.Proofs.Ytcjgjkejhkhknaa
