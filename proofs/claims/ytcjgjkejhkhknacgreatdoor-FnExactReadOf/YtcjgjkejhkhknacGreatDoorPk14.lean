/-
  ToSto; OpenF; FMark
-/
import Derived.Test.YtcjgjkejhkhknacGreatDoorPk13
import Derived.Test.YtcjgjkejhkhknacGreatDoorPk7
import Derived.ProofKit
import Derived.OpenShut
import Derived.ShutString
import Derived.Deep.Strs
import Derived.Deep.Slices
import Derived.Test.YtcjgjkejhkhknacGreatDoorPk0
namespace Go.Proofs.YtcjgjkejhkhknacGreatDoor
open Go.RowKit
open Words
theorem Tk.setC {w wi : World} {hs hs' : List Hold} {lo hi b : Nat} {cs cs' : Array Value} {t : TypeId} (h : Tk w wi hs) (n : Nat) (hn : hs[n]? = some (lo, hi, Cel b cs t)) (hb : w.heap.size ≤ b) (k : Nat) (u : Value) (hc : cs.setIfInBounds k u = cs') (hh : ∀ x ∈ hs', x ∈ hs ∧ (x.2.1 ≤ b ∨ b + 1 ≤ x.1)) :
    Tk w (wi.setCell ⟨b, k, none⟩ u) ((b, b + 1, Cel b cs' t) :: hs') := by
  have hz : (wi.setCell ⟨b, k, none⟩ u).heap.size = wi.heap.size := by simp [World.setCell]
  have h0 : wi.heap[b]? = some (.cells cs t (0, 0)) := h.get n hn
  refine ⟨h.1.setCell (p := ⟨b, k, none⟩) hb u, fun x hx => ?_⟩
  rcases List.mem_cons.1 hx with rfl | hx
  · refine ⟨?_, Cel.loc _ _ _, ?_⟩
    · have := (Array.getElem?_eq_some_iff.1 h0).1
      show b + 1 ≤ _
      omega
    · subst hc
      exact heap_setCell_same _ _ k _ _ _ h0
  · obtain ⟨x1, x2⟩ := hh x hx
    obtain ⟨y1, y2, y3⟩ := h.2 x x1
    exact ⟨by omega, y2, y2 _ _ (fun g g1 g2 => Below.heap_setCell _ _ _ _ (show g ≠ b by omega)) y3⟩
set_option maxHeartbeats 1000000 in
set_option maxRecDepth 100000 in
theorem toSto_any (va : Option Addr) (vl vc : Nat) (ad : Option Addr) (len cap : Nat) (nx : Int) (vs : List (Int × Int)) (rs : List Kw) (w : World) (hvl : vl ≤ 1048576) (hl : len ≤ 1048576) (hll : ∀ r ∈ rs, r.2.2.length ≤ 1048576) (h : VlRow w va vl vs) (hk : KnRd w ad len rs) :
    Calls Tryz.prog 30 #[.agg #[.slice va vl vc, .slice ad len cap, .int .i64 nx]] w fun e w' => ∃ g1 g2 : Nat, e = .returned (.agg #[.slice (some ⟨g1, 0, none⟩) vl vl, .slice (some ⟨g2, 0, none⟩) len len, .int .i64 nx]) ∧ StOut w ⟨vs, rs.map ktell, nx⟩ (.agg #[.slice (some ⟨g1, 0, none⟩) vl vl, .slice (some ⟨g2, 0, none⟩) len len, .int .i64 nx]) w' := by
  have HVL := hide h.1
  have HL := hide hll
  have T0 := hide (Tk.three w #[.slice va vl vc, .slice ad len cap, .int .i64 nx] #[.slice none 0 0, .slice none 0 0, .int .i64 0] #[.slice none 0 0, .slice none 0 0, .int .i64 0] 37 52 52)
  have VB0 := hide h
  have KB0 := hide hk
  clear h hk hll
  go_enter Tryz.func30, Tryz.ntmps30
  go_wp2_with fail
  generalize ((w.alloc (.cells #[.slice va vl vc, .slice ad len cap, .int .i64 nx] 37)).alloc (.cells #[.slice none 0 0, .slice none 0 0, .int .i64 0] 52)).alloc (.cells #[.slice none 0 0, .slice none 0 0, .int .i64 0] 52) = wb at T0 ⊢
  refine (toVls_any va vl vc vs wb hvl (VB0.out.below T0.out.1)).mono ?_
  rintro e w1 ⟨g1, rfl, o1, b1⟩
  have hz0 := T0.out.hi 0 rfl
  have t1 := T0.out.add b1 (Sli.loc 99 wb.heap.size w1.heap.size (.slice (some ⟨g1, 0, none⟩) vl vl) vs.length (vlcells vs)) (Sli.of o1)
  have f1 : w1.frozen? ⟨w.heap.size + 1 + 1, 0, none⟩ = false := t1.fr 1 0 rfl
  have c1 : w1.cell? ⟨w.heap.size + 1 + 1, 0, none⟩ = some (.slice none 0 0) := t1.at 1 0 rfl rfl
  have T1 := hide (t1.setC 1 rfl (by omega) 0 (.slice (some ⟨g1, 0, none⟩) vl vl) (cs' := #[.slice (some ⟨g1, 0, none⟩) vl vl, .slice none 0 0, .int .i64 0]) rfl (hs' := [(wb.heap.size, w1.heap.size, Sli 99 wb.heap.size w1.heap.size (.slice (some ⟨g1, 0, none⟩) vl vl) vs.length (vlcells vs)), (w.heap.size + 1, w.heap.size + 1 + 1, Cel (w.heap.size + 1) #[.slice none 0 0, .slice none 0 0, .int .i64 0] 52), (w.heap.size, w.heap.size + 1, Cel w.heap.size #[.slice va vl vc, .slice ad len cap, .int .i64 nx] 37)]) (by
    intro x hx
    simp only [List.mem_cons, List.not_mem_nil, or_false] at hx
    rcases hx with rfl | rfl | rfl
    · exact ⟨by simp, .inr (by show _ ≤ _; omega)⟩
    · exact ⟨by simp, .inl (show w.heap.size + 1 + 1 ≤ w.heap.size + 1 + 1 from Nat.le_refl _)⟩
    · exact ⟨by simp, .inl (show w.heap.size + 1 ≤ w.heap.size + 1 + 1 by omega)⟩))
  have BB := hide b1
  have HZ0 := hide hz0
  clear t1 o1 b1 hz0
  have c2 : (w1.setCell ⟨w.heap.size + 1 + 1, 0, none⟩ (.slice (some ⟨g1, 0, none⟩) vl vl)).cell? ⟨w.heap.size, 1, none⟩ = some (.slice ad len cap) := T1.out.at 3 1 rfl rfl
  go_wp2_with fail
  generalize w1.setCell ⟨w.heap.size + 1 + 1, 0, none⟩ (.slice (some ⟨g1, 0, none⟩) vl vl) = w2 at T1 c2 ⊢
  clear f1 c1 c2
  refine (toAr_any ad len cap rs w2 hl HL.out (KB0.out.below T1.out.1)).mono ?_
  rintro e w3 ⟨g2, ss, rfl, hx, ht, b3⟩
  have t3 := T1.out.add b3 (Kns.loc w2.heap.size w3.heap.size (.slice (some ⟨g2, 0, none⟩) len len) (rs.map ktell)) ⟨ss, ht, hx.kns⟩
  have hz2 : Hid (w1.heap.size ≤ w2.heap.size) := T1.out.hi 1 rfl
  have hz1 : Hid (wb.heap.size ≤ w1.heap.size) := BB.out.size
  have f3 : w3.frozen? ⟨w.heap.size + 1 + 1, 1, none⟩ = false := t3.fr 1 1 rfl
  have c3 : w3.cell? ⟨w.heap.size + 1 + 1, 1, none⟩ = some (.slice none 0 0) := t3.at 1 1 rfl rfl
  have t4 := t3.setC 1 rfl (by omega) 1 (.slice (some ⟨g2, 0, none⟩) len len) (cs' := #[.slice (some ⟨g1, 0, none⟩) vl vl, .slice (some ⟨g2, 0, none⟩) len len, .int .i64 0]) rfl (hs' := [(w2.heap.size, w3.heap.size, Kns w2.heap.size w3.heap.size (.slice (some ⟨g2, 0, none⟩) len len) (rs.map ktell)), (wb.heap.size, w1.heap.size, Sli 99 wb.heap.size w1.heap.size (.slice (some ⟨g1, 0, none⟩) vl vl) vs.length (vlcells vs)), (w.heap.size + 1, w.heap.size + 1 + 1, Cel (w.heap.size + 1) #[.slice none 0 0, .slice none 0 0, .int .i64 0] 52), (w.heap.size, w.heap.size + 1, Cel w.heap.size #[.slice va vl vc, .slice ad len cap, .int .i64 nx] 37)]) (by
    intro x hx
    have h0 := HZ0.out
    have h1 := hz1.out
    have h2 := hz2.out
    simp only [List.mem_cons, List.not_mem_nil, or_false] at hx
    rcases hx with rfl | rfl | rfl | rfl
    · exact ⟨by simp, .inr (by show _ ≤ _; omega)⟩
    · exact ⟨by simp, .inr (by show _ ≤ _; omega)⟩
    · exact ⟨by simp, .inl (show w.heap.size + 1 + 1 ≤ w.heap.size + 1 + 1 from Nat.le_refl _)⟩
    · exact ⟨by simp, .inl (show w.heap.size + 1 ≤ w.heap.size + 1 + 1 by omega)⟩)
  have T4 := hide t4
  clear t3 t4 T1
  generalize HW4 : w3.setCell ⟨w.heap.size + 1 + 1, 1, none⟩ (.slice (some ⟨g2, 0, none⟩) len len) = w4 at T4
  have c4 : w4.cell? ⟨w.heap.size, 2, none⟩ = some (.int .i64 nx) := T4.out.at 4 2 rfl rfl
  have f4 : w4.frozen? ⟨w.heap.size + 1 + 1, 2, none⟩ = false := T4.out.fr 0 2 rfl
  have d4 : w4.cell? ⟨w.heap.size + 1 + 1, 2, none⟩ = some (.int .i64 0) := T4.out.at 0 2 rfl rfl
  have t5 := T4.out.setC 0 rfl (by omega) 2 (.int .i64 nx) (cs' := #[.slice (some ⟨g1, 0, none⟩) vl vl, .slice (some ⟨g2, 0, none⟩) len len, .int .i64 nx]) rfl (hs' := [(w2.heap.size, w3.heap.size, Kns w2.heap.size w3.heap.size (.slice (some ⟨g2, 0, none⟩) len len) (rs.map ktell)), (wb.heap.size, w1.heap.size, Sli 99 wb.heap.size w1.heap.size (.slice (some ⟨g1, 0, none⟩) vl vl) vs.length (vlcells vs)), (w.heap.size + 1, w.heap.size + 1 + 1, Cel (w.heap.size + 1) #[.slice none 0 0, .slice none 0 0, .int .i64 0] 52)]) (by
    intro x hx
    have h0 := HZ0.out
    have h1 := hz1.out
    have h2 := hz2.out
    simp only [List.mem_cons, List.not_mem_nil, or_false] at hx
    rcases hx with rfl | rfl | rfl
    · exact ⟨by simp, .inr (by show _ ≤ _; omega)⟩
    · exact ⟨by simp, .inr (by show _ ≤ _; omega)⟩
    · exact ⟨by simp, .inl (show w.heap.size + 1 + 1 ≤ w.heap.size + 1 + 1 from Nat.le_refl _)⟩)
  have T5 := hide t5
  clear t5 T4
  generalize HW5 : w4.setCell ⟨w.heap.size + 1 + 1, 2, none⟩ (.int .i64 nx) = w5 at T5
  have e0 : w5.cell? ⟨w.heap.size + 1 + 1, 0, none⟩ = some (.slice (some ⟨g1, 0, none⟩) vl vl) := T5.out.at 0 0 rfl rfl
  have e1 : w5.cell? ⟨w.heap.size + 1 + 1, 1, none⟩ = some (.slice (some ⟨g2, 0, none⟩) len len) := T5.out.at 0 1 rfl rfl
  have e2 : w5.cell? ⟨w.heap.size + 1 + 1, 2, none⟩ = some (.int .i64 nx) := T5.out.at 0 2 rfl rfl
  have k0 : w5.cell? ⟨w.heap.size + 1, 0, none⟩ = some (.slice none 0 0) := T5.out.at 3 0 rfl rfl
  have k1 : w5.cell? ⟨w.heap.size + 1, 1, none⟩ = some (.slice none 0 0) := T5.out.at 3 1 rfl rfl
  have k2 : w5.cell? ⟨w.heap.size + 1, 2, none⟩ = some (.int .i64 0) := T5.out.at 3 2 rfl rfl
  have j0 : w5.frozen? ⟨w.heap.size + 1, 0, none⟩ = false := T5.out.fr 3 0 rfl
  have j1 : w5.frozen? ⟨w.heap.size + 1, 1, none⟩ = false := T5.out.fr 3 1 rfl
  have j2 : w5.frozen? ⟨w.heap.size + 1, 2, none⟩ = false := T5.out.fr 3 2 rfl
  have R5 := hide (sto_row3 (a := .slice (some ⟨g1, 0, none⟩) vl vl) (b := .slice (some ⟨g2, 0, none⟩) len len) (c := .int .i64 nx) (T5.out.get 3 rfl))
  have FIN : Hid (StOut w ⟨vs, rs.map ktell, nx⟩ (.agg #[.slice (some ⟨g1, 0, none⟩) vl vl, .slice (some ⟨g2, 0, none⟩) len len, .int .i64 nx]) (((w5.setCell ⟨w.heap.size + 1, 0, none⟩ (.slice (some ⟨g1, 0, none⟩) vl vl)).setCell ⟨w.heap.size + 1, 1, none⟩ (.slice (some ⟨g2, 0, none⟩) len len)).setCell ⟨w.heap.size + 1, 2, none⟩ (.int .i64 nx))) := by
    have h0 := HZ0.out
    have h1 := hz1.out
    have h2 := hz2.out
    have h3 := T5.out.hi 1 rfl
    have h4 := T5.out.hi 2 rfl
    exact st_fin (s := ⟨vs, rs.map ktell, nx⟩) (by omega) (T5.out.get 2 rfl) (T5.out.get 1 rfl) ⟨by omega, .inr (by omega)⟩ ⟨by omega, .inr (by omega)⟩ h4 h3 (.inl (by omega)) T5.out.1
  subst HW5
  subst HW4
  clear T5 T0
  go_wp2
  exact bodyPost_ret (results_cell_row rfl _ _ (w.heap.size + 1) 52 _ (0, 0) _ rfl R5.out Tryz.underlying52 rfl infoSto) rfl ⟨_, _, rfl, FIN.out⟩
end Go.Proofs.YtcjgjkejhkhknacGreatDoor

namespace Go.Proofs.YtcjgjkejhkhknacGreatDoor
open Go.ChangeShapes Go.WideShapes Go.ChangeAt Go.RowKit Go.Deep
set_option maxRecDepth 100000
def LfRow (w : World) (a : Option Addr) (len : Nat) (ls : List (Int × ByteArray)) : Prop :=
  ls.length = len ∧ len ≤ maxLen ∧ (∀ t ∈ ls, t.2.size ≤ maxLen) ∧ (0 < len → ∃ b off, a = some ⟨b, off, none⟩ ∧ b < w.heap.size ∧ ∀ i t, ls[i]? = some t →
    w.cell? ⟨b, off + i * 2, none⟩ = some (.int .i64 t.1) ∧ w.cell? ⟨b, off + i * 2 + 1, none⟩ = some (.string t.2))
def BkOne (w : World) (r : Rw) : Prop := ∃ a n cap, r.2.2.1 = .slice a n cap ∧ LfRow w a n r.2.2.2
def BkRow (w : World) (a : Option Addr) (len : Nat) (rs : List Rw) : Prop :=
  rs.length = len ∧ len ≤ maxLen ∧ (∀ r ∈ rs, BkOne w r) ∧ (0 < len → ∃ b off, a = some ⟨b, off, none⟩ ∧ b < w.heap.size ∧ ∀ i r, rs[i]? = some r →
    w.cell? ⟨b, off + i * 3, none⟩ = some (.bool r.1) ∧ w.cell? ⟨b, off + i * 3 + 1, none⟩ = some (.int .i64 r.2.1) ∧ w.cell? ⟨b, off + i * 3 + 2, none⟩ = some r.2.2.1)
theorem LfRow.below {w w' : World} {a : Option Addr} {len : Nat} {ls : List (Int × ByteArray)} (h : LfRow w a len ls) (hb : Below w.heap.size w w') : LfRow w' a len ls := by
  refine ⟨h.1, h.2.1, h.2.2.1, fun h0 => ?_⟩
  obtain ⟨b, off, e, hlt, hc⟩ := h.2.2.2 h0
  refine ⟨b, off, e, Nat.lt_of_lt_of_le hlt hb.size, fun i t ht => ?_⟩
  have := hc i t ht
  rw [hb.cell (p := ⟨b, _, none⟩) hlt, hb.cell (p := ⟨b, _, none⟩) hlt]
  exact this
theorem BkOne.below {w w' : World} {r : Rw} (h : BkOne w r) (hb : Below w.heap.size w w') : BkOne w' r := by
  obtain ⟨a, n, cap, e, hl⟩ := h
  exact ⟨a, n, cap, e, hl.below hb⟩
theorem BkRow.below {w w' : World} {a : Option Addr} {len : Nat} {rs : List Rw} (h : BkRow w a len rs) (hb : Below w.heap.size w w') : BkRow w' a len rs := by
  refine ⟨h.1, h.2.1, fun r hr => (h.2.2.1 r hr).below hb, fun h0 => ?_⟩
  obtain ⟨b, off, e, hlt, hc⟩ := h.2.2.2 h0
  refine ⟨b, off, e, Nat.lt_of_lt_of_le hlt hb.size, fun i t ht => ?_⟩
  have := hc i t ht
  rw [hb.cell (p := ⟨b, _, none⟩) hlt, hb.cell (p := ⟨b, _, none⟩) hlt, hb.cell (p := ⟨b, _, none⟩) hlt]
  exact this
section
variable {H : Type} {enc : TypeId × Value → H} {w : World} {base : Nat} {sp : Nat → Bool} {held : Bool}
theorem fcells9 : Tryz.prog.cellsOf 9 = 1 := by kernel_rfl
theorem fcells3 : Tryz.prog.cellsOf 3 = 1 := by kernel_rfl
theorem fcells4 : Tryz.prog.cellsOf 4 = 1 := by kernel_rfl
theorem fcellsLs : Tryz.prog.cellsOf 138 = 1 := by kernel_rfl
theorem fcellsLf : Tryz.prog.cellsOf 208 = 2 := by kernel_rfl
theorem fcellsBk : Tryz.prog.cellsOf 140 = 3 := by kernel_rfl
theorem faddr_off (b off j : Nat) : (⟨b, off, none⟩ : Addr).add j = ⟨b, off + j, none⟩ := by
  simp only [Addr.add]
  split <;> simp_all
theorem open_leaves {fuel : Nat} {cs : List Value} {x : DataW H × List MemPlace} (hf : DataW.trod enc Tryz.prog w base sp held fuel 138 cs = some x) : ∃ a len cap ls, cs = [.slice a len cap] ∧ LfRow w a len ls := by
  rcases open_slice Tryz.underlying138 hf with ⟨hcs, _⟩ | ⟨x, len, c, m, n, D, Pl, hcs, _, hl, hm, hmm, _, hx⟩
  · exact ⟨none, 0, 0, [], hcs, rfl, by omega, by simp, fun h => by omega⟩
  · have hlm : len ≤ m := by rw [hmm]; split <;> omega
    have each : ∀ i, i < len → ∃ t : Int × ByteArray, w.cell? (x.add (i * 2)) = some (.int .i64 t.1) ∧ w.cell? (x.add (i * 2 + 1)) = some (.string t.2) ∧ t.2.size ≤ maxLen := by
      intro i hi
      obtain ⟨cs, h1, h2⟩ := hx i (by omega)
      rw [fcellsLf] at h1
      obtain ⟨_, hlen, hcell⟩ := World.cells?_some h1
      obtain ⟨y0, y1, k, _, _, g0, g1⟩ := trod_struct2 Tryz.underlying208 h2
      simp only [fcells9, fcells3] at g0 g1
      match cs, hlen with
      | [u, v], _ =>
        obtain ⟨p, e0, _, _⟩ := DataW.trod_int Tryz.underlying3 g0
        obtain ⟨s, e1, _, hs⟩ := DataW.trod_string Tryz.underlying9 g1
        simp at e0 e1
        subst e0 e1
        have f0 := hcell 0 (by simp)
        have f1 := hcell 1 (by simp)
        rw [add_add] at f0 f1
        exact ⟨(p, s), by simpa using f0, by simpa using f1, hs⟩
    obtain ⟨f, hq⟩ := choose_lt each
    refine ⟨some x, len, c, (List.range len).map f, hcs, by simp, by omega, ?_, fun h0 => ?_⟩
    · intro t ht
      obtain ⟨i, hi, rfl⟩ := List.mem_map.1 ht
      exact (hq i (List.mem_range.1 hi)).2.2
    · obtain ⟨b, off, spot⟩ := x
      have hspot : spot = none := by simpa [Addr.add] using World.cell?_spot (hq 0 h0).1
      subst hspot
      refine ⟨b, off, rfl, ?_, fun i t hi => ?_⟩
      · have := World.block_lt_of_cell? w _ (hq 0 h0).1
        rw [faddr_off] at this
        exact this
      · obtain ⟨hi1, hi2⟩ := List.getElem?_eq_some_iff.1 hi
        have hil : i < len := by simpa using hi1
        have ht : t = f i := by rw [← hi2]; simp
        subst ht
        have := hq i hil
        rw [faddr_off, faddr_off] at this
        exact ⟨this.1, this.2.1⟩
theorem open_block {fuel : Nat} {cs : List Value} {x : DataW H × List MemPlace} (hf : DataW.trod enc Tryz.prog w base sp held fuel 140 cs = some x) : ∃ r : Rw, cs = [.bool r.1, .int .i64 r.2.1, r.2.2.1] ∧ BkOne w r := by
  obtain ⟨y0, y1, y2, k, _, hlen, g0, g1, g2⟩ := trod_struct3 Tryz.underlying140 hf
  simp only [fcells4, fcells3, fcellsLs] at g0 g1 g2
  rw [fcellsBk] at hlen
  match cs, hlen with
  | [u, v, z], _ =>
    obtain ⟨p, e0, _⟩ := DataW.trod_bool Tryz.underlying4 g0
    obtain ⟨q, e1, _, _⟩ := DataW.trod_int Tryz.underlying3 g1
    obtain ⟨a, n, cap, ls, e2, hl⟩ := open_leaves g2
    simp at e0 e1 e2
    subst e0 e1 e2
    exact ⟨(p, q, .slice a n cap, ls), rfl, a, n, cap, rfl, hl⟩
theorem open_blocks {fuel : Nat} {cs : List Value} {x : DataW H × List MemPlace} (hf : DataW.trod enc Tryz.prog w base sp held fuel 29 cs = some x) : ∃ a len cap rs, cs = [.slice a len cap] ∧ BkRow w a len rs := by
  rcases open_slice Tryz.underlying29 hf with ⟨hcs, _⟩ | ⟨x, len, c, m, n, D, Pl, hcs, _, hl, hm, hmm, _, hx⟩
  · exact ⟨none, 0, 0, [], hcs, rfl, by omega, by simp, fun h => by omega⟩
  · have hlm : len ≤ m := by rw [hmm]; split <;> omega
    have each : ∀ i, i < len → ∃ r : Rw, w.cell? (x.add (i * 3)) = some (.bool r.1) ∧ w.cell? (x.add (i * 3 + 1)) = some (.int .i64 r.2.1) ∧ w.cell? (x.add (i * 3 + 2)) = some r.2.2.1 ∧ BkOne w r := by
      intro i hi
      obtain ⟨cs, h1, h2⟩ := hx i (by omega)
      rw [fcellsBk] at h1
      obtain ⟨_, hlen, hcell⟩ := World.cells?_some h1
      obtain ⟨r, rfl, hr⟩ := open_block h2
      have f0 := hcell 0 (by simp)
      have f1 := hcell 1 (by simp)
      have f2 := hcell 2 (by simp)
      rw [add_add] at f0 f1 f2
      exact ⟨r, by simpa using f0, by simpa using f1, by simpa using f2, hr⟩
    haveI : Inhabited Rw := ⟨(false, 0, .slice none 0 0, [])⟩
    obtain ⟨f, hq⟩ := choose_lt each
    refine ⟨some x, len, c, (List.range len).map f, hcs, by simp, by omega, ?_, fun h0 => ?_⟩
    · intro t ht
      obtain ⟨i, hi, rfl⟩ := List.mem_map.1 ht
      exact (hq i (List.mem_range.1 hi)).2.2.2
    · obtain ⟨b, off, spot⟩ := x
      have hspot : spot = none := by simpa [Addr.add] using World.cell?_spot (hq 0 h0).1
      subst hspot
      refine ⟨b, off, rfl, ?_, fun i t hi => ?_⟩
      · have := World.block_lt_of_cell? w _ (hq 0 h0).1
        rw [faddr_off] at this
        exact this
      · obtain ⟨hi1, hi2⟩ := List.getElem?_eq_some_iff.1 hi
        have hil : i < len := by simpa using hi1
        have ht : t = f i := by rw [← hi2]; simp
        subst ht
        have := hq i hil
        rw [faddr_off, faddr_off, faddr_off] at this
        exact ⟨this.1, this.2.1, this.2.2.1⟩
end
end Go.Proofs.YtcjgjkejhkhknacGreatDoor

namespace Go.Proofs.YtcjgjkejhkhknacGreatDoor
open Go.RowKit
def endB : Nat → List Rw → Nat
  | k, [] => k
  | k, r :: rs => endB (k + 2 + 2 * r.2.2.2.length) rs
theorem endB_le (k : Nat) (rs : List Rw) : k ≤ endB k rs := by
  induction rs generalizing k with
  | nil => exact Nat.le_refl _
  | cons r rs ih => have := ih (k + 2 + 2 * r.2.2.2.length); unfold endB; omega
theorem endB_snoc (k : Nat) (rs : List Rw) (r : Rw) : endB k (rs ++ [r]) = endB k rs + 2 + 2 * r.2.2.2.length := by
  induction rs generalizing k with
  | nil => rfl
  | cons a rs ih => exact ih _
end Go.Proofs.YtcjgjkejhkhknacGreatDoor
