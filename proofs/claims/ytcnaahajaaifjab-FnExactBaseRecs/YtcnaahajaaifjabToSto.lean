/-
  The laws' own toStore.
-/
import Derived.Test.YtcnaahajaaifjabPq24
namespace Go.Proofs.Ytcnaahajaaifjab
open Go.RowKit
open Words

theorem Tk.setC {w wi : World} {hs hs' : List Hold} {lo hi b : Nat} {cs cs' : Array Value} {t : TypeId} (h : Tk w wi hs) (n : Nat) (hn : hs[n]? = some (lo, hi, Cel b cs t)) (hb : w.heap.size ≤ b) (k : Nat) (u : Value) (hc : cs.setIfInBounds k u = cs') (hh : ∀ x ∈ hs', x ∈ hs ∧ (x.2.1 ≤ b ∨ b + 1 ≤ x.1)) :
    Tk w (wi.setCell ⟨b, k, none⟩ u) ((b, b + 1, Cel b cs' t) :: hs') := by
  have hz : (wi.setCell ⟨b, k, none⟩ u).heap.size = wi.heap.size := by simp [World.setCell]
  have h0 : wi.heap[b]? = some (.cells cs t (0, 0)) := h.get n hn
  refine ⟨h.1.setCell (p := ⟨b, k, none⟩) hb u, fun x hx => ?_⟩
  rcases List.mem_cons.1 hx with rfl | hx
  · refine ⟨?_, Cel.loc _ _ _, ?_⟩
    · have := (Array.getElem?_eq_some_iff.1 h0).1
      show b + 1 ≤ _
      omega
    · subst hc
      exact heap_setCell_same _ _ k _ _ _ h0
  · obtain ⟨x1, x2⟩ := hh x hx
    obtain ⟨y1, y2, y3⟩ := h.2 x x1
    exact ⟨by omega, y2, y2 _ _ (fun g g1 g2 => Below.heap_setCell _ _ _ _ (show g ≠ b by omega)) y3⟩
set_option maxHeartbeats 1000000 in
set_option maxRecDepth 100000 in
theorem toSto_any (va : Option Addr) (vl vc : Nat) (ad : Option Addr) (len cap : Nat) (nx : Int) (vs : List (Int × Int)) (rs : List Kw) (w : World) (hvl : vl ≤ 1048576) (hl : len ≤ 1048576) (hll : ∀ r ∈ rs, r.2.2.length ≤ 1048576) (h : VlRow w va vl vs) (hk : KnRd w ad len rs) :
    Calls Try.prog 11 #[.agg #[.slice va vl vc, .slice ad len cap, .int .i64 nx]] w fun e w' => ∃ g1 g2 : Nat, e = .returned (.agg #[.slice (some ⟨g1, 0, none⟩) vl vl, .slice (some ⟨g2, 0, none⟩) len len, .int .i64 nx]) ∧ StOut w ⟨vs, rs.map ktell, nx⟩ (.agg #[.slice (some ⟨g1, 0, none⟩) vl vl, .slice (some ⟨g2, 0, none⟩) len len, .int .i64 nx]) w' := by
  have HVL := hide h.1
  have HL := hide hll
  have T0 := hide (Tk.three w #[.slice va vl vc, .slice ad len cap, .int .i64 nx] #[.slice none 0 0, .slice none 0 0, .int .i64 0] #[.slice none 0 0, .slice none 0 0, .int .i64 0] 27 35 35)
  have VB0 := hide h
  have KB0 := hide hk
  clear h hk hll
  go_enter Try.func11, Try.ntmps11
  go_wp2_with fail
  generalize ((w.alloc (.cells #[.slice va vl vc, .slice ad len cap, .int .i64 nx] 27)).alloc (.cells #[.slice none 0 0, .slice none 0 0, .int .i64 0] 35)).alloc (.cells #[.slice none 0 0, .slice none 0 0, .int .i64 0] 35) = wb at T0 ⊢
  refine (toVls_any va vl vc vs wb hvl (VB0.out.below T0.out.1)).mono ?_
  rintro e w1 ⟨g1, rfl, o1, b1⟩
  have hz0 := T0.out.hi 0 rfl
  have t1 := T0.out.add b1 (Sli.loc 57 wb.heap.size w1.heap.size (.slice (some ⟨g1, 0, none⟩) vl vl) vs.length (vlcells vs)) (Sli.of o1)
  have f1 : w1.frozen? ⟨w.heap.size + 1 + 1, 0, none⟩ = false := t1.fr 1 0 rfl
  have c1 : w1.cell? ⟨w.heap.size + 1 + 1, 0, none⟩ = some (.slice none 0 0) := t1.at 1 0 rfl rfl
  have T1 := hide (t1.setC 1 rfl (by omega) 0 (.slice (some ⟨g1, 0, none⟩) vl vl) (cs' := #[.slice (some ⟨g1, 0, none⟩) vl vl, .slice none 0 0, .int .i64 0]) rfl (hs' := [(wb.heap.size, w1.heap.size, Sli 57 wb.heap.size w1.heap.size (.slice (some ⟨g1, 0, none⟩) vl vl) vs.length (vlcells vs)), (w.heap.size + 1, w.heap.size + 1 + 1, Cel (w.heap.size + 1) #[.slice none 0 0, .slice none 0 0, .int .i64 0] 35), (w.heap.size, w.heap.size + 1, Cel w.heap.size #[.slice va vl vc, .slice ad len cap, .int .i64 nx] 27)]) (by
    intro x hx
    simp only [List.mem_cons, List.not_mem_nil, or_false] at hx
    rcases hx with rfl | rfl | rfl
    · exact ⟨by simp, .inr (by show _ ≤ _; omega)⟩
    · exact ⟨by simp, .inl (show w.heap.size + 1 + 1 ≤ w.heap.size + 1 + 1 from Nat.le_refl _)⟩
    · exact ⟨by simp, .inl (show w.heap.size + 1 ≤ w.heap.size + 1 + 1 by omega)⟩))
  have BB := hide b1
  have HZ0 := hide hz0
  clear t1 o1 b1 hz0
  have c2 : (w1.setCell ⟨w.heap.size + 1 + 1, 0, none⟩ (.slice (some ⟨g1, 0, none⟩) vl vl)).cell? ⟨w.heap.size, 1, none⟩ = some (.slice ad len cap) := T1.out.at 3 1 rfl rfl
  go_wp2_with fail
  generalize w1.setCell ⟨w.heap.size + 1 + 1, 0, none⟩ (.slice (some ⟨g1, 0, none⟩) vl vl) = w2 at T1 c2 ⊢
  clear f1 c1 c2
  refine (toAr_any ad len cap rs w2 hl HL.out (KB0.out.below T1.out.1)).mono ?_
  rintro e w3 ⟨g2, ss, rfl, hx, ht, b3⟩
  have t3 := T1.out.add b3 (Kns.loc w2.heap.size w3.heap.size (.slice (some ⟨g2, 0, none⟩) len len) (rs.map ktell)) ⟨ss, ht, hx.kns⟩
  have hz2 : Hid (w1.heap.size ≤ w2.heap.size) := T1.out.hi 1 rfl
  have hz1 : Hid (wb.heap.size ≤ w1.heap.size) := BB.out.size
  have f3 : w3.frozen? ⟨w.heap.size + 1 + 1, 1, none⟩ = false := t3.fr 1 1 rfl
  have c3 : w3.cell? ⟨w.heap.size + 1 + 1, 1, none⟩ = some (.slice none 0 0) := t3.at 1 1 rfl rfl
  have t4 := t3.setC 1 rfl (by omega) 1 (.slice (some ⟨g2, 0, none⟩) len len) (cs' := #[.slice (some ⟨g1, 0, none⟩) vl vl, .slice (some ⟨g2, 0, none⟩) len len, .int .i64 0]) rfl (hs' := [(w2.heap.size, w3.heap.size, Kns w2.heap.size w3.heap.size (.slice (some ⟨g2, 0, none⟩) len len) (rs.map ktell)), (wb.heap.size, w1.heap.size, Sli 57 wb.heap.size w1.heap.size (.slice (some ⟨g1, 0, none⟩) vl vl) vs.length (vlcells vs)), (w.heap.size + 1, w.heap.size + 1 + 1, Cel (w.heap.size + 1) #[.slice none 0 0, .slice none 0 0, .int .i64 0] 35), (w.heap.size, w.heap.size + 1, Cel w.heap.size #[.slice va vl vc, .slice ad len cap, .int .i64 nx] 27)]) (by
    intro x hx
    have h0 := HZ0.out
    have h1 := hz1.out
    have h2 := hz2.out
    simp only [List.mem_cons, List.not_mem_nil, or_false] at hx
    rcases hx with rfl | rfl | rfl | rfl
    · exact ⟨by simp, .inr (by show _ ≤ _; omega)⟩
    · exact ⟨by simp, .inr (by show _ ≤ _; omega)⟩
    · exact ⟨by simp, .inl (show w.heap.size + 1 + 1 ≤ w.heap.size + 1 + 1 from Nat.le_refl _)⟩
    · exact ⟨by simp, .inl (show w.heap.size + 1 ≤ w.heap.size + 1 + 1 by omega)⟩)
  have T4 := hide t4
  clear t3 t4 T1
  generalize HW4 : w3.setCell ⟨w.heap.size + 1 + 1, 1, none⟩ (.slice (some ⟨g2, 0, none⟩) len len) = w4 at T4
  have c4 : w4.cell? ⟨w.heap.size, 2, none⟩ = some (.int .i64 nx) := T4.out.at 4 2 rfl rfl
  have f4 : w4.frozen? ⟨w.heap.size + 1 + 1, 2, none⟩ = false := T4.out.fr 0 2 rfl
  have d4 : w4.cell? ⟨w.heap.size + 1 + 1, 2, none⟩ = some (.int .i64 0) := T4.out.at 0 2 rfl rfl
  have t5 := T4.out.setC 0 rfl (by omega) 2 (.int .i64 nx) (cs' := #[.slice (some ⟨g1, 0, none⟩) vl vl, .slice (some ⟨g2, 0, none⟩) len len, .int .i64 nx]) rfl (hs' := [(w2.heap.size, w3.heap.size, Kns w2.heap.size w3.heap.size (.slice (some ⟨g2, 0, none⟩) len len) (rs.map ktell)), (wb.heap.size, w1.heap.size, Sli 57 wb.heap.size w1.heap.size (.slice (some ⟨g1, 0, none⟩) vl vl) vs.length (vlcells vs)), (w.heap.size + 1, w.heap.size + 1 + 1, Cel (w.heap.size + 1) #[.slice none 0 0, .slice none 0 0, .int .i64 0] 35)]) (by
    intro x hx
    have h0 := HZ0.out
    have h1 := hz1.out
    have h2 := hz2.out
    simp only [List.mem_cons, List.not_mem_nil, or_false] at hx
    rcases hx with rfl | rfl | rfl
    · exact ⟨by simp, .inr (by show _ ≤ _; omega)⟩
    · exact ⟨by simp, .inr (by show _ ≤ _; omega)⟩
    · exact ⟨by simp, .inl (show w.heap.size + 1 + 1 ≤ w.heap.size + 1 + 1 from Nat.le_refl _)⟩)
  have T5 := hide t5
  clear t5 T4
  generalize HW5 : w4.setCell ⟨w.heap.size + 1 + 1, 2, none⟩ (.int .i64 nx) = w5 at T5
  have e0 : w5.cell? ⟨w.heap.size + 1 + 1, 0, none⟩ = some (.slice (some ⟨g1, 0, none⟩) vl vl) := T5.out.at 0 0 rfl rfl
  have e1 : w5.cell? ⟨w.heap.size + 1 + 1, 1, none⟩ = some (.slice (some ⟨g2, 0, none⟩) len len) := T5.out.at 0 1 rfl rfl
  have e2 : w5.cell? ⟨w.heap.size + 1 + 1, 2, none⟩ = some (.int .i64 nx) := T5.out.at 0 2 rfl rfl
  have k0 : w5.cell? ⟨w.heap.size + 1, 0, none⟩ = some (.slice none 0 0) := T5.out.at 3 0 rfl rfl
  have k1 : w5.cell? ⟨w.heap.size + 1, 1, none⟩ = some (.slice none 0 0) := T5.out.at 3 1 rfl rfl
  have k2 : w5.cell? ⟨w.heap.size + 1, 2, none⟩ = some (.int .i64 0) := T5.out.at 3 2 rfl rfl
  have j0 : w5.frozen? ⟨w.heap.size + 1, 0, none⟩ = false := T5.out.fr 3 0 rfl
  have j1 : w5.frozen? ⟨w.heap.size + 1, 1, none⟩ = false := T5.out.fr 3 1 rfl
  have j2 : w5.frozen? ⟨w.heap.size + 1, 2, none⟩ = false := T5.out.fr 3 2 rfl
  have R5 := hide (sto_row3 (a := .slice (some ⟨g1, 0, none⟩) vl vl) (b := .slice (some ⟨g2, 0, none⟩) len len) (c := .int .i64 nx) (T5.out.get 3 rfl))
  have FIN : Hid (StOut w ⟨vs, rs.map ktell, nx⟩ (.agg #[.slice (some ⟨g1, 0, none⟩) vl vl, .slice (some ⟨g2, 0, none⟩) len len, .int .i64 nx]) (((w5.setCell ⟨w.heap.size + 1, 0, none⟩ (.slice (some ⟨g1, 0, none⟩) vl vl)).setCell ⟨w.heap.size + 1, 1, none⟩ (.slice (some ⟨g2, 0, none⟩) len len)).setCell ⟨w.heap.size + 1, 2, none⟩ (.int .i64 nx))) := by
    have h0 := HZ0.out
    have h1 := hz1.out
    have h2 := hz2.out
    have h3 := T5.out.hi 1 rfl
    have h4 := T5.out.hi 2 rfl
    exact st_fin (s := ⟨vs, rs.map ktell, nx⟩) (by omega) (T5.out.get 2 rfl) (T5.out.get 1 rfl) ⟨by omega, .inr (by omega)⟩ ⟨by omega, .inr (by omega)⟩ h4 h3 (.inl (by omega)) T5.out.1
  subst HW5
  subst HW4
  clear T5 T0
  go_wp2
  exact bodyPost_ret (results_cell_row rfl _ _ (w.heap.size + 1) 35 _ (0, 0) _ rfl R5.out Try.underlying35 rfl infoSto) rfl ⟨_, _, rfl, FIN.out⟩
end Go.Proofs.Ytcnaahajaaifjab
