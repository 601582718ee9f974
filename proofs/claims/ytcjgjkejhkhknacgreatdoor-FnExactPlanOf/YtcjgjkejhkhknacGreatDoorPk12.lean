/-
  EqSto; StoTk; ToSto; OpenF; FMark
-/
import Derived.Test.YtcjgjkejhkhknacGreatDoorPk11
import Derived.Test.YtcjgjkejhkhknacGreatDoorKnTo
import Derived.Test.YtcjgjkejhkhknacGreatDoorPk9
import Derived.Test.YtcjgjkejhkhknacGreatDoorPk0
import Derived.Test.YtcjgjkejhkhknacGreatDoorPk5
import Derived.ProofKit
import Derived.OpenShut
import Derived.ShutString
import Derived.Deep.Strs
import Derived.Deep.Slices
set_option maxHeartbeats 1000000
set_option maxRecDepth 100000
namespace Go.Proofs.YtcjgjkejhkhknacGreatDoor
open Go.RowKit
open Words
theorem szSto_any (va : Option Addr) (vl vc : Nat) (a : Option Addr) (len cap : Nat) (nx : Int) (rs : List Kw) (z0 : Nat) (w : World) (hz0 : z0 ≤ 1048576) (hvl : vl ≤ maxLen) (h : KnRd w a len rs) :
 Calls Tryz.prog 24 #[.agg #[.slice va vl vc, .slice a len cap, .int .i64 nx], .int .i64 z0] w fun e w' => (∃ r : Int, e = .returned (.int .i64 r) ∧ -1 ≤ r ∧ r ≤ z0 ∧ (0 ≤ r → r + vl + len + ksum rs ≤ z0)) ∧ Below w.heap.size w w' := by
 have bA := (Below.refl w.heap.size w).alloc (Nat.le_refl _) (.cells #[.slice va vl vc, .slice a len cap, .int .i64 nx] 37)
 have HB := hide bA
 have H := hide (h.below bA)
 have GB := hide (heap_alloc_new w (.cells #[.slice va vl vc, .slice a len cap, .int .i64 nx] 37))
 clear bA h
 go_enter Tryz.func24, Tryz.ntmps24
 go_wp2_with fail
 generalize w.alloc (.cells #[.slice va vl vc, .slice a len cap, .int .i64 nx] 37) = wb at HB H GB ⊢
 have q1 := cell_of_row _ _ 1 _ _ _ GB.out
 refine (szVls_any va vl vc z0 wb hz0 hvl).mono ?_
 rintro e w1 ⟨⟨r0, rfl, r1, r2, r3⟩, rfl⟩
 by_cases hr : r0 < 0
 ·go_wp2
  go_ret
  exact ⟨⟨_, rfl, by omega, by omega, fun h => by omega⟩, HB.out⟩
 ·obtain ⟨y, rfl⟩ : ∃ y : Nat, r0 = y := ⟨r0.toNat, by omega⟩
  have h3 := r3 (by omega)
  have C := hide (szAr_any a len cap rs y w1 (by omega) H.out)
  clear r3
  go_wp2_with fail
  refine C.out.mono ?_
  rintro e w2 ⟨⟨s0, rfl, s1, s2, s3⟩, b2⟩
  have B2 := hide (HB.out.trans (b2.mono HB.out.size))
  clear C b2
  by_cases hs : s0 < 0
  ·go_wp2
   go_ret
   exact ⟨⟨_, rfl, by omega, by omega, fun h => by omega⟩, B2.out⟩
  ·have h4 := s3 (by omega)
   clear s3
   go_wp2
   go_ret
   exact ⟨⟨_, rfl, by omega, by omega, fun h => by omega⟩, B2.out⟩
def OkS (s : Sto) : Prop := s.vols.length ≤ 1048576 ∧ OkK s.kns ∧ s.kns.length ≤ 1048576 ∧ kend (1 + s.vols.length * 2) s.kns ≤ 1000000000
theorem OkS.fit {s : Sto} (h : OkS s) : s.Fit := ⟨h.1, h.2.2.1, h.2.1.2.1⟩
theorem OkS.of {s : Sto} (h1 : s.vols.length ≤ 1048576) (h2 : s.kns.length ≤ 1048576) (h3 : kkids s.kns ≤ 1048576) : OkS s :=
 ⟨h1, OkK.of h2 h3, h2, by rw [kend_eq]; omega⟩
theorem eqvl_tk {w wi : World} {hs : List Hold} {a b : Value} {M : List (Int × Int)} {n l1 h1 l2 h2 : Nat} (T : Tk w wi hs) (n1 n2 : Nat) (hn : M.length = n) (hM : n ≤ 1048576) (e1 : hs[n1]? = some (l1, h1, Sli 99 l1 h1 a n (vlcells M))) (e2 : hs[n2]? = some (l2, h2, Sli 99 l2 h2 b n (vlcells M))) :
 Calls Tryz.prog 54 #[a, b] wi fun e w' => e = .returned (.bool true) ∧ Tk w w' hs ∧ wi.heap.size ≤ w'.heap.size := by
 have x1 := T.get n1 e1
 have x2 := T.get n2 e2
 rw [← hn] at x1 x2
 refine (eqVls_same a b M l1 h1 l2 h2 wi (by omega) x1 x2).mono ?_
 rintro e w' ⟨rfl, hb⟩
 exact ⟨rfl, T.below hb, hb.size⟩
theorem eqsto_tk {w wi : World} {hs : List Hold} {v u : Value} {s : Sto} {l1 h1 l2 h2 : Nat} (T : Tk w wi hs) (n1 n2 : Nat) (ho : OkS s) (e1 : hs[n1]? = some (l1, h1, Sts l1 h1 v s)) (e2 : hs[n2]? = some (l2, h2, Sts l2 h2 u s)) :
 Calls Tryz.prog 33 #[v, u] wi fun e w' => e = .returned (.bool true) ∧ Tk w w' hs ∧ wi.heap.size ≤ w'.heap.size := by
 have k1 := T.hi n1 e1
 have k2 := T.hi n2 e2
 obtain ⟨vv, kv, a1, b1, a2, b2, rfl, x1, x2, -, p2, -, p4, -⟩ := T.get n1 e1
 obtain ⟨uu, lv, c1, d1, c2, d2, rfl, y1, y2, -, q2, -, q4, -⟩ := T.get n2 e2
 have T1 := (((T.put (show b1 ≤ wi.heap.size by omega) (Sli.loc _ _ _ _ _ _) x1).put (show d1 ≤ wi.heap.size by omega) (Sli.loc _ _ _ _ _ _) y1).put (show b2 ≤ wi.heap.size by omega) (Kns.loc _ _ _ _) x2).put (show d2 ≤ wi.heap.size by omega) (Kns.loc _ _ _ _) y2
 obtain ⟨va, vc, rfl, -⟩ := x1.form
 obtain ⟨ua, uc, rfl, -⟩ := y1.form
 obtain ⟨ad, cap, rfl⟩ := x2.form
 obtain ⟨bd, cbp, rfl⟩ := y2.form
 obtain ⟨vs, kns, nx⟩ := s
 obtain ⟨o1, o2, -, -⟩ := ho
 simp only at T1 o1 o2 ⊢
 obtain ⟨vl, hvl⟩ : ∃ n, vs.length = n := ⟨_, rfl⟩
 obtain ⟨len, hlen⟩ : ∃ n, kns.length = n := ⟨_, rfl⟩
 rw [hvl, hlen] at T1 ⊢
 have T2 := hide ((T1.cell #[.slice va vl vc, .slice ad len cap, .int .i64 nx] 52).celln (alloc_size rfl _) #[.slice ua vl uc, .slice bd len cbp, .int .i64 nx] 52)
 have HV := hide hvl
 have HO2 := hide o2
 rw [hvl] at o1
 have HO1 := hide o1
 have hnn : (nx != nx) = false := by simp
 clear T T1 x1 x2 y1 y2 k1 k2 p2 p4 q2 q4 hvl hlen o1 o2 e1 e2
 go_enter Tryz.func33, Tryz.ntmps33
 go_wp2_with fail
 generalize (wi.alloc (.cells #[.slice va vl vc, .slice ad len cap, .int .i64 nx] 52)).alloc (.cells #[.slice ua vl uc, .slice bd len cbp, .int .i64 nx] 52) = wb at T2 ⊢
 refine (eqvl_tk T2.out 5 4 HV.out HO1.out rfl rfl).mono ?_
 rintro e w1 ⟨rfl, t1, s1⟩
 have T3 := hide t1
 have m1 : w1.cell? ⟨wi.heap.size, 1, none⟩ = some (.slice ad len cap) := T3.out.at 1 1 rfl rfl
 have m2 : w1.cell? ⟨wi.heap.size + 1, 1, none⟩ = some (.slice bd len cbp) := T3.out.at 0 1 rfl rfl
 clear t1 T2
 go_wp2_with fail
 refine (eqar_tk T3.out 3 2 HO2.out rfl rfl).mono ?_
 rintro e w2 ⟨rfl, t2, s2⟩
 have T4 := hide t2
 have m3 : w2.cell? ⟨wi.heap.size, 2, none⟩ = some (.int .i64 nx) := T4.out.at 1 2 rfl rfl
 have m4 : w2.cell? ⟨wi.heap.size + 1, 2, none⟩ = some (.int .i64 nx) := T4.out.at 0 2 rfl rfl
 clear t2 T3 m1 m2
 go_wp2
 go_ret
 exact ⟨rfl, T4.out.drop (fun x hx => by simp only [List.mem_cons]; exact .inr (.inr (.inr (.inr (.inr (.inr hx)))))), by have := T4.out.hi 0 rfl; omega⟩
theorem Tk.setC {w wi : World} {hs hs' : List Hold} {lo hi b : Nat} {cs cs' : Array Value} {t : TypeId} (h : Tk w wi hs) (n : Nat) (hn : hs[n]? = some (lo, hi, Cel b cs t)) (hb : w.heap.size ≤ b) (k : Nat) (u : Value) (hc : cs.setIfInBounds k u = cs') (hh : ∀ x ∈ hs', x ∈ hs ∧ (x.2.1 ≤ b ∨ b + 1 ≤ x.1)) :
 Tk w (wi.setCell ⟨b, k, none⟩ u) ((b, b + 1, Cel b cs' t) :: hs') := by
 have hz : (wi.setCell ⟨b, k, none⟩ u).heap.size = wi.heap.size := by simp [World.setCell]
 have h0 : wi.heap[b]? = some (.cells cs t (0, 0)) := h.get n hn
 refine ⟨h.1.setCell (p := ⟨b, k, none⟩) hb u, fun x hx => ?_⟩
 rcases List.mem_cons.1 hx with rfl | hx
 ·refine ⟨?_, Cel.loc _ _ _, ?_⟩
  ·have := (Array.getElem?_eq_some_iff.1 h0).1
   show b + 1 ≤ _
   omega
  ·subst hc
   exact heap_setCell_same _ _ k _ _ _ h0
 ·obtain ⟨x1, x2⟩ := hh x hx
  obtain ⟨y1, y2, y3⟩ := h.2 x x1
  exact ⟨by omega, y2, y2 _ _ (fun g g1 g2 => Below.heap_setCell _ _ _ _ (show g ≠ b by omega)) y3⟩
theorem toSto_any (va : Option Addr) (vl vc : Nat) (ad : Option Addr) (len cap : Nat) (nx : Int) (vs : List (Int × Int)) (rs : List Kw) (w : World) (hvl : vl ≤ 1048576) (hl : len ≤ 1048576) (hll : ∀ r ∈ rs, r.2.2.length ≤ 1048576) (h : VlRow w va vl vs) (hk : KnRd w ad len rs) :
 Calls Tryz.prog 30 #[.agg #[.slice va vl vc, .slice ad len cap, .int .i64 nx]] w fun e w' => ∃ g1 g2 : Nat, e = .returned (.agg #[.slice (some ⟨g1, 0, none⟩) vl vl, .slice (some ⟨g2, 0, none⟩) len len, .int .i64 nx]) ∧ StOut w ⟨vs, rs.map ktell, nx⟩ (.agg #[.slice (some ⟨g1, 0, none⟩) vl vl, .slice (some ⟨g2, 0, none⟩) len len, .int .i64 nx]) w' := by
 have HVL := hide h.1
 have HL := hide hll
 have T0 := hide (Tk.three w #[.slice va vl vc, .slice ad len cap, .int .i64 nx] #[.slice none 0 0, .slice none 0 0, .int .i64 0] #[.slice none 0 0, .slice none 0 0, .int .i64 0] 37 52 52)
 have VB0 := hide h
 have KB0 := hide hk
 clear h hk hll
 go_enter Tryz.func30, Tryz.ntmps30
 go_wp2_with fail
 generalize ((w.alloc (.cells #[.slice va vl vc, .slice ad len cap, .int .i64 nx] 37)).alloc (.cells #[.slice none 0 0, .slice none 0 0, .int .i64 0] 52)).alloc (.cells #[.slice none 0 0, .slice none 0 0, .int .i64 0] 52) = wb at T0 ⊢
 refine (toVls_any va vl vc vs wb hvl (VB0.out.below T0.out.1)).mono ?_
 rintro e w1 ⟨g1, rfl, o1, b1⟩
 have hz0 := T0.out.hi 0 rfl
 have t1 := T0.out.add b1 (Sli.loc 99 wb.heap.size w1.heap.size (.slice (some ⟨g1, 0, none⟩) vl vl) vs.length (vlcells vs)) (Sli.of o1)
 have f1 : w1.frozen? ⟨w.heap.size + 1 + 1, 0, none⟩ = false := t1.fr 1 0 rfl
 have c1 : w1.cell? ⟨w.heap.size + 1 + 1, 0, none⟩ = some (.slice none 0 0) := t1.at 1 0 rfl rfl
 have T1 := hide (t1.setC 1 rfl (by omega) 0 (.slice (some ⟨g1, 0, none⟩) vl vl) (cs' := #[.slice (some ⟨g1, 0, none⟩) vl vl, .slice none 0 0, .int .i64 0]) rfl (hs' := [(wb.heap.size, w1.heap.size, Sli 99 wb.heap.size w1.heap.size (.slice (some ⟨g1, 0, none⟩) vl vl) vs.length (vlcells vs)), (w.heap.size + 1, w.heap.size + 1 + 1, Cel (w.heap.size + 1) #[.slice none 0 0, .slice none 0 0, .int .i64 0] 52), (w.heap.size, w.heap.size + 1, Cel w.heap.size #[.slice va vl vc, .slice ad len cap, .int .i64 nx] 37)]) (by
  intro x hx
  simp only [List.mem_cons, List.not_mem_nil, or_false] at hx
  rcases hx with rfl | rfl | rfl
  ·exact ⟨by simp, .inr (by show _ ≤ _; omega)⟩
  ·exact ⟨by simp, .inl (show w.heap.size + 1 + 1 ≤ w.heap.size + 1 + 1 from Nat.le_refl _)⟩
  ·exact ⟨by simp, .inl (show w.heap.size + 1 ≤ w.heap.size + 1 + 1 by omega)⟩))
 have BB := hide b1
 have HZ0 := hide hz0
 clear t1 o1 b1 hz0
 have c2 : (w1.setCell ⟨w.heap.size + 1 + 1, 0, none⟩ (.slice (some ⟨g1, 0, none⟩) vl vl)).cell? ⟨w.heap.size, 1, none⟩ = some (.slice ad len cap) := T1.out.at 3 1 rfl rfl
 go_wp2_with fail
 generalize w1.setCell ⟨w.heap.size + 1 + 1, 0, none⟩ (.slice (some ⟨g1, 0, none⟩) vl vl) = w2 at T1 c2 ⊢
 clear f1 c1 c2
 refine (toAr_any ad len cap rs w2 hl HL.out (KB0.out.below T1.out.1)).mono ?_
 rintro e w3 ⟨g2, ss, rfl, hx, ht, b3⟩
 have t3 := T1.out.add b3 (Kns.loc w2.heap.size w3.heap.size (.slice (some ⟨g2, 0, none⟩) len len) (rs.map ktell)) ⟨ss, ht, hx.kns⟩
 have hz2 : Hid (w1.heap.size ≤ w2.heap.size) := T1.out.hi 1 rfl
 have hz1 : Hid (wb.heap.size ≤ w1.heap.size) := BB.out.size
 have f3 : w3.frozen? ⟨w.heap.size + 1 + 1, 1, none⟩ = false := t3.fr 1 1 rfl
 have c3 : w3.cell? ⟨w.heap.size + 1 + 1, 1, none⟩ = some (.slice none 0 0) := t3.at 1 1 rfl rfl
 have t4 := t3.setC 1 rfl (by omega) 1 (.slice (some ⟨g2, 0, none⟩) len len) (cs' := #[.slice (some ⟨g1, 0, none⟩) vl vl, .slice (some ⟨g2, 0, none⟩) len len, .int .i64 0]) rfl (hs' := [(w2.heap.size, w3.heap.size, Kns w2.heap.size w3.heap.size (.slice (some ⟨g2, 0, none⟩) len len) (rs.map ktell)), (wb.heap.size, w1.heap.size, Sli 99 wb.heap.size w1.heap.size (.slice (some ⟨g1, 0, none⟩) vl vl) vs.length (vlcells vs)), (w.heap.size + 1, w.heap.size + 1 + 1, Cel (w.heap.size + 1) #[.slice none 0 0, .slice none 0 0, .int .i64 0] 52), (w.heap.size, w.heap.size + 1, Cel w.heap.size #[.slice va vl vc, .slice ad len cap, .int .i64 nx] 37)]) (by
  intro x hx
  have h0 := HZ0.out
  have h1 := hz1.out
  have h2 := hz2.out
  simp only [List.mem_cons, List.not_mem_nil, or_false] at hx
  rcases hx with rfl | rfl | rfl | rfl
  ·exact ⟨by simp, .inr (by show _ ≤ _; omega)⟩
  ·exact ⟨by simp, .inr (by show _ ≤ _; omega)⟩
  ·exact ⟨by simp, .inl (show w.heap.size + 1 + 1 ≤ w.heap.size + 1 + 1 from Nat.le_refl _)⟩
  ·exact ⟨by simp, .inl (show w.heap.size + 1 ≤ w.heap.size + 1 + 1 by omega)⟩)
 have T4 := hide t4
 clear t3 t4 T1
 generalize HW4 : w3.setCell ⟨w.heap.size + 1 + 1, 1, none⟩ (.slice (some ⟨g2, 0, none⟩) len len) = w4 at T4
 have c4 : w4.cell? ⟨w.heap.size, 2, none⟩ = some (.int .i64 nx) := T4.out.at 4 2 rfl rfl
 have f4 : w4.frozen? ⟨w.heap.size + 1 + 1, 2, none⟩ = false := T4.out.fr 0 2 rfl
 have d4 : w4.cell? ⟨w.heap.size + 1 + 1, 2, none⟩ = some (.int .i64 0) := T4.out.at 0 2 rfl rfl
 have t5 := T4.out.setC 0 rfl (by omega) 2 (.int .i64 nx) (cs' := #[.slice (some ⟨g1, 0, none⟩) vl vl, .slice (some ⟨g2, 0, none⟩) len len, .int .i64 nx]) rfl (hs' := [(w2.heap.size, w3.heap.size, Kns w2.heap.size w3.heap.size (.slice (some ⟨g2, 0, none⟩) len len) (rs.map ktell)), (wb.heap.size, w1.heap.size, Sli 99 wb.heap.size w1.heap.size (.slice (some ⟨g1, 0, none⟩) vl vl) vs.length (vlcells vs)), (w.heap.size + 1, w.heap.size + 1 + 1, Cel (w.heap.size + 1) #[.slice none 0 0, .slice none 0 0, .int .i64 0] 52)]) (by
  intro x hx
  have h0 := HZ0.out
  have h1 := hz1.out
  have h2 := hz2.out
  simp only [List.mem_cons, List.not_mem_nil, or_false] at hx
  rcases hx with rfl | rfl | rfl
  ·exact ⟨by simp, .inr (by show _ ≤ _; omega)⟩
  ·exact ⟨by simp, .inr (by show _ ≤ _; omega)⟩
  ·exact ⟨by simp, .inl (show w.heap.size + 1 + 1 ≤ w.heap.size + 1 + 1 from Nat.le_refl _)⟩)
 have T5 := hide t5
 clear t5 T4
 generalize HW5 : w4.setCell ⟨w.heap.size + 1 + 1, 2, none⟩ (.int .i64 nx) = w5 at T5
 have e0 : w5.cell? ⟨w.heap.size + 1 + 1, 0, none⟩ = some (.slice (some ⟨g1, 0, none⟩) vl vl) := T5.out.at 0 0 rfl rfl
 have e1 : w5.cell? ⟨w.heap.size + 1 + 1, 1, none⟩ = some (.slice (some ⟨g2, 0, none⟩) len len) := T5.out.at 0 1 rfl rfl
 have e2 : w5.cell? ⟨w.heap.size + 1 + 1, 2, none⟩ = some (.int .i64 nx) := T5.out.at 0 2 rfl rfl
 have k0 : w5.cell? ⟨w.heap.size + 1, 0, none⟩ = some (.slice none 0 0) := T5.out.at 3 0 rfl rfl
 have k1 : w5.cell? ⟨w.heap.size + 1, 1, none⟩ = some (.slice none 0 0) := T5.out.at 3 1 rfl rfl
 have k2 : w5.cell? ⟨w.heap.size + 1, 2, none⟩ = some (.int .i64 0) := T5.out.at 3 2 rfl rfl
 have j0 : w5.frozen? ⟨w.heap.size + 1, 0, none⟩ = false := T5.out.fr 3 0 rfl
 have j1 : w5.frozen? ⟨w.heap.size + 1, 1, none⟩ = false := T5.out.fr 3 1 rfl
 have j2 : w5.frozen? ⟨w.heap.size + 1, 2, none⟩ = false := T5.out.fr 3 2 rfl
 have R5 := hide (sto_row3 (a := .slice (some ⟨g1, 0, none⟩) vl vl) (b := .slice (some ⟨g2, 0, none⟩) len len) (c := .int .i64 nx) (T5.out.get 3 rfl))
 have FIN : Hid (StOut w ⟨vs, rs.map ktell, nx⟩ (.agg #[.slice (some ⟨g1, 0, none⟩) vl vl, .slice (some ⟨g2, 0, none⟩) len len, .int .i64 nx]) (((w5.setCell ⟨w.heap.size + 1, 0, none⟩ (.slice (some ⟨g1, 0, none⟩) vl vl)).setCell ⟨w.heap.size + 1, 1, none⟩ (.slice (some ⟨g2, 0, none⟩) len len)).setCell ⟨w.heap.size + 1, 2, none⟩ (.int .i64 nx))) := by
  have h0 := HZ0.out
  have h1 := hz1.out
  have h2 := hz2.out
  have h3 := T5.out.hi 1 rfl
  have h4 := T5.out.hi 2 rfl
  exact st_fin (s := ⟨vs, rs.map ktell, nx⟩) (by omega) (T5.out.get 2 rfl) (T5.out.get 1 rfl) ⟨by omega, .inr (by omega)⟩ ⟨by omega, .inr (by omega)⟩ h4 h3 (.inl (by omega)) T5.out.1
 subst HW5
 subst HW4
 clear T5 T0
 go_wp2
 exact bodyPost_ret (results_cell_row rfl _ _ (w.heap.size + 1) 52 _ (0, 0) _ rfl R5.out Tryz.underlying52 rfl infoSto) rfl ⟨_, _, rfl, FIN.out⟩
end Go.Proofs.YtcjgjkejhkhknacGreatDoor
namespace Go.Proofs.YtcjgjkejhkhknacGreatDoor
open Go.ChangeShapes Go.WideShapes Go.ChangeAt Go.RowKit Go.Deep
def LfRow (w : World) (a : Option Addr) (len : Nat) (ls : List (Int × ByteArray)) : Prop :=
 ls.length = len ∧ len ≤ maxLen ∧ (∀ t ∈ ls, t.2.size ≤ maxLen) ∧ (0 < len → ∃ b off, a = some ⟨b, off, none⟩ ∧ b < w.heap.size ∧ ∀ i t, ls[i]? = some t →
  w.cell? ⟨b, off + i * 2, none⟩ = some (.int .i64 t.1) ∧ w.cell? ⟨b, off + i * 2 + 1, none⟩ = some (.string t.2))
def BkOne (w : World) (r : Rw) : Prop := ∃ a n cap, r.2.2.1 = .slice a n cap ∧ LfRow w a n r.2.2.2
def BkRow (w : World) (a : Option Addr) (len : Nat) (rs : List Rw) : Prop :=
 rs.length = len ∧ len ≤ maxLen ∧ (∀ r ∈ rs, BkOne w r) ∧ (0 < len → ∃ b off, a = some ⟨b, off, none⟩ ∧ b < w.heap.size ∧ ∀ i r, rs[i]? = some r →
  w.cell? ⟨b, off + i * 3, none⟩ = some (.bool r.1) ∧ w.cell? ⟨b, off + i * 3 + 1, none⟩ = some (.int .i64 r.2.1) ∧ w.cell? ⟨b, off + i * 3 + 2, none⟩ = some r.2.2.1)
theorem LfRow.below {w w' : World} {a : Option Addr} {len : Nat} {ls : List (Int × ByteArray)} (h : LfRow w a len ls) (hb : Below w.heap.size w w') : LfRow w' a len ls := by
 refine ⟨h.1, h.2.1, h.2.2.1, fun h0 => ?_⟩
 obtain ⟨b, off, e, hlt, hc⟩ := h.2.2.2 h0
 refine ⟨b, off, e, Nat.lt_of_lt_of_le hlt hb.size, fun i t ht => ?_⟩
 have := hc i t ht
 rw [hb.cell (p := ⟨b, _, none⟩) hlt, hb.cell (p := ⟨b, _, none⟩) hlt]
 exact this
theorem BkOne.below {w w' : World} {r : Rw} (h : BkOne w r) (hb : Below w.heap.size w w') : BkOne w' r := by
 obtain ⟨a, n, cap, e, hl⟩ := h
 exact ⟨a, n, cap, e, hl.below hb⟩
theorem BkRow.below {w w' : World} {a : Option Addr} {len : Nat} {rs : List Rw} (h : BkRow w a len rs) (hb : Below w.heap.size w w') : BkRow w' a len rs := by
 refine ⟨h.1, h.2.1, fun r hr => (h.2.2.1 r hr).below hb, fun h0 => ?_⟩
 obtain ⟨b, off, e, hlt, hc⟩ := h.2.2.2 h0
 refine ⟨b, off, e, Nat.lt_of_lt_of_le hlt hb.size, fun i t ht => ?_⟩
 have := hc i t ht
 rw [hb.cell (p := ⟨b, _, none⟩) hlt, hb.cell (p := ⟨b, _, none⟩) hlt, hb.cell (p := ⟨b, _, none⟩) hlt]
 exact this
section
variable {H : Type} {enc : TypeId × Value → H} {w : World} {base : Nat} {sp : Nat → Bool} {held : Bool}
theorem fcells9 : Tryz.prog.cellsOf 9 = 1 := by kernel_rfl
theorem fcells3 : Tryz.prog.cellsOf 3 = 1 := by kernel_rfl
theorem fcells4 : Tryz.prog.cellsOf 4 = 1 := by kernel_rfl
theorem fcellsLs : Tryz.prog.cellsOf 138 = 1 := by kernel_rfl
theorem fcellsLf : Tryz.prog.cellsOf 208 = 2 := by kernel_rfl
theorem fcellsBk : Tryz.prog.cellsOf 140 = 3 := by kernel_rfl
theorem faddr_off (b off j : Nat) : (⟨b, off, none⟩ : Addr).add j = ⟨b, off + j, none⟩ := by
 simp only [Addr.add]
 split <;> simp_all
theorem open_leaves {fuel : Nat} {cs : List Value} {x : DataW H × List MemPlace} (hf : DataW.trod enc Tryz.prog w base sp held fuel 138 cs = some x) : ∃ a len cap ls, cs = [.slice a len cap] ∧ LfRow w a len ls := by
 rcases open_slice Tryz.underlying138 hf with ⟨hcs, _⟩ | ⟨x, len, c, m, n, D, Pl, hcs, _, hl, hm, hmm, _, hx⟩
 ·exact ⟨none, 0, 0, [], hcs, rfl, by omega, by simp, fun h => by omega⟩
 ·have hlm : len ≤ m := by rw [hmm]; split <;> omega
  have each : ∀ i, i < len → ∃ t : Int × ByteArray, w.cell? (x.add (i * 2)) = some (.int .i64 t.1) ∧ w.cell? (x.add (i * 2 + 1)) = some (.string t.2) ∧ t.2.size ≤ maxLen := by
   intro i hi
   obtain ⟨cs, h1, h2⟩ := hx i (by omega)
   rw [fcellsLf] at h1
   obtain ⟨_, hlen, hcell⟩ := World.cells?_some h1
   obtain ⟨y0, y1, k, _, _, g0, g1⟩ := trod_struct2 Tryz.underlying208 h2
   simp only [fcells9, fcells3] at g0 g1
   match cs, hlen with
   | [u, v], _ =>
    obtain ⟨p, e0, _, _⟩ := DataW.trod_int Tryz.underlying3 g0
    obtain ⟨s, e1, _, hs⟩ := DataW.trod_string Tryz.underlying9 g1
    simp at e0 e1
    subst e0 e1
    have f0 := hcell 0 (by simp)
    have f1 := hcell 1 (by simp)
    rw [add_add] at f0 f1
    exact ⟨(p, s), by simpa using f0, by simpa using f1, hs⟩
  obtain ⟨f, hq⟩ := choose_lt each
  refine ⟨some x, len, c, (List.range len).map f, hcs, by simp, by omega, ?_, fun h0 => ?_⟩
  ·intro t ht
   obtain ⟨i, hi, rfl⟩ := List.mem_map.1 ht
   exact (hq i (List.mem_range.1 hi)).2.2
  ·obtain ⟨b, off, spot⟩ := x
   have hspot : spot = none := by simpa [Addr.add] using World.cell?_spot (hq 0 h0).1
   subst hspot
   refine ⟨b, off, rfl, ?_, fun i t hi => ?_⟩
   ·have := World.block_lt_of_cell? w _ (hq 0 h0).1
    rw [faddr_off] at this
    exact this
   ·obtain ⟨hi1, hi2⟩ := List.getElem?_eq_some_iff.1 hi
    have hil : i < len := by simpa using hi1
    have ht : t = f i := by rw [← hi2]; simp
    subst ht
    have := hq i hil
    rw [faddr_off, faddr_off] at this
    exact ⟨this.1, this.2.1⟩
theorem open_block {fuel : Nat} {cs : List Value} {x : DataW H × List MemPlace} (hf : DataW.trod enc Tryz.prog w base sp held fuel 140 cs = some x) : ∃ r : Rw, cs = [.bool r.1, .int .i64 r.2.1, r.2.2.1] ∧ BkOne w r := by
 obtain ⟨y0, y1, y2, k, _, hlen, g0, g1, g2⟩ := trod_struct3 Tryz.underlying140 hf
 simp only [fcells4, fcells3, fcellsLs] at g0 g1 g2
 rw [fcellsBk] at hlen
 match cs, hlen with
 | [u, v, z], _ =>
  obtain ⟨p, e0, _⟩ := DataW.trod_bool Tryz.underlying4 g0
  obtain ⟨q, e1, _, _⟩ := DataW.trod_int Tryz.underlying3 g1
  obtain ⟨a, n, cap, ls, e2, hl⟩ := open_leaves g2
  simp at e0 e1 e2
  subst e0 e1 e2
  exact ⟨(p, q, .slice a n cap, ls), rfl, a, n, cap, rfl, hl⟩
theorem open_blocks {fuel : Nat} {cs : List Value} {x : DataW H × List MemPlace} (hf : DataW.trod enc Tryz.prog w base sp held fuel 29 cs = some x) : ∃ a len cap rs, cs = [.slice a len cap] ∧ BkRow w a len rs := by
 rcases open_slice Tryz.underlying29 hf with ⟨hcs, _⟩ | ⟨x, len, c, m, n, D, Pl, hcs, _, hl, hm, hmm, _, hx⟩
 ·exact ⟨none, 0, 0, [], hcs, rfl, by omega, by simp, fun h => by omega⟩
 ·have hlm : len ≤ m := by rw [hmm]; split <;> omega
  have each : ∀ i, i < len → ∃ r : Rw, w.cell? (x.add (i * 3)) = some (.bool r.1) ∧ w.cell? (x.add (i * 3 + 1)) = some (.int .i64 r.2.1) ∧ w.cell? (x.add (i * 3 + 2)) = some r.2.2.1 ∧ BkOne w r := by
   intro i hi
   obtain ⟨cs, h1, h2⟩ := hx i (by omega)
   rw [fcellsBk] at h1
   obtain ⟨_, hlen, hcell⟩ := World.cells?_some h1
   obtain ⟨r, rfl, hr⟩ := open_block h2
   have f0 := hcell 0 (by simp)
   have f1 := hcell 1 (by simp)
   have f2 := hcell 2 (by simp)
   rw [add_add] at f0 f1 f2
   exact ⟨r, by simpa using f0, by simpa using f1, by simpa using f2, hr⟩
  haveI : Inhabited Rw := ⟨(false, 0, .slice none 0 0, [])⟩
  obtain ⟨f, hq⟩ := choose_lt each
  refine ⟨some x, len, c, (List.range len).map f, hcs, by simp, by omega, ?_, fun h0 => ?_⟩
  ·intro t ht
   obtain ⟨i, hi, rfl⟩ := List.mem_map.1 ht
   exact (hq i (List.mem_range.1 hi)).2.2.2
  ·obtain ⟨b, off, spot⟩ := x
   have hspot : spot = none := by simpa [Addr.add] using World.cell?_spot (hq 0 h0).1
   subst hspot
   refine ⟨b, off, rfl, ?_, fun i t hi => ?_⟩
   ·have := World.block_lt_of_cell? w _ (hq 0 h0).1
    rw [faddr_off] at this
    exact this
   ·obtain ⟨hi1, hi2⟩ := List.getElem?_eq_some_iff.1 hi
    have hil : i < len := by simpa using hi1
    have ht : t = f i := by rw [← hi2]; simp
    subst ht
    have := hq i hil
    rw [faddr_off, faddr_off, faddr_off] at this
    exact ⟨this.1, this.2.1, this.2.2.1⟩
end
end Go.Proofs.YtcjgjkejhkhknacGreatDoor
namespace Go.Proofs.YtcjgjkejhkhknacGreatDoor
open Go.RowKit
def markLf (k i : Nat) : Int × ByteArray := (((k + 2 * i : Nat) : Int), ⟨(markL (k + 2 * i + 1)).toArray⟩)
def marksL (k n : Nat) : List (Int × ByteArray) := (List.range n).map (markLf k)
theorem marksL_len (k n : Nat) : (marksL k n).length = n := by simp [marksL]
theorem marksL_succ (k n : Nat) : marksL k (n + 1) = marksL k n ++ [markLf k n] := by simp [marksL, List.range_succ]
def marksB : Nat → List Rw → List Rw
 | _, [] => []
 | k, r :: rs => (decide (k % 3 = 0), ((k + 1 : Nat) : Int), r.2.2.1, marksL (k + 2) r.2.2.2.length) :: marksB (k + 2 + 2 * r.2.2.2.length) rs
def endB : Nat → List Rw → Nat
 | k, [] => k
 | k, r :: rs => endB (k + 2 + 2 * r.2.2.2.length) rs
theorem marksB_len (k : Nat) (rs : List Rw) : (marksB k rs).length = rs.length := by
 induction rs generalizing k with
 | nil => rfl
 | cons r rs ih => simp [marksB, ih]
theorem endB_le (k : Nat) (rs : List Rw) : k ≤ endB k rs := by
 induction rs generalizing k with
 | nil => exact Nat.le_refl _
 | cons r rs ih => have := ih (k + 2 + 2 * r.2.2.2.length); unfold endB; omega
theorem endB_snoc (k : Nat) (rs : List Rw) (r : Rw) : endB k (rs ++ [r]) = endB k rs + 2 + 2 * r.2.2.2.length := by
 induction rs generalizing k with
 | nil => rfl
 | cons a rs ih => exact ih _
theorem marksB_snoc (k : Nat) (rs : List Rw) (r : Rw) : marksB k (rs ++ [r]) = marksB k rs ++ [(decide (endB k rs % 3 = 0), ((endB k rs + 1 : Nat) : Int), r.2.2.1, marksL (endB k rs + 2) r.2.2.2.length)] := by
 induction rs generalizing k with
 | nil => rfl
 | cons a rs ih =>
  show _ :: marksB _ (rs ++ [r]) = _ :: marksB _ rs ++ _
  rw [ih]
  rfl
theorem endB_take (k : Nat) (rs : List Rw) (j : Nat) : endB k (rs.take j) ≤ endB k rs := by
 induction rs generalizing k j with
 | nil => simp
 | cons r rs ih =>
  cases j with
  | zero => exact endB_le k (r :: rs)
  | succ j => exact ih _ j
theorem marksB_set (k : Nat) (rs : List Rw) (j : Nat) (r : Rw) (h : rs[j]? = some r) : (marksB k (rs.take j) ++ rs.drop j).set j (decide (endB k (rs.take j) % 3 = 0), ((endB k (rs.take j) + 1 : Nat) : Int), r.2.2.1, marksL (endB k (rs.take j) + 2) r.2.2.2.length) = marksB k (rs.take (j + 1)) ++ rs.drop (j + 1) := by
 obtain ⟨h1, h2⟩ := List.getElem?_eq_some_iff.1 h
 have hl : (marksB k (rs.take j)).length = j := by rw [marksB_len, List.length_take]; omega
 rw [List.take_succ_eq_append_getElem h1, h2, marksB_snoc, List.set_append_right _ _ (by omega), hl, Nat.sub_self, List.drop_eq_getElem_cons h1, List.set_cons_zero]
 simp
theorem lcells_set2 (ls : List (Int × ByteArray)) (k j : Nat) (hj : j < ls.length) :
 ((lcells (marksL k j ++ ls.drop j)).set (j * 2) (.int .i64 ((k + 2 * j : Nat) : Int))).set (j * 2 + 1) (.string ⟨(markL (k + 2 * j + 1)).toArray⟩) = lcells (marksL k (j + 1) ++ ls.drop (j + 1)) := by
 have hm : (lcells (marksL k j)).length = j * 2 := by rw [lcells_len, marksL_len]
 have e1 : ∀ r, lcells (ls[j] :: r) = [.int .i64 ls[j].1, .string ls[j].2] ++ lcells r := fun r => lcells_cons _ _
 have e2 : lcells [markLf k j] = [.int .i64 ((k + 2 * j : Nat) : Int), .string ⟨(markL (k + 2 * j + 1)).toArray⟩] := rfl
 rw [marksL_succ, List.drop_eq_getElem_cons hj, lcells_app, lcells_app, lcells_app, e1, e2, List.set_append_right _ _ (by omega), List.set_append_right _ _ (by omega), hm, Nat.sub_self, Nat.add_sub_cancel_left, List.append_assoc]
 rfl
theorem markLeafS_any (a : Value) (ls : List (Int × ByteArray)) (B k : Nat) (z : Int) (w : World) (hz : z = k) (hl : ls.length ≤ 1048576) (hk0 : 0 < k) (hk : k ≤ 1000000010) (ha : w.ownsRow B 155 2 a ls.length (lcells ls)) :
 Calls Tryz.prog 85 #[a, .int .i64 z] w fun e w' => e = .returned (.int .i64 ((k + 2 * ls.length : Nat) : Int)) ∧ w'.ownsRow B 155 2 a ls.length (lcells (marksL k ls.length)) ∧ w.grownBy w' a.ownBlock := by
 subst hz
 obtain ⟨ad, capa, rfl, a1, a2, a3⟩ := frow_form ha
 unfold maxLen at a2
 have A3 := hide a3
 have HA := hide ha
 clear a3 ha
 go_enter Tryz.func85, Tryz.ntmps85
 go_wp2
 go_loopw [1, 5] (fun kv iv wr => ∃ j : Nat, j ≤ ls.length ∧ iv = .int .i64 j ∧ kv = .int .i64 ((k + 2 * j : Nat) : Int) ∧ Hid (wr.ownsRow B 155 2 (.slice ad ls.length capa) ls.length (lcells (marksL k j ++ ls.drop j))) ∧ Hid (w.grownBy wr (Value.slice ad ls.length capa).ownBlock)) (fun _ iv _ => ls.length - (intOf iv).toNat)
 case atStart => exact ⟨0, Nat.zero_le _, rfl, rfl, HA, ⟨rfl, rfl, rfl, Nat.le_refl _, fun _ _ _ => rfl⟩⟩
 case round =>
  obtain ⟨j, hj, rfl, rfl, HO, HW⟩ := hrel
  have hsz := HW.out.size
  by_cases hlt : (j : Int) < ls.length
  ·obtain ⟨ga, rfl, g1, g2⟩ := A3.out (by omega)
   have hjl : j < ls.length := by omega
   have hlj : (marksL k j ++ ls.drop j)[j]? = some ls[j] := by
    rw [List.getElem?_append_right (by rw [marksL_len]; omega), marksL_len, Nat.sub_self, List.getElem?_drop, Nat.add_zero, List.getElem?_eq_getElem hjl]
   obtain ⟨c1, c2⟩ := lown_cells HO.out hlj
   have f1 := HO.out.frozenAt (j * 2)
   have o1 := fown_set HO.out rfl (j * 2) (.int .i64 ((k + 2 * j : Nat) : Int))
   have b1 := HW.out.trans (grown_cell wr ga (j * 2) (.int .i64 ((k + 2 * j : Nat) : Int)))
   obtain ⟨p, hp⟩ : ∃ p : Nat, p = k + 2 * j := ⟨_, rfl⟩
   rw [← hp] at o1 b1 ⊢
   have O1 := hide o1
   have B1 := hide b1
   have HP := hide hp
   have hp0 : 0 < p := by omega
   have hp1 : p ≤ 1002097162 := by omega
   have j0 : (0 : Int) ≤ j := by omega
   clear hlj o1 b1 hp HO HW
   go_wp2_with fail
   refine (markText_int ((p : Int) + 1) (p + 1) (by omega) _ (by omega) (by omega)).mono ?_
   rintro e w1 ⟨rfl, hb⟩
   have o3 := own_below O1.out hb
   have hz : ∃ u, w1.cell? ⟨ga, j * 2 + 1, none⟩ = some u := by
    have hz1 : j * 2 + 1 < ((lcells (marksL k j ++ ls.drop j)).set (j * 2) (Value.int .i64 (p : Int))).length := by
     rw [List.length_set, lcells_len, List.length_append, marksL_len, List.length_drop]
     omega
    have := o3.cells (g := ga) rfl (j * 2 + 1) _ (List.getElem?_eq_getElem hz1)
    rw [addr_at] at this
    exact ⟨_, this⟩
   obtain ⟨u, hu⟩ := hz
   have f3 := o3.frozenAt (j * 2 + 1)
   have o4 := fown_set o3 rfl (j * 2 + 1) (.string ⟨(markL (p + 1)).toArray⟩)
   have b4 := (B1.out.trans (grown_old hb _)).trans (grown_cell w1 ga (j * 2 + 1) (.string ⟨(markL (p + 1)).toArray⟩))
   rw [HP.out, lcells_set2 ls k j hjl] at o4
   rw [← HP.out] at o4
   obtain ⟨t, ht⟩ : ∃ t, markL (p + 1) = t := ⟨_, rfl⟩
   rw [ht] at o4 b4
   rw [ht]
   have O4 := hide o4
   have B4 := hide b4
   have hq2 : Hid ((p : Int) + 1 + 1 = ((k + 2 * (j + 1) : Nat) : Int)) := by have := HP.out; show _ = _; omega
   clear ht o3 o4 b4 hb O1 B1 c1 c2 f1 HP
   go_wp2
   go_roundw
   case rel => exact ⟨j + 1, by omega, by go_num, (by rw [← hq2.out]), O4, B4⟩
   case measure => simp [intOf]; omega
  ·have hje : j = ls.length := by omega
   have hO := HO.out
   rw [hje, List.drop_length, List.append_nil] at hO
   have HO2 := hide hO
   have E : Hid (((k + 2 * j : Nat) : Int) = ((k + 2 * ls.length : Nat) : Int)) := by show _ = _; rw [hje]
   clear hO hje HO
   go_wp2
   go_ret
   exact ⟨congrArg (fun x => Ending.returned (.int .i64 x)) E.out, HO2.out, HW.out⟩
def Apart (lo hi i : Nat) : Prop := ¬ (lo ≤ i ∧ i < hi)
theorem markBlockS_any (a : Value) (rs : List Rw) (lo hi : Nat) (w : World) (hl : rs.length ≤ 1048576) (hll : ∀ r ∈ rs, r.2.2.2.length ≤ 1048576) (he : endB 1 rs ≤ 1000000000) (ha : FlashIn w lo hi a rs) :
 Calls Tryz.prog 56 #[a, .int .i64 1] w fun e w' => e = .returned (.int .i64 ((endB 1 rs : Nat) : Int)) ∧ Hid (FlashIn w' lo hi a (marksB 1 rs)) ∧ Hid (Kept2 w w' (Apart lo hi)) := by
 have hown := ha.1
 obtain ⟨ad, capa, rfl, a1, a2, a3⟩ := frow_form hown
 unfold maxLen at a2
 have A3 := hide a3
 have HA := hide ha
 have HLL := hide hll
 have HE := hide he
 clear a3 ha hll hown
 go_enter Tryz.func56, Tryz.ntmps56
 go_wp2
 go_loopw [1, 5] (fun kv iv wr => ∃ j p : Nat, j ≤ rs.length ∧ iv = .int .i64 j ∧ kv = .int .i64 (p : Int) ∧ Hid (p = endB 1 (rs.take j)) ∧ Hid (FlashIn wr lo hi (.slice ad rs.length capa) (marksB 1 (rs.take j) ++ rs.drop j)) ∧ Hid (Kept2 w wr (Apart lo hi))) (fun _ iv _ => rs.length - (intOf iv).toNat)
 case atStart => exact ⟨0, 1, Nat.zero_le _, rfl, rfl, rfl, HA, Kept2.refl _ _⟩
 case round =>
  obtain ⟨j, p, hj, rfl, rfl, HP, HO, HW⟩ := hrel
  have hp0 : 0 < p := by have := endB_le 1 (rs.take j); have := HP.out; omega
  have hp1 : p ≤ 1000000000 := by have := endB_take 1 rs j; have := HP.out; omega
  by_cases hlt : (j : Int) < rs.length
  ·obtain ⟨ga, rfl, g1, g2⟩ := A3.out (by omega)
   have hjl : j < rs.length := by omega
   obtain ⟨x, y, u, ls, hr⟩ : ∃ x y u ls, rs[j]? = some (x, y, u, ls) := ⟨rs[j].1, rs[j].2.1, rs[j].2.2.1, rs[j].2.2.2, List.getElem?_eq_getElem hjl⟩
   have hlm : (marksB 1 (rs.take j)).length = j := by rw [marksB_len, List.length_take]; omega
   obtain ⟨cur, hcur⟩ : ∃ cur, marksB 1 (rs.take j) ++ rs.drop j = cur := ⟨_, rfl⟩
   have hcl : cur.length = rs.length := by rw [← hcur, List.length_append, hlm, List.length_drop]; omega
   have hcj : cur[j]? = some (x, y, u, ls) := by
    rw [← hcur, List.getElem?_append_right (by omega), hlm, Nat.sub_self, List.getElem?_drop, Nat.add_zero, hr]
   have hms := marksB_set 1 rs j _ hr
   rw [hcur, ← HP.out] at hms
   simp only at hms
   rw [hcur] at HO
   have hg2 : ga < hi := HO.out.2.1 ga rfl
   obtain ⟨z, hz⟩ : ∃ z : Bool, ((p : Int) % 3 == 0) = z := ⟨_, rfl⟩
   have hz2 : z = decide (p % 3 = 0) := by
    rw [← hz]
    by_cases h3 : p % 3 = 0
    ·rw [decide_eq_true h3, beq_iff_eq]; omega
    ·rw [decide_eq_false h3, beq_eq_false_iff_ne]; omega
   have HO0 := HO.out.1
   rw [hcl] at HO0
   obtain ⟨c1, c2, c3⟩ := kown_cells (t := (x, y, u)) HO0 (by rw [List.getElem?_map, hcj]; rfl)
   simp only at c1 c2 c3
   have f1 := HO0.frozenAt (j * 3)
   have f2 := HO0.frozenAt (j * 3 + 1)
   -- Bad
   have F1 := HO.out.bad hcl.symm hcj z
   have hc1 : (cur.set j (z, y, u, ls))[j]? = some (z, y, u, ls) := by rw [List.getElem?_set_self (by omega)]
   -- Wear
   have F2 := F1.wear (k := j) (r := (z, y, u, ls)) (by rw [List.length_set]; exact hcl.symm) hc1 ((p : Int) + 1)
   rw [List.set_set] at F2
   simp only at F2
   have hc2 : (cur.set j (z, (p : Int) + 1, u, ls))[j]? = some (z, (p : Int) + 1, u, ls) := by rw [List.getElem?_set_self (by omega)]
   have LL := F2.2.2.1 (z, (p : Int) + 1, u, ls) (List.mem_of_getElem? hc2)
   simp only at LL
   have hlsz := HLL.out _ (List.mem_of_getElem? hr)
   simp only at hlsz
   have K2 := HW.out.trans ((Kept2.grown (ok := Apart lo hi) (grown_cell wr ga (j * 3) (.bool z)) (fun i hi' hok => by cases hi'; exact hok ⟨g1, hg2⟩)).trans (Kept2.grown (grown_cell (wr.setCell ⟨ga, j * 3, none⟩ (.bool z)) ga (j * 3 + 1) (.int .i64 ((p : Int) + 1))) (fun i hi' hok => by cases hi'; exact hok ⟨g1, hg2⟩)))
   obtain ⟨W2, hW2⟩ : ∃ W2, W2 = (wr.setCell ⟨ga, j * 3, none⟩ (.bool z)).setCell ⟨ga, j * 3 + 1, none⟩ (.int .i64 ((p : Int) + 1)) := ⟨_, rfl⟩
   have CM : Hid (Calls Tryz.prog 85 #[u, .int .i64 ((p : Int) + 1 + 1)] W2 fun e w' => e = .returned (.int .i64 (((p + 2) + 2 * ls.length : Nat) : Int)) ∧ Hid (FlashIn w' lo hi (.slice (some ⟨ga, 0, none⟩) rs.length capa) (marksB 1 (rs.take (j + 1)) ++ rs.drop (j + 1))) ∧ Hid (Kept2 w w' (Apart lo hi))) := by
    rw [← hW2] at LL F2 K2
    refine (markLeafS_any u ls lo (p + 2) _ W2 (by omega) hlsz (by omega) (by omega) LL.1).mono ?_
    rintro e w' ⟨rfl, ho', hg'⟩
    refine ⟨rfl, ?_, ?_⟩
    ·have hLI : LeafIn w' lo hi u (marksL (p + 2) ls.length) := ⟨by rw [marksL_len]; exact ho', LL.2⟩
     have F3 := F2.leaves (k := j) hc2 hg' hLI
     rw [List.set_set] at F3
     simp only at F3
     rw [hz2, show (p : Int) + 1 = ((p + 1 : Nat) : Int) by omega, hms] at F3
     exact F3
    ·exact K2.trans (Kept2.grown hg' (fun i hi' hok => hok ⟨(LL.1.lt i hi').1, LL.2 i hi'⟩))
   rw [hW2] at CM
   have HP2 : Hid (p + 2 + 2 * ls.length = endB 1 (rs.take (j + 1))) := by
    show _ = _
    obtain ⟨e1, e2⟩ := List.getElem?_eq_some_iff.1 hr
    rw [List.take_succ_eq_append_getElem e1, e2, endB_snoc, ← HP.out]
   obtain ⟨ua, uc, rfl, -⟩ := frow_form LL.1
   have j0 : (0 : Int) ≤ j := by omega
   clear hr hlm hcur hcl hcj hms hz2 HO0 F1 F2 hc1 hc2 LL K2 hW2 HO HW HP
   go_wp2_with fail
   refine CM.out.mono ?_
   rintro e w5 ⟨rfl, HF5, HK5⟩
   clear CM
   go_wp2
   go_roundw
   case rel => exact ⟨j + 1, p + 2 + 2 * ls.length, by omega, by go_num, by first | rfl | go_num, HP2, HF5, HK5⟩
   case measure => simp [intOf]; omega
  ·have hje : j = rs.length := by omega
   have hO := HO.out
   rw [hje, List.drop_length, List.append_nil, List.take_length] at hO
   have hP := HP.out
   rw [hje, List.take_length] at hP
   have HO2 := hide hO
   have E : Hid ((p : Int) = ((endB 1 rs : Nat) : Int)) := by show _ = _; rw [hP]
   clear hO hje HO hP HP
   go_wp2
   go_ret
   exact ⟨congrArg (fun x => Ending.returned (.int .i64 x)) E.out, HO2, HW⟩
theorem markFlash_any (a : Value) (rs : List Rw) (lo hi : Nat) (w : World) (hl : rs.length ≤ 1048576) (hll : ∀ r ∈ rs, r.2.2.2.length ≤ 1048576) (he : endB 1 rs ≤ 1000000000) (hh : hi ≤ w.heap.size) (ha : FlashIn w lo hi a rs) :
 Calls Tryz.prog 34 #[.agg #[a], .int .i64 1] w fun e w' => e = .returned (.int .i64 ((endB 1 rs : Nat) : Int)) ∧ Hid (FlashIn w' lo hi a (marksB 1 rs)) ∧ Hid (Kept2 w w' (Apart lo hi)) := by
 have hown := ha.1
 obtain ⟨ad, capa, rfl, -⟩ := frow_form hown
 have HB := hide ((Below.refl w.heap.size w).alloc (Nat.le_refl _) (.cells #[.slice ad rs.length capa] 46))
 have HA := hide (ha.below HB.out hh)
 have HLL := hide hll
 clear ha hll hown
 go_enter Tryz.func34, Tryz.ntmps34
 go_wp2_with fail
 refine (markBlockS_any _ rs lo hi _ hl HLL.out he HA.out).mono ?_
 rintro e w1 ⟨rfl, HF, HK⟩
 have HK2 := hide ((Kept2.below HB.out).trans HK.out)
 clear HK
 go_wp2
 go_ret
 exact ⟨rfl, HF, HK2⟩
end Go.Proofs.YtcjgjkejhkhknacGreatDoor
