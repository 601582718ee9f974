/-
  IScan2; FdOr; PkRM
-/
import Derived.Test.YtcjgjkejhkhknacGreatDoorPk24
import Derived.Test.YtcjgjkejhkhknacGreatDoorPk27
import Derived.Test.YtcjgjkejhkhknacGreatDoorPk18
import Derived.Test.YtcjgjkejhkhknacGreatDoorPk4
set_option maxHeartbeats 2000000
set_option maxRecDepth 100000
namespace Go.Proofs.YtcjgjkejhkhknacGreatDoor
open Go.RowKit
open Words Sums
def FRes (w : World) (B : Nat) (u : Value) (M : List Fnd) : Prop := (u = .slice none 0 0 ∧ M = []) ∨ ∃ g cap, u = .slice (some ⟨g, 0, none⟩) M.length cap ∧ B ≤ g ∧ SRow w g M ∧ M.length ≤ 1000000000000000000
theorem own_fres {w : World} {B : Nat} {u : Value} {l : List Fnd} (h : w.ownsRow B 127 8 u l.length (fcells l)) (hl : l.length ≤ 1000000000000000000) : FRes w B u l := by
 obtain ⟨h1, h2⟩ := h
 rcases h2 with ⟨rfl, h3⟩ | ⟨g, cap, cur, rfl, h3, h4, h5, h6, h7, h8⟩
 ·exact .inl ⟨rfl, List.eq_nil_of_length_eq_zero h3⟩
 ·refine .inr ⟨g, cap, rfl, h3, ⟨cur, h4, fun i x hx j v hv => ?_⟩, hl⟩
  have := fcells_at l i x hx j v hv
  rw [← h8] at this
  obtain ⟨h9, h10⟩ := List.getElem?_eq_some_iff.1 this
  rw [List.getElem_take] at h10
  rw [List.length_take] at h9
  rw [← Array.getElem?_toList, List.getElem?_eq_some_iff]
  exact ⟨by omega, h10⟩
theorem sort_nil (w : World) :
 Calls Tryz.prog 96 #[.slice none 0 0, .func (.func 97) #[] #[]] w fun e w' => e = .returned (.tuple #[]) ∧ Below w.heap.size w w' := by
 have CI : Hid (∀ W, Calls Tryz.prog 149 #[.slice none 0 0, .int .i64 0, .int .i64 0, .func (.func 97) #[] #[]] W fun e w' => e = .returned (.tuple #[]) ∧ w' = W) := by
  intro W
  go_enter Tryz.func149, Tryz.ntmps149
  go_wp2
  go_loopw [8] (fun iv wr => iv = .int .i64 1 ∧ wr = W) (fun _ _ => 0)
  case atStart => exact ⟨rfl, rfl⟩
  case round =>
   obtain ⟨rfl, rfl⟩ := hrel
   go_wp2
   first | go_end0 | refine bodyPost_ret (results_none rfl _ _ _) rfl ?_
   exact ⟨rfl, rfl⟩
 have CS : Hid (∀ W, Calls Tryz.prog 127 #[.slice none 0 0, .int .i64 0, .func (.func 97) #[] #[]] W fun e w' => e = .returned (.tuple #[]) ∧ w' = W) := by
  intro W
  go_enter Tryz.func127, Tryz.ntmps127
  go_wp2
  go_loopw [7, 8] (fun av bv wr => av = .int .i64 0 ∧ bv = .int .i64 20 ∧ wr = W) (fun _ _ _ => 0)
  case atStart => exact ⟨rfl, rfl, rfl⟩
  case round =>
   obtain ⟨rfl, rfl, rfl⟩ := hrel
   go_wp2_with fail
   refine (CI.out _).mono ?_
   rintro e w1 ⟨rfl, rfl⟩
   go_wp2
   go_loopw [6] (fun sv wr => sv = .int .i64 20 ∧ wr = w1) (fun _ _ => 0)
   case atStart => exact ⟨rfl, rfl⟩
   case round =>
    obtain ⟨rfl, rfl⟩ := hrel
    go_wp2
    first | go_end0 | refine bodyPost_ret (results_none rfl _ _ _) rfl ?_
    exact ⟨rfl, rfl⟩
 go_enter Tryz.func96, Tryz.ntmps96
 go_wp2_with fail
 refine (CS.out _).mono ?_
 rintro e w1 ⟨rfl, rfl⟩
 go_wp2
 first | go_end0 | refine bodyPost_ret (results_none rfl _ _ _) rfl ?_
 exact ⟨rfl, Below.refl _ _⟩
theorem iscan_rd (v : Value) (rs : List Rw) (w : World) (hl : rs.length ≤ 1048576) (hll : ∀ r ∈ rs, r.2.2.2.length ≤ 1048576) (htx : TxB rs) (ha : FlashRd w v rs) (ht : HalvIn w) :
 Calls Tryz.prog 66 #[.agg #[v]] w fun e w' => ∃ u M, e = .returned u ∧ Asc M ∧ Akin (founds (rs.map tellOf) rs.length) M ∧ FRes w' w.heap.size u M ∧ Below w.heap.size w w' := by
 obtain ⟨i0, hi0, hz0, hz1, hz2⟩ := info_parts infoFound
 have h1 := ha
 obtain ⟨vd, vcap, rfl, -⟩ := h1
 have HT := hide ht
 have HTX := hide htx
 have HLL := hide hll
 obtain ⟨n, hn⟩ : ∃ n, rs.length = n := ⟨_, rfl⟩
 have HN := hide hn
 have HF2 := hide ha
 rw [hn] at hl HF2 ⊢
 have b0 : Below w.heap.size w (w.alloc (.cells #[.slice vd n vcap] 46)) := (Below.refl _ _).alloc (Nat.le_refl _) _
 have S0 : Hid (Scn w (w.alloc (.cells #[.slice vd n vcap] 46)) (.slice vd n vcap) (.slice none 0 0) []) := ⟨b0, heap_alloc_new _ _, World.ownsRow_nil _ _ _ _⟩
 clear ha ht htx hll hn b0
 go_enter Tryz.func66, Tryz.ntmps66
 go_wp2
 go_loopw [3, 11] (fun out bv wr => ∃ (b : Nat) (l : List Fnd), bv = .int .i64 b ∧ b ≤ n ∧ l.length ≤ b * 1048576 ∧ Hid (l = founds (rs.map tellOf) b) ∧ Hid (Scn w wr (.slice vd n vcap) out l)) (fun _ bv _ => n - (intOf bv).toNat)
 case atStart => exact ⟨0, [], rfl, Nat.zero_le _, by simp, rfl, S0⟩
 case round =>
  rename World => wo
  obtain ⟨b, l, rfl, r1, rlen, HLd, HS⟩ := hrel
  clear S0
  have cf : wo.cell? ⟨w.heap.size, 0, none⟩ = some (.slice vd n vcap) := cell_of_row _ _ 0 _ _ _ HS.out.2.1
  by_cases hlt : (b : Int) < n
  ·have hbl : b < rs.length := by have := HN.out; omega
   obtain ⟨r, hr⟩ : ∃ r, rs[b]? = some r := ⟨_, List.getElem?_eq_getElem hbl⟩
   obtain ⟨gv, e, ⟨-, -, c3⟩, hlf⟩ := (HF2.out.below HS.out.1).at hr
   subst e
   obtain ⟨ld, lc, e2, -⟩ := hlf
   have hml := HLL.out r (List.mem_of_getElem? hr)
   obtain ⟨m, hm⟩ : ∃ m, r.2.2.2.length = m := ⟨_, rfl⟩
   have c3' : wo.cell? ⟨gv, b * 3 + 2, none⟩ = some (.slice ld m lc) := by rw [c3, e2, hm]
   rw [hm] at hml
   have HM : Hid (founds (rs.map tellOf) (b + 1) = founds (rs.map tellOf) b ++ foundsAt (rs.map tellOf) b m) := by
    show _ = _
    simp only [founds, List.getElem?_map, hr, Option.map_some, Option.getD_some]
    show founds _ b ++ foundsAt _ b (tellOf r).2.2.length = _
    rw [show (tellOf r).2.2.length = m from hm]
   have b0 : (0 : Int) ≤ b := by omega
   have L0 : Hid (l = founds (rs.map tellOf) b ++ foundsAt (rs.map tellOf) b 0) := by show _ = _; rw [HLd.out]; simp [foundsAt]
   clear c3 e2 hr hbl hm
   go_wp2
   go_loopw [3, 21] (fun out kv wr => ∃ (k : Nat) (l2 : List Fnd), kv = .int .i64 k ∧ k ≤ m ∧ l2.length ≤ b * 1048576 + k ∧ Hid (l2 = founds (rs.map tellOf) b ++ foundsAt (rs.map tellOf) b k) ∧ Hid (Scn w wr (.slice (some ⟨gv, 0, none⟩) n vcap) out l2)) (fun _ kv _ => m - (intOf kv).toNat)
   case atStart => exact ⟨0, l, rfl, Nat.zero_le _, Nat.le_trans rlen (Nat.le_add_right _ _), L0, HS⟩
   case round =>
    rename Value => vout
    obtain ⟨k, l2, rfl, t1, tlen, HL2, HS2⟩ := hrel
    clear HS L0 cf c3'
    have cf : wr.cell? ⟨w.heap.size, 0, none⟩ = some (.slice (some ⟨gv, 0, none⟩) n vcap) := cell_of_row _ _ 0 _ _ _ HS2.out.2.1
    by_cases hk : (k : Int) < m
    ·have C := hide (pageAt_rd (.slice (some ⟨gv, 0, none⟩) n vcap) rs (b : Int) (k : Int) wr (by have := HN.out; omega) HLL.out HTX.out (HF2.out.below HS2.out.1) (HT.out.on HS2.out.1))
     cases ho : leafPg (rs.map tellOf) (b : Int) (k : Int) with
     | none =>
      rw [ho] at C
      unfold pgRes pgVal at C
      simp only at C
      have NL : Hid (l2 = founds (rs.map tellOf) b ++ foundsAt (rs.map tellOf) b (k + 1)) := by show _ = _; rw [HL2.out]; simp [foundsAt, ho]
      clear ho HL2
      go_wp2_with fail
      refine C.out.mono ?_
      rintro e w2 ⟨rfl, b2⟩
      have S3 := hide ((HS2.out.below b2).below ((Below.refl _ _).alloc (Nat.le_refl _) (.cells #[.int .i64 0, .int .i64 0, .int .i64 0, .int .i64 0, .int .i64 0, .string ⟨#[]⟩] 123)))
      clear b2 HS2 C
      go_wp2
      go_roundw
      case rel => exact ⟨k + 1, l2, by go_num, by omega, by omega, NL, S3⟩
      case measure => simp [intOf]; omega
     | some pg =>
      rw [ho] at C
      obtain ⟨q1, q2, q3, q4, q5, q6⟩ := pg
      unfold pgRes pgVal at C
      simp only at C
      have NL : Hid (l2 ++ [⟨b, k, ⟨q1, q2, q3, q4, q5, q6⟩⟩] = founds (rs.map tellOf) b ++ foundsAt (rs.map tellOf) b (k + 1)) := by show _ = _; rw [HL2.out]; simp [foundsAt, ho]
      clear ho HL2
      go_wp2_with fail
      refine C.out.mono ?_
      rintro e w2 ⟨rfl, b2⟩
      have ba := (Below.refl w2.heap.size w2).alloc (Nat.le_refl _) (.cells #[.int .i64 q1, .int .i64 q2, .int .i64 q3, .int .i64 q4, .int .i64 q5, .string q6] 123)
      have S3 := hide ((HS2.out.below b2).below ba)
      have z3 : (w2.alloc (.cells #[.int .i64 q1, .int .i64 q2, .int .i64 q3, .int .i64 q4, .int .i64 q5, .string q6] 123)).heap.size = w2.heap.size + 1 := by simp
      have HN5 := hide (cells_new (w2.alloc (.cells #[.int .i64 q1, .int .i64 q2, .int .i64 q3, .int .i64 q4, .int .i64 q5, .string q6] 123)) ([Value.int .i64 (b : Int), Value.int .i64 (k : Int), Value.int .i64 q1, Value.int .i64 q2, Value.int .i64 q3, Value.int .i64 q4, Value.int .i64 q5, Value.string q6] : List Value).toArray 127 (w2.heap.size + 1) z3)
      clear b2 HS2 C ba
      go_wp2_with (at_builtin; refine wpList_append_own _ rfl _ _ 88 rfl (w.heap.size + 1) 127 i0 (.agg #[.int .i64 0, .int .i64 0, .int .i64 0, .int .i64 0, .int .i64 0, .int .i64 0, .int .i64 0, .string ⟨#[]⟩]) 8 72 Tryz.underlying88 hi0 hz0 hz1 hz2 rfl (by decide) _ l2.length (fcells l2) rfl (S3.out.2.2.alloc _) ⟨w2.heap.size + 1, 0, none⟩ 1 1 [Value.int .i64 (b : Int), Value.int .i64 (k : Int), Value.int .i64 q1, Value.int .i64 q2, Value.int .i64 q3, Value.int .i64 q4, Value.int .i64 q5, Value.string q6] rfl rfl HN5.out (fd_one ⟨b, k, ⟨q1, q2, q3, q4, q5, q6⟩⟩) ?g1 ?g2 ?g3 ?_)
      case g1 => unfold maxLen; omega
      case g2 => omega
      case g3 => have := S3.out.1.size; simp; omega
      intro v' w4 hown hgrow _
      have NS : Hid (Scn w w4 (.slice (some ⟨gv, 0, none⟩) n vcap) v' (l2 ++ [⟨b, k, ⟨q1, q2, q3, q4, q5, q6⟩⟩])) := by
       have bz := S3.out.below ((Below.refl _ _).alloc (Nat.le_refl _) (.cells (fdCells ⟨b, k, ⟨q1, q2, q3, q4, q5, q6⟩⟩).toArray 127))
       have lt0 := (Array.getElem?_eq_some_iff.1 bz.2.1).1
       refine ⟨bz.1.grown hgrow bz.1.size (fun x hx => Nat.le_of_succ_le (S3.out.2.2.lt x hx).1), (hgrow.block w.heap.size lt0 (fun e => ?_)).trans bz.2.1, ?_⟩
       ·have := (S3.out.2.2.lt _ e.symm).1
        omega
       ·rw [List.length_append, ← fcells_snoc]
        exact hown
      have NN : (l2 ++ [(⟨b, k, ⟨q1, q2, q3, q4, q5, q6⟩⟩ : Fnd)]).length = l2.length + 1 := by simp
      generalize l2 ++ [(⟨b, k, ⟨q1, q2, q3, q4, q5, q6⟩⟩ : Fnd)] = l3 at NL NS NN
      clear hown hgrow S3 HN5
      go_wp2
      go_roundw
      case rel => exact ⟨k + 1, l3, by go_num, by omega, by omega, NL, NS⟩
      case measure => simp [intOf]; omega
    ·have hkm : k = m := by omega
     have NL : Hid (l2 = founds (rs.map tellOf) (b + 1)) := by show _ = _; rw [HL2.out, HM.out, hkm]
     clear HL2 hkm
     go_wp2
     go_roundw
     case rel => exact ⟨b + 1, l2, by go_num, by omega, by omega, NL, HS2⟩
     case measure => simp [intOf]; omega
  ·have hbn : b = n := by omega
   have HLn : Hid (l = founds (rs.map tellOf) n) := by show _ = _; rw [HLd.out, hbn]
   have hres := own_fres HS.out.2.2 (by omega)
   rcases hres with ⟨e1, e2⟩ | ⟨g, cap, e1, hg, hsr, -⟩
   ·subst e1 e2
    have B1 := hide HS.out.1
    clear HS cf HLd hbn
    go_wp2_with fail
    refine (sort_nil _).mono ?_
    rintro e w2 ⟨rfl, b2⟩
    have B2 := hide (B1.out.trans (b2.mono B1.out.size))
    clear b2 B1
    go_wp2
    go_ret
    exact ⟨_, [], rfl, List.Pairwise.nil, by rw [← HLn.out]; exact Akin.refl _, .inl ⟨rfl, rfl⟩, B2.out⟩
   ·subst e1
    obtain ⟨nl, hnl⟩ : ∃ nl, l.length = nl := ⟨_, rfl⟩
    rw [hnl] at rlen
    have C := hide (sortStable g nl cap l wo (by omega) hnl hsr)
    have B1 := hide HS.out.1
    rw [hnl]
    have HNL := hide hnl
    have hg2 : w.heap.size ≤ g := by omega
    clear HS cf HLd hbn hsr hnl
    go_wp2_with fail
    refine C.out.mono ?_
    rintro e w2 ⟨rfl, M, m1, m2, m3, m4⟩
    have B2 := hide (B1.out.trans (Kept2.down (B := w.heap.size) m4.1 B1.out.size (fun i hi => by omega)))
    have PF : Hid (Asc M ∧ Akin (founds (rs.map tellOf) n) M ∧ FRes w2 w.heap.size (.slice (some ⟨g, 0, none⟩) nl cap) M) := ⟨m1, by rw [← HLn.out]; exact m2, .inr ⟨g, cap, by rw [m3, HNL.out], hg2, m4.2, by rw [m3, HNL.out]; omega⟩⟩
    clear m1 m2 m3 m4 B1 C
    go_wp2
    go_ret
    exact ⟨_, M, rfl, PF.out.1, PF.out.2.1, PF.out.2.2, B2.out⟩
end Go.Proofs.YtcjgjkejhkhknacGreatDoor
namespace Go.Proofs.YtcjgjkejhkhknacGreatDoor
open Go.RowKit
open Words
def fd0 : Fnd := ⟨0, 0, ⟨0, 0, 0, 0, 0, ⟨#[]⟩⟩⟩
def fdOr (o : Option Fnd) : Fnd := o.getD fd0
def FdAt (W : World) (g : Nat) (x : Fnd) : Prop := W.heap[g]? = some (.cells #[.int .i64 x.block, .int .i64 x.leaf, .int .i64 x.page.kind, .int .i64 x.page.seq, .int .i64 x.page.tx, .int .i64 x.page.part, .int .i64 x.page.count, .string x.page.text] 127 (0, 0))
theorem FdAt.cells {W : World} {g : Nat} {x : Fnd} (h : FdAt W g x) : W.cell? ⟨g, 0, none⟩ = some (.int .i64 x.block) ∧ W.cell? ⟨g, 1, none⟩ = some (.int .i64 x.leaf) ∧ W.cell? ⟨g, 2, none⟩ = some (.int .i64 x.page.kind) ∧ W.cell? ⟨g, 3, none⟩ = some (.int .i64 x.page.seq) ∧ W.cell? ⟨g, 4, none⟩ = some (.int .i64 x.page.tx) ∧ W.cell? ⟨g, 5, none⟩ = some (.int .i64 x.page.part) ∧ W.cell? ⟨g, 6, none⟩ = some (.int .i64 x.page.count) ∧ W.cell? ⟨g, 7, none⟩ = some (.string x.page.text) :=
 ⟨cell_of_row _ _ 0 _ _ _ h, cell_of_row _ _ 1 _ _ _ h, cell_of_row _ _ 2 _ _ _ h, cell_of_row _ _ 3 _ _ _ h, cell_of_row _ _ 4 _ _ _ h, cell_of_row _ _ 5 _ _ _ h, cell_of_row _ _ 6 _ _ _ h, cell_of_row _ _ 7 _ _ _ h⟩
theorem FdAt.fr {W : World} {g : Nat} {x : Fnd} (h : FdAt W g x) (k : Nat) : W.frozen? ⟨g, k, none⟩ = false := frozen_of_row _ _ k _ _ h
theorem eight_cs {w : World} {g : Nat} {t : TypeId} {y0 y1 y2 y3 y4 y5 y6 y7 a b c d e f k l : Value} (h : w.heap[g]? = some (.cells #[y0, y1, y2, y3, y4, y5, y6, y7] t (0, 0))) :
 ((((((((w.setCell ⟨g, 0, none⟩ a).setCell ⟨g, 1, none⟩ b).setCell ⟨g, 2, none⟩ c).setCell ⟨g, 3, none⟩ d).setCell ⟨g, 4, none⟩ e).setCell ⟨g, 5, none⟩ f).setCell ⟨g, 6, none⟩ k).setCell ⟨g, 7, none⟩ l).heap[g]? = some (.cells #[a, b, c, d, e, f, k, l] t (0, 0)) := by
 have h0 : (w.setCell ⟨g, 0, none⟩ a).heap[g]? = some (.cells #[a, y1, y2, y3, y4, y5, y6, y7] t (0, 0)) := heap_setCell_same _ _ 0 _ _ _ h
 generalize w.setCell ⟨g, 0, none⟩ a = w0 at h0 ⊢
 have h1 : (w0.setCell ⟨g, 1, none⟩ b).heap[g]? = some (.cells #[a, b, y2, y3, y4, y5, y6, y7] t (0, 0)) := heap_setCell_same _ _ 1 _ _ _ h0
 generalize w0.setCell ⟨g, 1, none⟩ b = w1 at h1 ⊢
 have h2 : (w1.setCell ⟨g, 2, none⟩ c).heap[g]? = some (.cells #[a, b, c, y3, y4, y5, y6, y7] t (0, 0)) := heap_setCell_same _ _ 2 _ _ _ h1
 generalize w1.setCell ⟨g, 2, none⟩ c = w2 at h2 ⊢
 have h3 : (w2.setCell ⟨g, 3, none⟩ d).heap[g]? = some (.cells #[a, b, c, d, y4, y5, y6, y7] t (0, 0)) := heap_setCell_same _ _ 3 _ _ _ h2
 generalize w2.setCell ⟨g, 3, none⟩ d = w3 at h3 ⊢
 have h4 : (w3.setCell ⟨g, 4, none⟩ e).heap[g]? = some (.cells #[a, b, c, d, e, y5, y6, y7] t (0, 0)) := heap_setCell_same _ _ 4 _ _ _ h3
 generalize w3.setCell ⟨g, 4, none⟩ e = w4 at h4 ⊢
 have h5 : (w4.setCell ⟨g, 5, none⟩ f).heap[g]? = some (.cells #[a, b, c, d, e, f, y6, y7] t (0, 0)) := heap_setCell_same _ _ 5 _ _ _ h4
 generalize w4.setCell ⟨g, 5, none⟩ f = w5 at h5 ⊢
 have h6 : (w5.setCell ⟨g, 6, none⟩ k).heap[g]? = some (.cells #[a, b, c, d, e, f, k, y7] t (0, 0)) := heap_setCell_same _ _ 6 _ _ _ h5
 generalize w5.setCell ⟨g, 6, none⟩ k = w6 at h6 ⊢
 exact heap_setCell_same _ _ 7 _ _ _ h6
theorem FdAt.set {W : World} {g : Nat} {x : Fnd} (h : FdAt W g x) (y : Fnd) :
 FdAt ((((((((W.setCell ⟨g, 0, none⟩ (.int .i64 y.block)).setCell ⟨g, 1, none⟩ (.int .i64 y.leaf)).setCell ⟨g, 2, none⟩ (.int .i64 y.page.kind)).setCell ⟨g, 3, none⟩ (.int .i64 y.page.seq)).setCell ⟨g, 4, none⟩ (.int .i64 y.page.tx)).setCell ⟨g, 5, none⟩ (.int .i64 y.page.part)).setCell ⟨g, 6, none⟩ (.int .i64 y.page.count)).setCell ⟨g, 7, none⟩ (.string y.page.text)) g y := eight_cs h
theorem below_fd {B g : Nat} {a w : World} {v0 v1 v2 v3 v4 v5 v6 v7 : Value} (h : Below B a w) (hg : B ≤ g) :
 Below B a ((((((((w.setCell ⟨g, 0, none⟩ v0).setCell ⟨g, 1, none⟩ v1).setCell ⟨g, 2, none⟩ v2).setCell ⟨g, 3, none⟩ v3).setCell ⟨g, 4, none⟩ v4).setCell ⟨g, 5, none⟩ v5).setCell ⟨g, 6, none⟩ v6).setCell ⟨g, 7, none⟩ v7) :=
 (((((((h.setCell (p := ⟨g, 0, none⟩) hg _).setCell (p := ⟨g, 1, none⟩) hg _).setCell (p := ⟨g, 2, none⟩) hg _).setCell (p := ⟨g, 3, none⟩) hg _).setCell (p := ⟨g, 4, none⟩) hg _).setCell (p := ⟨g, 5, none⟩) hg _).setCell (p := ⟨g, 6, none⟩) hg _).setCell (p := ⟨g, 7, none⟩) hg _
theorem infoFdS : (Tryz.prog.info? 127).map (·.size) = some 8 := by kernel_rfl
theorem results_fd2 {fn : Func} {p q : Tmp} (h : fn.results = #[.cell p 127, .tmp q]) (tmps : Array Value) (w : World) (g : Nat) (x : Fnd)
 (hp : tmps.getD p undef = .pointer (some ⟨g, 0, none⟩)) (hc : FdAt w g x) :
 (results fn tmps).run Tryz.prog w = .ok (.tuple #[fdVal x, tmps.getD q undef]) w := by
 have hp' : tmps[p]?.getD undef = .pointer (some ⟨g, 0, none⟩) := by simpa using hp
 have hl := run_loadVar_row (P := Tryz.prog) w g 127 127 _ _ _ hc Tryz.underlying127 rfl infoFdS
 simp [results, h, hp', asAddr, hl, fdVal]
theorem FdRd.all {w : World} {a : Option Addr} {len : Nat} {ls : List Fnd} (h : FdRd w a len ls) {k : Nat} {t : Fnd} (hk : ls[k]? = some t) :
 ∃ b off, a = some ⟨b, off, none⟩ ∧ b < w.heap.size ∧ w.cell? ⟨b, off + k * 8, none⟩ = some (.int .i64 t.block) ∧ w.cell? ⟨b, off + k * 8 + 1, none⟩ = some (.int .i64 t.leaf) ∧
  w.cell? ⟨b, off + k * 8 + 2, none⟩ = some (.int .i64 t.page.kind) ∧ w.cell? ⟨b, off + k * 8 + 3, none⟩ = some (.int .i64 t.page.seq) ∧ w.cell? ⟨b, off + k * 8 + 4, none⟩ = some (.int .i64 t.page.tx) ∧
  w.cell? ⟨b, off + k * 8 + 5, none⟩ = some (.int .i64 t.page.part) ∧ w.cell? ⟨b, off + k * 8 + 6, none⟩ = some (.int .i64 t.page.count) ∧ w.cell? ⟨b, off + k * 8 + 7, none⟩ = some (.string t.page.text) ∧ w.cell? ⟨b, off + k * 8 + 2 + 2, none⟩ = some (.int .i64 t.page.tx) := by
 obtain ⟨b, off, e, h0, h1, h2, h3, h4, h5, h6, h7, h8⟩ := h.at hk
 exact ⟨b, off, e, h0, h1, h2, h3, h4, h5, h6, h7, h8, h5⟩
theorem FRes.rd {W : World} {B : Nat} {u : Value} {M : List Fnd} (h : FRes W B u M) : ∃ ad cap, u = .slice ad M.length cap ∧ FdRd W ad M.length M ∧ M.length ≤ 1000000000000000000 := by
 rcases h with ⟨rfl, rfl⟩ | ⟨g, cap, rfl, hB, hr, hl⟩
 ·exact ⟨none, 0, rfl, ⟨rfl, by unfold maxLen; simp, fun h => by simp at h⟩, by simp⟩
 ·refine ⟨_, _, rfl, ⟨rfl, by unfold maxLen; omega, fun _ => ⟨g, 0, rfl, hr.lt, fun i t hi j v hv => ?_⟩⟩, hl⟩
  rw [Nat.zero_add]
  exact hr.cell hi j hv
end Go.Proofs.YtcjgjkejhkhknacGreatDoor
namespace Go.Proofs.YtcjgjkejhkhknacGreatDoor.Pack
def readG (lim : Nat) : Nat → List UInt8 → Option (List (Nat × Nat × List UInt8))
 | _, [] => some []
 | 0, _ :: _ => none
 | f + 1, n :: r =>
  if lim ≤ n.toNat then (match r with
   | b :: r' => (readG lim f r').map fun l => (b.toNat, n.toNat - 128, []) :: l
   | [] => none)
  else if n.toNat ≤ r.length then (readG lim f (r.drop n.toNat)).map fun l => (0, 0, r.take n.toNat) :: l else none
theorem readG_T (f : Nat) (r : List UInt8) : readG 129 f r = readT f r := by
 induction f generalizing r with
 | zero => cases r <;> rfl
 | succ f ih =>
  cases r with
  | nil => rfl
  | cons n r =>
   unfold readG readT
   by_cases h : 128 < n.toNat
   ·rw [if_pos h, if_pos (by omega)]
    cases r with
    | nil => rfl
    | cons b r => simp only [ih]
   ·rw [if_neg h, if_neg (by omega), ih]
theorem readG_fuel (lim f : Nat) (r : List UInt8) (h : r.length ≤ f) : readG lim f r = readG lim r.length r := by
 induction f using Nat.strongRecOn generalizing r with
 | ind f ih =>
  cases r with
  | nil => cases f <;> rfl
  | cons n r =>
   rw [List.length_cons] at h
   obtain ⟨g, rfl⟩ : ∃ g, f = g + 1 := ⟨f - 1, by omega⟩
   rw [List.length_cons]
   unfold readG
   by_cases hn : lim ≤ n.toNat
   ·rw [if_pos hn, if_pos hn]
    cases r with
    | nil => rfl
    | cons b r =>
     rw [List.length_cons] at h
     simp only
     rw [ih g (by omega) r (by omega)]
     by_cases hg : r.length + 1 < g + 1
     ·rw [List.length_cons, ih (r.length + 1) hg r (by omega)]
     ·omega
   ·rw [if_neg hn, if_neg hn]
    have hd : (r.drop n.toNat).length ≤ r.length := by rw [List.length_drop]; omega
    rw [ih g (by omega) (r.drop n.toNat) (by omega)]
    by_cases hg : r.length < g + 1
    ·rw [ih r.length hg (r.drop n.toNat) hd]
    ·omega
def RG (lim : Nat) (r : List UInt8) : Option (List (Nat × Nat × List UInt8)) := readG lim r.length r
theorem RG_nil (lim : Nat) : RG lim [] = some [] := rfl
theorem RG_match (lim : Nat) (n b : UInt8) (r : List UInt8) (h : lim ≤ n.toNat) : RG lim (n :: b :: r) = (RG lim r).map fun l => (b.toNat, n.toNat - 128, []) :: l := by
 unfold RG
 rw [List.length_cons]
 conv => lhs; unfold readG
 rw [if_pos h]
 simp only
 rw [readG_fuel lim _ r (by simp)]
theorem RG_cut (lim : Nat) (n : UInt8) (h : lim ≤ n.toNat) : RG lim [n] = none := by
 unfold RG
 rw [List.length_cons]
 conv => lhs; unfold readG
 rw [if_pos h]
theorem RG_text (lim : Nat) (n : UInt8) (r : List UInt8) (h : ¬ lim ≤ n.toNat) (h2 : n.toNat ≤ r.length) : RG lim (n :: r) = (RG lim (r.drop n.toNat)).map fun l => (0, 0, r.take n.toNat) :: l := by
 unfold RG
 rw [List.length_cons]
 conv => lhs; unfold readG
 rw [if_neg h, if_pos h2, readG_fuel lim _ (r.drop n.toNat) (by rw [List.length_drop]; omega)]
theorem RG_short (lim : Nat) (n : UInt8) (r : List UInt8) (h : ¬ lim ≤ n.toNat) (h2 : ¬ n.toNat ≤ r.length) : RG lim (n :: r) = none := by
 unfold RG
 rw [List.length_cons]
 conv => lhs; unfold readG
 rw [if_neg h, if_neg h2]
theorem RG_of (lim : Nat) (hl1 : 128 ≤ lim) (hl2 : lim ≤ 129) (l : List (Nat × Nat × List UInt8)) (h : ∀ t ∈ l, Fit t) : RG lim (l.flatMap zTok) = some l := by
 induction l with
 | nil => rfl
 | cons t l ih =>
  have ht := h t (by simp)
  have hl := ih (fun t ht => h t (by simp [ht]))
  rw [List.flatMap_cons]
  obtain ⟨b, n, x⟩ := t
  rcases ht with ⟨e0, e1, e2, e3⟩ | ⟨e0, e1, e2, e3, e4⟩
  ·simp only at e0 e1 e2 e3
   subst e0 e3
   have hz : zTok (0, 0, x) = UInt8.ofNat x.length :: x := rfl
   have hb := small_byte x.length (by omega)
   rw [hz, List.cons_append, RG_text _ _ _ (by rw [hb]; omega) (by rw [hb]; simp), hb, List.drop_left, List.take_left, hl]
   rfl
  ·simp only at e0 e1 e2 e3 e4
   subst e4
   have hz : zTok (b, n, []) = [UInt8.ofNat (128 + n), UInt8.ofNat b] := by
    unfold zTok
    rw [if_neg (by simp only; omega)]
   have hb := small_byte (128 + n) (by omega)
   have hc := small_byte b (by omega)
   rw [hz, List.cons_append, List.cons_append, List.nil_append, RG_match _ _ _ _ (by rw [hb]; omega), hb, hc, hl]
   simp
def plainI (t : List UInt8) : Option (List UInt8) :=
 match t with
 | [] => none
 | c :: r => if c = 114 then some r else if c = 122 then (RG 128 r).bind plain else none
def unpackI (t : List UInt8) : Option (List UInt8) := if 65 < t.length then none else (plainI t).bind fun s => if packL s = some t then some s else none
theorem unpackI_eq (t : List UInt8) : unpackI t = unpackL t := by
 apply Option.ext
 intro s
 constructor
 ·intro h
  refine unpack_pack s t ?_
  unfold unpackI at h
  split at h
  ·cases h
  ·cases hp : plainI t with
   | none => rw [hp] at h; cases h
   | some x =>
    rw [hp] at h
    simp only [Option.bind_some] at h
    split at h
    ·rename_i e; cases h; exact e
    ·cases h
 ·intro h
  have hp := pack_unpack s t h
  have hlen := pack_len s t hp
  have hs : s.length ≤ 64 := by
   unfold packL at hp
   split at hp
   ·cases hp
   ·omega
  unfold unpackI
  rw [if_neg (by omega)]
  have hi : plainI t = some s := by
   have hp' := hp
   unfold packL at hp'
   rw [if_neg (by omega)] at hp'
   split at hp'
   ·cases hp'
    rfl
   ·cases hp'
    unfold zOf plainI
    simp only
    rw [if_neg (by decide), if_pos trivial, RG_of 128 (by omega) (by omega) _ (fit_of [] s _ (by simp) (plain_toks s hs).1)]
    exact (plain_toks s hs).1
  rw [hi]
  simp only [Option.bind_some]
  rw [if_pos hp]
theorem unpackL_eq (c : UInt8) (r : List UInt8) : unpackL (c :: r) = (if c = 122 then (RG 129 r).bind plain else some r).bind fun s => if packL s = some (c :: r) then some s else none := by
 unfold unpackL RG
 simp only [readG_T]
end Go.Proofs.YtcjgjkejhkhknacGreatDoor.Pack
