/-
  impl.joined.
-/
import Derived.Test.YtogfdhfmamabiaaLTx
import Derived.Test.YtogfdhfmamabiaaIBld
import Derived.Test.YtogfdhfmamabiaaPMap2
import Derived.Test.YtogfdhfmamabiaaPk44
namespace Go.Proofs.Ytogfdhfmamabiaa
open Go.RowKit
open Words

/-- The result's cell, the transaction that is joined, and the builder of its text. -/
def JS (w W : World) (num sq : Int) (t : List UInt8) : Prop := LT w W num sq ∧ Bld (w.heap.size + 1 + 1) (w.heap.size + 1 + 1) t W
theorem LT.belowB {w W W' : World} {tx sq : Int} (h : LT w W tx sq) (b : Below (w.heap.size + 1 + 1) W W') : LT w W' tx sq :=
  ⟨h.1.trans (b.mono (by omega)), (b.block _ (by omega)).trans h.2.1, (b.block _ (by omega)).trans h.2.2⟩
theorem JS.start (w : World) (tx sq : Int) : JS w (((w.alloc (.cells #[.int .i64 0, .int .i64 0, .slice none 0 0] 31)).alloc (.cells #[.int .i64 tx, .int .i64 sq, .slice none 0 0] 31)).alloc (.cells #[.pointer none, .slice none 0 0] 100)) tx sq [] := by
  have z1 : (w.alloc (.cells #[.int .i64 0, .int .i64 0, .slice none 0 0] 31)).heap.size = w.heap.size + 1 := by simp
  have z2 : ((w.alloc (.cells #[.int .i64 0, .int .i64 0, .slice none 0 0] 31)).alloc (.cells #[.int .i64 tx, .int .i64 sq, .slice none 0 0] 31)).heap.size = w.heap.size + 1 + 1 := by simp
  have h1 := heap_alloc_new (w.alloc (.cells #[.int .i64 0, .int .i64 0, .slice none 0 0] 31)) (.cells #[.int .i64 tx, .int .i64 sq, .slice none 0 0] 31)
  have h2 := heap_alloc_new ((w.alloc (.cells #[.int .i64 0, .int .i64 0, .slice none 0 0] 31)).alloc (.cells #[.int .i64 tx, .int .i64 sq, .slice none 0 0] 31)) (.cells #[.pointer none, .slice none 0 0] 100)
  rw [z1] at h1
  rw [z2] at h2
  refine ⟨⟨(((Below.refl _ _).alloc (Nat.le_refl _) _).alloc (by simp) _).alloc (by simp; omega) _, ?_, ?_⟩, Bld.fresh (Nat.le_refl _) h2⟩
  · exact (Below.heap_alloc _ _ w.heap.size (by simp; omega)).trans ((Below.heap_alloc _ _ w.heap.size (by simp)).trans (heap_alloc_new w _))
  · exact (Below.heap_alloc _ _ (w.heap.size + 1) (by simp)).trans h1
theorem JS.set {w W : World} {tx sq : Int} {t : List UInt8} (h : JS w W tx sq t) (s : Int) : JS w (W.setCell ⟨w.heap.size + 1, 1, none⟩ (.int .i64 s)) tx s t :=
  ⟨h.1.set s, h.2.kept (fun i hi _ => Below.heap_setCell _ _ _ _ (by simp only; omega))⟩
theorem JS.write {w W W' : World} {tx sq : Int} {t t' : List UInt8} (h : JS w W tx sq t) (hb : Bld (w.heap.size + 1 + 1) (w.heap.size + 1 + 1) t' W') (b : Below (w.heap.size + 1 + 1) W W') : JS w W' tx sq t' := ⟨h.1.belowB b, hb⟩
/-- What joined answers. -/
def JoOut (w : World) (num : Int) (L : List Pg) (e : Ending) (w' : World) : Prop :=
  Below w.heap.size w w' ∧ ((recs (catP L).data.toList 0 = none ∧ e = .returned (.tuple #[.agg #[.int .i64 0, .int .i64 0, .slice none 0 0], .bool false])) ∨
    ∃ (rs : List Rc) (a : Option Addr) (n c : Nat), recs (catP L).data.toList 0 = some rs ∧ n = rs.length ∧ n ≤ maxLen ∧ e = .returned (.tuple #[.agg #[.int .i64 num, .int .i64 (least L), .slice a n c], .bool true]) ∧ Sli 34 w.heap.size w'.heap.size (.slice a n c) n (rccells (rs.map Rc.tu)) w')
theorem cat_take (L : List Pg) (i : Nat) : (catP (L.take i)).data.toList.length ≤ (catP L).data.toList.length := by
  rw [catP_list, catP_list]
  conv => rhs; rw [← List.take_append_drop i L, List.flatMap_append, List.length_append]
  omega
theorem cat_next {L : List Pg} {i : Nat} {q : Pg} (h : L[i]? = some q) : (catP (L.take i)).data.toList ++ q.text.data.toList = (catP (L.take (i + 1))).data.toList := by
  rw [catP_list, catP_list, List.take_add_one, h, List.flatMap_append]
  simp
theorem ba_back (x : ByteArray) : (⟨x.data.toList.toArray⟩ : ByteArray) = x := by cases x; simp

set_option maxHeartbeats 2000000 in
set_option maxRecDepth 100000 in
theorem ijoined (num : Int) (b : Nat) (l : List (Int × Pg)) (p : Pg) (L : List Pg) (w : World) (hm : MapI w b (inL l)) (hz : at? l 0 = some p) (hL : ∀ i : Nat, i < l.length → (p :: L)[i]? = at? l i) (hn : (p :: L).length = l.length) (hnb : l.length ≤ 1048577) (hs : (catP (p :: L)).size ≤ 1048576) :
    Calls Try.prog 45 #[.int .i64 num, .map (some b)] w (JoOut w num (p :: L)) := by
  have HM := hide hm
  have HL := hide hL
  have HS := hide hs
  have HN := hide hn
  have J0 := hide (JS.start w num p.seq)
  have hl0 := inLook (hm.below ((Below.refl _ _).alloc (Nat.le_refl _) (.cells #[.int .i64 0, .int .i64 0, .slice none 0 0] 31))) 0 false
  have hln := fun ty => (hm.below J0.out.1.1).len tyPg ty
  rw [hz] at hl0
  simp only [Option.map_some, Option.getD_some, Bool.false_eq_true, if_false, pgVal] at hl0
  rw [inL_len] at hln
  have hf1 := pgFld1
  have hf5 := pgFld5
  obtain ⟨n, hn2⟩ : ∃ n, l.length = n := ⟨_, rfl⟩
  rw [hn2] at hln HL HN hnb
  have HZ := hide hz
  clear hm hL hs hn hz hn2
  go_enter Try.func45, Try.ntmps45
  go_wp2
  generalize ((w.alloc (.cells #[.int .i64 0, .int .i64 0, .slice none 0 0] 31)).alloc (.cells #[.int .i64 num, .int .i64 p.seq, .slice none 0 0] 31)).alloc (.cells #[.pointer none, .slice none 0 0] 100) = wa at J0 hln ⊢
  clear hl0 hln
  go_loopw [18] (fun iv wr => ∃ (i : Nat) (sq : Int), i ≤ n ∧ iv = .int .i64 i ∧ Hid (sq = lst p ((p :: L).take i)) ∧ Hid (JS w wr num sq (catP ((p :: L).take i)).data.toList)) (fun iv _ => n - (intOf iv).toNat)
  case atStart => exact ⟨0, p.seq, Nat.zero_le _, rfl, rfl, J0⟩
  case round =>
    obtain ⟨i, sq, hi, rfl, ES, J⟩ := hrel
    clear J0
    by_cases hlt : (i : Int) < n
    · have hil : i < n := by omega
      obtain ⟨q, hq⟩ : ∃ q, (p :: L)[i]? = some q := ⟨_, List.getElem?_eq_getElem (by have := HN.out; omega)⟩
      have hat : at? l (i : Int) = some q := by rw [← HL.out i hil]; exact hq
      have hli : ∀ W, Below w.heap.size w W → (Instr.lookup 82 (.map (some b)) (.int .i64 (i : Int)) false).run Try.prog W = .ok (.agg #[.int .i64 q.kind, .int .i64 q.seq, .int .i64 q.tx, .int .i64 q.part, .int .i64 q.count, .string q.text]) W := by
        intro W hW
        have := inLook (HM.out.below hW) (i : Int) false
        rw [hat] at this
        simpa only [Option.map_some, Option.getD_some, Bool.false_eq_true, if_false, pgVal] using this
      have h1 := hli wr J.out.1.1
      have i0 : (0 : Int) ≤ i := by omega
      obtain ⟨-, a1, -⟩ := J.out.1.at
      have f1 := J.out.1.fr 1
      have hsz : (catP ((p :: L).take i)).data.toList.length + q.text.size ≤ 1048576 := by
        have e1 := congrArg List.length (cat_next hq)
        rw [List.length_append] at e1
        have e2 := cat_take (p :: L) (i + 1)
        have e3 : (catP (p :: L)).data.toList.length = (catP (p :: L)).size := by simp
        have e4 : q.text.data.toList.length = q.text.size := by simp
        have := HS.out
        omega
      have HQ := hide hq
      have J1 := hide (J.out.set (min sq q.seq))
      have h2 := hli _ J1.out.1.1
      have ES' : Hid (min sq q.seq = lst p ((p :: L).take (i + 1))) := by
        show _ = _
        rw [List.take_add_one, HQ.out]
        simp only [Option.toList_some]
        rw [lst_snoc, ← ES.out]
        by_cases hls : q.seq < sq
        · rw [if_pos hls]; omega
        · rw [if_neg hls]; omega
      have CW := hide (bldWrite _ _ _ q.text _ J1.out.2 hsz)
      clear hli hq hat hsz
      go_wp2_with fail
      refine CW.out.mono ?_
      rintro e w1 ⟨rfl, hb, bl⟩
      have J2 := hide (J1.out.write hb bl)
      rw [cat_next HQ.out] at J2
      clear hb bl CW J1 J h1 h2 a1 f1
      go_wp2
      go_roundw
      case rel => exact ⟨i + 1, min sq q.seq, by omega, by go_num, ES', J2⟩
      case measure => simp [intOf]; omega
    · have hin : (p :: L).take i = p :: L := List.take_of_length_le (by have := HN.out; omega)
      rw [hin] at J ES
      have EL : Hid (sq = least (p :: L)) := by show _ = _; rw [ES.out, lst_self]
      have CS := hide (bldString _ _ _ _ J.out.2)
      rw [ba_back] at CS
      have hcs := HS.out
      obtain ⟨t, ht⟩ : ∃ t, catP (p :: L) = t := ⟨_, rfl⟩
      have HT := hide ht
      rw [ht] at CS hcs
      clear hin ES ht
      go_wp2_with fail
      refine CS.out.mono ?_
      rintro e w0 ⟨rfl, b0⟩
      have T0 := hide (J.out.1.belowB b0)
      clear J b0 CS
      go_wp2_with fail
      refine (ireadRecs t w0 hcs).mono ?_
      rintro e w1 ⟨uv, acc, ok, rfl, ho, hb, hx⟩
      have T1 := hide (T0.out.below hb)
      have S1 := hide (Sli.of ho)
      obtain ⟨ua, uc, rfl, -⟩ := S1.out.form
      have S2 : Hid (Sli 34 w.heap.size w1.heap.size (.slice ua acc.length uc) acc.length (rccells (acc.map Rc.tu)) w1) := S1.out.dn T0.out.1.size
      have far : Hid (∀ g cs, (Value.slice ua acc.length uc).ownBlock = some g → w1.heap[g]? = some (.cells cs 31 (0, 0)) → False) := by
        intro g cs e q
        obtain ⟨-, -, cs', q'⟩ := S1.out.lt g e
        exact rec_ne_tx q' q
      have HLN := hide (own_len ho)
      clear ho hb S1 T0
      obtain ⟨a0, a1, a2⟩ := T1.out.at
      have g2 := T1.out.fr 2
      obtain ⟨b0, b1, b2⟩ := T1.out.at0
      have f0 := T1.out.fr0 0
      have f1 := T1.out.fr0 1
      have f2 := T1.out.fr0 2
      rcases hx with ⟨hx, rfl, rfl⟩ | ⟨hx, rfl⟩
      · have HX := hide hx
        clear hx far S2
        go_wp2
        refine bodyPost_ret (results_tx2 rfl _ _ w.heap.size 0 0 (.slice none 0 0) rfl (tx_set3 T1.out.2.1)) rfl ⟨below_tx3 T1.out.1 (Nat.le_refl _), .inl ⟨by rw [HT.out]; exact HX.out, rfl⟩⟩
      · have HX := hide hx
        have far1 : Hid ((Value.slice ua acc.length uc).ownBlock ≠ some (w.heap.size + 1)) := fun e => far.out _ _ e T1.out.2.2
        have far0 : Hid ((Value.slice ua acc.length uc).ownBlock ≠ some w.heap.size) := fun e => far.out _ _ e T1.out.2.1
        have HZ1 : Hid (Sli 34 w.heap.size w1.heap.size (.slice ua acc.length uc) acc.length (rccells (acc.map Rc.tu)) (w1.setCell ⟨w.heap.size + 1, 2, none⟩ (.slice ua acc.length uc))) := S2.out.grown (grown_cell w1 (w.heap.size + 1) 2 _) (fun g e e2 => far1.out (by rw [e, ← e2]))
        have HZ3 : Hid (∀ x y z : Value, Sli 34 w.heap.size ((((w1.setCell ⟨w.heap.size + 1, 2, none⟩ (.slice ua acc.length uc)).setCell ⟨w.heap.size, 0, none⟩ x).setCell ⟨w.heap.size, 1, none⟩ y).setCell ⟨w.heap.size, 2, none⟩ z).heap.size (.slice ua acc.length uc) acc.length (rccells (acc.map Rc.tu)) ((((w1.setCell ⟨w.heap.size + 1, 2, none⟩ (.slice ua acc.length uc)).setCell ⟨w.heap.size, 0, none⟩ x).setCell ⟨w.heap.size, 1, none⟩ y).setCell ⟨w.heap.size, 2, none⟩ z)) := by
          intro x y z
          have e : ((((w1.setCell ⟨w.heap.size + 1, 2, none⟩ (.slice ua acc.length uc)).setCell ⟨w.heap.size, 0, none⟩ x).setCell ⟨w.heap.size, 1, none⟩ y).setCell ⟨w.heap.size, 2, none⟩ z).heap.size = w1.heap.size := by simp [World.setCell]
          rw [e]
          have f := fun g (e : (Value.slice ua acc.length uc).ownBlock = some g) (e2 : some w.heap.size = some g) => far0.out (by rw [e, ← e2])
          exact ((HZ1.out.grown (grown_cell _ w.heap.size 0 x) f).grown (grown_cell _ w.heap.size 1 y) f).grown (grown_cell _ w.heap.size 2 z) f
        have R0 : Hid ((w1.setCell ⟨w.heap.size + 1, 2, none⟩ (.slice ua acc.length uc)).heap[w.heap.size]? = some (.cells #[.int .i64 0, .int .i64 0, .slice none 0 0] 31 (0, 0))) := row_set_ne T1.out.2.1 (by omega) _ _
        have BB : Hid (Below w.heap.size w (w1.setCell ⟨w.heap.size + 1, 2, none⟩ (.slice ua acc.length uc))) := T1.out.1.setCell (by simp) _
        clear HZ1 far far1 far0 S2 hx
        go_wp2
        refine bodyPost_ret (results_tx2 rfl _ _ w.heap.size num sq (.slice ua acc.length uc) rfl (tx_set3 R0.out)) rfl ⟨below_tx3 BB.out (Nat.le_refl _), .inr ⟨acc, ua, acc.length, uc, by rw [HT.out]; exact HX.out, rfl, HLN.out, by rw [← EL.out]; rfl, HZ3.out _ _ _⟩⟩
end Go.Proofs.Ytogfdhfmamabiaa
