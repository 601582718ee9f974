/-
  PKey; Note
-/
import Derived.Test.YtcjgjkejhkhknabGreatDoorPk11
import Derived.Test.YtcjgjkejhkhknabGreatDoorPMap
import Derived.Test.YtcjgjkejhkhknabGreatDoorPk0
set_option maxHeartbeats 400000
set_option maxRecDepth 100000
namespace Go.Proofs.YtcjgjkejhkhknabGreatDoor
open Go.RowKit Go.Maps Go.WideElems Go.MapKept
open Go.WideMaps (KeyLaw)
open Go.ChangeShapes (lits)
theorem Tryz.laidOutAll : laidOutB Tryz.prog = true := by kernel_rfl
theorem row4 : (246 : TypeId) < Tryz.prog.types.size := of_decide_eq_true (by kernel_rfl)
theorem wide4 : (match Tryz.prog.underlying 246 with | some (.array _ _) | some (.struct _) => true | _ => false) = true := by kernel_rfl
theorem law4 : KeyLaw Tryz.prog 246 := deep_law_laid Tryz.laidOutAll (m := 2) (by omega) row4 (by kernel_rfl) wide4
theorem keyT4 : Tryz.prog.keyType 246 = true := by kernel_rfl
theorem cells4 : Tryz.prog.cellsOf 246 = 4 := by kernel_rfl
theorem cells5 : Tryz.prog.cellsOf 5 = 1 := by kernel_rfl
theorem zeroS (w : World) : (zeroValue 25).run Tryz.prog w = .ok (.slice none 0 0) w := by kernel_rfl
theorem wf8 (c : UInt8) : (Lit.int .u8 (c.toNat : Int)).wf = true := by
 have := c.toNat_lt
 have e1 : IntKind.u8.min = 0 := by decide
 have e2 : IntKind.u8.max = 255 := by decide
 simp [Lit.wf, e1, e2]
 omega
theorem key_some (q : List UInt8) (hq : q.length = 4) : ∃ kl, keyOf Tryz.prog 246 (keyV q) = some kl := by
 match q, hq with
 | [a, b, c, d], _ =>
  have hf : (keyV [a, b, c, d]).formed Tryz.prog 246 = true := by
   simp [keyV, Value.formed, Tryz.underlying246, cells4, bcells]
  obtain ⟨n, hn⟩ : ∃ n, Tryz.prog.types.size = n + 1 := ⟨Tryz.prog.types.size - 1, (Nat.succ_pred_eq_of_pos (Nat.lt_of_le_of_lt (Nat.zero_le _) row4)).symm⟩
  have hk : Tryz.prog.keyLits (Tryz.prog.types.size + 1) 246 (keyV [a, b, c, d]).cells.toList = some [.int .u8 (a.toNat : Int), .int .u8 (b.toNat : Int), .int .u8 (c.toNat : Int), .int .u8 (d.toNat : Int)] := by
   rw [hn]
   have e : (keyV [a, b, c, d]).cells.toList = [.int .u8 (a.toNat : Int), .int .u8 (b.toNat : Int), .int .u8 (c.toNat : Int), .int .u8 (d.toNat : Int)] := rfl
   rw [e]
   simp [Program.keyLits, Tryz.underlying246, Tryz.underlying5, cells4, cells5, List.range_succ, wf8]
  exact ⟨_, by unfold keyOf; simp only [Tryz.underlying246, keyT4, hf, hk]; rfl⟩
theorem keyV_inj {q q' : List UInt8} (h : keyV q = keyV q') : q = q' := by
 unfold keyV at h
 injection h with h
 have h2 : bcells q = bcells q' := by simpa using h
 unfold bcells at h2
 refine (List.map_inj_right (fun a b hab => ?_)).1 h2
 injection hab with _ hab
 exact UInt8.toNat_inj.1 (by omega)
theorem key_inj {q q' : List UInt8} {kl : Lit} (h : keyOf Tryz.prog 246 (keyV q) = some kl) (h' : keyOf Tryz.prog 246 (keyV q') = some kl) : q = q' := keyV_inj (law4.inj h h')
def placesN (s : List UInt8) (q : List UInt8) (m : Nat) : List Nat := (List.range m).filter fun p => decide (p + 4 ≤ s.length) && decide (fourAt s p = q)
def placesI (s : List UInt8) (q : List UInt8) (m : Nat) : List Int := (placesN s q m).map Int.ofNat
def rowOf (zs : List Int) : DataW Unit := if zs = [] then .nil else .slice (lits .i64 zs) []
theorem places_yes (s : List UInt8) (m : Nat) (h : m + 4 ≤ s.length) : placesI s (fourAt s m) (m + 1) = placesI s (fourAt s m) m ++ [(m : Int)] := by
 simp [placesI, placesN, List.range_succ, List.filter_append, h]
theorem places_other (s q : List UInt8) (m : Nat) (h : m + 4 ≤ s.length → fourAt s m ≠ q) : placesI s q (m + 1) = placesI s q m := by
 by_cases h4 : m + 4 ≤ s.length
 ·simp [placesI, placesN, List.range_succ, List.filter_append, h h4]
 ·simp [placesI, placesN, List.range_succ, List.filter_append, h4]
theorem places_len (s q : List UInt8) (m : Nat) : (placesI s q m).length ≤ m := by
 have := List.length_filter_le (fun p => decide (p + 4 ≤ s.length) && decide (fourAt s p = q)) (List.range m)
 simpa [placesI, placesN] using this
def PMapAt (w : World) (base b m : Nat) (s : List UInt8) (No : Nat → Prop) : Prop :=
 ∃ (n : Nat) (D : DataW Unit), n ≤ m ∧ w.ownsGroups Tryz.prog 246 base 3 .i64 b n D ∧ w.Shuns b No ∧
  ∀ q kl, keyOf Tryz.prog 246 (keyV q) = some kl → D.atKey kl .nil = rowOf (placesI s q m)
theorem rowOf_inv {w : World} {base : Nat} {v : Value} {zs ys : List Int} (ho : w.ownsInts base 3 .i64 v zs) (h : rowOf ys = rowDatum .i64 v zs) : zs = ys := by
 unfold rowOf at h
 rcases ho.datum (H := Unit) with ⟨h1, h2⟩ | h1
 ·rw [h1] at h
  split at h
  ·rename_i h0; rw [h0, h2]
  ·cases h
 ·rw [h1] at h
  split at h
  ·cases h
  ·simp only [DataW.slice.injEq] at h
   have := h.1
   unfold lits at this
   refine ((List.map_inj_right (fun a b hab => ?_)).1 this).symm
   simpa using hab
theorem pmap_made (w : World) (s : List UInt8) (No : Nat → Prop) : PMapAt (w.alloc (.map #[] 0)) (w.heap.size + 1) w.heap.size 0 s No := by
 refine ⟨0, _, Nat.le_refl _, World.ownsGroups_made _ _ _ _ _, World.Shuns_made _ _, fun q kl _ => ?_⟩
 simp [rowOf, placesI, placesN, DataW.atKey]
theorem pmap_lt {w : World} {base b m : Nat} {s : List UInt8} {No : Nat → Prop} (h : PMapAt w base b m s No) : b < w.heap.size ∧ b < base := by
 obtain ⟨n, D, _, ⟨es, clock, hb, _, _, _, hbb, _⟩, _⟩ := h
 exact ⟨(Array.getElem?_eq_some_iff.1 hb).1, hbb⟩
theorem pmap_kept {w w' : World} {base b m : Nat} {s : List UInt8} {No : Nat → Prop} {row : Option Nat} (h : PMapAt w base b m s No) (hg : w.grownBy w' row) (hr : ∀ j, row = some j → No j ∧ j ≠ b) : PMapAt w' base b m s No := by
 have hlt := (pmap_lt h).1
 obtain ⟨n, D, hn, ho, hs, hd⟩ := h
 have hb' : some b ≠ row := fun e => (hr b e.symm).2 rfl
 exact ⟨n, D, hn, ho.kept hg hb' (hs.rowsOff fun j hj => (hr j hj).1), hs.kept hg hlt hb', hd⟩
theorem pmap_reno {w : World} {base b m : Nat} {s : List UInt8} {No No' : Nat → Prop} (h : PMapAt w base b m s No) (hn : ∀ g, No' g → No g ∨ w.heap.size ≤ g) : PMapAt w base b m s No' := by
 obtain ⟨n, D, hnm, ho, hs, hd⟩ := h
 exact ⟨n, D, hnm, ho, hs.reno ho hn, hd⟩
theorem pmap_skip {w : World} {base b m : Nat} {s : List UInt8} {No : Nat → Prop} (h : PMapAt w base b m s No) (h4 : ¬ m + 4 ≤ s.length) : PMapAt w base b (m + 1) s No := by
 obtain ⟨n, D, hn, ho, hs, hd⟩ := h
 refine ⟨n, D, by omega, ho, hs, fun q kl hk => ?_⟩
 rw [places_other s q m (fun h => absurd h h4)]
 exact hd q kl hk
theorem pmap_look {w : World} {base b m : Nat} {s : List UInt8} {No : Nat → Prop} (h : PMapAt w base b m s No) (hm : m ≤ 64) (q : List UInt8) (hq : q.length = 4) :
 ∃ v : Value, (∀ tt : Bool, tt = false → (Instr.lookup 233 (.map (some b)) (keyV q) tt).run Tryz.prog w = .ok v w) ∧ w.ownsInts base 3 .i64 v (placesI s q m) := by
 obtain ⟨n, D, hn, ho, hs, hd⟩ := h
 obtain ⟨kl, hkl⟩ := key_some q hq
 obtain ⟨v, zs, hrun, hat, hoi, hzl, _⟩ := ho.at (Keyed.of_law law4) Tryz.underlying233 (zeroS w) (by unfold maxLen; omega) hkl
 rw [hd q kl hkl] at hat
 have := rowOf_inv hoi hat
 subst this
 exact ⟨v, fun tt htt => by subst htt; exact hrun, hoi⟩
theorem pmap_note {w : World} {base b m : Nat} {s : List UInt8} {No : Nat → Prop} (h : PMapAt w base b m s No) (hm : m < 64) (h4 : m + 4 ≤ s.length) :
 ∃ (v : Value) (st : Nat) (w1 : World), (Instr.mapEntry 233 (.map (some b)) (keyV (fourAt s m))).run Tryz.prog w = .ok (.tuple #[v, .int .i64 st]) w1 ∧ w.grownBy w1 (some b) ∧ w1.heap.size = w.heap.size ∧
  w1.ownsInts base 3 .i64 v (placesI s (fourAt s m) m) ∧ (∀ g, v.ownBlock = some g → ¬ No g) ∧
  ∀ (w2 : World) (v' : Value), w1.grownBy w2 v.ownBlock → w2.ownsInts base 3 .i64 v' (placesI s (fourAt s m) m ++ [(m : Int)]) → (v'.ownBlock = v.ownBlock ∨ ∃ g, v'.ownBlock = some g ∧ w1.heap.size ≤ g ∧ ¬ No g) →
   ∃ w3, (Instr.entryStore 233 (.map (some b)) (.int .i64 st) v').run Tryz.prog w2 = .ok () w3 ∧ PMapAt w3 base b (m + 1) s No ∧ w2.grownBy w3 (some b) := by
 obtain ⟨n, D, hn, ho, hs, hd⟩ := h
 obtain ⟨kl, hkl⟩ := key_some (fourAt s m) (fourAt_len _ _)
 have hIs : IsMap D := by
  obtain ⟨es, clock, _, _, _, rfl, _⟩ := ho
  exact ⟨_, rfl⟩
 obtain ⟨v, zs, st, w1, hrun, hat, hoi, hzl, hg, hsz, hvn, hback⟩ := entry_groups ho law4 Tryz.underlying233 zeroS (by unfold maxLen; omega) hkl hs
 rw [hd _ kl hkl] at hat
 have := rowOf_inv hoi hat
 subst this
 refine ⟨v, st, w1, hrun, hg, hsz, hoi, hvn, fun w2 v' hg2 ho2 hloc => ?_⟩
 obtain ⟨w3, hst, ho3, hg3, hs3⟩ := hback w2 v' _ hg2 ho2 (by have := hzl; simp; omega) (hloc.imp id (fun ⟨g, a, b, _⟩ => ⟨g, a, b⟩)) (fun g hg4 => by
  rcases hloc with e1 | ⟨g', e1, _, e2⟩
  ·exact hvn g (e1 ▸ hg4)
  ·rw [e1] at hg4
   cases hg4
   exact e2)
 refine ⟨w3, hst, ⟨n + 1, _, by omega, ho3, hs3, fun q kl' hk' => ?_⟩, hg3⟩
 by_cases hqq : fourAt s m = q
 ·subst hqq
  have : kl' = kl := by rw [hkl] at hk'; simpa using hk'.symm
  subst this
  rw [atKey_put_same hIs ((Keyed.of_law law4).key hk'), places_yes s m h4, ho2.datum_pos (by simp)]
  unfold rowOf
  rw [if_neg (by simp)]
 ·have hne : kl' ≠ kl := fun e => hqq (key_inj hkl (e ▸ hk'))
  rw [atKey_put_other hne, places_other s q m (fun _ => hqq)]
  exact hd q kl' hk'
end Go.Proofs.YtcjgjkejhkhknabGreatDoor
namespace Go.Proofs.YtcjgjkejhkhknabGreatDoor
open Go.RowKit
theorem note_prep {w5 w6 : World} {base b k : Nat} {s q : List UInt8} {No : Nat → Prop} (hq : q.length = 4) (h : PMapAt w5 base b k s No)
 (e : w6 = (w5.alloc (.cells #[Value.int .u8 0, Value.int .u8 0, Value.int .u8 0, Value.int .u8 0] 246)).setCells w5.heap.size 0 (bcells q)) :
 BytesAt w6 w5.heap.size q ∧ PMapAt w6 base b k s No ∧ Below w5.heap.size w5 w6 ∧ w6.heap.size = w5.heap.size + 1 := by
 have hv := bytes_made w5 [0, 0, 0, 0] #[Value.int .u8 0, Value.int .u8 0, Value.int .u8 0, Value.int .u8 0] 246 rfl
 have h1 := hv.store q (by rw [hq]; rfl)
 have h2 : Below w5.heap.size w5 w6 := by
  rw [e]
  exact below_cells (Nat.le_refl _) _ _ _ ((Below.refl _ _).alloc (Nat.le_refl _) _)
 rw [← e] at h1
 exact ⟨h1, pmap_kept h (grown_old h2 none) (fun j hj => by cases hj), h2, by rw [e, setCells_size]; simp⟩
theorem note_entry {w w5 w6 : World} {base b k : Nat} {s : List UInt8} {No : Nat → Prop} (hk : k < 64) (h4 : k + 4 ≤ s.length) (h : PMapAt w5 base b k s No) (hsz : w.heap.size ≤ w5.heap.size)
 (hK5 : Kept2 w w5 (fun i => i ≠ b ∧ (i < base ∨ No i))) (hN : ∀ g, No g → g < w.heap.size)
 (e : w6 = (w5.alloc (.cells #[Value.int .u8 0, Value.int .u8 0, Value.int .u8 0, Value.int .u8 0] 246)).setCells w5.heap.size 0 (bcells (fourAt s k))) :
 Hid (BytesAt w6 w5.heap.size (fourAt s k)) ∧ w.heap.size ≤ w6.heap.size ∧ ∃ (v : Value) (st : Nat) (w8 : World), (Instr.mapEntry 233 (.map (some b)) (keyV (fourAt s k))).run Tryz.prog (w6.alloc (.cells #[Value.int .i64 (k : Int)] 3)) = .ok (.tuple #[v, .int .i64 st]) w8 ∧
  w.heap.size ≤ w8.heap.size ∧ Hid (∀ j u, [Value.int .i64 (k : Int)][j]? = some u → w8.cell? ((⟨w6.heap.size, 0, none⟩ : Addr).add j) = some u) ∧ Hid (w8.ownsInts base 3 .i64 v (placesI s (fourAt s k) k)) ∧
  Hid (∀ (w9 : World) (v' : Value), w8.grownBy w9 v.ownBlock → w9.ownsInts base 3 .i64 v' (placesI s (fourAt s k) k ++ [(k : Int)]) → (v'.ownBlock = v.ownBlock ∨ v'.ownBlock = some w8.heap.size) →
   ∃ w10, (Instr.entryStore 233 (.map (some b)) (.int .i64 st) v').run Tryz.prog w9 = .ok () w10 ∧ Hid (PMapAt w10 base b (k + 1) s No) ∧ Hid (Kept2 w w10 (fun i => i ≠ b ∧ (i < base ∨ No i)))) := by
 obtain ⟨hy6, hm6, hb6, hsz6⟩ := note_prep (fourAt_len _ _) h e
 have hm7 := pmap_kept (w' := w6.alloc (.cells #[Value.int .i64 (k : Int)] 3)) hm6 (World.grownBy_alloc _ _ none) (fun j hj => by cases hj)
 obtain ⟨v, st, w8, hent, hg8, hsz8, hoi, hvn, hback⟩ := pmap_note hm7 hk h4
 have hsz7 : (w6.alloc (.cells #[Value.int .i64 (k : Int)] 3)).heap.size = w6.heap.size + 1 := by simp
 have hblt := (pmap_lt hm6).1
 refine ⟨hy6, by omega, v, st, w8, hent, by omega, fun j u hj => hg8.cell (cell_one_new _ _ _ j u hj) (by rw [addr_at]; intro e1; have e2 : w6.heap.size = b := (by simpa using e1); omega), hoi, fun w9 v' hgrow ho9 hloc => ?_⟩
 obtain ⟨w10, hst, hm10, hg10⟩ := hback w9 v' hgrow ho9 (hloc.imp id (fun h => ⟨_, h, Nat.le_refl _, fun hno => by have := hN _ hno; omega⟩))
 refine ⟨w10, hst, hm10, ?_⟩
 refine hK5.trans ((Kept2.below hb6).trans ((Kept2.grown (World.grownBy_alloc w6 (.cells #[Value.int .i64 (k : Int)] 3) none) (fun j hj => by cases hj)).trans ((Kept2.grown hg8 (fun j hj hok => by cases hj; exact hok.1 rfl)).trans ((Kept2.grown hgrow (fun j hj hok => ?_)).trans (Kept2.grown hg10 (fun j hj hok => by cases hj; exact hok.1 rfl))))))
 have h1 := (hoi.1.lt j hj).1
 rcases hok.2 with h2 | h2
 ·omega
 ·exact hvn j hj h2
theorem note_any (s : ByteArray) (b base k1 k2 : Nat) (w : World) (No : Nat → Prop) (hs : s.size ≤ 64) (h12 : k1 ≤ k2) (h2 : k2 ≤ s.size) (hN : ∀ g, No g → g < w.heap.size) (hB : base ≤ w.heap.size) (hp : PMapAt w base b k1 s.data.toList No) :
 Calls Tryz.prog 163 #[.map (some b), .string s, .int .i64 k1, .int .i64 k2] w fun e w' => e = .returned (.tuple #[]) ∧ PMapAt w' base b k2 s.data.toList No ∧ Kept2 w w' (fun i => i ≠ b ∧ (i < base ∨ No i)) := by
 have hl : s.data.toList.length = s.size := by simp
 obtain ⟨i0, hi, hz0, hz1, hz2⟩ := info_parts infoInt
 have HP := hide hp
 have HN := hide hN
 clear hp hN
 go_enter Tryz.func163, Tryz.ntmps163
 go_wp2
 go_loopw [8] (fun iv wr => ∃ k : Nat, k1 ≤ k ∧ k ≤ k2 ∧ iv = .int .i64 k ∧ Hid (PMapAt wr base b k s.data.toList No) ∧ Hid (Kept2 w wr (fun i => i ≠ b ∧ (i < base ∨ No i)))) (fun iv _ => k2 - (intOf iv).toNat)
 case atStart => exact ⟨k1, Nat.le_refl _, h12, rfl, HP, Kept2.refl _ _⟩
 case round =>
  obtain ⟨k, hk1, hk2, rfl, HM, HK⟩ := hrel
  have hsz := HK.out.2.2.2.1
  by_cases hlt : (k : Int) < k2
  ·go_wp2_with fail
   refine (start_any s k _ hs (by omega)).mono ?_
   rintro e w5 ⟨rfl, hb5⟩
   have HM5 := hide (pmap_kept HM.out (grown_old hb5 none) (fun j hj => by cases hj))
   have HK5 := hide (HK.out.trans (Kept2.below hb5))
   have hsz5 := hb5.size
   clear HM HK hb5
   have hv := hide (bytes_made w5 [0, 0, 0, 0] #[Value.int .u8 0, Value.int .u8 0, Value.int .u8 0, Value.int .u8 0] 246 rfl)
   by_cases h4 : k + 4 ≤ s.size
   ·rw [decide_eq_true h4]
    go_wp2_with (first
     | (refine wpList_store_key rfl _ _ rfl w5.heap.size _ [0, 0, 0, 0] rfl rfl hv.out (fourAt_len _ _) rfl ?_
        intro w6 hw6
        obtain ⟨HY, hsz6, v, st, w8, hent, hge, HC, HOI, HBK⟩ := note_entry (w := w) (by omega) (by rw [hl]; exact h4) HM5.out (by omega) HK5.out HN.out hw6
        clear hw6 HM5 HK5)
     | refine wpList_load_key rfl _ rfl _ rfl _ HY.out (fourAt_len _ _) ?_
     | (at_builtin
        refine wpList_append_own_at _ rfl _ _ 25 rfl base 3 i0 (.int .i64 0) 1 8 Tryz.underlying25 hi hz0 hz1 hz2 rfl (by decide) _ _ _ rfl HOI.out.1 ⟨w6.heap.size, 0, none⟩ 1 1 [.int .i64 (k : Int)] rfl rfl HC.out (one_i64 _) (by have := places_len s.data.toList (fourAt s.data.toList k) k; unfold maxLen; omega) (by have := places_len s.data.toList (fourAt s.data.toList k) k; omega) (by omega) ?_
        intro v' w9 hown' hgrow hnil hloc
        obtain ⟨w10, hst, HM10, HK10⟩ := HBK.out w9 v' hgrow (HOI.out.appended hown' (WalkArith.wf_i64 (by omega))) hloc
        clear hown' hgrow hnil hloc HBK HOI)
     | go_in)
    go_roundw
    case rel => exact ⟨k + 1, by omega, by omega, by go_num, HM10, HK10⟩
    case measure => simp [intOf]; omega
   ·rw [decide_eq_false h4]
    go_wp2_with (first
     | (refine wpList_store_key rfl _ _ rfl w5.heap.size _ [0, 0, 0, 0] rfl rfl hv.out (fourAt_len _ _) rfl ?_
        intro w6 hw6
        obtain ⟨-, hm6, hb6, hsz6⟩ := note_prep (fourAt_len _ _) HM5.out hw6
        have HM6 := hide hm6
        have HK6 := hide (HK5.out.trans (Kept2.below hb6))
        clear hw6 hm6 hb6 HM5 HK5)
     | go_in)
    go_roundw
    case rel => exact ⟨k + 1, by omega, by omega, by go_num, pmap_skip HM6.out (by rw [hl]; exact h4), HK6⟩
    case measure => simp [intOf]; omega
  ·have : k = k2 := by omega
   subst this
   go_wp2
   exact bodyPost_end (results_none rfl _ _ _) rfl ⟨rfl, HM.out, HK.out⟩
end Go.Proofs.YtcjgjkejhkhknabGreatDoor
