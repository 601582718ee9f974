/-
  The map of places: four bytes as its keys, and what it tells of a text.
-/
import Derived.Test.YtaolinlginloaabStart
import Derived.Test.YtaolinlginloaabPMap
namespace Go.Proofs.Ytaolinlginloaab
open Go.RowKit Go.Maps Go.WideElems Go.MapKept
open Go.WideMaps (KeyLaw)
open Go.ChangeShapes (lits)
set_option maxRecDepth 100000

theorem Try.laidOutAll : laidOutB Try.prog = true := by kernel_rfl
theorem row4 : (65 : TypeId) < Try.prog.types.size := of_decide_eq_true (by kernel_rfl)
theorem wide4 : (match Try.prog.underlying 65 with | some (.array _ _) | some (.struct _) => true | _ => false) = true := by kernel_rfl
theorem law4 : KeyLaw Try.prog 65 := deep_law_laid Try.laidOutAll (m := 2) (by omega) row4 (by kernel_rfl) wide4
theorem keyT4 : Try.prog.keyType 65 = true := by kernel_rfl
theorem cells4 : Try.prog.cellsOf 65 = 4 := by kernel_rfl
theorem cells5 : Try.prog.cellsOf 5 = 1 := by kernel_rfl
theorem zeroS (w : World) : (zeroValue 68).run Try.prog w = .ok (.slice none 0 0) w := by kernel_rfl
theorem wf8 (c : UInt8) : (Lit.int .u8 (c.toNat : Int)).wf = true := by
  have := c.toNat_lt
  have e1 : IntKind.u8.min = 0 := by decide
  have e2 : IntKind.u8.max = 255 := by decide
  simp [Lit.wf, e1, e2]
  omega
theorem key_some (q : List UInt8) (hq : q.length = 4) : ∃ kl, keyOf Try.prog 65 (keyV q) = some kl := by
  match q, hq with
  | [a, b, c, d], _ =>
    have hf : (keyV [a, b, c, d]).formed Try.prog 65 = true := by
      simp [keyV, Value.formed, Try.underlying65, cells4, bcells]
    obtain ⟨n, hn⟩ : ∃ n, Try.prog.types.size = n + 1 := ⟨Try.prog.types.size - 1, (Nat.succ_pred_eq_of_pos (Nat.lt_of_le_of_lt (Nat.zero_le _) row4)).symm⟩
    have hk : Try.prog.keyLits (Try.prog.types.size + 1) 65 (keyV [a, b, c, d]).cells.toList = some [.int .u8 (a.toNat : Int), .int .u8 (b.toNat : Int), .int .u8 (c.toNat : Int), .int .u8 (d.toNat : Int)] := by
      rw [hn]
      have e : (keyV [a, b, c, d]).cells.toList = [.int .u8 (a.toNat : Int), .int .u8 (b.toNat : Int), .int .u8 (c.toNat : Int), .int .u8 (d.toNat : Int)] := rfl
      rw [e]
      simp [Program.keyLits, Try.underlying65, Try.underlying5, cells4, cells5, List.range_succ, wf8]
    exact ⟨_, by unfold keyOf; simp only [Try.underlying65, keyT4, hf, hk]; rfl⟩
theorem keyV_inj {q q' : List UInt8} (h : keyV q = keyV q') : q = q' := by
  unfold keyV at h
  injection h with h
  have h2 : bcells q = bcells q' := by simpa using h
  unfold bcells at h2
  refine (List.map_inj_right (fun a b hab => ?_)).1 h2
  injection hab with _ hab
  exact UInt8.toNat_inj.1 (by omega)
theorem key_inj {q q' : List UInt8} {kl : Lit} (h : keyOf Try.prog 65 (keyV q) = some kl) (h' : keyOf Try.prog 65 (keyV q') = some kl) : q = q' := keyV_inj (law4.inj h h')

/-- The places below m of a text at which these four bytes begin. -/
def placesN (s : List UInt8) (q : List UInt8) (m : Nat) : List Nat := (List.range m).filter fun p => decide (p + 4 ≤ s.length) && decide (fourAt s p = q)
def placesI (s : List UInt8) (q : List UInt8) (m : Nat) : List Int := (placesN s q m).map Int.ofNat
def rowOf (zs : List Int) : DataW Unit := if zs = [] then .nil else .slice (lits .i64 zs) []
theorem places_yes (s : List UInt8) (m : Nat) (h : m + 4 ≤ s.length) : placesI s (fourAt s m) (m + 1) = placesI s (fourAt s m) m ++ [(m : Int)] := by
  simp [placesI, placesN, List.range_succ, List.filter_append, h]
theorem places_other (s q : List UInt8) (m : Nat) (h : m + 4 ≤ s.length → fourAt s m ≠ q) : placesI s q (m + 1) = placesI s q m := by
  by_cases h4 : m + 4 ≤ s.length
  · simp [placesI, placesN, List.range_succ, List.filter_append, h h4]
  · simp [placesI, placesN, List.range_succ, List.filter_append, h4]
theorem places_len (s q : List UInt8) (m : Nat) : (placesI s q m).length ≤ m := by
  have := List.length_filter_le (fun p => decide (p + 4 ≤ s.length) && decide (fourAt s p = q)) (List.range m)
  simpa [placesI, placesN] using this

/-- Block b is the map of the places below m of a text; no row of it is a block of which No holds. -/
def PMapAt (w : World) (base b m : Nat) (s : List UInt8) (No : Nat → Prop) : Prop :=
  ∃ (n : Nat) (D : DataW Unit), n ≤ m ∧ w.ownsGroups Try.prog 65 base 3 .i64 b n D ∧ w.Shuns b No ∧
    ∀ q kl, keyOf Try.prog 65 (keyV q) = some kl → D.atKey kl .nil = rowOf (placesI s q m)

theorem rowOf_inv {w : World} {base : Nat} {v : Value} {zs ys : List Int} (ho : w.ownsInts base 3 .i64 v zs) (h : rowOf ys = rowDatum .i64 v zs) : zs = ys := by
  unfold rowOf at h
  rcases ho.datum (H := Unit) with ⟨h1, h2⟩ | h1
  · rw [h1] at h
    split at h
    · rename_i h0; rw [h0, h2]
    · cases h
  · rw [h1] at h
    split at h
    · cases h
    · simp only [DataW.slice.injEq] at h
      have := h.1
      unfold lits at this
      refine ((List.map_inj_right (fun a b hab => ?_)).1 this).symm
      simpa using hab
theorem pmap_made (w : World) (s : List UInt8) (No : Nat → Prop) : PMapAt (w.alloc (.map #[] 0)) (w.heap.size + 1) w.heap.size 0 s No := by
  refine ⟨0, _, Nat.le_refl _, World.ownsGroups_made _ _ _ _ _, World.Shuns_made _ _, fun q kl _ => ?_⟩
  simp [rowOf, placesI, placesN, DataW.atKey]
theorem pmap_lt {w : World} {base b m : Nat} {s : List UInt8} {No : Nat → Prop} (h : PMapAt w base b m s No) : b < w.heap.size ∧ b < base := by
  obtain ⟨n, D, _, ⟨es, clock, hb, _, _, _, hbb, _⟩, _⟩ := h
  exact ⟨(Array.getElem?_eq_some_iff.1 hb).1, hbb⟩
/-- Over whatever turns another block, of which No holds, or none. -/
theorem pmap_kept {w w' : World} {base b m : Nat} {s : List UInt8} {No : Nat → Prop} {row : Option Nat} (h : PMapAt w base b m s No) (hg : w.grownBy w' row) (hr : ∀ j, row = some j → No j ∧ j ≠ b) : PMapAt w' base b m s No := by
  have hlt := (pmap_lt h).1
  obtain ⟨n, D, hn, ho, hs, hd⟩ := h
  have hb' : some b ≠ row := fun e => (hr b e.symm).2 rfl
  exact ⟨n, D, hn, ho.kept hg hb' (hs.rowsOff fun j hj => (hr j hj).1), hs.kept hg hlt hb', hd⟩
theorem pmap_reno {w : World} {base b m : Nat} {s : List UInt8} {No No' : Nat → Prop} (h : PMapAt w base b m s No) (hn : ∀ g, No' g → No g ∨ w.heap.size ≤ g) : PMapAt w base b m s No' := by
  obtain ⟨n, D, hnm, ho, hs, hd⟩ := h
  exact ⟨n, D, hnm, ho, hs.reno ho hn, hd⟩
theorem pmap_skip {w : World} {base b m : Nat} {s : List UInt8} {No : Nat → Prop} (h : PMapAt w base b m s No) (h4 : ¬ m + 4 ≤ s.length) : PMapAt w base b (m + 1) s No := by
  obtain ⟨n, D, hn, ho, hs, hd⟩ := h
  refine ⟨n, D, by omega, ho, hs, fun q kl hk => ?_⟩
  rw [places_other s q m (fun h => absurd h h4)]
  exact hd q kl hk
/-- The places at four bytes. -/
theorem pmap_look {w : World} {base b m : Nat} {s : List UInt8} {No : Nat → Prop} (h : PMapAt w base b m s No) (hm : m ≤ 64) (q : List UInt8) (hq : q.length = 4) :
    ∃ v : Value, (∀ tt : Bool, tt = false → (Instr.lookup 57 (.map (some b)) (keyV q) tt).run Try.prog w = .ok v w) ∧ w.ownsInts base 3 .i64 v (placesI s q m) := by
  obtain ⟨n, D, hn, ho, hs, hd⟩ := h
  obtain ⟨kl, hkl⟩ := key_some q hq
  obtain ⟨v, zs, hrun, hat, hoi, hzl, _⟩ := ho.at (Keyed.of_law law4) Try.underlying57 (zeroS w) (by unfold maxLen; omega) hkl
  rw [hd q kl hkl] at hat
  have := rowOf_inv hoi hat
  subst this
  exact ⟨v, fun tt htt => by subst htt; exact hrun, hoi⟩
/-- One place more is noted. -/
theorem pmap_note {w : World} {base b m : Nat} {s : List UInt8} {No : Nat → Prop} (h : PMapAt w base b m s No) (hm : m < 64) (h4 : m + 4 ≤ s.length) :
    ∃ (v : Value) (st : Nat) (w1 : World), (Instr.mapEntry 57 (.map (some b)) (keyV (fourAt s m))).run Try.prog w = .ok (.tuple #[v, .int .i64 st]) w1 ∧ w.grownBy w1 (some b) ∧ w1.heap.size = w.heap.size ∧
      w1.ownsInts base 3 .i64 v (placesI s (fourAt s m) m) ∧ (∀ g, v.ownBlock = some g → ¬ No g) ∧
      ∀ (w2 : World) (v' : Value), w1.grownBy w2 v.ownBlock → w2.ownsInts base 3 .i64 v' (placesI s (fourAt s m) m ++ [(m : Int)]) → (v'.ownBlock = v.ownBlock ∨ ∃ g, v'.ownBlock = some g ∧ w1.heap.size ≤ g ∧ ¬ No g) →
        ∃ w3, (Instr.entryStore 57 (.map (some b)) (.int .i64 st) v').run Try.prog w2 = .ok () w3 ∧ PMapAt w3 base b (m + 1) s No ∧ w2.grownBy w3 (some b) := by
  obtain ⟨n, D, hn, ho, hs, hd⟩ := h
  obtain ⟨kl, hkl⟩ := key_some (fourAt s m) (fourAt_len _ _)
  have hIs : IsMap D := by
    obtain ⟨es, clock, _, _, _, rfl, _⟩ := ho
    exact ⟨_, rfl⟩
  obtain ⟨v, zs, st, w1, hrun, hat, hoi, hzl, hg, hsz, hvn, hback⟩ := entry_groups ho law4 Try.underlying57 zeroS (by unfold maxLen; omega) hkl hs
  rw [hd _ kl hkl] at hat
  have := rowOf_inv hoi hat
  subst this
  refine ⟨v, st, w1, hrun, hg, hsz, hoi, hvn, fun w2 v' hg2 ho2 hloc => ?_⟩
  obtain ⟨w3, hst, ho3, hg3, hs3⟩ := hback w2 v' _ hg2 ho2 (by have := hzl; simp; omega) (hloc.imp id (fun ⟨g, a, b, _⟩ => ⟨g, a, b⟩)) (fun g hg4 => by
    rcases hloc with e1 | ⟨g', e1, _, e2⟩
    · exact hvn g (e1 ▸ hg4)
    · rw [e1] at hg4
      cases hg4
      exact e2)
  refine ⟨w3, hst, ⟨n + 1, _, by omega, ho3, hs3, fun q kl' hk' => ?_⟩, hg3⟩
  by_cases hqq : fourAt s m = q
  · subst hqq
    have : kl' = kl := by rw [hkl] at hk'; simpa using hk'.symm
    subst this
    rw [atKey_put_same hIs ((Keyed.of_law law4).key hk'), places_yes s m h4, ho2.datum_pos (by simp)]
    unfold rowOf
    rw [if_neg (by simp)]
  · have hne : kl' ≠ kl := fun e => hqq (key_inj hkl (e ▸ hk'))
    rw [atKey_put_other hne, places_other s q m (fun _ => hqq)]
    exact hd q kl' hk'
end Go.Proofs.Ytaolinlginloaab
