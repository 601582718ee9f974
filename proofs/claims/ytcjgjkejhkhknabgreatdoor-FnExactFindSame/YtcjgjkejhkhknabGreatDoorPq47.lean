/-
  HashOk; Boxes; More; More2; ImplM; BRow
-/
import Derived.Test.YtcjgjkejhkhknabGreatDoorPq3
import Derived.Test.YtcjgjkejhkhknabGreatDoorPq0
import Derived.Test.YtcjgjkejhkhknabGreatDoorPq42
import Derived.Test.YtcjgjkejhkhknabGreatDoorRound
import Derived.Test.YtcjgjkejhkhknabGreatDoorPq43
import Derived.Test.YtcjgjkejhkhknabGreatDoorPq46
import Derived.ArgAppend
/-
  The walk of the specification's HasherOk.
-/
namespace Go.Proofs.YtcjgjkejhkhknabGreatDoor
open Go.RowKit
open Dig

/-- A hasher that is right. -/
def HRight (s r : ByteArray) (c : Int) : Prop := s.size = 32 ∧ r.size < 64 ∧ 0 ≤ c ∧ c ≤ 1000000000 ∧ c % 64 = r.size
abbrev decH (s r : ByteArray) (c : Int) : Decidable (HRight s r c) := by unfold HRight; exact inferInstance

theorem in_bD (x lo hi : Int) (b : Bool) (w : World) (h : (lo ≤ x ∧ x ≤ hi ∧ b = true) ∨ ((x < lo ∨ lo ≤ x ∧ ¬ x ≤ hi) ∧ b = false)) :
    Calls Tryz.prog 63 #[.int .i64 x, .int .i64 lo, .int .i64 hi] w fun e w' => e = .returned (.bool b) ∧ w' = w := by
  rcases h with ⟨h1, h2, rfl⟩ | ⟨h1 | ⟨h1, h2⟩, rfl⟩
  all_goals
    go_enter Tryz.func63, Tryz.ntmps63
    go_wp2
    go_ret
    exact ⟨rfl, rfl⟩
theorem in_anyD (x lo hi : Int) (w : World) :
    Calls Tryz.prog 63 #[.int .i64 x, .int .i64 lo, .int .i64 hi] w fun e w' => e = .returned (.bool (decide (lo ≤ x ∧ x ≤ hi))) ∧ w' = w := by
  apply in_bD
  by_cases h : lo ≤ x ∧ x ≤ hi
  · exact .inl ⟨h.1, h.2, dcY h⟩
  · exact .inr ⟨by omega, dcN h⟩

end Go.Proofs.YtcjgjkejhkhknabGreatDoor

/-
  A hasher's cells.
-/
namespace Go.Proofs.YtcjgjkejhkhknabGreatDoor
open Go.RowKit
open Dig

/-- What a call that takes a hasher and gives one has laid ahead of its first call: the hasher, and the result's cell. -/
theorem boxed {w w1 : World} {a b c d e f : Value} {t1 t2 : TypeId} (hb : Below (w.heap.size + 1 + 1) ((w.alloc (.cells #[a, b, c] t1)).alloc (.cells #[d, e, f] t2)) w1) :
    (w1.cell? ⟨w.heap.size, 0, none⟩ = some a ∧ w1.cell? ⟨w.heap.size, 1, none⟩ = some b ∧ w1.cell? ⟨w.heap.size, 2, none⟩ = some c) ∧
    (w1.cell? ⟨w.heap.size + 1, 0, none⟩ = some d ∧ w1.cell? ⟨w.heap.size + 1, 1, none⟩ = some e ∧ w1.cell? ⟨w.heap.size + 1, 2, none⟩ = some f) ∧
    (∀ j, w1.frozen? ⟨w.heap.size + 1, j, none⟩ = false) ∧ w.heap.size + 2 ≤ w1.heap.size ∧ Below w.heap.size w w1 := by
  have hs := hb.size
  have h0 : ∀ j, w1.cell? ⟨w.heap.size, j, none⟩ = ((w.alloc (.cells #[a, b, c] t1)).alloc (.cells #[d, e, f] t2)).cell? ⟨w.heap.size, j, none⟩ := fun j => hb.cell (show w.heap.size < _ by omega)
  have h1 : ∀ j, w1.cell? ⟨w.heap.size + 1, j, none⟩ = ((w.alloc (.cells #[a, b, c] t1)).alloc (.cells #[d, e, f] t2)).cell? ⟨w.heap.size + 1, j, none⟩ := fun j => hb.cell (show w.heap.size + 1 < _ by omega)
  have h2 : ∀ j, w1.frozen? ⟨w.heap.size + 1, j, none⟩ = ((w.alloc (.cells #[a, b, c] t1)).alloc (.cells #[d, e, f] t2)).frozen? ⟨w.heap.size + 1, j, none⟩ := fun j => hb.frozen (show w.heap.size + 1 < _ by omega)
  refine ⟨⟨by rw [h0]; simp, by rw [h0]; simp, by rw [h0]; simp⟩, ⟨by rw [h1]; simp, by rw [h1]; simp, by rw [h1]; simp⟩, fun j => by rw [h2]; simp, by simp at hs; omega, ?_⟩
  exact (((Below.refl _ _).alloc (Nat.le_refl _) _).alloc (by simp) _).trans (hb.mono (by omega))

/-- Three cells written one behind the other. -/
theorem three {w : World} {g : Nat} {a b c d e f : Value} (h0 : w.cell? ⟨g, 0, none⟩ = some d) (h1 : w.cell? ⟨g, 1, none⟩ = some e) (h2 : w.cell? ⟨g, 2, none⟩ = some f) :
    (((w.setCell ⟨g, 0, none⟩ a).setCell ⟨g, 1, none⟩ b).setCell ⟨g, 2, none⟩ c).cell? ⟨g, 0, none⟩ = some a ∧
    (((w.setCell ⟨g, 0, none⟩ a).setCell ⟨g, 1, none⟩ b).setCell ⟨g, 2, none⟩ c).cell? ⟨g, 1, none⟩ = some b ∧
    (((w.setCell ⟨g, 0, none⟩ a).setCell ⟨g, 1, none⟩ b).setCell ⟨g, 2, none⟩ c).cell? ⟨g, 2, none⟩ = some c := by
  have n01 : (⟨g, 0, none⟩ : Addr) ≠ ⟨g, 1, none⟩ := by simp
  have n02 : (⟨g, 0, none⟩ : Addr) ≠ ⟨g, 2, none⟩ := by simp
  have n12 : (⟨g, 1, none⟩ : Addr) ≠ ⟨g, 2, none⟩ := by simp
  have k0 := World.cell?_setCell_same w ⟨g, 0, none⟩ a h0
  have k1 : (w.setCell ⟨g, 0, none⟩ a).cell? ⟨g, 1, none⟩ = some e := by rw [World.cell?_setCell_other _ _ _ _ n01]; exact h1
  have k2 : ((w.setCell ⟨g, 0, none⟩ a).setCell ⟨g, 1, none⟩ b).cell? ⟨g, 2, none⟩ = some f := by rw [World.cell?_setCell_other _ _ _ _ n12, World.cell?_setCell_other _ _ _ _ n02]; exact h2
  refine ⟨?_, ?_, World.cell?_setCell_same _ _ _ k2⟩
  · rw [World.cell?_setCell_other _ _ _ _ n02.symm, World.cell?_setCell_other _ _ _ _ n01.symm]; exact k0
  · rw [World.cell?_setCell_other _ _ _ _ n12.symm]; exact World.cell?_setCell_same _ _ _ k1
/-- Three cells that were laid last, over calls that lay new blocks alone. -/
theorem kept3 {w w' : World} {a b c : Value} {t : TypeId} (h : Below (w.alloc (.cells #[a, b, c] t)).heap.size (w.alloc (.cells #[a, b, c] t)) w') :
    (w'.cell? ⟨w.heap.size, 0, none⟩ = some a ∧ w'.cell? ⟨w.heap.size, 1, none⟩ = some b ∧ w'.cell? ⟨w.heap.size, 2, none⟩ = some c) ∧ Below w.heap.size w w' ∧ w.heap.size + 1 ≤ w'.heap.size := by
  have hs := h.size
  have hl : w.heap.size < (w.alloc (.cells #[a, b, c] t)).heap.size := by simp
  have e : ∀ j, w'.cell? ⟨w.heap.size, j, none⟩ = (w.alloc (.cells #[a, b, c] t)).cell? ⟨w.heap.size, j, none⟩ := fun j => h.cell hl
  refine ⟨⟨by rw [e]; simp, by rw [e]; simp, by rw [e]; simp⟩, ((Below.refl _ _).alloc (Nat.le_refl _) _).trans (h.mono (by simp)), by simpa using hs⟩
end Go.Proofs.YtcjgjkejhkhknabGreatDoor

/-
  The walk of the specification's HashMore.
-/
namespace Go.Proofs.YtcjgjkejhkhknabGreatDoor
open Go.RowKit
open Dig

end Go.Proofs.YtcjgjkejhkhknabGreatDoor

/-
  The walk of the specification's HashMore where it takes the text.
-/
namespace Go.Proofs.YtcjgjkejhkhknabGreatDoor
open Go.RowKit
open Dig

theorem mixes_step (k : Nat) (st : List Nat) (l : List UInt8) : mixes (k + 1) st l = mix (mixes k st l) ((l.drop (64 * k)).take 64) := rfl
theorem cut64 (u : ByteArray) (k : Nat) (h : 64 * k + 64 ≤ u.size) : (u.extract (64 * k) (64 * k + 64)).size = 64 ∧ (u.extract (64 * k) (64 * k + 64)).data.toList = (u.data.toList.drop (64 * k)).take 64 := by
  constructor
  · simp; omega
  · rw [Lib.extract_data]; congr 1; omega

end Go.Proofs.YtcjgjkejhkhknabGreatDoor

/-
  The walk of impl's blocks of a text.
-/
namespace Go.Proofs.YtcjgjkejhkhknabGreatDoor
open Go.RowKit
open Dig

/-- A whole array is loaded, at a step of a region that draws. -/
theorem step_load_words (w : World) {ops : Array Oper} {o : Oper} {a : Act} {K : Act → World → Prop} {Q : Exit → Act → World → Prop} {E : Prop} (hgd : o.guard = none) (ty : TypeId) (x : Operand) (ho : o.op = .load ty x)
    (g : Nat) (hx : a.eval x = .pointer (some ⟨g, 0, none⟩)) (l : List Nat) (d : TypeDesc) (hc : WordsAt w g l)
    (hu : Tryz.prog.underlying ty = some d) (hd : d.isRow = true) (hi : (Tryz.prog.info? ty).map (·.size) = some l.length)
    (h : K (a.put o.dst (wagg l)) w) : if Region.wanted o (yielded ops a.tmps) = true then Oper.wp Tryz.prog o a w K Q else E := by
  rw [if_pos (by simp [Region.wanted, hgd])]
  exact wp_load_mid ty x ho g 0 hx (wcells l) d (words_range hc) hu hd (by rw [wcells_len]; exact hi) h
/-- A whole array is stored, at a step of a region that draws. -/
theorem step_store_words (w : World) {ops : Array Oper} {o : Oper} {a : Act} {K : Act → World → Prop} {Q : Exit → Act → World → Prop} {E : Prop} (hgd : o.guard = none) (ty : TypeId) (x y : Operand) (ho : o.op = .store ty x y)
    (g : Nat) (l old : List Nat) (hx : a.eval x = .pointer (some ⟨g, 0, none⟩)) (hy : a.eval y = wagg l)
    (hc : VAt w g old) (hl : l.length = old.length) (hi : (Tryz.prog.info? ty).map (·.size) = some l.length)
    (h : ∀ w', w' = w.setCells g 0 (wcells l) → K (a.put o.dst undef) w') : if Region.wanted o (yielded ops a.tmps) = true then Oper.wp Tryz.prog o a w K Q else E := by
  rw [if_pos (by simp [Region.wanted, hgd])]
  exact wp_store_mid ty x y ho g 0 (wcells l).toArray hx hy (by rw [wcells_size, hl]; exact v_there hc) (by rw [wcells_size]; exact hi) (wcells_all l) (by have := h _ rfl; simpa using this)

theorem head_cut (t : ByteArray) (k : Nat) (h : 64 * k + 64 ≤ t.size) : ((t.extract (64 * k) t.size).extract 0 64) = t.extract (64 * k) (64 * k + 64) := by
  rw [ByteArray.extract_extract]
  congr 1 <;> omega
theorem tail_cut (t : ByteArray) (k : Nat) (h : 64 * k + 64 ≤ t.size) : ((t.extract (64 * k) t.size).extract 64 (t.size - 64 * k)) = t.extract (64 * (k + 1)) t.size := by
  rw [ByteArray.extract_extract]
  congr 1 <;> omega

def lenV : Value → Nat | .string s => s.size | _ => 0
/-- What the blocks of a text lie in. -/
def LiesM (w0 w : World) (M : List Nat) : Prop := VAt w w0.heap.size M ∧ VAt w (w0.heap.size + 1) (List.replicate 8 0) ∧ StepIn w ∧ Below w0.heap.size w0 w

theorem LiesM.drew {w0 w : World} {M : List Nat} (h : LiesM w0 w M) : LiesM w0 w.drew M :=
  ⟨h.1, h.2.1, h.2.2.1.on (Below.refl _ _).drew, h.2.2.2.drew⟩

theorem LiesM.store {w0 w : World} {M : List Nat} (h : LiesM w0 w M) (h0 : StepIn w0) (l : List Nat) (hl : l.length = M.length) : LiesM w0 (w.setCells w0.heap.size 0 (wcells l)) l :=
  have hb := below_cellsD (Nat.le_refl w0.heap.size) (wcells l) 0 w h.2.2.2
  ⟨h.1.store l hl, h.2.1.apart (by omega) _ _, h0.on hb, hb⟩

set_option maxHeartbeats 1000000 in
set_option maxRecDepth 100000 in
theorem blocks_any (st : List Nat) (t : ByteArray) (w : World) (hst : St st) (ht : t.size ≤ 4000000) (hT : StepIn w) :
    Calls Tryz.prog 74 #[wagg st, .string t] w fun e w' =>
      e = .returned (.tuple #[wagg (mixes (t.size / 64) st t.data.toList), .string (t.extract (64 * (t.size / 64)) t.size)]) ∧ Below w.heap.size w w' := by
  have HS := hide hst
  have HT := hide hT
  obtain ⟨a, b, c, d, e, f, g, i, hs8, -⟩ := hst.open
  have hw8 : wagg st = .agg #[.int .u32 a, .int .u32 b, .int .u32 c, .int .u32 d, .int .u32 e, .int .u32 f, .int .u32 g, .int .u32 i] := by rw [hs8]; rfl
  rw [hw8]
  have ES := hide hs8
  clear hst hT hw8 hs8
  go_enter Tryz.func74, Tryz.ntmps74
  go_wp2
  go_loopw [1] (fun tv wr => ∃ (k : Nat) (u : ByteArray), 64 * k ≤ t.size ∧ tv = .string u ∧ Hid (u = t.extract (64 * k) t.size) ∧ u.size + 64 * k = t.size ∧ Hid (LiesM w wr (mixes k st t.data.toList))) (fun tv _ => lenV tv)
  case atStart =>
    refine ⟨0, t, by omega, rfl, ?_, by omega, ?_⟩
    · show t = t.extract (64 * 0) t.size
      simp
    · refine ⟨(v_new w st _ _ (by rw [ES.out]; rfl)).alloc _, ?_, HT.out.on (((Below.refl _ _).alloc (Nat.le_refl _) _).alloc (by simp) _), ((Below.refl _ _).alloc (Nat.le_refl _) _).alloc (by simp) _⟩
      have := v_new (w.alloc (.cells #[.int .u32 a, .int .u32 b, .int .u32 c, .int .u32 d, .int .u32 e, .int .u32 f, .int .u32 g, .int .u32 i] 133)) (List.replicate 8 0) #[.int .u32 0, .int .u32 0, .int .u32 0, .int .u32 0, .int .u32 0, .int .u32 0, .int .u32 0, .int .u32 0] 133 rfl
      simpa using this
  case round =>
    obtain ⟨k, u, hk, rfl, EU, hu, HLi⟩ := hrel
    have hM := hide (mixes_st HS.out k t.data.toList)
    by_cases hge : (64 : Int) ≤ u.size
    · obtain ⟨v, hv⟩ : ∃ v, v = u.extract 0 64 := ⟨_, rfl⟩
      obtain ⟨r, hr⟩ : ∃ r, r = u.extract 64 u.size := ⟨_, rfl⟩
      have hsl : ∀ W, (Instr.slice 9 (.string u) none (some (.int .i64 64)) none).run Tryz.prog W = .ok (.string v) W := by
        intro W
        rw [run_slice_string_h W 9 u Tryz.underlying9 .i64 _ (by omega) (by omega), hv]
        rfl
      have hsr : ∀ W, (Instr.slice 9 (.string u) (some (.int .i64 64)) none none).run Tryz.prog W = .ok (.string r) W := by
        intro W
        rw [run_slice_string_l W 9 u Tryz.underlying9 .i64 _ (by omega) (by omega), hr]
        rfl
      have hv64 : v.size = 64 := by rw [hv]; simp; omega
      have hrs : r.size + 64 = u.size := by rw [hr]; simp; omega
      have ER : Hid (r = t.extract (64 * (k + 1)) t.size) := by
        show r = _
        rw [hr, ← tail_cut t k (by omega), ← EU.out]
        congr 1
        omega
      have EV : v.data.toList = (t.data.toList.drop (64 * k)).take 64 := by
        rw [hv, EU.out, head_cut t k (by omega)]
        exact (cut64 t k (by omega)).2
      have F : Hid (mixes (k + 1) st t.data.toList = mix (mixes k st t.data.toList) v.data.toList) := by
        show _ = _
        rw [EV]; rfl
      obtain ⟨M, hMM⟩ : ∃ M, M = mixes k st t.data.toList := ⟨_, rfl⟩
      rw [← hMM] at HLi hM F
      have hM2 := hide (mix_st hM.out v.data.toList)
      have CB := hide (fun w' => block_any M v w' hM.out hv64)
      obtain ⟨M2, hMM2⟩ : ∃ M2, M2 = mix M v.data.toList := ⟨_, rfl⟩
      rw [← hMM2] at F hM2 CB
      have hl8 := hM.out.1
      have hl82 := hM2.out.1
      clear hMM hMM2 EV hv hr EU
      obtain ⟨m0, m1, m2, m3, m4, m5, m6, m7, hm8, -⟩ := hM.out.open
      have s0 := words_at HLi.out.1.1 0 m0 (by rw [hm8]; rfl)
      have s1 := words_at HLi.out.1.1 1 m1 (by rw [hm8]; rfl)
      have s2 := words_at HLi.out.1.1 2 m2 (by rw [hm8]; rfl)
      have s3 := words_at HLi.out.1.1 3 m3 (by rw [hm8]; rfl)
      have s4 := words_at HLi.out.1.1 4 m4 (by rw [hm8]; rfl)
      have s5 := words_at HLi.out.1.1 5 m5 (by rw [hm8]; rfl)
      have s6 := words_at HLi.out.1.1 6 m6 (by rw [hm8]; rfl)
      have s7 := words_at HLi.out.1.1 7 m7 (by rw [hm8]; rfl)
      have hwM : wagg M = .agg #[.int .u32 m0, .int .u32 m1, .int .u32 m2, .int .u32 m3, .int .u32 m4, .int .u32 m5, .int .u32 m6, .int .u32 m7] := by rw [hm8]; rfl
      rw [hwM] at CB
      obtain ⟨p0, p1, p2, p3, p4, p5, p6, p7, hp8, -⟩ := hM2.out.open
      have hwP : wagg M2 = .agg #[.int .u32 p0, .int .u32 p1, .int .u32 p2, .int .u32 p3, .int .u32 p4, .int .u32 p5, .int .u32 p6, .int .u32 p7] := by rw [hp8]; rfl
      rw [hwP] at CB
      have HLd := hide HLi.out.drew
      have CB2 : Hid (Calls Tryz.prog 105 #[.agg #[.int .u32 m0, .int .u32 m1, .int .u32 m2, .int .u32 m3, .int .u32 m4, .int .u32 m5, .int .u32 m6, .int .u32 m7], .string v] wr.drew fun e w3 => e = .returned (.agg #[.int .u32 p0, .int .u32 p1, .int .u32 p2, .int .u32 p3, .int .u32 p4, .int .u32 p5, .int .u32 p6, .int .u32 p7]) ∧
          ((w3.cell? ⟨w.heap.size, 0, none⟩ = some (.int .u32 m0) ∧ w3.cell? ⟨w.heap.size, 1, none⟩ = some (.int .u32 m1) ∧ w3.cell? ⟨w.heap.size, 2, none⟩ = some (.int .u32 m2) ∧ w3.cell? ⟨w.heap.size, 3, none⟩ = some (.int .u32 m3) ∧ w3.cell? ⟨w.heap.size, 4, none⟩ = some (.int .u32 m4) ∧ w3.cell? ⟨w.heap.size, 5, none⟩ = some (.int .u32 m5) ∧ w3.cell? ⟨w.heap.size, 6, none⟩ = some (.int .u32 m6) ∧ w3.cell? ⟨w.heap.size, 7, none⟩ = some (.int .u32 m7)) ∧
          (w3.frozen? ⟨w.heap.size, 0, none⟩ = false ∧ w3.frozen? ⟨w.heap.size, 1, none⟩ = false ∧ w3.frozen? ⟨w.heap.size, 2, none⟩ = false ∧ w3.frozen? ⟨w.heap.size, 3, none⟩ = false ∧ w3.frozen? ⟨w.heap.size, 4, none⟩ = false ∧ w3.frozen? ⟨w.heap.size, 5, none⟩ = false ∧ w3.frozen? ⟨w.heap.size, 6, none⟩ = false ∧ w3.frozen? ⟨w.heap.size, 7, none⟩ = false) ∧ Hid (LiesM w w3 M))) := by
        refine (CB.out _ HLd.out.2.2.1).mono ?_
        rintro en w3 ⟨rfl, hb3⟩
        have h3 : LiesM w w3 M := ⟨HLd.out.1.below hb3 HLd.out.1.1.1, HLd.out.2.1.below hb3 HLd.out.2.1.1.1, HLd.out.2.2.1.on hb3, HLd.out.2.2.2.trans (hb3.mono HLd.out.2.2.2.size)⟩
        have q := fun j x hx => words_at h3.1.1 j x hx
        exact ⟨rfl, ⟨q 0 m0 (by rw [hm8]; rfl), q 1 m1 (by rw [hm8]; rfl), q 2 m2 (by rw [hm8]; rfl), q 3 m3 (by rw [hm8]; rfl), q 4 m4 (by rw [hm8]; rfl), q 5 m5 (by rw [hm8]; rfl), q 6 m6 (by rw [hm8]; rfl), q 7 m7 (by rw [hm8]; rfl)⟩, ⟨h3.1.2 0, h3.1.2 1, h3.1.2 2, h3.1.2 3, h3.1.2 4, h3.1.2 5, h3.1.2 6, h3.1.2 7⟩, h3⟩
      have HP := hide hp8
      clear hwM hwP hm8 hp8 HLi HLd CB
      go_wp2
      go_region_with (
        (go_at_call 105; refine CB2.out.mono ?_; rintro en w3 ⟨rfl, ⟨r0, r1, r2, r3, r4, r5, r6, r7⟩, ⟨f0, f1, f2, f3, f4, f5, f6, f7⟩, HL3⟩))
      all_goals
        have h4 := HL3.out.store HT.out M2 (by rw [hl8, hl82])
        rw [HP.out] at h4
        have HL4 : Hid (LiesM w ((((((((w3.setCell ⟨w.heap.size, 0, none⟩ (.int .u32 p0)).setCell ⟨w.heap.size, 1, none⟩ (.int .u32 p1)).setCell ⟨w.heap.size, 2, none⟩ (.int .u32 p2)).setCell ⟨w.heap.size, 3, none⟩ (.int .u32 p3)).setCell ⟨w.heap.size, 4, none⟩ (.int .u32 p4)).setCell ⟨w.heap.size, 5, none⟩ (.int .u32 p5)).setCell ⟨w.heap.size, 6, none⟩ (.int .u32 p6)).setCell ⟨w.heap.size, 7, none⟩ (.int .u32 p7)) [p0, p1, p2, p3, p4, p5, p6, p7]) := h4
        rw [← HP.out, ← F.out] at HL4
        generalize (((((((w3.setCell ⟨w.heap.size, 0, none⟩ (.int .u32 p0)).setCell ⟨w.heap.size, 1, none⟩ (.int .u32 p1)).setCell ⟨w.heap.size, 2, none⟩ (.int .u32 p2)).setCell ⟨w.heap.size, 3, none⟩ (.int .u32 p3)).setCell ⟨w.heap.size, 4, none⟩ (.int .u32 p4)).setCell ⟨w.heap.size, 5, none⟩ (.int .u32 p5)).setCell ⟨w.heap.size, 6, none⟩ (.int .u32 p6)).setCell ⟨w.heap.size, 7, none⟩ (.int .u32 p7) = w4 at HL4
        clear h4 HL3 CB2 r0 r1 r2 r3 r4 r5 r6 r7 f0 f1 f2 f3 f4 f5 f6 f7 s0 s1 s2 s3 s4 s5 s6 s7 F HP hsl
        go_wp2
        go_roundw
        case rel => exact ⟨k + 1, r, by omega, rfl, ER, by omega, HL4⟩
        case measure => simp [lenV]; omega
    · have ek : k = t.size / 64 := by omega
      subst ek
      obtain ⟨M, hMM⟩ : ∃ M, M = mixes (t.size / 64) st t.data.toList := ⟨_, rfl⟩
      rw [← hMM] at HLi hM
      have EM := hide hMM
      have hl8 := hM.out.1
      clear hMM
      go_wp2_with (first
        | refine wpList_load_words rfl _ _ rfl w.heap.size rfl M _ HLi.out.1.1 Tryz.underlying133 rfl (by rw [hl8]; exact info8) ?_
        | (refine wpList_store_words rfl _ _ _ rfl (w.heap.size + 1) M (List.replicate 8 0) rfl rfl HLi.out.2.1 (by rw [hl8]; rfl) (by rw [hl8]; exact info8) ?_; intro w3 hw3))
      have hV3 : VAt (wr.setCells (w.heap.size + 1) 0 (wcells M)) (w.heap.size + 1) M := HLi.out.2.1.store _ (by rw [hl8]; rfl)
      exact bodyPost_ret (results_words2 rfl _ _ _ _ _ rfl hV3.1 Tryz.underlying133 rfl (by rw [hl8]; exact info8)) rfl ⟨by rw [← EM.out, ← EU.out]; rfl, below_cellsD (by omega) _ _ _ HLi.out.2.2.2⟩
end Go.Proofs.YtcjgjkejhkhknabGreatDoor

/-
  A row of bytes of the call's own, be it made of a text ('[]byte(s)') or by appends: one byte more.
-/
namespace Go.Proofs.YtcjgjkejhkhknabGreatDoor
open Go.RowKit

/-- The bytes l in a row that lies from block base on, with whatever room behind them. -/
def BRow (w : World) (base : Nat) (v : Value) (l : List UInt8) : Prop :=
  ∃ g cap, v = .slice (some ⟨g, 0, none⟩) l.length cap ∧ base ≤ g ∧ g < w.heap.size ∧ l.length ≤ cap ∧ (∀ j (hj : j < l.length), w.cell? ⟨g, j, none⟩ = some (.int .u8 (l[j].toNat : Int))) ∧
    ∀ j, l.length ≤ j → j < cap → (w.cell? ⟨g, j, none⟩).isSome = true ∧ w.frozen? ⟨g, j, none⟩ = false
theorem BRow.below {w w' : World} {base : Nat} {v : Value} {l : List UInt8} (h : BRow w base v l) (hb : Below w.heap.size w w') : BRow w' base v l := by
  obtain ⟨g, cap, h1, h2, h3, h4, h5, h6⟩ := h
  exact ⟨g, cap, h1, h2, Nat.lt_of_lt_of_le h3 hb.size, h4, fun j hj => by rw [hb.cell (show g < w.heap.size from h3)]; exact h5 j hj,
    fun j a b => by rw [hb.cell (show g < w.heap.size from h3), hb.frozen (show g < w.heap.size from h3)]; exact h6 j a b⟩

theorem brow_new (w : World) (s : ByteArray) : ∃ (v : Value) (w' : World), (convert 9 191 (.string s)).run Tryz.prog w = .ok v w' ∧ Below w.heap.size w w' ∧ BRow w' w.heap.size v s.data.toList := by
  have h := run_bytes_of_string (P := Tryz.prog) w 9 191 5 s Tryz.underlying9 Tryz.underlying191 Tryz.underlying5
  have hge := grownCap_ge w s.size 0 5
  generalize grownCap w s.size 0 5 = C at h hge
  have hsl : s.data.toList.length = s.size := by simp
  have d : w.drew.heap.size = w.heap.size := rfl
  have hsz : (bytesRow s C).size = C := by
    have : s.data.size = s.size := rfl
    unfold bytesRow
    rw [Array.size_append, Array.size_map, Array.size_replicate]
    omega
  have hcell : ∀ j, (w.drew.alloc (.cells (bytesRow s C) 5 ((bytesRow s C).size, (bytesRow s C).size + 1))).cell? ⟨w.heap.size, j, none⟩ = (bytesRow s C)[j]? := by
    intro j
    have := World.cell?_alloc_mark w.drew (bytesRow s C) 5 ((bytesRow s C).size, (bytesRow s C).size + 1) j
    rwa [d] at this
  refine ⟨_, _, h, ((Below.refl _ _).drew).alloc (Nat.le_refl _) _, w.heap.size, C, by rw [hsl], Nat.le_refl _, by simp, by omega, ?_, ?_⟩
  · intro j hj
    have hj2 : j < s.data.size := by simpa using hj
    rw [hcell, bytesRow_at s C j hj2]
    simp
  · intro j _ hj
    refine ⟨?_, ?_⟩
    · rw [hcell, Array.getElem?_eq_getElem (by omega)]; rfl
    · have := World.frozen?_alloc_mark w.drew (bytesRow s C) 5 (bytesRow s C).size ((bytesRow s C).size + 1) j
      rw [d] at this
      rw [this]
      simp; omega

theorem brow_own {w : World} {base : Nat} {v : Value} {l : List UInt8} (h : w.ownsRow base 5 1 v l.length (bcells l)) (h0 : 0 < l.length) : BRow w base v l := by
  have hlow := h.lt
  have hc := h
  rcases h.2 with ⟨-, h0'⟩ | ⟨g, cap, cur, rfl, hb, hg, hn, -, hcs, -⟩
  · omega
  · have hgl := hlow g rfl
    refine ⟨g, cap, rfl, hb, hgl.2, hn, ?_, ?_⟩
    · intro j hj
      have := hc.cells (g := g) rfl j _ (bcells_at l j hj)
      rwa [addr_at] at this
    · intro j _ hj
      refine ⟨?_, hc.frozenAt j⟩
      rw [cell_of_row w g j cur 5 (0, 0) hg, Array.getElem?_eq_getElem (by omega)]
      rfl

theorem brow_set {w : World} {base g cap : Nat} {l : List UInt8} {c : UInt8} {x : Int} (hx : (c.toNat : Int) = x) (hb : base ≤ g) (hg : g < w.heap.size) (hr : l.length + 1 ≤ cap) (h5 : ∀ j (hj : j < l.length), w.cell? ⟨g, j, none⟩ = some (.int .u8 (l[j].toNat : Int)))
    (h6 : ∀ j, l.length ≤ j → j < cap → (w.cell? ⟨g, j, none⟩).isSome = true ∧ w.frozen? ⟨g, j, none⟩ = false) : BRow (w.setCell ⟨g, l.length, none⟩ (.int .u8 x)) base (.slice (some ⟨g, 0, none⟩) (l.length + 1) cap) (l ++ [c]) := by
  have hs := World.cell?_setCell_same' w ⟨g, l.length, none⟩ (.int .u8 x) (h6 l.length (Nat.le_refl _) (by omega)).1
  have ho : ∀ j, j ≠ l.length → (w.setCell ⟨g, l.length, none⟩ (.int .u8 x)).cell? ⟨g, j, none⟩ = w.cell? ⟨g, j, none⟩ := fun j hj => World.cell?_setCell_other _ _ _ _ (fun e => hj (by injection e with _ e; exact e.symm))
  refine ⟨g, cap, by simp, hb, by simpa using hg, by simpa using hr, ?_, ?_⟩
  · intro j hj
    by_cases h : j = l.length
    · subst h
      rw [hs]
      simp [hx]
    · have hj2 : j < l.length := by simp at hj; omega
      rw [ho j h, h5 j hj2]
      simp [hj2]
  · intro j h1 h2
    have hj : l.length + 1 ≤ j := by simpa using h1
    rw [ho j (by omega), World.frozen?_setCell]
    exact h6 j (by omega) h2

theorem wpList_append_byte (w : World) {ops : Array Oper} {rest : List Oper} {o : Oper} {a : Act} {Q : Exit → Act → World → Prop} (hg : o.guard = none) (s x : Operand)
    (hop : o.op = Op.call { callee := Callee.builtin Builtin.append, args := #[s, x], argTypes := #[191, 191] })
    (base : Nat) (v : Value) (l : List UInt8) (hs : a.eval s = v) (hrow : BRow w base v l) (hl : l.length ≤ 1000000) (ad : Addr) (z : Int) (c : UInt8) (hc : (c.toNat : Int) = z) (hx : a.eval x = .slice (some ad) 1 1) (hn : w.cell? ad = some (.int .u8 z)) (hbase : base ≤ w.heap.size)
    (h : ∀ v' w', BRow w' base v' (l ++ [c]) → Below base w w' → wpList Tryz.prog ops Q rest (a.put o.dst v') w') : wpList Tryz.prog ops Q (o :: rest) a w := by
  obtain ⟨i0, hi, hz0, hz1, hz2⟩ := info_parts infoByte
  obtain ⟨g, cap, rfl, h2, h3, h4, h5, h6⟩ := hrow
  refine wpList_append_arg w hg s x 191 hop 5 i0 (.int .u8 0) 1 1 Tryz.underlying191 hi hz0 hz1 hz2 rfl (by decide) g 0 l.length cap (bcells l) hs (by rw [bcells_len]; omega) ?_ ad 1 1 [.int .u8 z] hx rfl ?_ (one_u8 _) ?_ (by unfold maxLen; omega) (by omega) ?_ ?_
  · intro j u hj
    have hj2 : j < l.length := by
      have := (List.getElem?_eq_some_iff.1 hj).1
      rwa [bcells_len] at this
    rw [bcells_at l j hj2] at hj
    cases hj
    rw [Nat.zero_add]
    exact h5 j hj2
  · intro j u hj
    match j, hj with
    | 0, hj => simp at hj; subst hj; simpa [Addr.add] using hn
  · intro hr j hj
    have hj0 : j = 0 := by simpa using hj
    subst hj0
    simpa using h6 l.length (Nat.le_refl _) (by omega)
  · intro hr
    have e : w.setCells g (0 + l.length * 1) [.int .u8 z] = w.setCell ⟨g, l.length, none⟩ (.int .u8 z) := by simp [World.setCells]
    rw [e]
    exact h _ _ (brow_set hc h2 h3 hr h5 h6) ((Below.refl base w).setCell (p := ⟨g, l.length, none⟩) h2 _)
  · intro _ v' w' hown hgrow
    have hown' : w'.ownsRow base 5 1 v' (l ++ [c]).length (bcells (l ++ [c])) := by
      rw [bcells_snoc l c z hc] at hown
      have : (l ++ [c]).length = l.length + 1 := by simp
      rw [this]
      exact own_lower hown hbase
    exact h _ _ (brow_own hown' (by simp)) ((Below.refl base w).grown hgrow hbase (fun k hk => by cases hk))
end Go.Proofs.YtcjgjkejhkhknabGreatDoor
