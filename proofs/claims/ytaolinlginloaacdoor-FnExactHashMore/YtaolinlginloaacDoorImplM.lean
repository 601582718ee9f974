/-
  The walk of impl's blocks of a text.
-/
import Derived.Test.YtaolinlginloaacDoorImplB
import Derived.Test.YtaolinlginloaacDoorMore2
namespace Go.Proofs.YtaolinlginloaacDoor
open Go.RowKit
open Dig

/-- A whole array is loaded, at a step of a region that draws. -/
theorem step_load_words (w : World) {ops : Array Oper} {o : Oper} {a : Act} {K : Act → World → Prop} {Q : Exit → Act → World → Prop} {E : Prop} (hgd : o.guard = none) (ty : TypeId) (x : Operand) (ho : o.op = .load ty x)
    (g : Nat) (hx : a.eval x = .pointer (some ⟨g, 0, none⟩)) (l : List Nat) (d : TypeDesc) (hc : WordsAt w g l)
    (hu : Tryd.prog.underlying ty = some d) (hd : d.isRow = true) (hi : (Tryd.prog.info? ty).map (·.size) = some l.length)
    (h : K (a.put o.dst (wagg l)) w) : if Region.wanted o (yielded ops a.tmps) = true then Oper.wp Tryd.prog o a w K Q else E := by
  rw [if_pos (by simp [Region.wanted, hgd])]
  exact wp_load_mid ty x ho g 0 hx (wcells l) d (words_range hc) hu hd (by rw [wcells_len]; exact hi) h
/-- A whole array is stored, at a step of a region that draws. -/
theorem step_store_words (w : World) {ops : Array Oper} {o : Oper} {a : Act} {K : Act → World → Prop} {Q : Exit → Act → World → Prop} {E : Prop} (hgd : o.guard = none) (ty : TypeId) (x y : Operand) (ho : o.op = .store ty x y)
    (g : Nat) (l old : List Nat) (hx : a.eval x = .pointer (some ⟨g, 0, none⟩)) (hy : a.eval y = wagg l)
    (hc : VAt w g old) (hl : l.length = old.length) (hi : (Tryd.prog.info? ty).map (·.size) = some l.length)
    (h : ∀ w', w' = w.setCells g 0 (wcells l) → K (a.put o.dst undef) w') : if Region.wanted o (yielded ops a.tmps) = true then Oper.wp Tryd.prog o a w K Q else E := by
  rw [if_pos (by simp [Region.wanted, hgd])]
  exact wp_store_mid ty x y ho g 0 (wcells l).toArray hx hy (by rw [wcells_size, hl]; exact v_there hc) (by rw [wcells_size]; exact hi) (wcells_all l) (by have := h _ rfl; simpa using this)

theorem head_cut (t : ByteArray) (k : Nat) (h : 64 * k + 64 ≤ t.size) : ((t.extract (64 * k) t.size).extract 0 64) = t.extract (64 * k) (64 * k + 64) := by
  rw [ByteArray.extract_extract]
  congr 1 <;> omega
theorem tail_cut (t : ByteArray) (k : Nat) (h : 64 * k + 64 ≤ t.size) : ((t.extract (64 * k) t.size).extract 64 (t.size - 64 * k)) = t.extract (64 * (k + 1)) t.size := by
  rw [ByteArray.extract_extract]
  congr 1 <;> omega

def lenV : Value → Nat | .string s => s.size | _ => 0
/-- What the blocks of a text lie in. -/
def LiesM (w0 w : World) (M : List Nat) : Prop := VAt w w0.heap.size M ∧ VAt w (w0.heap.size + 1) (List.replicate 8 0) ∧ StepIn w ∧ Below w0.heap.size w0 w

theorem LiesM.drew {w0 w : World} {M : List Nat} (h : LiesM w0 w M) : LiesM w0 w.drew M :=
  ⟨h.1, h.2.1, h.2.2.1.on (Below.refl _ _).drew, h.2.2.2.drew⟩

theorem LiesM.store {w0 w : World} {M : List Nat} (h : LiesM w0 w M) (h0 : StepIn w0) (l : List Nat) (hl : l.length = M.length) : LiesM w0 (w.setCells w0.heap.size 0 (wcells l)) l :=
  have hb := below_cellsD (Nat.le_refl w0.heap.size) (wcells l) 0 w h.2.2.2
  ⟨h.1.store l hl, h.2.1.apart (by omega) _ _, h0.on hb, hb⟩

set_option maxHeartbeats 1000000 in
set_option maxRecDepth 100000 in
theorem blocks_any (st : List Nat) (t : ByteArray) (w : World) (hst : St st) (ht : t.size ≤ 4000000) (hT : StepIn w) :
    Calls Tryd.prog 44 #[wagg st, .string t] w fun e w' =>
      e = .returned (.tuple #[wagg (mixes (t.size / 64) st t.data.toList), .string (t.extract (64 * (t.size / 64)) t.size)]) ∧ Below w.heap.size w w' := by
  have HS := hide hst
  have HT := hide hT
  obtain ⟨a, b, c, d, e, f, g, i, hs8, -⟩ := hst.open
  have hw8 : wagg st = .agg #[.int .u32 a, .int .u32 b, .int .u32 c, .int .u32 d, .int .u32 e, .int .u32 f, .int .u32 g, .int .u32 i] := by rw [hs8]; rfl
  rw [hw8]
  have ES := hide hs8
  clear hst hT hw8 hs8
  go_enter Tryd.func44, Tryd.ntmps44
  go_wp2
  go_loopw [1] (fun tv wr => ∃ (k : Nat) (u : ByteArray), 64 * k ≤ t.size ∧ tv = .string u ∧ Hid (u = t.extract (64 * k) t.size) ∧ u.size + 64 * k = t.size ∧ Hid (LiesM w wr (mixes k st t.data.toList))) (fun tv _ => lenV tv)
  case atStart =>
    refine ⟨0, t, by omega, rfl, ?_, by omega, ?_⟩
    · show t = t.extract (64 * 0) t.size
      simp
    · refine ⟨(v_new w st _ _ (by rw [ES.out]; rfl)).alloc _, ?_, HT.out.on (((Below.refl _ _).alloc (Nat.le_refl _) _).alloc (by simp) _), ((Below.refl _ _).alloc (Nat.le_refl _) _).alloc (by simp) _⟩
      have := v_new (w.alloc (.cells #[.int .u32 a, .int .u32 b, .int .u32 c, .int .u32 d, .int .u32 e, .int .u32 f, .int .u32 g, .int .u32 i] 71)) (List.replicate 8 0) #[.int .u32 0, .int .u32 0, .int .u32 0, .int .u32 0, .int .u32 0, .int .u32 0, .int .u32 0, .int .u32 0] 71 rfl
      simpa using this
  case round =>
    obtain ⟨k, u, hk, rfl, EU, hu, HLi⟩ := hrel
    have hM := hide (mixes_st HS.out k t.data.toList)
    by_cases hge : (64 : Int) ≤ u.size
    · obtain ⟨v, hv⟩ : ∃ v, v = u.extract 0 64 := ⟨_, rfl⟩
      obtain ⟨r, hr⟩ : ∃ r, r = u.extract 64 u.size := ⟨_, rfl⟩
      have hsl : ∀ W, (Instr.slice 9 (.string u) none (some (.int .i64 64)) none).run Tryd.prog W = .ok (.string v) W := by
        intro W
        rw [run_slice_string_h W 9 u Tryd.underlying9 .i64 _ (by omega) (by omega), hv]
        rfl
      have hsr : ∀ W, (Instr.slice 9 (.string u) (some (.int .i64 64)) none none).run Tryd.prog W = .ok (.string r) W := by
        intro W
        rw [run_slice_string_l W 9 u Tryd.underlying9 .i64 _ (by omega) (by omega), hr]
        rfl
      have hv64 : v.size = 64 := by rw [hv]; simp; omega
      have hrs : r.size + 64 = u.size := by rw [hr]; simp; omega
      have ER : Hid (r = t.extract (64 * (k + 1)) t.size) := by
        show r = _
        rw [hr, ← tail_cut t k (by omega), ← EU.out]
        congr 1
        omega
      have EV : v.data.toList = (t.data.toList.drop (64 * k)).take 64 := by
        rw [hv, EU.out, head_cut t k (by omega)]
        exact (cut64 t k (by omega)).2
      have F : Hid (mixes (k + 1) st t.data.toList = mix (mixes k st t.data.toList) v.data.toList) := by
        show _ = _
        rw [EV]; rfl
      obtain ⟨M, hMM⟩ : ∃ M, M = mixes k st t.data.toList := ⟨_, rfl⟩
      rw [← hMM] at HLi hM F
      have hM2 := hide (mix_st hM.out v.data.toList)
      have CB := hide (fun w' => block_any M v w' hM.out hv64)
      obtain ⟨M2, hMM2⟩ : ∃ M2, M2 = mix M v.data.toList := ⟨_, rfl⟩
      rw [← hMM2] at F hM2 CB
      have hl8 := hM.out.1
      have hl82 := hM2.out.1
      clear hMM hMM2 EV hv hr EU
      obtain ⟨m0, m1, m2, m3, m4, m5, m6, m7, hm8, -⟩ := hM.out.open
      have s0 := words_at HLi.out.1.1 0 m0 (by rw [hm8]; rfl)
      have s1 := words_at HLi.out.1.1 1 m1 (by rw [hm8]; rfl)
      have s2 := words_at HLi.out.1.1 2 m2 (by rw [hm8]; rfl)
      have s3 := words_at HLi.out.1.1 3 m3 (by rw [hm8]; rfl)
      have s4 := words_at HLi.out.1.1 4 m4 (by rw [hm8]; rfl)
      have s5 := words_at HLi.out.1.1 5 m5 (by rw [hm8]; rfl)
      have s6 := words_at HLi.out.1.1 6 m6 (by rw [hm8]; rfl)
      have s7 := words_at HLi.out.1.1 7 m7 (by rw [hm8]; rfl)
      have hwM : wagg M = .agg #[.int .u32 m0, .int .u32 m1, .int .u32 m2, .int .u32 m3, .int .u32 m4, .int .u32 m5, .int .u32 m6, .int .u32 m7] := by rw [hm8]; rfl
      rw [hwM] at CB
      obtain ⟨p0, p1, p2, p3, p4, p5, p6, p7, hp8, -⟩ := hM2.out.open
      have hwP : wagg M2 = .agg #[.int .u32 p0, .int .u32 p1, .int .u32 p2, .int .u32 p3, .int .u32 p4, .int .u32 p5, .int .u32 p6, .int .u32 p7] := by rw [hp8]; rfl
      rw [hwP] at CB
      have HLd := hide HLi.out.drew
      have CB2 : Hid (Calls Tryd.prog 72 #[.agg #[.int .u32 m0, .int .u32 m1, .int .u32 m2, .int .u32 m3, .int .u32 m4, .int .u32 m5, .int .u32 m6, .int .u32 m7], .string v] wr.drew fun e w3 => e = .returned (.agg #[.int .u32 p0, .int .u32 p1, .int .u32 p2, .int .u32 p3, .int .u32 p4, .int .u32 p5, .int .u32 p6, .int .u32 p7]) ∧
          ((w3.cell? ⟨w.heap.size, 0, none⟩ = some (.int .u32 m0) ∧ w3.cell? ⟨w.heap.size, 1, none⟩ = some (.int .u32 m1) ∧ w3.cell? ⟨w.heap.size, 2, none⟩ = some (.int .u32 m2) ∧ w3.cell? ⟨w.heap.size, 3, none⟩ = some (.int .u32 m3) ∧ w3.cell? ⟨w.heap.size, 4, none⟩ = some (.int .u32 m4) ∧ w3.cell? ⟨w.heap.size, 5, none⟩ = some (.int .u32 m5) ∧ w3.cell? ⟨w.heap.size, 6, none⟩ = some (.int .u32 m6) ∧ w3.cell? ⟨w.heap.size, 7, none⟩ = some (.int .u32 m7)) ∧
          (w3.frozen? ⟨w.heap.size, 0, none⟩ = false ∧ w3.frozen? ⟨w.heap.size, 1, none⟩ = false ∧ w3.frozen? ⟨w.heap.size, 2, none⟩ = false ∧ w3.frozen? ⟨w.heap.size, 3, none⟩ = false ∧ w3.frozen? ⟨w.heap.size, 4, none⟩ = false ∧ w3.frozen? ⟨w.heap.size, 5, none⟩ = false ∧ w3.frozen? ⟨w.heap.size, 6, none⟩ = false ∧ w3.frozen? ⟨w.heap.size, 7, none⟩ = false) ∧ Hid (LiesM w w3 M))) := by
        refine (CB.out _ HLd.out.2.2.1).mono ?_
        rintro en w3 ⟨rfl, hb3⟩
        have h3 : LiesM w w3 M := ⟨HLd.out.1.below hb3 HLd.out.1.1.1, HLd.out.2.1.below hb3 HLd.out.2.1.1.1, HLd.out.2.2.1.on hb3, HLd.out.2.2.2.trans (hb3.mono HLd.out.2.2.2.size)⟩
        have q := fun j x hx => words_at h3.1.1 j x hx
        exact ⟨rfl, ⟨q 0 m0 (by rw [hm8]; rfl), q 1 m1 (by rw [hm8]; rfl), q 2 m2 (by rw [hm8]; rfl), q 3 m3 (by rw [hm8]; rfl), q 4 m4 (by rw [hm8]; rfl), q 5 m5 (by rw [hm8]; rfl), q 6 m6 (by rw [hm8]; rfl), q 7 m7 (by rw [hm8]; rfl)⟩, ⟨h3.1.2 0, h3.1.2 1, h3.1.2 2, h3.1.2 3, h3.1.2 4, h3.1.2 5, h3.1.2 6, h3.1.2 7⟩, h3⟩
      have HP := hide hp8
      clear hwM hwP hm8 hp8 HLi HLd CB
      go_wp2
      go_region_with (
        (go_at_call 72; refine CB2.out.mono ?_; rintro en w3 ⟨rfl, ⟨r0, r1, r2, r3, r4, r5, r6, r7⟩, ⟨f0, f1, f2, f3, f4, f5, f6, f7⟩, HL3⟩))
      all_goals
        have h4 := HL3.out.store HT.out M2 (by rw [hl8, hl82])
        rw [HP.out] at h4
        have HL4 : Hid (LiesM w ((((((((w3.setCell ⟨w.heap.size, 0, none⟩ (.int .u32 p0)).setCell ⟨w.heap.size, 1, none⟩ (.int .u32 p1)).setCell ⟨w.heap.size, 2, none⟩ (.int .u32 p2)).setCell ⟨w.heap.size, 3, none⟩ (.int .u32 p3)).setCell ⟨w.heap.size, 4, none⟩ (.int .u32 p4)).setCell ⟨w.heap.size, 5, none⟩ (.int .u32 p5)).setCell ⟨w.heap.size, 6, none⟩ (.int .u32 p6)).setCell ⟨w.heap.size, 7, none⟩ (.int .u32 p7)) [p0, p1, p2, p3, p4, p5, p6, p7]) := h4
        rw [← HP.out, ← F.out] at HL4
        generalize (((((((w3.setCell ⟨w.heap.size, 0, none⟩ (.int .u32 p0)).setCell ⟨w.heap.size, 1, none⟩ (.int .u32 p1)).setCell ⟨w.heap.size, 2, none⟩ (.int .u32 p2)).setCell ⟨w.heap.size, 3, none⟩ (.int .u32 p3)).setCell ⟨w.heap.size, 4, none⟩ (.int .u32 p4)).setCell ⟨w.heap.size, 5, none⟩ (.int .u32 p5)).setCell ⟨w.heap.size, 6, none⟩ (.int .u32 p6)).setCell ⟨w.heap.size, 7, none⟩ (.int .u32 p7) = w4 at HL4
        clear h4 HL3 CB2 r0 r1 r2 r3 r4 r5 r6 r7 f0 f1 f2 f3 f4 f5 f6 f7 s0 s1 s2 s3 s4 s5 s6 s7 F HP hsl
        go_wp2
        go_roundw
        case rel => exact ⟨k + 1, r, by omega, rfl, ER, by omega, HL4⟩
        case measure => simp [lenV]; omega
    · have ek : k = t.size / 64 := by omega
      subst ek
      obtain ⟨M, hMM⟩ : ∃ M, M = mixes (t.size / 64) st t.data.toList := ⟨_, rfl⟩
      rw [← hMM] at HLi hM
      have EM := hide hMM
      have hl8 := hM.out.1
      clear hMM
      go_wp2_with (first
        | refine wpList_load_words rfl _ _ rfl w.heap.size rfl M _ HLi.out.1.1 Tryd.underlying71 rfl (by rw [hl8]; exact info8) ?_
        | (refine wpList_store_words rfl _ _ _ rfl (w.heap.size + 1) M (List.replicate 8 0) rfl rfl HLi.out.2.1 (by rw [hl8]; rfl) (by rw [hl8]; exact info8) ?_; intro w3 hw3))
      have hV3 : VAt (wr.setCells (w.heap.size + 1) 0 (wcells M)) (w.heap.size + 1) M := HLi.out.2.1.store _ (by rw [hl8]; rfl)
      exact bodyPost_ret (results_words2 rfl _ _ _ _ _ rfl hV3.1 Tryd.underlying71 rfl (by rw [hl8]; exact info8)) rfl ⟨by rw [← EM.out, ← EU.out]; rfl, below_cellsD (by omega) _ _ _ HLi.out.2.2.2⟩
end Go.Proofs.YtaolinlginloaacDoor
