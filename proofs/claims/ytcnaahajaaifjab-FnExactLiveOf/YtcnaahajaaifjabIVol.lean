/-
  slices.Clone of volumes; impl.volAt, impl.areVols.
-/
import Derived.Test.YtcnaahajaaifjabPq21
import Derived.Test.YtcnaahajaaifjabIRecOk
import Derived.Lib.SliceRun
namespace Go.Proofs.Ytcnaahajaaifjab
open Go.RowKit
open Words

set_option maxHeartbeats 400000 in
set_option maxRecDepth 100000 in
theorem icl_vols (v : Value) (ls : List (Int × Int)) (w : World) (hl : ls.length ≤ 1048576) (ha : VlSl w v ls) :
    Calls Try.prog 69 #[v] w fun e w' => ∃ v', e = .returned v' ∧ w'.ownsRow w.heap.size 57 2 v' ls.length (vlcells ls) ∧ Below w.heap.size w w' := by
  obtain ⟨ad, lc, rfl, h0, hr⟩ := ha
  cases ad with
  | none =>
    have hls : ls = [] := by
      cases hq : ls with
      | nil => rfl
      | cons t l =>
        obtain ⟨b, off, e, -⟩ := hr.2.2.2 (by rw [hq]; simp)
        cases e
    subst hls
    obtain rfl := h0 rfl
    clear hr h0
    have hn := Lib.run_eql_slice_nil (P := Try.prog) w 30 _ none 0 0 0 0 Try.underlying30
    simp only [Option.isNone] at hn
    go_enter Try.func69, Try.ntmps69
    go_wp2
    go_ret
    exact ⟨_, rfl, ⟨rfl, .inl ⟨rfl, rfl⟩⟩, Below.refl _ _⟩
  | some aq =>
    have HB1 : Hid (Below w.heap.size w (w.alloc (.cells #[] 57))) := (Below.refl w.heap.size w).alloc (Nat.le_refl _) _
    have OE : Hid ((w.alloc (.cells #[] 57)).ownsRow w.heap.size 57 2 (.slice (some ⟨w.heap.size, 0, none⟩) 0 0) 0 []) := ⟨rfl, .inr ⟨w.heap.size, 0, #[], rfl, Nat.le_refl _, heap_alloc_new w _, Nat.le_refl _, by unfold maxLen; omega, rfl, rfl⟩⟩
    have OS := hide (hr.below HB1.out)
    have hn := Lib.run_eql_slice_nil (P := Try.prog) w 30 _ (some aq) ls.length lc 0 0 Try.underlying30
    simp only [Option.isNone] at hn
    have SRC : Hid (∀ (j : Nat) (u : Value), (vlcells ls)[j]? = some u → (w.alloc (.cells #[] 57)).cell? (aq.add j) = some u) := fun j u hj => by
      obtain ⟨x, hx, -⟩ := vlcells_back ls j u hj
      obtain ⟨b, off, e, -⟩ := OS.out.at hx
      injection e with e
      subst e
      rw [addr_off3v]
      exact OS.out.cells j u hj
    have HLN : Hid ((vlcells ls).length = ls.length * 2) := vlcells_len ls
    obtain ⟨i0, hi0, hz0, hz1, hz2⟩ := info_parts infoVl
    have I0 := hide hi0
    have Y0 := hide hz0
    have Y1 := hide hz1
    have Y2 := hide hz2
    obtain ⟨n, hlen⟩ : ∃ n, ls.length = n := ⟨_, rfl⟩
    rw [hlen] at hn hl HLN ⊢
    have HLEN := hide hlen
    clear hi0 hz0 hz1 hz2 hr h0 OS hlen
    go_enter Try.func69, Try.ntmps69
    go_wp2_with (at_builtin; refine wpList_append_own _ rfl _ _ 30 rfl w.heap.size 57 i0 (.agg #[.int .i64 0, .int .i64 0]) 2 16 Try.underlying30 I0.out Y0.out Y1.out Y2.out rfl (by decide) _ _ _ rfl OE.out aq n lc (vlcells ls) rfl ?c0 SRC.out (vlcells_one _) ?c1 ?c2 ?c3 ?_)
    case c0 => exact HLN.out
    case c1 => unfold maxLen; omega
    case c2 => omega
    case c3 => simp
    intro v' w3 o3 g3 _
    have HB3 := hide (HB1.out.grown g3 HB1.out.size (fun i hi2 => by cases hi2; exact Nat.le_refl _))
    have O3 := hide o3
    obtain ⟨va, vc, rfl, -⟩ := (Sli.of o3).form
    clear g3 o3
    go_wp2
    go_ret
    exact ⟨_, rfl, O3.out, HB3.out⟩
/-- A volume's address, or none. -/
def volP (va : Option Addr) : Option Nat → Value
  | none => .pointer none
  | some k => .pointer (va.map (fun a => ⟨a.block, a.off + k * 2, none⟩))
set_option maxHeartbeats 400000 in
set_option maxRecDepth 100000 in
theorem ivolAt (va : Option Addr) (vl vc : Nat) (vs : List (Int × Int)) (id : Int) (w : World) (hl : vl ≤ 1048576) (h : VlRow w va vl vs) :
    Calls Try.prog 49 #[.slice va vl vc, .int .i64 id] w fun e w' => e = .returned (volP va (atV vs id)) ∧ w' = w := by
  have HVL := hide h.1
  have H := hide h
  clear h
  go_enter Try.func49, Try.ntmps49
  go_wp2_with fail
  go_loop [8] (fun kv => ∃ k : Nat, k ≤ vl ∧ kv = .int .i64 k ∧ Hid (atK vs id k = none)) (fun kv => vl - (intOf kv).toNat)
  case atStart => exact ⟨0, Nat.zero_le _, rfl, (rfl : atK vs id 0 = none)⟩
  case round =>
    obtain ⟨k, hk, rfl, HN⟩ := hrel
    by_cases hlt : (k : Int) < vl
    · have hv := List.getElem?_eq_getElem (show k < vs.length by have := HVL.out; omega)
      generalize vs[k]'(by have := HVL.out; omega) = v at hv
      obtain ⟨b, off, e, hb, c0, c1⟩ := H.out.at hv
      subst e
      have k0 : (0 : Int) ≤ k := by omega
      by_cases hid : (v.1 == id) = true
      · have HE : Hid (atV vs id = some k) := atK_yes HN.out hv (by simpa using hid) _ (by have := HVL.out; omega)
        clear hv
        go_wp2
        go_ret
        exact ⟨by rw [HE.out]; rfl, rfl⟩
      · have HE : Hid (atK vs id (k + 1) = none) := atK_no HN.out hv (by simpa using hid)
        clear hv
        go_wp2
        go_round
        case rel => exact ⟨k + 1, by omega, by go_num, HE⟩
        case measure => simp [intOf]; omega
    · have HE : Hid (atV vs id = none) := by
        have e : k = vs.length := by have := HVL.out; omega
        have := HN.out
        rw [e] at this
        exact this
      go_wp2
      go_ret
      exact ⟨by rw [HE.out]; rfl, rfl⟩
set_option maxHeartbeats 400000 in
set_option maxRecDepth 100000 in
theorem iareVols (va : Option Addr) (vl vc : Nat) (vs : List (Int × Int)) (w : World) (hl : vl ≤ 1048576) (h : VlRow w va vl vs) :
    Calls Try.prog 41 #[.slice va vl vc] w fun e w' => e = .returned (.bool (volsB vs)) ∧ Below w.heap.size w w' := by
  have HVL := hide h.1
  have H := hide h
  clear h
  go_enter Try.func41, Try.ntmps41
  go_wp2_with fail
  go_loopw [3, 8] (fun lv kv W => ∃ (k : Nat) (la : Int), k ≤ vl ∧ kv = .int .i64 k ∧ lv = .int .i64 la ∧ (0 ≤ la ∧ la ≤ 9) ∧ Hid (la = lastI vs k ∧ idsK vs k = true) ∧ Hid (Below w.heap.size w W)) (fun _ kv _ => vl - (intOf kv).toNat)
  case atStart => exact ⟨0, 0, Nat.zero_le _, rfl, rfl, by omega, ⟨rfl, rfl⟩, Below.refl _ _⟩
  case round =>
    obtain ⟨k, la, hk, rfl, rfl, hla, HN, HW⟩ := hrel
    by_cases hlt : (k : Int) < vl
    · have hv := List.getElem?_eq_getElem (show k < vs.length by have := HVL.out; omega)
      generalize vs[k]'(by have := HVL.out; omega) = v at hv
      obtain ⟨b, off, e, hb, c0, c1⟩ := (H.out.below HW.out).at hv
      subst e
      have k0 : (0 : Int) ≤ k := by omega
      have HV := hide hv
      have HW2 : Hid (Below w.heap.size w (wr.alloc (.cells #[.int .i64 v.1, .int .i64 v.2] 57))) := HW.out.alloc HW.out.size _
      clear hv
      obtain ⟨x0, x1⟩ := v
      simp only at c0 c1 HW2
      by_cases hin : la + 1 ≤ x0 ∧ x0 ≤ 9
      · have HE : Hid (idsK vs (k + 1) = true) := by
          show _ = _
          rw [idsK_succ HV.out, HN.out.2, ← HN.out.1, decide_eq_true hin.1, decide_eq_true hin.2]
          rfl
        have HL2 : Hid (x0 = lastI vs (k + 1)) := by show _ = _; rw [lastI_succ HV.out]
        go_wp2_with (go_at_call 42; refine (iwithin x0 (la + 1) 9 true _ (.inl ⟨by omega, by omega, rfl⟩)).mono ?_; rintro e w' ⟨rfl, rfl⟩)
        go_roundw
        case rel => exact ⟨k + 1, x0, by omega, by go_num, rfl, by omega, ⟨HL2.out, HE.out⟩, HW2⟩
        case measure => simp [intOf]; omega
      · have HE : Hid (volsB vs = false) := idsK_bad HV.out (by rw [← HN.out.1]; exact hin)
        go_wp2_with (go_at_call 42; refine (iwithin x0 (la + 1) 9 false _ (.inr ⟨by omega, rfl⟩)).mono ?_; rintro e w' ⟨rfl, rfl⟩)
        go_ret
        exact ⟨by rw [HE.out]; rfl, HW2.out⟩
    · have HE : Hid (volsB vs = decide ((vl : Int) ≤ 3)) := by
        show _ = _
        have e : k = vs.length := by have := HVL.out; omega
        have h2 := HN.out.2
        rw [e] at h2
        rw [volsB, h2, Bool.true_and, HVL.out]
        exact decide_eq_decide.2 (by omega)
      by_cases h3 : (vl : Int) ≤ 3
      · go_wp2
        go_ret
        exact ⟨by rw [HE.out, decide_eq_true h3]; rfl, HW.out⟩
      · go_wp2
        go_ret
        exact ⟨by rw [HE.out, decide_eq_false (by omega)]; rfl, HW.out⟩
end Go.Proofs.Ytcnaahajaaifjab
