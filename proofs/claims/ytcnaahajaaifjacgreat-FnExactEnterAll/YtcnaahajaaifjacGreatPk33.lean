/-
  IVol; ICl; KFil
-/
import Derived.Test.YtcnaahajaaifjacGreatPk16
import Derived.Test.YtcnaahajaaifjacGreatIRecOk
import Derived.Lib.SliceRun
import Derived.Test.YtcnaahajaaifjacGreatPk2
import Derived.Test.YtcnaahajaaifjacGreatPk6
import Derived.Test.YtcnaahajaaifjacGreatKnCp
/-
  slices.Clone of volumes; impl.volAt, impl.areVols.
-/
namespace Go.Proofs.YtcnaahajaaifjacGreat
open Go.RowKit
open Words

set_option maxHeartbeats 400000 in
set_option maxRecDepth 100000 in
theorem icl_vols (v : Value) (ls : List (Int × Int)) (w : World) (hl : ls.length ≤ 1048576) (ha : VlSl w v ls) :
    Calls Tryz.prog 41 #[v] w fun e w' => ∃ v', e = .returned v' ∧ w'.ownsRow w.heap.size 69 2 v' ls.length (vlcells ls) ∧ Below w.heap.size w w' := by
  obtain ⟨ad, lc, rfl, h0, hr⟩ := ha
  cases ad with
  | none =>
    have hls : ls = [] := by
      cases hq : ls with
      | nil => rfl
      | cons t l =>
        obtain ⟨b, off, e, -⟩ := hr.2.2.2 (by rw [hq]; simp)
        cases e
    subst hls
    obtain rfl := h0 rfl
    clear hr h0
    have hn := Lib.run_eql_slice_nil (P := Tryz.prog) w 31 _ none 0 0 0 0 Tryz.underlying31
    simp only [Option.isNone] at hn
    go_enter Tryz.func41, Tryz.ntmps41
    go_wp2
    go_ret
    exact ⟨_, rfl, ⟨rfl, .inl ⟨rfl, rfl⟩⟩, Below.refl _ _⟩
  | some aq =>
    have HB1 : Hid (Below w.heap.size w (w.alloc (.cells #[] 69))) := (Below.refl w.heap.size w).alloc (Nat.le_refl _) _
    have OE : Hid ((w.alloc (.cells #[] 69)).ownsRow w.heap.size 69 2 (.slice (some ⟨w.heap.size, 0, none⟩) 0 0) 0 []) := ⟨rfl, .inr ⟨w.heap.size, 0, #[], rfl, Nat.le_refl _, heap_alloc_new w _, Nat.le_refl _, by unfold maxLen; omega, rfl, rfl⟩⟩
    have OS := hide (hr.below HB1.out)
    have hn := Lib.run_eql_slice_nil (P := Tryz.prog) w 31 _ (some aq) ls.length lc 0 0 Tryz.underlying31
    simp only [Option.isNone] at hn
    have SRC : Hid (∀ (j : Nat) (u : Value), (vlcells ls)[j]? = some u → (w.alloc (.cells #[] 69)).cell? (aq.add j) = some u) := fun j u hj => by
      obtain ⟨x, hx, -⟩ := vlcells_back ls j u hj
      obtain ⟨b, off, e, -⟩ := OS.out.at hx
      injection e with e
      subst e
      rw [addr_off3v]
      exact OS.out.cells j u hj
    have HLN : Hid ((vlcells ls).length = ls.length * 2) := vlcells_len ls
    obtain ⟨i0, hi0, hz0, hz1, hz2⟩ := info_parts infoVl
    have I0 := hide hi0
    have Y0 := hide hz0
    have Y1 := hide hz1
    have Y2 := hide hz2
    obtain ⟨n, hlen⟩ : ∃ n, ls.length = n := ⟨_, rfl⟩
    rw [hlen] at hn hl HLN ⊢
    have HLEN := hide hlen
    clear hi0 hz0 hz1 hz2 hr h0 OS hlen
    go_enter Tryz.func41, Tryz.ntmps41
    go_wp2_with (at_builtin; refine wpList_append_own _ rfl _ _ 31 rfl w.heap.size 69 i0 (.agg #[.int .i64 0, .int .i64 0]) 2 16 Tryz.underlying31 I0.out Y0.out Y1.out Y2.out rfl (by decide) _ _ _ rfl OE.out aq n lc (vlcells ls) rfl ?c0 SRC.out (vlcells_one _) ?c1 ?c2 ?c3 ?_)
    case c0 => exact HLN.out
    case c1 => unfold maxLen; omega
    case c2 => omega
    case c3 => simp
    intro v' w3 o3 g3 _
    have HB3 := hide (HB1.out.grown g3 HB1.out.size (fun i hi2 => by cases hi2; exact Nat.le_refl _))
    have O3 := hide o3
    obtain ⟨va, vc, rfl, -⟩ := (Sli.of o3).form
    clear g3 o3
    go_wp2
    go_ret
    exact ⟨_, rfl, O3.out, HB3.out⟩
/-- A volume's address, or none. -/
def volP (va : Option Addr) : Option Nat → Value
  | none => .pointer none
  | some k => .pointer (va.map (fun a => ⟨a.block, a.off + k * 2, none⟩))
set_option maxHeartbeats 400000 in
set_option maxRecDepth 100000 in
theorem ivolAt (va : Option Addr) (vl vc : Nat) (vs : List (Int × Int)) (id : Int) (w : World) (hl : vl ≤ 1048576) (h : VlRow w va vl vs) :
    Calls Tryz.prog 81 #[.slice va vl vc, .int .i64 id] w fun e w' => e = .returned (volP va (atV vs id)) ∧ w' = w := by
  have HVL := hide h.1
  have H := hide h
  clear h
  go_enter Tryz.func81, Tryz.ntmps81
  go_wp2_with fail
  go_loop [8] (fun kv => ∃ k : Nat, k ≤ vl ∧ kv = .int .i64 k ∧ Hid (atK vs id k = none)) (fun kv => vl - (intOf kv).toNat)
  case atStart => exact ⟨0, Nat.zero_le _, rfl, (rfl : atK vs id 0 = none)⟩
  case round =>
    obtain ⟨k, hk, rfl, HN⟩ := hrel
    by_cases hlt : (k : Int) < vl
    · have hv := List.getElem?_eq_getElem (show k < vs.length by have := HVL.out; omega)
      generalize vs[k]'(by have := HVL.out; omega) = v at hv
      obtain ⟨b, off, e, hb, c0, c1⟩ := H.out.at hv
      subst e
      have k0 : (0 : Int) ≤ k := by omega
      by_cases hid : (v.1 == id) = true
      · have HE : Hid (atV vs id = some k) := atK_yes HN.out hv (by simpa using hid) _ (by have := HVL.out; omega)
        clear hv
        go_wp2
        go_ret
        exact ⟨by rw [HE.out]; rfl, rfl⟩
      · have HE : Hid (atK vs id (k + 1) = none) := atK_no HN.out hv (by simpa using hid)
        clear hv
        go_wp2
        go_round
        case rel => exact ⟨k + 1, by omega, by go_num, HE⟩
        case measure => simp [intOf]; omega
    · have HE : Hid (atV vs id = none) := by
        have e : k = vs.length := by have := HVL.out; omega
        have := HN.out
        rw [e] at this
        exact this
      go_wp2
      go_ret
      exact ⟨by rw [HE.out]; rfl, rfl⟩
set_option maxHeartbeats 400000 in
set_option maxRecDepth 100000 in
theorem iareVols (va : Option Addr) (vl vc : Nat) (vs : List (Int × Int)) (w : World) (hl : vl ≤ 1048576) (h : VlRow w va vl vs) :
    Calls Tryz.prog 63 #[.slice va vl vc] w fun e w' => e = .returned (.bool (volsB vs)) ∧ Below w.heap.size w w' := by
  have HVL := hide h.1
  have H := hide h
  clear h
  go_enter Tryz.func63, Tryz.ntmps63
  go_wp2_with fail
  go_loopw [3, 8] (fun lv kv W => ∃ (k : Nat) (la : Int), k ≤ vl ∧ kv = .int .i64 k ∧ lv = .int .i64 la ∧ (0 ≤ la ∧ la ≤ 9) ∧ Hid (la = lastI vs k ∧ idsK vs k = true) ∧ Hid (Below w.heap.size w W)) (fun _ kv _ => vl - (intOf kv).toNat)
  case atStart => exact ⟨0, 0, Nat.zero_le _, rfl, rfl, by omega, ⟨rfl, rfl⟩, Below.refl _ _⟩
  case round =>
    obtain ⟨k, la, hk, rfl, rfl, hla, HN, HW⟩ := hrel
    by_cases hlt : (k : Int) < vl
    · have hv := List.getElem?_eq_getElem (show k < vs.length by have := HVL.out; omega)
      generalize vs[k]'(by have := HVL.out; omega) = v at hv
      obtain ⟨b, off, e, hb, c0, c1⟩ := (H.out.below HW.out).at hv
      subst e
      have k0 : (0 : Int) ≤ k := by omega
      have HV := hide hv
      have HW2 : Hid (Below w.heap.size w (wr.alloc (.cells #[.int .i64 v.1, .int .i64 v.2] 69))) := HW.out.alloc HW.out.size _
      clear hv
      obtain ⟨x0, x1⟩ := v
      simp only at c0 c1 HW2
      by_cases hin : la + 1 ≤ x0 ∧ x0 ≤ 9
      · have HE : Hid (idsK vs (k + 1) = true) := by
          show _ = _
          rw [idsK_succ HV.out, HN.out.2, ← HN.out.1, decide_eq_true hin.1, decide_eq_true hin.2]
          rfl
        have HL2 : Hid (x0 = lastI vs (k + 1)) := by show _ = _; rw [lastI_succ HV.out]
        go_wp2_with (go_at_call 64; refine (iwithin x0 (la + 1) 9 true _ (.inl ⟨by omega, by omega, rfl⟩)).mono ?_; rintro e w' ⟨rfl, rfl⟩)
        go_roundw
        case rel => exact ⟨k + 1, x0, by omega, by go_num, rfl, by omega, ⟨HL2.out, HE.out⟩, HW2⟩
        case measure => simp [intOf]; omega
      · have HE : Hid (volsB vs = false) := idsK_bad HV.out (by rw [← HN.out.1]; exact hin)
        go_wp2_with (go_at_call 64; refine (iwithin x0 (la + 1) 9 false _ (.inr ⟨by omega, rfl⟩)).mono ?_; rintro e w' ⟨rfl, rfl⟩)
        go_ret
        exact ⟨by rw [HE.out]; rfl, HW2.out⟩
    · have HE : Hid (volsB vs = decide ((vl : Int) ≤ 3)) := by
        show _ = _
        have e : k = vs.length := by have := HVL.out; omega
        have h2 := HN.out.2
        rw [e] at h2
        rw [volsB, h2, Bool.true_and, HVL.out]
        exact decide_eq_decide.2 (by omega)
      by_cases h3 : (vl : Int) ≤ 3
      · go_wp2
        go_ret
        exact ⟨by rw [HE.out, decide_eq_true h3]; rfl, HW.out⟩
      · go_wp2
        go_ret
        exact ⟨by rw [HE.out, decide_eq_false (by omega)]; rfl, HW.out⟩
end Go.Proofs.YtcnaahajaaifjacGreat

/-
  slices.Clone of numbers and of knots; impl.copiedArena.
-/
namespace Go.Proofs.YtcnaahajaaifjacGreat
open Go.RowKit
open Words

set_option maxHeartbeats 400000 in
set_option maxRecDepth 100000 in
theorem icl_ints (v : Value) (ls : List Int) (w : World) (hl : ls.length ≤ 1048576) (ha : ISl w v ls) :
    Calls Tryz.prog 62 #[v] w fun e w' => ∃ v', e = .returned v' ∧ w'.ownsRow w.heap.size 3 1 v' ls.length (icells ls) ∧ Below w.heap.size w w' := by
  obtain ⟨ad, lc, rfl, h0, hr⟩ := ha
  cases ad with
  | none =>
    have hls : ls = [] := by
      cases hq : ls with
      | nil => rfl
      | cons t l =>
        obtain ⟨b, off, e, -⟩ := hr.2.2 (by rw [hq]; simp)
        cases e
    subst hls
    obtain rfl := h0 rfl
    clear hr h0
    have hn := Lib.run_eql_slice_nil (P := Tryz.prog) w 81 _ none 0 0 0 0 Tryz.underlying81
    simp only [Option.isNone] at hn
    go_enter Tryz.func62, Tryz.ntmps62
    go_wp2
    go_ret
    exact ⟨_, rfl, ⟨rfl, .inl ⟨rfl, rfl⟩⟩, Below.refl _ _⟩
  | some aq =>
    have HB1 : Hid (Below w.heap.size w (w.alloc (.cells #[] 3))) := (Below.refl w.heap.size w).alloc (Nat.le_refl _) _
    have OE : Hid ((w.alloc (.cells #[] 3)).ownsRow w.heap.size 3 1 (.slice (some ⟨w.heap.size, 0, none⟩) 0 0) 0 []) := ⟨rfl, .inr ⟨w.heap.size, 0, #[], rfl, Nat.le_refl _, heap_alloc_new w _, Nat.le_refl _, by unfold maxLen; omega, rfl, rfl⟩⟩
    have OS := hide (hr.below HB1.out)
    have hn := Lib.run_eql_slice_nil (P := Tryz.prog) w 81 _ (some aq) ls.length lc 0 0 Tryz.underlying81
    simp only [Option.isNone] at hn
    have SRC : Hid (∀ (j : Nat) (u : Value), (icells ls)[j]? = some u → (w.alloc (.cells #[] 3)).cell? (aq.add j) = some u) := fun j u hj => by
      obtain ⟨x, hx, rfl⟩ := icells_back hj
      obtain ⟨b, off, e, -, c⟩ := OS.out.at hx
      injection e with e
      subst e
      have ea : (⟨b, off, none⟩ : Addr).add j = ⟨b, off + j, none⟩ := by simp only [Addr.add]; split <;> simp_all
      rw [ea]
      exact c
    have HLN : Hid ((icells ls).length = ls.length) := by show _ = _; simp [icells]
    obtain ⟨i0, hi0, hz0, hz1, hz2⟩ := info_parts infoInt
    have I0 := hide hi0
    have Y0 := hide hz0
    have Y1 := hide hz1
    have Y2 := hide hz2
    obtain ⟨n, hlen⟩ : ∃ n, ls.length = n := ⟨_, rfl⟩
    rw [hlen] at hn hl HLN ⊢
    have HLEN := hide hlen
    clear hi0 hz0 hz1 hz2 hr h0 OS hlen
    go_enter Tryz.func62, Tryz.ntmps62
    go_wp2_with (at_builtin; refine wpList_append_own _ rfl _ _ 81 rfl w.heap.size 3 i0 (.int .i64 0) 1 8 Tryz.underlying81 I0.out Y0.out Y1.out Y2.out rfl (by decide) _ _ _ rfl OE.out aq n lc (icells ls) rfl ?c0 SRC.out (icells_one _) ?c1 ?c2 ?c3 ?_)
    case c0 => rw [HLN.out, Nat.mul_one]
    case c1 => unfold maxLen; omega
    case c2 => omega
    case c3 => simp
    intro v' w3 o3 g3 _
    have HB3 := hide (HB1.out.grown g3 HB1.out.size (fun i hi2 => by cases hi2; exact Nat.le_refl _))
    have O3 := hide o3
    obtain ⟨va, vc, rfl, -⟩ := (Sli.of o3).form
    clear g3 o3
    go_wp2
    go_ret
    exact ⟨_, rfl, O3.out, HB3.out⟩
theorem kncells_one {rs : List Kw} (h : ∀ r ∈ rs, r.2.1.oneCell' = true) : ∀ u ∈ kncells rs, u.oneCell' = true := by
  intro u hu
  obtain ⟨r, hr, hu⟩ := List.mem_flatMap.1 hu
  simp only [kncell, List.mem_cons, List.not_mem_nil, or_false] at hu
  rcases hu with rfl | rfl
  · rfl
  · exact h r hr
theorem KnRd.cells {W : World} {b off len : Nat} {rs : List Kw} (h : KnRd W (some ⟨b, off, none⟩) len rs) (j : Nat) (u : Value) (hj : (kncells rs)[j]? = some u) : W.cell? ((⟨b, off, none⟩ : Addr).add j) = some u := by
  have hlt := (List.getElem?_eq_some_iff.1 hj).1
  rw [kncells_len] at hlt
  obtain ⟨r, hr⟩ : ∃ r, rs[j / 2]? = some r := ⟨_, List.getElem?_eq_getElem (by omega)⟩
  obtain ⟨c0, c1⟩ := h.cell hr
  have ea : (⟨b, off, none⟩ : Addr).add j = ⟨b, off + j, none⟩ := by simp only [Addr.add]; split <;> simp_all
  rw [ea]
  have hm : j % 2 = 0 ∨ j % 2 = 1 := by omega
  rcases hm with hm | hm
  · have e : j / 2 * 2 + 0 = j := by omega
    have k1 := kncells_at rs (j / 2) r hr 0 _ rfl
    rw [e, hj] at k1
    cases k1
    rw [show off + j = off + j / 2 * 2 by omega]
    exact c0
  · have e : j / 2 * 2 + 1 = j := by omega
    have k1 := kncells_at rs (j / 2) r hr 1 _ rfl
    rw [e, hj] at k1
    cases k1
    rw [show off + j = off + j / 2 * 2 + 1 by omega]
    exact c1

set_option maxHeartbeats 400000 in
set_option maxRecDepth 100000 in
theorem icl_kns (ad : Option Addr) (len cap : Nat) (rs : List Kw) (w : World) (hl : len ≤ 1048578) (h : KnRd w ad len rs) :
    Calls Tryz.prog 61 #[.slice ad len cap] w fun e w' => ∃ v', e = .returned v' ∧ w'.ownsRow w.heap.size 84 2 v' len (kncells rs) ∧ Below w.heap.size w w' := by
  cases ad with
  | none =>
    have hlen : len = 0 := by
      by_cases e : len = 0
      · exact e
      · obtain ⟨b, off, e, -⟩ := h.adr (by omega)
        cases e
    subst hlen
    have hrs : rs = [] := List.eq_nil_of_length_eq_zero h.1
    subst hrs
    clear h
    have hn := Lib.run_eql_slice_nil (P := Tryz.prog) w 32 _ none 0 cap 0 0 Tryz.underlying32
    simp only [Option.isNone] at hn
    go_enter Tryz.func61, Tryz.ntmps61
    go_wp2
    go_ret
    exact ⟨_, rfl, ⟨rfl, .inl ⟨rfl, rfl⟩⟩, Below.refl _ _⟩
  | some aq =>
    have HB1 : Hid (Below w.heap.size w (w.alloc (.cells #[] 84))) := (Below.refl w.heap.size w).alloc (Nat.le_refl _) _
    have OE : Hid ((w.alloc (.cells #[] 84)).ownsRow w.heap.size 84 2 (.slice (some ⟨w.heap.size, 0, none⟩) 0 0) 0 []) := ⟨rfl, .inr ⟨w.heap.size, 0, #[], rfl, Nat.le_refl _, heap_alloc_new w _, Nat.le_refl _, by unfold maxLen; omega, rfl, rfl⟩⟩
    have OS := hide (h.below HB1.out)
    have hn := Lib.run_eql_slice_nil (P := Tryz.prog) w 32 _ (some aq) len cap 0 0 Tryz.underlying32
    simp only [Option.isNone] at hn
    have SRC : Hid (∀ (j : Nat) (u : Value), (kncells rs)[j]? = some u → (w.alloc (.cells #[] 84)).cell? (aq.add j) = some u) := fun j u hj => by
      have hlt := (List.getElem?_eq_some_iff.1 hj).1
      rw [kncells_len, OS.out.1] at hlt
      obtain ⟨b, off, e, -⟩ := OS.out.adr (by omega)
      cases e
      exact OS.out.cells j u hj
    have ONE : Hid (∀ u ∈ kncells rs, u.oneCell' = true) := kncells_one (fun r hr => (OS.out.2.2.1 r hr).one)
    have HLN : Hid ((kncells rs).length = len * 2) := by show _ = _; rw [kncells_len, OS.out.1]
    obtain ⟨i0, hi0, hz0, hz1, hz2⟩ := info_parts infoKn
    have I0 := hide hi0
    have Y0 := hide hz0
    have Y1 := hide hz1
    have Y2 := hide hz2
    clear hi0 hz0 hz1 hz2 h OS
    go_enter Tryz.func61, Tryz.ntmps61
    go_wp2_with (at_builtin; refine wpList_append_own _ rfl _ _ 32 rfl w.heap.size 84 i0 (.agg #[.bool false, .slice none 0 0]) 2 32 Tryz.underlying32 I0.out Y0.out Y1.out Y2.out rfl (by decide) _ _ _ rfl OE.out aq len cap (kncells rs) rfl ?c0 SRC.out ONE.out ?c1 ?c2 ?c3 ?_)
    case c0 => exact HLN.out
    case c1 => unfold maxLen; omega
    case c2 => omega
    case c3 => simp
    intro v' w3 o3 g3 _
    have HB3 := hide (HB1.out.grown g3 HB1.out.size (fun i hi2 => by cases hi2; exact Nat.le_refl _))
    have O3 := hide o3
    obtain ⟨va, vc, rfl, -⟩ := (Sli.of o3).form
    clear g3 o3
    go_wp2
    go_ret
    exact ⟨_, rfl, O3.out, HB3.out⟩
end Go.Proofs.YtcnaahajaaifjacGreat

/-
  Rows of knots that are filled one behind the other, in place.
-/
namespace Go.Proofs.YtcnaahajaaifjacGreat
open Go.RowKit
open Words

/-- The first of them have children of their own. -/
def KFil (W : World) (B : Nat) (v : Value) (n : Nat) (ss : List Kw) (zs : List Value) : Prop :=
  W.ownsRow B 84 2 v n (kncells ss ++ zs) ∧ (∀ r ∈ ss, Sli 3 B W.heap.size r.2.1 r.2.2.length (icells r.2.2) W ∧ r.2.2.length ≤ maxLen) ∧ KLone ss
theorem KFil.below {W W' : World} {B n : Nat} {v : Value} {ss : List Kw} {zs : List Value} (h : KFil W B v n ss zs) (b : Below W.heap.size W W') : KFil W' B v n ss zs :=
  ⟨own_below h.1 b, fun r hr => ⟨((h.2.1 r hr).1.blw b).up b.size, (h.2.1 r hr).2⟩, h.2.2⟩
theorem KFil.own {W : World} {B : Nat} {v : Value} {ss : List Kw} (h : KFil W B v ss.length ss []) : KOwn W B v ss := ⟨by have := h.1; rwa [List.append_nil] at this, h.2⟩
theorem kn_far {w : World} {g lo hi n : Nat} {v : Value} {xs : List Value} {cs : Array Value} (h : Sli 3 lo hi v n xs w) (q : w.heap[g]? = some (.cells cs 84 (0, 0))) : v.ownBlock ≠ some g := by
  intro e
  obtain ⟨-, -, cs', q'⟩ := h.lt g e
  exact int_ne_kn q' q
theorem Sli.setK {w : World} {g lo hi n j : Nat} {v u : Value} {xs : List Value} {cs : Array Value} (h : Sli 3 lo hi v n xs w) (q : w.heap[g]? = some (.cells cs 84 (0, 0))) : Sli 3 lo hi v n xs (w.setCell ⟨g, j, none⟩ u) :=
  h.grown (grown_cell w g j u) (fun k hk e => by cases e; exact kn_far h q hk)
theorem KFil.set {W : World} {B n g cap j : Nat} {ss : List Kw} {zs : List Value} {u : Value} {ys : List Value} (h : KFil W B (.slice (some ⟨g, 0, none⟩) n cap) n ss zs) (e : (kncells ss ++ zs).set j u = kncells ss ++ ys) : KFil (W.setCell ⟨g, j, none⟩ u) B (.slice (some ⟨g, 0, none⟩) n cap) n ss ys := by
  obtain ⟨-, -, cs, q⟩ := own_kind h.1 g rfl
  refine ⟨by rw [← e]; exact fown_set h.1 rfl j u, fun r hr => ⟨?_, (h.2.1 r hr).2⟩, h.2.2⟩
  have hz : (W.setCell ⟨g, j, none⟩ u).heap.size = W.heap.size := by simp [World.setCell]
  rw [hz]
  exact (h.2.1 r hr).1.setK q
/-- One more has children of its own, which came since W0. -/
theorem KFil.take {W0 W : World} {B n g cap : Nat} {ss : List Kw} {zs : List Value} {lf : Bool} {kv : Value} {ls : List Int} (h0 : ∀ r ∈ ss, ∀ q, r.2.1.ownBlock = some q → q < W0.heap.size) (hB : B ≤ W0.heap.size) (h : KFil W B (.slice (some ⟨g, 0, none⟩) n cap) n ss (.bool lf :: kv :: zs)) (hr : Sli 3 W0.heap.size W.heap.size kv ls.length (icells ls) W) (hm : ls.length ≤ maxLen) : KFil W B (.slice (some ⟨g, 0, none⟩) n cap) n (ss ++ [(lf, kv, ls)]) zs := by
  refine ⟨?_, ?_, ?_⟩
  · have := h.1
    rw [← kncells_snoc, List.append_assoc]
    exact this
  · intro r hr2
    rcases List.mem_append.1 hr2 with hr2 | hr2
    · exact h.2.1 r hr2
    · simp only [List.mem_singleton] at hr2
      subst hr2
      exact ⟨hr.dn hB, hm⟩
  · refine List.pairwise_append.2 ⟨h.2.2, List.pairwise_singleton _ _, ?_⟩
    intro a ha b hb q e1 e2
    simp only [List.mem_singleton] at hb
    subst hb
    have q1 := h0 a ha q e1
    have q2 := (hr.lt q e2).1
    omega
theorem KFil.lt {W : World} {B n : Nat} {v : Value} {ss : List Kw} {zs : List Value} (h : KFil W B v n ss zs) : ∀ r ∈ ss, ∀ q, r.2.1.ownBlock = some q → q < W.heap.size := fun r hr q hq => ((h.2.1 r hr).1.lt q hq).2.1
theorem set_even {ss : List Kw} {k : Nat} (hk : ss.length = k) (a b u : Value) (zs : List Value) : (kncells ss ++ a :: b :: zs).set (k * 2) u = kncells ss ++ u :: b :: zs := by
  rw [List.set_append_right _ _ (by rw [kncells_len, hk]; exact Nat.le_refl _), kncells_len, hk, Nat.sub_self]
  rfl
theorem set_odd {ss : List Kw} {k : Nat} (hk : ss.length = k) (a b u : Value) (zs : List Value) : (kncells ss ++ a :: b :: zs).set (k * 2 + 1) u = kncells ss ++ a :: u :: zs := by
  rw [List.set_append_right _ _ (by rw [kncells_len, hk]; omega), kncells_len, hk, show k * 2 + 1 - k * 2 = 1 by omega]
  rfl
theorem KFil.cell0 {W : World} {B n g cap k : Nat} {ss : List Kw} {a b : Value} {zs : List Value} (h : KFil W B (.slice (some ⟨g, 0, none⟩) n cap) n ss (a :: b :: zs)) (hk : ss.length = k) : W.cell? ⟨g, k * 2, none⟩ = some a := by
  rw [← addr_at]
  refine h.1.cells (g := g) rfl (k * 2) a ?_
  rw [List.getElem?_append_right (by rw [kncells_len, hk]; exact Nat.le_refl _), kncells_len, hk, Nat.sub_self]
  rfl
theorem KFil.cell1 {W : World} {B n g cap k : Nat} {ss : List Kw} {a b : Value} {zs : List Value} (h : KFil W B (.slice (some ⟨g, 0, none⟩) n cap) n ss (a :: b :: zs)) (hk : ss.length = k) : W.cell? ⟨g, k * 2 + 1, none⟩ = some b := by
  rw [← addr_at]
  refine h.1.cells (g := g) rfl (k * 2 + 1) b ?_
  rw [List.getElem?_append_right (by rw [kncells_len, hk]; omega), kncells_len, hk, show k * 2 + 1 - k * 2 = 1 by omega]
  rfl
theorem KFil.fr {W : World} {B n g cap : Nat} {ss : List Kw} {zs : List Value} (h : KFil W B (.slice (some ⟨g, 0, none⟩) n cap) n ss zs) (j : Nat) : W.frozen? ⟨g, j, none⟩ = false := by
  obtain ⟨-, -, cs, q⟩ := own_kind h.1 g rfl
  exact frozen_of_row _ _ j _ _ q

/-- The copy under way. -/
def CaSt (w W : World) (z : Nat) (_av v : Value) (len : Nat) (ss rs : List Kw) : Prop := W.heap[z + 1]? = some (.cells #[.slice none 0 0] 34 (0, 0)) ∧ KFil W (z + 2) v len ss (kncells rs) ∧ Below z w W

set_option maxHeartbeats 1000000 in
set_option maxRecDepth 100000 in
theorem icopied (ad : Option Addr) (len cap : Nat) (rs : List Kw) (w : World) (hl : len ≤ 1048578) (hll : ∀ r ∈ rs, r.2.2.length ≤ 1048576) (h : KnRd w ad len rs) :
    Calls Tryz.prog 42 #[.agg #[.slice ad len cap]] w fun e w' => ∃ v, e = .returned v ∧ KOut w (rs.map ktell) v w' := by
  have bx : ((w.alloc (.cells #[.slice ad len cap] 34)).alloc (.cells #[.slice none 0 0] 34)).cell? ⟨w.heap.size, 0, none⟩ = some (.slice ad len cap) := by
    refine (((Below.refl _ _).alloc (Nat.le_refl _) _).cell (show w.heap.size < (w.alloc (.cells #[.slice ad len cap] 34)).heap.size by simp)).trans (box_at w _)
  have za : (w.alloc (.cells #[.slice ad len cap] 34)).heap.size = w.heap.size + 1 := by simp
  have R1 := heap_alloc_new (w.alloc (.cells #[.slice ad len cap] 34)) (.cells #[.slice none 0 0] 34)
  rw [za] at R1
  have R1H := hide R1
  have B0 : Hid (Below w.heap.size w ((w.alloc (.cells #[.slice ad len cap] 34)).alloc (.cells #[.slice none 0 0] 34))) := ((Below.refl _ _).alloc (Nat.le_refl _) _).alloc (by simp) _
  have Z0 : Hid (((w.alloc (.cells #[.slice ad len cap] 34)).alloc (.cells #[.slice none 0 0] 34)).heap.size = w.heap.size + 2) := by show _ = _; simp
  have H := hide h
  have HLL := hide hll
  have H1 := hide h.1
  clear h hll za R1
  go_enter Tryz.func42, Tryz.ntmps42
  go_wp2_with fail
  generalize (w.alloc (.cells #[.slice ad len cap] 34)).alloc (.cells #[.slice none 0 0] 34) = wb at R1H B0 Z0 bx ⊢
  refine (icl_kns ad len cap rs wb hl (H.out.below B0.out)).mono ?_
  rintro e w1 ⟨v, rfl, ho, b1⟩
  obtain ⟨va, vc, rfl, -⟩ := (Sli.of ho).form
  obtain ⟨z, hz⟩ : ∃ z, w.heap.size = z := ⟨_, rfl⟩
  have HZ := hide hz
  have hz2 := Z0.out
  rw [hz] at R1H hz2 ⊢
  have S0 : Hid (CaSt w w1 z (.slice ad len cap) (.slice va len vc) len [] rs) := by
    refine ⟨(b1.block (z + 1) (by omega)).trans R1H.out, ⟨by rw [← hz2]; exact ho, (fun _ h => by cases h), List.Pairwise.nil⟩, ?_⟩
    have := B0.out.trans (b1.mono B0.out.size)
    rw [hz] at this
    exact this
  clear hz ho b1 bx R1H B0 Z0 hz2
  go_wp2
  go_loopw [10] (fun iv W => ∃ (k : Nat) (ss : List Kw), k ≤ len ∧ iv = .int .i64 k ∧ Hid (ss.length = k ∧ ss.map ktell = (rs.map ktell).take k ∧ CaSt w W z (.slice ad len cap) (.slice va len vc) len ss (rs.drop k))) (fun iv _ => len - (intOf iv).toNat)
  case atStart => exact ⟨0, [], Nat.zero_le _, rfl, rfl, by simp, by rw [List.drop_zero]; exact S0.out⟩
  case round =>
    obtain ⟨k, ss, hk, rfl, HS⟩ := hrel
    clear S0
    obtain ⟨hsl, hst, hca⟩ := HS.out
    have HSL := hide hsl
    have HST := hide hst
    have HC := hide hca
    clear HS hsl hst hca
    by_cases hlt : (k : Int) < len
    · have hkr : k < rs.length := by have := H1.out; omega
      obtain ⟨r, hr⟩ : ∃ r, rs[k]? = some r := ⟨_, List.getElem?_eq_getElem hkr⟩
      have hdr : rs.drop k = r :: rs.drop (k + 1) := by rw [List.drop_eq_getElem_cons hkr, (List.getElem?_eq_some_iff.1 hr).2]
      obtain ⟨lf, kv, ls⟩ := r
      have hf := HC.out.2.1
      rw [hdr, kncells_cons] at hf
      have HF : Hid (KFil wr (z + 2) (.slice va len vc) len ss (.bool lf :: kv :: kncells (rs.drop (k + 1)))) := hf
      obtain ⟨g, rfl⟩ : ∃ g, va = some ⟨g, 0, none⟩ := by
        obtain ⟨ad', c', e, q⟩ := (Sli.of hf.1).form
        injection e with e1 e2 e3
        subst e1
        obtain ⟨g, e, -⟩ := q (by omega)
        exact ⟨g, e⟩
      have hsl : ISl wr kv ls := (H.out.below (by rw [HZ.out]; exact HC.out.2.2)).2.2.1 _ (List.mem_of_getElem? hr)
      have HI := hide hsl
      have hlr := HLL.out _ (List.mem_of_getElem? hr)
      simp only at hlr
      have q1 := HF.out.cell1 HSL.out
      have k0 : (0 : Int) ≤ k := by omega
      have HR := hide hr
      obtain ⟨ka, kc, hkv, -, -⟩ := hsl
      subst hkv
      clear hf hdr hr
      obtain ⟨kl, hkl⟩ : ∃ kl, ls.length = kl := ⟨_, rfl⟩
      rw [hkl] at HF HI q1 HR hlr
      have HKL := hide hkl
      clear hkl
      go_wp2_with fail
      refine (icl_ints _ ls wr (by have := HKL.out; omega) HI.out).mono ?_
      rintro e w2 ⟨nv, rfl, on, b2⟩
      have HN := hide (Sli.of on)
      obtain ⟨na, nc, rfl, -⟩ := (Sli.of on).form
      have HB2 := hide b2
      have HF2 := hide (HF.out.below b2)
      have q2 := HF2.out.cell1 HSL.out
      have f2 := HF2.out.fr (k * 2 + 1)
      have hz2 : z + 2 ≤ wr.heap.size := by have := (own_kind HF.out.1 g rfl).2.1; have := (own_kind HF.out.1 g rfl).1; omega
      have NX : Hid (CaSt w (w2.setCell ⟨g, k * 2 + 1, none⟩ (.slice na ls.length nc)) z (.slice ad len cap) (.slice (some ⟨g, 0, none⟩) len vc) len (ss ++ [(lf, .slice na ls.length nc, ls)]) (rs.drop (k + 1))) := by
        have hg := (own_kind HF.out.1 g rfl)
        obtain ⟨-, -, cs, q⟩ := own_kind HF2.out.1 g rfl
        have hz1 : (w2.setCell ⟨g, k * 2 + 1, none⟩ (.slice na ls.length nc)).heap.size = w2.heap.size := by simp [World.setCell]
        refine ⟨row_set_ne ((HB2.out.block (z + 1) (by omega)).trans HC.out.1) (by omega) _ _, ?_, ?_⟩
        · refine KFil.take (W0 := wr) HF.out.lt hz2 (HF2.out.set (set_odd HSL.out _ _ _ _)) ?_ (by rw [HKL.out]; unfold maxLen; omega)
          rw [hz1]
          exact HN.out.setK q
        · exact (HC.out.2.2.trans (HB2.out.mono (by omega))).setCell (p := ⟨g, k * 2 + 1, none⟩) (by show z ≤ g; omega) _
      have NT : Hid ((ss ++ [(lf, Value.slice na ls.length nc, ls)]).map ktell = (rs.map ktell).take (k + 1)) := by
        show _ = _
        rw [List.map_append, HST.out, List.take_add_one, List.getElem?_map, HR.out]
        rfl
      have NL : Hid ((ss ++ [(lf, Value.slice na ls.length nc, ls)]).length = k + 1) := by show _ = _; rw [List.length_append, HSL.out]; rfl
      rw [HKL.out] at NX NT NL ⊢
      generalize ss ++ [(lf, Value.slice na kl nc, ls)] = ss2 at NX NT NL
      clear on b2 HC HF HF2 HN HI HR q1 HST HSL HB2
      go_wp2
      go_roundw
      case rel => exact ⟨k + 1, ss2, by omega, by go_num, NL.out, NT.out, NX.out⟩
      case measure => simp [intOf]; omega
    · have ek : k = len := by omega
      subst ek
      have KO : Hid (KOwn wr (z + 2) (.slice va k vc) ss) := by
        have := HC.out.2.1
        rw [List.drop_eq_nil_of_le (by have := H1.out; omega)] at this
        refine KFil.own ?_
        rw [HSL.out]
        exact this
      have r0 := cell_of_row _ _ 0 _ _ _ HC.out.1
      have f0 := frozen_of_row _ _ 0 _ _ HC.out.1
      have ET : Hid (ss.map ktell = rs.map ktell) := by
        show _ = _
        rw [HST.out, List.take_of_length_le (by rw [List.length_map]; have := H1.out; omega)]
      go_wp2
      refine bodyPost_ret (results_cell_row rfl _ _ (z + 1) 34 _ (0, 0) _ rfl (row_set HC.out.1 0 (.slice va k vc)) Tryz.underlying34 rfl infoArc) rfl ⟨_, rfl, .slice va k vc, ss, rfl, ?_, ET.out, ?_⟩
      · rw [HZ.out]
        exact (KO.out.cellB (show z + 1 < z + 2 by omega) _ _).down (by omega)
      · rw [HZ.out]
        exact HC.out.2.2.setCell (p := ⟨z + 1, 0, none⟩) (by show z ≤ z + 1; omega) _
end Go.Proofs.YtcnaahajaaifjacGreat
