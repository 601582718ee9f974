/-
  SCon; SRecOk; IRecOk; IVol; ICl; KFil
-/
import Derived.Test.YtcnaahajaaifjabPk25
import Derived.Test.YtcnaahajaaifjabSStOk
import Derived.Test.YtcnaahajaaifjabPk34
import Derived.Test.YtcnaahajaaifjabPk0
import Derived.Test.YtcnaahajaaifjabPk15
import Derived.Test.YtcnaahajaaifjabPk8
import Derived.Lib.SliceRun
import Derived.Test.YtcnaahajaaifjabKnN
import Derived.Test.YtcnaahajaaifjabSArOk
import Derived.Test.YtcnaahajaaifjabKnCp
/-
  The specification's functions that only read a store, by their contracts.
-/
namespace Go.Proofs.Ytcnaahajaaifjab
open Go.RowKit
open Words

theorem sstoreOk : OkC 10 := by
  rintro v ⟨vs, kns, nx⟩ w ⟨va, vl, vc, ad, len, cap, rs, rfl, h2, h3, h4, h5, h6, h7, h8⟩
  simp only at h2 h7
  subst h2
  exact sstOk va vl vc ad len cap nx vs rs w (by omega) (by omega) h5 h7 h8
theorem schunkOf : ChunkC 14 := by
  rintro v ⟨vs, kns, nx⟩ vol sec w ⟨va, vl, vc, ad, len, cap, rs, rfl, h2, h3, h4, h5, h6, h7, h8⟩
  simp only at h2 h7
  subst h2
  exact schunk va vl vc ad len cap nx vs rs vol sec w (by omega) (by omega) h7 h8
theorem srefsOf : RefsC 16 := by
  rintro v ⟨vs, kns, nx⟩ c w ⟨va, vl, vc, ad, len, cap, rs, rfl, h2, h3, h4, h5, h6, h7, h8⟩
  simp only at h2 h7
  subst h2
  exact srefs va vl vc ad len cap nx vs rs c w (by omega) (by omega) h7 h8
end Go.Proofs.Ytcnaahajaaifjab

/-
  spec.RecOk.
-/
namespace Go.Proofs.Ytcnaahajaaifjab
open Go.RowKit
open Words

def rcVal (r : Rc) : Value := .agg #[.int .i64 r.kind, .int .i64 r.vol, .int .i64 r.arg, .int .i64 r.chunk]

theorem rc_spec (k v a c : Int) : (Rc.mk k v a c).Right ↔ (0 ≤ a ∧ a ≤ 1000000000) ∧ (k = 1 ∧ v = 0 ∧ c = 0 ∨ (1 ≤ v ∧ v ≤ 9) ∧ (k = 2 ∧ a ≤ 9 ∧ c = 0 ∨ k = 3 ∧ a = 0 ∧ c = 0 ∨ k = 4 ∧ a < 16 ∧ 1 ≤ c ∧ c ≤ 1000000000 ∨ k = 5 ∧ a < 16 ∧ c = 0)) := Iff.rfl

end Go.Proofs.Ytcnaahajaaifjab

/-
  impl.isWithin, impl.RecOk.
-/
namespace Go.Proofs.Ytcnaahajaaifjab
open Go.RowKit
open Words

set_option maxHeartbeats 400000 in
set_option maxRecDepth 100000 in
theorem iwithin (x lo hi : Int) (b : Bool) (w : World) (h : (lo ≤ x ∧ x ≤ hi ∧ b = true) ∨ ((x < lo ∨ lo ≤ x ∧ ¬ x ≤ hi) ∧ b = false)) :
    Calls Try.prog 42 #[.int .i64 x, .int .i64 lo, .int .i64 hi] w fun e w' => e = .returned (.bool b) ∧ w' = w := by
  rcases h with ⟨h1, h2, rfl⟩ | ⟨h1 | ⟨h1, h2⟩, rfl⟩
  all_goals
    go_enter Try.func42, Try.ntmps42
    go_wp2
    go_ret
    exact ⟨rfl, rfl⟩
end Go.Proofs.Ytcnaahajaaifjab

/-
  slices.Clone of volumes; impl.volAt, impl.areVols.
-/
namespace Go.Proofs.Ytcnaahajaaifjab
open Go.RowKit
open Words

set_option maxHeartbeats 400000 in
set_option maxRecDepth 100000 in
theorem icl_vols (v : Value) (ls : List (Int × Int)) (w : World) (hl : ls.length ≤ 1048576) (ha : VlSl w v ls) :
    Calls Try.prog 69 #[v] w fun e w' => ∃ v', e = .returned v' ∧ w'.ownsRow w.heap.size 57 2 v' ls.length (vlcells ls) ∧ Below w.heap.size w w' := by
  obtain ⟨ad, lc, rfl, h0, hr⟩ := ha
  cases ad with
  | none =>
    have hls : ls = [] := by
      cases hq : ls with
      | nil => rfl
      | cons t l =>
        obtain ⟨b, off, e, -⟩ := hr.2.2.2 (by rw [hq]; simp)
        cases e
    subst hls
    obtain rfl := h0 rfl
    clear hr h0
    have hn := Lib.run_eql_slice_nil (P := Try.prog) w 30 _ none 0 0 0 0 Try.underlying30
    simp only [Option.isNone] at hn
    go_enter Try.func69, Try.ntmps69
    go_wp2
    go_ret
    exact ⟨_, rfl, ⟨rfl, .inl ⟨rfl, rfl⟩⟩, Below.refl _ _⟩
  | some aq =>
    have HB1 : Hid (Below w.heap.size w (w.alloc (.cells #[] 57))) := (Below.refl w.heap.size w).alloc (Nat.le_refl _) _
    have OE : Hid ((w.alloc (.cells #[] 57)).ownsRow w.heap.size 57 2 (.slice (some ⟨w.heap.size, 0, none⟩) 0 0) 0 []) := ⟨rfl, .inr ⟨w.heap.size, 0, #[], rfl, Nat.le_refl _, heap_alloc_new w _, Nat.le_refl _, by unfold maxLen; omega, rfl, rfl⟩⟩
    have OS := hide (hr.below HB1.out)
    have hn := Lib.run_eql_slice_nil (P := Try.prog) w 30 _ (some aq) ls.length lc 0 0 Try.underlying30
    simp only [Option.isNone] at hn
    have SRC : Hid (∀ (j : Nat) (u : Value), (vlcells ls)[j]? = some u → (w.alloc (.cells #[] 57)).cell? (aq.add j) = some u) := fun j u hj => by
      obtain ⟨x, hx, -⟩ := vlcells_back ls j u hj
      obtain ⟨b, off, e, -⟩ := OS.out.at hx
      injection e with e
      subst e
      rw [addr_off3v]
      exact OS.out.cells j u hj
    have HLN : Hid ((vlcells ls).length = ls.length * 2) := vlcells_len ls
    obtain ⟨i0, hi0, hz0, hz1, hz2⟩ := info_parts infoVl
    have I0 := hide hi0
    have Y0 := hide hz0
    have Y1 := hide hz1
    have Y2 := hide hz2
    obtain ⟨n, hlen⟩ : ∃ n, ls.length = n := ⟨_, rfl⟩
    rw [hlen] at hn hl HLN ⊢
    have HLEN := hide hlen
    clear hi0 hz0 hz1 hz2 hr h0 OS hlen
    go_enter Try.func69, Try.ntmps69
    go_wp2_with (at_builtin; refine wpList_append_own _ rfl _ _ 30 rfl w.heap.size 57 i0 (.agg #[.int .i64 0, .int .i64 0]) 2 16 Try.underlying30 I0.out Y0.out Y1.out Y2.out rfl (by decide) _ _ _ rfl OE.out aq n lc (vlcells ls) rfl ?c0 SRC.out (vlcells_one _) ?c1 ?c2 ?c3 ?_)
    case c0 => exact HLN.out
    case c1 => unfold maxLen; omega
    case c2 => omega
    case c3 => simp
    intro v' w3 o3 g3 _
    have HB3 := hide (HB1.out.grown g3 HB1.out.size (fun i hi2 => by cases hi2; exact Nat.le_refl _))
    have O3 := hide o3
    obtain ⟨va, vc, rfl, -⟩ := (Sli.of o3).form
    clear g3 o3
    go_wp2
    go_ret
    exact ⟨_, rfl, O3.out, HB3.out⟩
/-- A volume's address, or none. -/
def volP (va : Option Addr) : Option Nat → Value
  | none => .pointer none
  | some k => .pointer (va.map (fun a => ⟨a.block, a.off + k * 2, none⟩))
set_option maxHeartbeats 400000 in
set_option maxRecDepth 100000 in
theorem ivolAt (va : Option Addr) (vl vc : Nat) (vs : List (Int × Int)) (id : Int) (w : World) (hl : vl ≤ 1048576) (h : VlRow w va vl vs) :
    Calls Try.prog 49 #[.slice va vl vc, .int .i64 id] w fun e w' => e = .returned (volP va (atV vs id)) ∧ w' = w := by
  have HVL := hide h.1
  have H := hide h
  clear h
  go_enter Try.func49, Try.ntmps49
  go_wp2_with fail
  go_loop [8] (fun kv => ∃ k : Nat, k ≤ vl ∧ kv = .int .i64 k ∧ Hid (atK vs id k = none)) (fun kv => vl - (intOf kv).toNat)
  case atStart => exact ⟨0, Nat.zero_le _, rfl, (rfl : atK vs id 0 = none)⟩
  case round =>
    obtain ⟨k, hk, rfl, HN⟩ := hrel
    by_cases hlt : (k : Int) < vl
    · have hv := List.getElem?_eq_getElem (show k < vs.length by have := HVL.out; omega)
      generalize vs[k]'(by have := HVL.out; omega) = v at hv
      obtain ⟨b, off, e, hb, c0, c1⟩ := H.out.at hv
      subst e
      have k0 : (0 : Int) ≤ k := by omega
      by_cases hid : (v.1 == id) = true
      · have HE : Hid (atV vs id = some k) := atK_yes HN.out hv (by simpa using hid) _ (by have := HVL.out; omega)
        clear hv
        go_wp2
        go_ret
        exact ⟨by rw [HE.out]; rfl, rfl⟩
      · have HE : Hid (atK vs id (k + 1) = none) := atK_no HN.out hv (by simpa using hid)
        clear hv
        go_wp2
        go_round
        case rel => exact ⟨k + 1, by omega, by go_num, HE⟩
        case measure => simp [intOf]; omega
    · have HE : Hid (atV vs id = none) := by
        have e : k = vs.length := by have := HVL.out; omega
        have := HN.out
        rw [e] at this
        exact this
      go_wp2
      go_ret
      exact ⟨by rw [HE.out]; rfl, rfl⟩
set_option maxHeartbeats 400000 in
set_option maxRecDepth 100000 in
theorem iareVols (va : Option Addr) (vl vc : Nat) (vs : List (Int × Int)) (w : World) (hl : vl ≤ 1048576) (h : VlRow w va vl vs) :
    Calls Try.prog 41 #[.slice va vl vc] w fun e w' => e = .returned (.bool (volsB vs)) ∧ Below w.heap.size w w' := by
  have HVL := hide h.1
  have H := hide h
  clear h
  go_enter Try.func41, Try.ntmps41
  go_wp2_with fail
  go_loopw [3, 8] (fun lv kv W => ∃ (k : Nat) (la : Int), k ≤ vl ∧ kv = .int .i64 k ∧ lv = .int .i64 la ∧ (0 ≤ la ∧ la ≤ 9) ∧ Hid (la = lastI vs k ∧ idsK vs k = true) ∧ Hid (Below w.heap.size w W)) (fun _ kv _ => vl - (intOf kv).toNat)
  case atStart => exact ⟨0, 0, Nat.zero_le _, rfl, rfl, by omega, ⟨rfl, rfl⟩, Below.refl _ _⟩
  case round =>
    obtain ⟨k, la, hk, rfl, rfl, hla, HN, HW⟩ := hrel
    by_cases hlt : (k : Int) < vl
    · have hv := List.getElem?_eq_getElem (show k < vs.length by have := HVL.out; omega)
      generalize vs[k]'(by have := HVL.out; omega) = v at hv
      obtain ⟨b, off, e, hb, c0, c1⟩ := (H.out.below HW.out).at hv
      subst e
      have k0 : (0 : Int) ≤ k := by omega
      have HV := hide hv
      have HW2 : Hid (Below w.heap.size w (wr.alloc (.cells #[.int .i64 v.1, .int .i64 v.2] 57))) := HW.out.alloc HW.out.size _
      clear hv
      obtain ⟨x0, x1⟩ := v
      simp only at c0 c1 HW2
      by_cases hin : la + 1 ≤ x0 ∧ x0 ≤ 9
      · have HE : Hid (idsK vs (k + 1) = true) := by
          show _ = _
          rw [idsK_succ HV.out, HN.out.2, ← HN.out.1, decide_eq_true hin.1, decide_eq_true hin.2]
          rfl
        have HL2 : Hid (x0 = lastI vs (k + 1)) := by show _ = _; rw [lastI_succ HV.out]
        go_wp2_with (go_at_call 42; refine (iwithin x0 (la + 1) 9 true _ (.inl ⟨by omega, by omega, rfl⟩)).mono ?_; rintro e w' ⟨rfl, rfl⟩)
        go_roundw
        case rel => exact ⟨k + 1, x0, by omega, by go_num, rfl, by omega, ⟨HL2.out, HE.out⟩, HW2⟩
        case measure => simp [intOf]; omega
      · have HE : Hid (volsB vs = false) := idsK_bad HV.out (by rw [← HN.out.1]; exact hin)
        go_wp2_with (go_at_call 42; refine (iwithin x0 (la + 1) 9 false _ (.inr ⟨by omega, rfl⟩)).mono ?_; rintro e w' ⟨rfl, rfl⟩)
        go_ret
        exact ⟨by rw [HE.out]; rfl, HW2.out⟩
    · have HE : Hid (volsB vs = decide ((vl : Int) ≤ 3)) := by
        show _ = _
        have e : k = vs.length := by have := HVL.out; omega
        have h2 := HN.out.2
        rw [e] at h2
        rw [volsB, h2, Bool.true_and, HVL.out]
        exact decide_eq_decide.2 (by omega)
      by_cases h3 : (vl : Int) ≤ 3
      · go_wp2
        go_ret
        exact ⟨by rw [HE.out, decide_eq_true h3]; rfl, HW.out⟩
      · go_wp2
        go_ret
        exact ⟨by rw [HE.out, decide_eq_false (by omega)]; rfl, HW.out⟩
end Go.Proofs.Ytcnaahajaaifjab

/-
  slices.Clone of numbers and of knots; impl.copiedArena.
-/
namespace Go.Proofs.Ytcnaahajaaifjab
open Go.RowKit
open Words

theorem kncells_one {rs : List Kw} (h : ∀ r ∈ rs, r.2.1.oneCell' = true) : ∀ u ∈ kncells rs, u.oneCell' = true := by
  intro u hu
  obtain ⟨r, hr, hu⟩ := List.mem_flatMap.1 hu
  simp only [kncell, List.mem_cons, List.not_mem_nil, or_false] at hu
  rcases hu with rfl | rfl
  · rfl
  · exact h r hr
theorem KnRd.cells {W : World} {b off len : Nat} {rs : List Kw} (h : KnRd W (some ⟨b, off, none⟩) len rs) (j : Nat) (u : Value) (hj : (kncells rs)[j]? = some u) : W.cell? ((⟨b, off, none⟩ : Addr).add j) = some u := by
  have hlt := (List.getElem?_eq_some_iff.1 hj).1
  rw [kncells_len] at hlt
  obtain ⟨r, hr⟩ : ∃ r, rs[j / 2]? = some r := ⟨_, List.getElem?_eq_getElem (by omega)⟩
  obtain ⟨c0, c1⟩ := h.cell hr
  have ea : (⟨b, off, none⟩ : Addr).add j = ⟨b, off + j, none⟩ := by simp only [Addr.add]; split <;> simp_all
  rw [ea]
  have hm : j % 2 = 0 ∨ j % 2 = 1 := by omega
  rcases hm with hm | hm
  · have e : j / 2 * 2 + 0 = j := by omega
    have k1 := kncells_at rs (j / 2) r hr 0 _ rfl
    rw [e, hj] at k1
    cases k1
    rw [show off + j = off + j / 2 * 2 by omega]
    exact c0
  · have e : j / 2 * 2 + 1 = j := by omega
    have k1 := kncells_at rs (j / 2) r hr 1 _ rfl
    rw [e, hj] at k1
    cases k1
    rw [show off + j = off + j / 2 * 2 + 1 by omega]
    exact c1

end Go.Proofs.Ytcnaahajaaifjab

/-
  Rows of knots that are filled one behind the other, in place.
-/
namespace Go.Proofs.Ytcnaahajaaifjab
open Go.RowKit
open Words

/-- The first of them have children of their own. -/
def KFil (W : World) (B : Nat) (v : Value) (n : Nat) (ss : List Kw) (zs : List Value) : Prop :=
  W.ownsRow B 85 2 v n (kncells ss ++ zs) ∧ (∀ r ∈ ss, Sli 3 B W.heap.size r.2.1 r.2.2.length (icells r.2.2) W ∧ r.2.2.length ≤ maxLen) ∧ KLone ss
theorem KFil.below {W W' : World} {B n : Nat} {v : Value} {ss : List Kw} {zs : List Value} (h : KFil W B v n ss zs) (b : Below W.heap.size W W') : KFil W' B v n ss zs :=
  ⟨own_below h.1 b, fun r hr => ⟨((h.2.1 r hr).1.blw b).up b.size, (h.2.1 r hr).2⟩, h.2.2⟩
theorem KFil.own {W : World} {B : Nat} {v : Value} {ss : List Kw} (h : KFil W B v ss.length ss []) : KOwn W B v ss := ⟨by have := h.1; rwa [List.append_nil] at this, h.2⟩
theorem kn_far {w : World} {g lo hi n : Nat} {v : Value} {xs : List Value} {cs : Array Value} (h : Sli 3 lo hi v n xs w) (q : w.heap[g]? = some (.cells cs 85 (0, 0))) : v.ownBlock ≠ some g := by
  intro e
  obtain ⟨-, -, cs', q'⟩ := h.lt g e
  exact int_ne_kn q' q
theorem Sli.setK {w : World} {g lo hi n j : Nat} {v u : Value} {xs : List Value} {cs : Array Value} (h : Sli 3 lo hi v n xs w) (q : w.heap[g]? = some (.cells cs 85 (0, 0))) : Sli 3 lo hi v n xs (w.setCell ⟨g, j, none⟩ u) :=
  h.grown (grown_cell w g j u) (fun k hk e => by cases e; exact kn_far h q hk)
theorem KFil.set {W : World} {B n g cap j : Nat} {ss : List Kw} {zs : List Value} {u : Value} {ys : List Value} (h : KFil W B (.slice (some ⟨g, 0, none⟩) n cap) n ss zs) (e : (kncells ss ++ zs).set j u = kncells ss ++ ys) : KFil (W.setCell ⟨g, j, none⟩ u) B (.slice (some ⟨g, 0, none⟩) n cap) n ss ys := by
  obtain ⟨-, -, cs, q⟩ := own_kind h.1 g rfl
  refine ⟨by rw [← e]; exact fown_set h.1 rfl j u, fun r hr => ⟨?_, (h.2.1 r hr).2⟩, h.2.2⟩
  have hz : (W.setCell ⟨g, j, none⟩ u).heap.size = W.heap.size := by simp [World.setCell]
  rw [hz]
  exact (h.2.1 r hr).1.setK q
/-- One more has children of its own, which came since W0. -/
theorem KFil.take {W0 W : World} {B n g cap : Nat} {ss : List Kw} {zs : List Value} {lf : Bool} {kv : Value} {ls : List Int} (h0 : ∀ r ∈ ss, ∀ q, r.2.1.ownBlock = some q → q < W0.heap.size) (hB : B ≤ W0.heap.size) (h : KFil W B (.slice (some ⟨g, 0, none⟩) n cap) n ss (.bool lf :: kv :: zs)) (hr : Sli 3 W0.heap.size W.heap.size kv ls.length (icells ls) W) (hm : ls.length ≤ maxLen) : KFil W B (.slice (some ⟨g, 0, none⟩) n cap) n (ss ++ [(lf, kv, ls)]) zs := by
  refine ⟨?_, ?_, ?_⟩
  · have := h.1
    rw [← kncells_snoc, List.append_assoc]
    exact this
  · intro r hr2
    rcases List.mem_append.1 hr2 with hr2 | hr2
    · exact h.2.1 r hr2
    · simp only [List.mem_singleton] at hr2
      subst hr2
      exact ⟨hr.dn hB, hm⟩
  · refine List.pairwise_append.2 ⟨h.2.2, List.pairwise_singleton _ _, ?_⟩
    intro a ha b hb q e1 e2
    simp only [List.mem_singleton] at hb
    subst hb
    have q1 := h0 a ha q e1
    have q2 := (hr.lt q e2).1
    omega
theorem KFil.lt {W : World} {B n : Nat} {v : Value} {ss : List Kw} {zs : List Value} (h : KFil W B v n ss zs) : ∀ r ∈ ss, ∀ q, r.2.1.ownBlock = some q → q < W.heap.size := fun r hr q hq => ((h.2.1 r hr).1.lt q hq).2.1
theorem set_even {ss : List Kw} {k : Nat} (hk : ss.length = k) (a b u : Value) (zs : List Value) : (kncells ss ++ a :: b :: zs).set (k * 2) u = kncells ss ++ u :: b :: zs := by
  rw [List.set_append_right _ _ (by rw [kncells_len, hk]; exact Nat.le_refl _), kncells_len, hk, Nat.sub_self]
  rfl
theorem set_odd {ss : List Kw} {k : Nat} (hk : ss.length = k) (a b u : Value) (zs : List Value) : (kncells ss ++ a :: b :: zs).set (k * 2 + 1) u = kncells ss ++ a :: u :: zs := by
  rw [List.set_append_right _ _ (by rw [kncells_len, hk]; omega), kncells_len, hk, show k * 2 + 1 - k * 2 = 1 by omega]
  rfl
theorem KFil.cell0 {W : World} {B n g cap k : Nat} {ss : List Kw} {a b : Value} {zs : List Value} (h : KFil W B (.slice (some ⟨g, 0, none⟩) n cap) n ss (a :: b :: zs)) (hk : ss.length = k) : W.cell? ⟨g, k * 2, none⟩ = some a := by
  rw [← addr_at]
  refine h.1.cells (g := g) rfl (k * 2) a ?_
  rw [List.getElem?_append_right (by rw [kncells_len, hk]; exact Nat.le_refl _), kncells_len, hk, Nat.sub_self]
  rfl
theorem KFil.cell1 {W : World} {B n g cap k : Nat} {ss : List Kw} {a b : Value} {zs : List Value} (h : KFil W B (.slice (some ⟨g, 0, none⟩) n cap) n ss (a :: b :: zs)) (hk : ss.length = k) : W.cell? ⟨g, k * 2 + 1, none⟩ = some b := by
  rw [← addr_at]
  refine h.1.cells (g := g) rfl (k * 2 + 1) b ?_
  rw [List.getElem?_append_right (by rw [kncells_len, hk]; omega), kncells_len, hk, show k * 2 + 1 - k * 2 = 1 by omega]
  rfl
theorem KFil.fr {W : World} {B n g cap : Nat} {ss : List Kw} {zs : List Value} (h : KFil W B (.slice (some ⟨g, 0, none⟩) n cap) n ss zs) (j : Nat) : W.frozen? ⟨g, j, none⟩ = false := by
  obtain ⟨-, -, cs, q⟩ := own_kind h.1 g rfl
  exact frozen_of_row _ _ j _ _ q

/-- The copy under way. -/
def CaSt (w W : World) (z : Nat) (_av v : Value) (len : Nat) (ss rs : List Kw) : Prop := W.heap[z + 1]? = some (.cells #[.slice none 0 0] 33 (0, 0)) ∧ KFil W (z + 2) v len ss (kncells rs) ∧ Below z w W

end Go.Proofs.Ytcnaahajaaifjab
