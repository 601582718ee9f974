/-
  IRecOk; IVol; ICl
-/
import Derived.Test.YtelhejamlmhagaaPk16
import Derived.Test.YtelhejamlmhagaaPk10
import Derived.Lib.SliceRun
import Derived.Test.YtelhejamlmhagaaPk1
import Derived.Test.YtelhejamlmhagaaPk2
import Derived.Test.YtelhejamlmhagaaKnCp
/-
  impl.isWithin, impl.RecOk.
-/
namespace Go.Proofs.Ytelhejamlmhagaa
open Go.RowKit
open Words

set_option maxHeartbeats 400000 in
set_option maxRecDepth 100000 in
theorem iwithin (x lo hi : Int) (b : Bool) (w : World) (h : (lo ≤ x ∧ x ≤ hi ∧ b = true) ∨ ((x < lo ∨ lo ≤ x ∧ ¬ x ≤ hi) ∧ b = false)) :
    Calls Try.prog 57 #[.int .i64 x, .int .i64 lo, .int .i64 hi] w fun e w' => e = .returned (.bool b) ∧ w' = w := by
  rcases h with ⟨h1, h2, rfl⟩ | ⟨h1 | ⟨h1, h2⟩, rfl⟩
  all_goals
    go_enter Try.func57, Try.ntmps57
    go_wp2
    go_ret
    exact ⟨rfl, rfl⟩
set_option maxHeartbeats 1000000 in
set_option maxRecDepth 100000 in
theorem irecOk (r : Rc) (w : World) :
    Calls Try.prog 40 #[rcVal r] w fun e w' => e = .returned (.bool (decide r.Right)) ∧ Below w.heap.size w w' := by
  obtain ⟨k, v, a, c⟩ := r
  have HE := hide (rc_spec k v a c)
  have HB := hide ((Below.refl w.heap.size w).alloc (Nat.le_refl _) (.cells #[.int .i64 k, .int .i64 v, .int .i64 a, .int .i64 c] 31))
  unfold rcVal
  simp only
  by_cases a1 : 1 ≤ k ∧ k ≤ 5
  · obtain a5 | a5 | a5 | a5 | a5 : k = 1 ∨ k = 2 ∨ k = 3 ∨ k = 4 ∨ k = 5 := by omega
    · subst a5
      by_cases a2 : 0 ≤ a ∧ a ≤ 1000000000
      · by_cases a3 : (v == 0) = true
        · go_enter Try.func40, Try.ntmps40
          go_wp2_with fail
          refine (iwithin a 0 1000000000 true _ (.inl ⟨by omega, by omega, rfl⟩)).mono ?_
          rintro e w1 ⟨rfl, rfl⟩
          go_wp2
          go_ret
          refine ⟨?_, by first | exact HB.out | exact (Below.refl _ _).alloc (Nat.le_refl _) _ | (repeat (first | exact HB.out | exact (Below.refl _ _).alloc (Nat.le_refl _) _ | refine Below.setCell ?_ (by simp) _))⟩
          have e : decide (Rc.mk 1 v a c).Right = (c == 0) := by
            cases hq : (c == 0) with
            | true => exact decide_eq_true (HE.out.2 (by first | omega | (simp_all; done) | (simp_all; omega)))
            | false => exact decide_eq_false (fun h => by have := HE.out.1 h; first | omega | (simp_all; done) | (simp_all; omega))
          rw [e]
          rfl
        · have a3 : (v == 0) = false := by simpa using a3
          go_enter Try.func40, Try.ntmps40
          go_wp2_with fail
          refine (iwithin a 0 1000000000 true _ (.inl ⟨by omega, by omega, rfl⟩)).mono ?_
          rintro e w1 ⟨rfl, rfl⟩
          go_wp2
          go_ret
          exact ⟨by rw [decide_eq_false (fun h => by have := HE.out.1 h; first | omega | (simp at this; omega) | (simp_all; done) | (simp_all; omega))]; rfl, by first | exact HB.out | exact (Below.refl _ _).alloc (Nat.le_refl _) _ | (repeat (first | exact HB.out | exact (Below.refl _ _).alloc (Nat.le_refl _) _ | refine Below.setCell ?_ (by simp) _))⟩
      · go_enter Try.func40, Try.ntmps40
        go_wp2_with fail
        refine (iwithin a 0 1000000000 false _ (.inr ⟨by omega, rfl⟩)).mono ?_
        rintro e w1 ⟨rfl, rfl⟩
        go_wp2
        go_ret
        exact ⟨by rw [decide_eq_false (fun h => by have := HE.out.1 h; first | omega | (simp at this; omega) | (simp_all; done) | (simp_all; omega))]; rfl, by first | exact HB.out | exact (Below.refl _ _).alloc (Nat.le_refl _) _ | (repeat (first | exact HB.out | exact (Below.refl _ _).alloc (Nat.le_refl _) _ | refine Below.setCell ?_ (by simp) _))⟩
    · subst a5
      by_cases a2 : 1 ≤ v ∧ v ≤ 9
      · by_cases a3 : 0 ≤ a ∧ a ≤ 9
        · go_enter Try.func40, Try.ntmps40
          go_wp2_with fail
          refine (iwithin v 1 9 true _ (.inl ⟨by omega, by omega, rfl⟩)).mono ?_
          rintro e w1 ⟨rfl, rfl⟩
          go_wp2_with fail
          refine (iwithin a 0 9 true _ (.inl ⟨by omega, by omega, rfl⟩)).mono ?_
          rintro e w1 ⟨rfl, rfl⟩
          go_wp2_with fail
          refine (iwithin a 0 1000000000 true _ (.inl ⟨by omega, by omega, rfl⟩)).mono ?_
          rintro e w1 ⟨rfl, rfl⟩
          go_wp2
          go_ret
          refine ⟨?_, by first | exact HB.out | exact (Below.refl _ _).alloc (Nat.le_refl _) _ | (repeat (first | exact HB.out | exact (Below.refl _ _).alloc (Nat.le_refl _) _ | refine Below.setCell ?_ (by simp) _))⟩
          have e : decide (Rc.mk 2 v a c).Right = (c == 0) := by
            cases hq : (c == 0) with
            | true => exact decide_eq_true (HE.out.2 (by first | omega | (simp_all; done) | (simp_all; omega)))
            | false => exact decide_eq_false (fun h => by have := HE.out.1 h; first | omega | (simp_all; done) | (simp_all; omega))
          rw [e]
          rfl
        · go_enter Try.func40, Try.ntmps40
          go_wp2_with fail
          refine (iwithin v 1 9 true _ (.inl ⟨by omega, by omega, rfl⟩)).mono ?_
          rintro e w1 ⟨rfl, rfl⟩
          go_wp2_with fail
          refine (iwithin a 0 9 false _ (.inr ⟨by omega, rfl⟩)).mono ?_
          rintro e w1 ⟨rfl, rfl⟩
          go_wp2
          go_ret
          exact ⟨by rw [decide_eq_false (fun h => by have := HE.out.1 h; first | omega | (simp at this; omega) | (simp_all; done) | (simp_all; omega))]; rfl, by first | exact HB.out | exact (Below.refl _ _).alloc (Nat.le_refl _) _ | (repeat (first | exact HB.out | exact (Below.refl _ _).alloc (Nat.le_refl _) _ | refine Below.setCell ?_ (by simp) _))⟩
      · go_enter Try.func40, Try.ntmps40
        go_wp2_with fail
        refine (iwithin v 1 9 false _ (.inr ⟨by omega, rfl⟩)).mono ?_
        rintro e w1 ⟨rfl, rfl⟩
        go_wp2
        go_ret
        exact ⟨by rw [decide_eq_false (fun h => by have := HE.out.1 h; first | omega | (simp at this; omega) | (simp_all; done) | (simp_all; omega))]; rfl, by first | exact HB.out | exact (Below.refl _ _).alloc (Nat.le_refl _) _ | (repeat (first | exact HB.out | exact (Below.refl _ _).alloc (Nat.le_refl _) _ | refine Below.setCell ?_ (by simp) _))⟩
    · subst a5
      by_cases a2 : a = 0
      · subst a2
        by_cases a3 : 1 ≤ v ∧ v ≤ 9
        · go_enter Try.func40, Try.ntmps40
          go_wp2_with fail
          refine (iwithin v 1 9 true _ (.inl ⟨by omega, by omega, rfl⟩)).mono ?_
          rintro e w1 ⟨rfl, rfl⟩
          go_wp2_with fail
          refine (iwithin 0 0 9 true _ (.inl ⟨by omega, by omega, rfl⟩)).mono ?_
          rintro e w1 ⟨rfl, rfl⟩
          go_wp2_with fail
          refine (iwithin 0 0 1000000000 true _ (.inl ⟨by omega, by omega, rfl⟩)).mono ?_
          rintro e w1 ⟨rfl, rfl⟩
          go_wp2
          go_ret
          refine ⟨?_, by first | exact HB.out | exact (Below.refl _ _).alloc (Nat.le_refl _) _ | (repeat (first | exact HB.out | exact (Below.refl _ _).alloc (Nat.le_refl _) _ | refine Below.setCell ?_ (by simp) _))⟩
          have e : decide (Rc.mk 3 v 0 c).Right = (c == 0) := by
            cases hq : (c == 0) with
            | true => exact decide_eq_true (HE.out.2 (by first | omega | (simp_all; done) | (simp_all; omega)))
            | false => exact decide_eq_false (fun h => by have := HE.out.1 h; first | omega | (simp_all; done) | (simp_all; omega))
          rw [e]
          rfl
        · go_enter Try.func40, Try.ntmps40
          go_wp2_with fail
          refine (iwithin v 1 9 false _ (.inr ⟨by omega, rfl⟩)).mono ?_
          rintro e w1 ⟨rfl, rfl⟩
          go_wp2
          go_ret
          exact ⟨by rw [decide_eq_false (fun h => by have := HE.out.1 h; first | omega | (simp at this; omega) | (simp_all; done) | (simp_all; omega))]; rfl, by first | exact HB.out | exact (Below.refl _ _).alloc (Nat.le_refl _) _ | (repeat (first | exact HB.out | exact (Below.refl _ _).alloc (Nat.le_refl _) _ | refine Below.setCell ?_ (by simp) _))⟩
      · have a2 : (a != 0) = true := by simpa using a2
        go_enter Try.func40, Try.ntmps40
        go_wp2
        go_ret
        exact ⟨by rw [decide_eq_false (fun h => by have := HE.out.1 h; first | omega | (simp at this; omega) | (simp_all; done) | (simp_all; omega))]; rfl, by first | exact HB.out | exact (Below.refl _ _).alloc (Nat.le_refl _) _ | (repeat (first | exact HB.out | exact (Below.refl _ _).alloc (Nat.le_refl _) _ | refine Below.setCell ?_ (by simp) _))⟩
    · subst a5
      by_cases a2 : 1 ≤ c ∧ c ≤ 1000000000
      · by_cases a3 : 0 ≤ a ∧ a ≤ 15
        · by_cases a4 : 1 ≤ v ∧ v ≤ 9
          · go_enter Try.func40, Try.ntmps40
            go_wp2_with fail
            refine (iwithin c 1 1000000000 true _ (.inl ⟨by omega, by omega, rfl⟩)).mono ?_
            rintro e w1 ⟨rfl, rfl⟩
            go_wp2_with fail
            refine (iwithin a 0 15 true _ (.inl ⟨by omega, by omega, rfl⟩)).mono ?_
            rintro e w1 ⟨rfl, rfl⟩
            go_wp2_with fail
            refine (iwithin v 1 9 true _ (.inl ⟨by omega, by omega, rfl⟩)).mono ?_
            rintro e w1 ⟨rfl, rfl⟩
            go_wp2_with fail
            refine (iwithin 0 0 9 true _ (.inl ⟨by omega, by omega, rfl⟩)).mono ?_
            rintro e w1 ⟨rfl, rfl⟩
            go_wp2_with fail
            refine (iwithin 0 0 1000000000 true _ (.inl ⟨by omega, by omega, rfl⟩)).mono ?_
            rintro e w1 ⟨rfl, rfl⟩
            go_wp2
            go_ret
            exact ⟨by rw [decide_eq_true (HE.out.2 (by first | omega | (simp; omega)))]; rfl, by first | exact HB.out | exact (Below.refl _ _).alloc (Nat.le_refl _) _ | (repeat (first | exact HB.out | exact (Below.refl _ _).alloc (Nat.le_refl _) _ | refine Below.setCell ?_ (by simp) _))⟩
          · go_enter Try.func40, Try.ntmps40
            go_wp2_with fail
            refine (iwithin c 1 1000000000 true _ (.inl ⟨by omega, by omega, rfl⟩)).mono ?_
            rintro e w1 ⟨rfl, rfl⟩
            go_wp2_with fail
            refine (iwithin a 0 15 true _ (.inl ⟨by omega, by omega, rfl⟩)).mono ?_
            rintro e w1 ⟨rfl, rfl⟩
            go_wp2_with fail
            refine (iwithin v 1 9 false _ (.inr ⟨by omega, rfl⟩)).mono ?_
            rintro e w1 ⟨rfl, rfl⟩
            go_wp2
            go_ret
            exact ⟨by rw [decide_eq_false (fun h => by have := HE.out.1 h; first | omega | (simp at this; omega) | (simp_all; done) | (simp_all; omega))]; rfl, by first | exact HB.out | exact (Below.refl _ _).alloc (Nat.le_refl _) _ | (repeat (first | exact HB.out | exact (Below.refl _ _).alloc (Nat.le_refl _) _ | refine Below.setCell ?_ (by simp) _))⟩
        · go_enter Try.func40, Try.ntmps40
          go_wp2_with fail
          refine (iwithin c 1 1000000000 true _ (.inl ⟨by omega, by omega, rfl⟩)).mono ?_
          rintro e w1 ⟨rfl, rfl⟩
          go_wp2_with fail
          refine (iwithin a 0 15 false _ (.inr ⟨by omega, rfl⟩)).mono ?_
          rintro e w1 ⟨rfl, rfl⟩
          go_wp2
          go_ret
          exact ⟨by rw [decide_eq_false (fun h => by have := HE.out.1 h; first | omega | (simp at this; omega) | (simp_all; done) | (simp_all; omega))]; rfl, by first | exact HB.out | exact (Below.refl _ _).alloc (Nat.le_refl _) _ | (repeat (first | exact HB.out | exact (Below.refl _ _).alloc (Nat.le_refl _) _ | refine Below.setCell ?_ (by simp) _))⟩
      · go_enter Try.func40, Try.ntmps40
        go_wp2_with fail
        refine (iwithin c 1 1000000000 false _ (.inr ⟨by omega, rfl⟩)).mono ?_
        rintro e w1 ⟨rfl, rfl⟩
        go_wp2
        go_ret
        exact ⟨by rw [decide_eq_false (fun h => by have := HE.out.1 h; first | omega | (simp at this; omega) | (simp_all; done) | (simp_all; omega))]; rfl, by first | exact HB.out | exact (Below.refl _ _).alloc (Nat.le_refl _) _ | (repeat (first | exact HB.out | exact (Below.refl _ _).alloc (Nat.le_refl _) _ | refine Below.setCell ?_ (by simp) _))⟩
    · subst a5
      by_cases a3 : 0 ≤ a ∧ a ≤ 15
      · by_cases a4 : 1 ≤ v ∧ v ≤ 9
        · go_enter Try.func40, Try.ntmps40
          go_wp2_with fail
          refine (iwithin a 0 15 true _ (.inl ⟨by omega, by omega, rfl⟩)).mono ?_
          rintro e w1 ⟨rfl, rfl⟩
          go_wp2_with fail
          refine (iwithin v 1 9 true _ (.inl ⟨by omega, by omega, rfl⟩)).mono ?_
          rintro e w1 ⟨rfl, rfl⟩
          go_wp2_with fail
          refine (iwithin 0 0 9 true _ (.inl ⟨by omega, by omega, rfl⟩)).mono ?_
          rintro e w1 ⟨rfl, rfl⟩
          go_wp2_with fail
          refine (iwithin 0 0 1000000000 true _ (.inl ⟨by omega, by omega, rfl⟩)).mono ?_
          rintro e w1 ⟨rfl, rfl⟩
          go_wp2
          go_ret
          refine ⟨?_, by first | exact HB.out | exact (Below.refl _ _).alloc (Nat.le_refl _) _ | (repeat (first | exact HB.out | exact (Below.refl _ _).alloc (Nat.le_refl _) _ | refine Below.setCell ?_ (by simp) _))⟩
          have e : decide (Rc.mk 5 v a c).Right = (c == 0) := by
            cases hq : (c == 0) with
            | true => exact decide_eq_true (HE.out.2 (by first | omega | (simp_all; done) | (simp_all; omega)))
            | false => exact decide_eq_false (fun h => by have := HE.out.1 h; first | omega | (simp_all; done) | (simp_all; omega))
          rw [e]
          rfl
        · go_enter Try.func40, Try.ntmps40
          go_wp2_with fail
          refine (iwithin a 0 15 true _ (.inl ⟨by omega, by omega, rfl⟩)).mono ?_
          rintro e w1 ⟨rfl, rfl⟩
          go_wp2_with fail
          refine (iwithin v 1 9 false _ (.inr ⟨by omega, rfl⟩)).mono ?_
          rintro e w1 ⟨rfl, rfl⟩
          go_wp2
          go_ret
          exact ⟨by rw [decide_eq_false (fun h => by have := HE.out.1 h; first | omega | (simp at this; omega) | (simp_all; done) | (simp_all; omega))]; rfl, by first | exact HB.out | exact (Below.refl _ _).alloc (Nat.le_refl _) _ | (repeat (first | exact HB.out | exact (Below.refl _ _).alloc (Nat.le_refl _) _ | refine Below.setCell ?_ (by simp) _))⟩
      · go_enter Try.func40, Try.ntmps40
        go_wp2_with fail
        refine (iwithin a 0 15 false _ (.inr ⟨by omega, rfl⟩)).mono ?_
        rintro e w1 ⟨rfl, rfl⟩
        go_wp2
        go_ret
        exact ⟨by rw [decide_eq_false (fun h => by have := HE.out.1 h; first | omega | (simp at this; omega) | (simp_all; done) | (simp_all; omega))]; rfl, by first | exact HB.out | exact (Below.refl _ _).alloc (Nat.le_refl _) _ | (repeat (first | exact HB.out | exact (Below.refl _ _).alloc (Nat.le_refl _) _ | refine Below.setCell ?_ (by simp) _))⟩
  · have n1 : (k == 1) = false := by simp; omega
    have n2 : (k == 2) = false := by simp; omega
    have n3 : (k == 3) = false := by simp; omega
    have n4 : (k == 4) = false := by simp; omega
    have n5 : (k == 5) = false := by simp; omega
    go_enter Try.func40, Try.ntmps40
    go_wp2
    go_ret
    exact ⟨by rw [decide_eq_false (fun h => by have := HE.out.1 h; first | omega | (simp at this; omega) | (simp_all; done) | (simp_all; omega))]; rfl, by first | exact HB.out | exact (Below.refl _ _).alloc (Nat.le_refl _) _ | (repeat (first | exact HB.out | exact (Below.refl _ _).alloc (Nat.le_refl _) _ | refine Below.setCell ?_ (by simp) _))⟩
end Go.Proofs.Ytelhejamlmhagaa

/-
  slices.Clone of volumes; impl.volAt, impl.areVols.
-/
namespace Go.Proofs.Ytelhejamlmhagaa
open Go.RowKit
open Words

set_option maxHeartbeats 400000 in
set_option maxRecDepth 100000 in
theorem icl_vols (v : Value) (ls : List (Int × Int)) (w : World) (hl : ls.length ≤ 1048576) (ha : VlSl w v ls) :
    Calls Try.prog 80 #[v] w fun e w' => ∃ v', e = .returned v' ∧ w'.ownsRow w.heap.size 49 2 v' ls.length (vlcells ls) ∧ Below w.heap.size w w' := by
  obtain ⟨ad, lc, rfl, h0, hr⟩ := ha
  cases ad with
  | none =>
    have hls : ls = [] := by
      cases hq : ls with
      | nil => rfl
      | cons t l =>
        obtain ⟨b, off, e, -⟩ := hr.2.2.2 (by rw [hq]; simp)
        cases e
    subst hls
    obtain rfl := h0 rfl
    clear hr h0
    have hn := Lib.run_eql_slice_nil (P := Try.prog) w 24 _ none 0 0 0 0 Try.underlying24
    simp only [Option.isNone] at hn
    go_enter Try.func80, Try.ntmps80
    go_wp2
    go_ret
    exact ⟨_, rfl, ⟨rfl, .inl ⟨rfl, rfl⟩⟩, Below.refl _ _⟩
  | some aq =>
    have HB1 : Hid (Below w.heap.size w (w.alloc (.cells #[] 49))) := (Below.refl w.heap.size w).alloc (Nat.le_refl _) _
    have OE : Hid ((w.alloc (.cells #[] 49)).ownsRow w.heap.size 49 2 (.slice (some ⟨w.heap.size, 0, none⟩) 0 0) 0 []) := ⟨rfl, .inr ⟨w.heap.size, 0, #[], rfl, Nat.le_refl _, heap_alloc_new w _, Nat.le_refl _, by unfold maxLen; omega, rfl, rfl⟩⟩
    have OS := hide (hr.below HB1.out)
    have hn := Lib.run_eql_slice_nil (P := Try.prog) w 24 _ (some aq) ls.length lc 0 0 Try.underlying24
    simp only [Option.isNone] at hn
    have SRC : Hid (∀ (j : Nat) (u : Value), (vlcells ls)[j]? = some u → (w.alloc (.cells #[] 49)).cell? (aq.add j) = some u) := fun j u hj => by
      obtain ⟨x, hx, -⟩ := vlcells_back ls j u hj
      obtain ⟨b, off, e, -⟩ := OS.out.at hx
      injection e with e
      subst e
      rw [addr_off3]
      exact OS.out.cells j u hj
    have HLN : Hid ((vlcells ls).length = ls.length * 2) := vlcells_len ls
    obtain ⟨i0, hi0, hz0, hz1, hz2⟩ := info_parts infoVl
    have I0 := hide hi0
    have Y0 := hide hz0
    have Y1 := hide hz1
    have Y2 := hide hz2
    obtain ⟨n, hlen⟩ : ∃ n, ls.length = n := ⟨_, rfl⟩
    rw [hlen] at hn hl HLN ⊢
    have HLEN := hide hlen
    clear hi0 hz0 hz1 hz2 hr h0 OS hlen
    go_enter Try.func80, Try.ntmps80
    go_wp2_with (at_builtin; refine wpList_append_own _ rfl _ _ 24 rfl w.heap.size 49 i0 (.agg #[.int .i64 0, .int .i64 0]) 2 16 Try.underlying24 I0.out Y0.out Y1.out Y2.out rfl (by decide) _ _ _ rfl OE.out aq n lc (vlcells ls) rfl ?c0 SRC.out (vlcells_one _) ?c1 ?c2 ?c3 ?_)
    case c0 => exact HLN.out
    case c1 => unfold maxLen; omega
    case c2 => omega
    case c3 => simp
    intro v' w3 o3 g3 _
    have HB3 := hide (HB1.out.grown g3 HB1.out.size (fun i hi2 => by cases hi2; exact Nat.le_refl _))
    have O3 := hide o3
    obtain ⟨va, vc, rfl, -⟩ := (Sli.of o3).form
    clear g3 o3
    go_wp2
    go_ret
    exact ⟨_, rfl, O3.out, HB3.out⟩
/-- A volume's address, or none. -/
def volP (va : Option Addr) : Option Nat → Value
  | none => .pointer none
  | some k => .pointer (va.map (fun a => ⟨a.block, a.off + k * 2, none⟩))
set_option maxHeartbeats 400000 in
set_option maxRecDepth 100000 in
theorem ivolAt (va : Option Addr) (vl vc : Nat) (vs : List (Int × Int)) (id : Int) (w : World) (hl : vl ≤ 1048576) (h : VlRow w va vl vs) :
    Calls Try.prog 59 #[.slice va vl vc, .int .i64 id] w fun e w' => e = .returned (volP va (atV vs id)) ∧ w' = w := by
  have HVL := hide h.1
  have H := hide h
  clear h
  go_enter Try.func59, Try.ntmps59
  go_wp2_with fail
  go_loop [8] (fun kv => ∃ k : Nat, k ≤ vl ∧ kv = .int .i64 k ∧ Hid (atK vs id k = none)) (fun kv => vl - (intOf kv).toNat)
  case atStart => exact ⟨0, Nat.zero_le _, rfl, (rfl : atK vs id 0 = none)⟩
  case round =>
    obtain ⟨k, hk, rfl, HN⟩ := hrel
    by_cases hlt : (k : Int) < vl
    · have hv := List.getElem?_eq_getElem (show k < vs.length by have := HVL.out; omega)
      generalize vs[k]'(by have := HVL.out; omega) = v at hv
      obtain ⟨b, off, e, hb, c0, c1⟩ := H.out.at hv
      subst e
      have k0 : (0 : Int) ≤ k := by omega
      by_cases hid : (v.1 == id) = true
      · have HE : Hid (atV vs id = some k) := atK_yes HN.out hv (by simpa using hid) _ (by have := HVL.out; omega)
        clear hv
        go_wp2
        go_ret
        exact ⟨by rw [HE.out]; rfl, rfl⟩
      · have HE : Hid (atK vs id (k + 1) = none) := atK_no HN.out hv (by simpa using hid)
        clear hv
        go_wp2
        go_round
        case rel => exact ⟨k + 1, by omega, by go_num, HE⟩
        case measure => simp [intOf]; omega
    · have HE : Hid (atV vs id = none) := by
        have e : k = vs.length := by have := HVL.out; omega
        have := HN.out
        rw [e] at this
        exact this
      go_wp2
      go_ret
      exact ⟨by rw [HE.out]; rfl, rfl⟩
set_option maxHeartbeats 400000 in
set_option maxRecDepth 100000 in
theorem iareVols (va : Option Addr) (vl vc : Nat) (vs : List (Int × Int)) (w : World) (hl : vl ≤ 1048576) (h : VlRow w va vl vs) :
    Calls Try.prog 56 #[.slice va vl vc] w fun e w' => e = .returned (.bool (volsB vs)) ∧ Below w.heap.size w w' := by
  have HVL := hide h.1
  have H := hide h
  clear h
  go_enter Try.func56, Try.ntmps56
  go_wp2_with fail
  go_loopw [3, 8] (fun lv kv W => ∃ (k : Nat) (la : Int), k ≤ vl ∧ kv = .int .i64 k ∧ lv = .int .i64 la ∧ (0 ≤ la ∧ la ≤ 9) ∧ Hid (la = lastI vs k ∧ idsK vs k = true) ∧ Hid (Below w.heap.size w W)) (fun _ kv _ => vl - (intOf kv).toNat)
  case atStart => exact ⟨0, 0, Nat.zero_le _, rfl, rfl, by omega, ⟨rfl, rfl⟩, Below.refl _ _⟩
  case round =>
    obtain ⟨k, la, hk, rfl, rfl, hla, HN, HW⟩ := hrel
    by_cases hlt : (k : Int) < vl
    · have hv := List.getElem?_eq_getElem (show k < vs.length by have := HVL.out; omega)
      generalize vs[k]'(by have := HVL.out; omega) = v at hv
      obtain ⟨b, off, e, hb, c0, c1⟩ := (H.out.below HW.out).at hv
      subst e
      have k0 : (0 : Int) ≤ k := by omega
      have HV := hide hv
      have HW2 : Hid (Below w.heap.size w (wr.alloc (.cells #[.int .i64 v.1, .int .i64 v.2] 49))) := HW.out.alloc HW.out.size _
      clear hv
      obtain ⟨x0, x1⟩ := v
      simp only at c0 c1 HW2
      by_cases hin : la + 1 ≤ x0 ∧ x0 ≤ 9
      · have HE : Hid (idsK vs (k + 1) = true) := by
          show _ = _
          rw [idsK_succ HV.out, HN.out.2, ← HN.out.1, decide_eq_true hin.1, decide_eq_true hin.2]
          rfl
        have HL2 : Hid (x0 = lastI vs (k + 1)) := by show _ = _; rw [lastI_succ HV.out]
        go_wp2_with (go_at_call 57; refine (iwithin x0 (la + 1) 9 true _ (.inl ⟨by omega, by omega, rfl⟩)).mono ?_; rintro e w' ⟨rfl, rfl⟩)
        go_roundw
        case rel => exact ⟨k + 1, x0, by omega, by go_num, rfl, by omega, ⟨HL2.out, HE.out⟩, HW2⟩
        case measure => simp [intOf]; omega
      · have HE : Hid (volsB vs = false) := idsK_bad HV.out (by rw [← HN.out.1]; exact hin)
        go_wp2_with (go_at_call 57; refine (iwithin x0 (la + 1) 9 false _ (.inr ⟨by omega, rfl⟩)).mono ?_; rintro e w' ⟨rfl, rfl⟩)
        go_ret
        exact ⟨by rw [HE.out]; rfl, HW2.out⟩
    · have HE : Hid (volsB vs = decide ((vl : Int) ≤ 3)) := by
        show _ = _
        have e : k = vs.length := by have := HVL.out; omega
        have h2 := HN.out.2
        rw [e] at h2
        rw [volsB, h2, Bool.true_and, HVL.out]
        exact decide_eq_decide.2 (by omega)
      by_cases h3 : (vl : Int) ≤ 3
      · go_wp2
        go_ret
        exact ⟨by rw [HE.out, decide_eq_true h3]; rfl, HW.out⟩
      · go_wp2
        go_ret
        exact ⟨by rw [HE.out, decide_eq_false (by omega)]; rfl, HW.out⟩
end Go.Proofs.Ytelhejamlmhagaa

/-
  slices.Clone of numbers and of knots; impl.copiedArena.
-/
namespace Go.Proofs.Ytelhejamlmhagaa
open Go.RowKit
open Words

set_option maxHeartbeats 400000 in
set_option maxRecDepth 100000 in
theorem icl_ints (v : Value) (ls : List Int) (w : World) (hl : ls.length ≤ 1048576) (ha : ISl w v ls) :
    Calls Try.prog 117 #[v] w fun e w' => ∃ v', e = .returned v' ∧ w'.ownsRow w.heap.size 3 1 v' ls.length (icells ls) ∧ Below w.heap.size w w' := by
  obtain ⟨ad, lc, rfl, h0, hr⟩ := ha
  cases ad with
  | none =>
    have hls : ls = [] := by
      cases hq : ls with
      | nil => rfl
      | cons t l =>
        obtain ⟨b, off, e, -⟩ := hr.2.2 (by rw [hq]; simp)
        cases e
    subst hls
    obtain rfl := h0 rfl
    clear hr h0
    have hn := Lib.run_eql_slice_nil (P := Try.prog) w 43 _ none 0 0 0 0 Try.underlying43
    simp only [Option.isNone] at hn
    go_enter Try.func117, Try.ntmps117
    go_wp2
    go_ret
    exact ⟨_, rfl, ⟨rfl, .inl ⟨rfl, rfl⟩⟩, Below.refl _ _⟩
  | some aq =>
    have HB1 : Hid (Below w.heap.size w (w.alloc (.cells #[] 3))) := (Below.refl w.heap.size w).alloc (Nat.le_refl _) _
    have OE : Hid ((w.alloc (.cells #[] 3)).ownsRow w.heap.size 3 1 (.slice (some ⟨w.heap.size, 0, none⟩) 0 0) 0 []) := ⟨rfl, .inr ⟨w.heap.size, 0, #[], rfl, Nat.le_refl _, heap_alloc_new w _, Nat.le_refl _, by unfold maxLen; omega, rfl, rfl⟩⟩
    have OS := hide (hr.below HB1.out)
    have hn := Lib.run_eql_slice_nil (P := Try.prog) w 43 _ (some aq) ls.length lc 0 0 Try.underlying43
    simp only [Option.isNone] at hn
    have SRC : Hid (∀ (j : Nat) (u : Value), (icells ls)[j]? = some u → (w.alloc (.cells #[] 3)).cell? (aq.add j) = some u) := fun j u hj => by
      obtain ⟨x, hx, rfl⟩ := icells_back hj
      obtain ⟨b, off, e, -, c⟩ := OS.out.at hx
      injection e with e
      subst e
      have ea : (⟨b, off, none⟩ : Addr).add j = ⟨b, off + j, none⟩ := by simp only [Addr.add]; split <;> simp_all
      rw [ea]
      exact c
    have HLN : Hid ((icells ls).length = ls.length) := by show _ = _; simp [icells]
    obtain ⟨i0, hi0, hz0, hz1, hz2⟩ := info_parts infoInt
    have I0 := hide hi0
    have Y0 := hide hz0
    have Y1 := hide hz1
    have Y2 := hide hz2
    obtain ⟨n, hlen⟩ : ∃ n, ls.length = n := ⟨_, rfl⟩
    rw [hlen] at hn hl HLN ⊢
    have HLEN := hide hlen
    clear hi0 hz0 hz1 hz2 hr h0 OS hlen
    go_enter Try.func117, Try.ntmps117
    go_wp2_with (at_builtin; refine wpList_append_own _ rfl _ _ 43 rfl w.heap.size 3 i0 (.int .i64 0) 1 8 Try.underlying43 I0.out Y0.out Y1.out Y2.out rfl (by decide) _ _ _ rfl OE.out aq n lc (icells ls) rfl ?c0 SRC.out (icells_one _) ?c1 ?c2 ?c3 ?_)
    case c0 => rw [HLN.out, Nat.mul_one]
    case c1 => unfold maxLen; omega
    case c2 => omega
    case c3 => simp
    intro v' w3 o3 g3 _
    have HB3 := hide (HB1.out.grown g3 HB1.out.size (fun i hi2 => by cases hi2; exact Nat.le_refl _))
    have O3 := hide o3
    obtain ⟨va, vc, rfl, -⟩ := (Sli.of o3).form
    clear g3 o3
    go_wp2
    go_ret
    exact ⟨_, rfl, O3.out, HB3.out⟩

theorem kncells_one {rs : List Kw} (h : ∀ r ∈ rs, r.2.1.oneCell' = true) : ∀ u ∈ kncells rs, u.oneCell' = true := by
  intro u hu
  obtain ⟨r, hr, hu⟩ := List.mem_flatMap.1 hu
  simp only [kncell, List.mem_cons, List.not_mem_nil, or_false] at hu
  rcases hu with rfl | rfl
  · rfl
  · exact h r hr
theorem KnRd.cells {W : World} {b off len : Nat} {rs : List Kw} (h : KnRd W (some ⟨b, off, none⟩) len rs) (j : Nat) (u : Value) (hj : (kncells rs)[j]? = some u) : W.cell? ((⟨b, off, none⟩ : Addr).add j) = some u := by
  have hlt := (List.getElem?_eq_some_iff.1 hj).1
  rw [kncells_len] at hlt
  obtain ⟨r, hr⟩ : ∃ r, rs[j / 2]? = some r := ⟨_, List.getElem?_eq_getElem (by omega)⟩
  obtain ⟨c0, c1⟩ := h.cell hr
  have ea : (⟨b, off, none⟩ : Addr).add j = ⟨b, off + j, none⟩ := by simp only [Addr.add]; split <;> simp_all
  rw [ea]
  have hm : j % 2 = 0 ∨ j % 2 = 1 := by omega
  rcases hm with hm | hm
  · have e : j / 2 * 2 + 0 = j := by omega
    have k1 := kncells_at rs (j / 2) r hr 0 _ rfl
    rw [e, hj] at k1
    cases k1
    rw [show off + j = off + j / 2 * 2 by omega]
    exact c0
  · have e : j / 2 * 2 + 1 = j := by omega
    have k1 := kncells_at rs (j / 2) r hr 1 _ rfl
    rw [e, hj] at k1
    cases k1
    rw [show off + j = off + j / 2 * 2 + 1 by omega]
    exact c1

set_option maxHeartbeats 400000 in
set_option maxRecDepth 100000 in
theorem icl_kns (ad : Option Addr) (len cap : Nat) (rs : List Kw) (w : World) (hl : len ≤ 1048578) (h : KnRd w ad len rs) :
    Calls Try.prog 116 #[.slice ad len cap] w fun e w' => ∃ v', e = .returned v' ∧ w'.ownsRow w.heap.size 110 2 v' len (kncells rs) ∧ Below w.heap.size w w' := by
  cases ad with
  | none =>
    have hlen : len = 0 := by
      by_cases e : len = 0
      · exact e
      · obtain ⟨b, off, e, -⟩ := h.adr (by omega)
        cases e
    subst hlen
    have hrs : rs = [] := List.eq_nil_of_length_eq_zero h.1
    subst hrs
    clear h
    have hn := Lib.run_eql_slice_nil (P := Try.prog) w 25 _ none 0 cap 0 0 Try.underlying25
    simp only [Option.isNone] at hn
    go_enter Try.func116, Try.ntmps116
    go_wp2
    go_ret
    exact ⟨_, rfl, ⟨rfl, .inl ⟨rfl, rfl⟩⟩, Below.refl _ _⟩
  | some aq =>
    have HB1 : Hid (Below w.heap.size w (w.alloc (.cells #[] 110))) := (Below.refl w.heap.size w).alloc (Nat.le_refl _) _
    have OE : Hid ((w.alloc (.cells #[] 110)).ownsRow w.heap.size 110 2 (.slice (some ⟨w.heap.size, 0, none⟩) 0 0) 0 []) := ⟨rfl, .inr ⟨w.heap.size, 0, #[], rfl, Nat.le_refl _, heap_alloc_new w _, Nat.le_refl _, by unfold maxLen; omega, rfl, rfl⟩⟩
    have OS := hide (h.below HB1.out)
    have hn := Lib.run_eql_slice_nil (P := Try.prog) w 25 _ (some aq) len cap 0 0 Try.underlying25
    simp only [Option.isNone] at hn
    have SRC : Hid (∀ (j : Nat) (u : Value), (kncells rs)[j]? = some u → (w.alloc (.cells #[] 110)).cell? (aq.add j) = some u) := fun j u hj => by
      have hlt := (List.getElem?_eq_some_iff.1 hj).1
      rw [kncells_len, OS.out.1] at hlt
      obtain ⟨b, off, e, -⟩ := OS.out.adr (by omega)
      cases e
      exact OS.out.cells j u hj
    have ONE : Hid (∀ u ∈ kncells rs, u.oneCell' = true) := kncells_one (fun r hr => (OS.out.2.2.1 r hr).one)
    have HLN : Hid ((kncells rs).length = len * 2) := by show _ = _; rw [kncells_len, OS.out.1]
    obtain ⟨i0, hi0, hz0, hz1, hz2⟩ := info_parts infoKn
    have I0 := hide hi0
    have Y0 := hide hz0
    have Y1 := hide hz1
    have Y2 := hide hz2
    clear hi0 hz0 hz1 hz2 h OS
    go_enter Try.func116, Try.ntmps116
    go_wp2_with (at_builtin; refine wpList_append_own _ rfl _ _ 25 rfl w.heap.size 110 i0 (.agg #[.bool false, .slice none 0 0]) 2 32 Try.underlying25 I0.out Y0.out Y1.out Y2.out rfl (by decide) _ _ _ rfl OE.out aq len cap (kncells rs) rfl ?c0 SRC.out ONE.out ?c1 ?c2 ?c3 ?_)
    case c0 => exact HLN.out
    case c1 => unfold maxLen; omega
    case c2 => omega
    case c3 => simp
    intro v' w3 o3 g3 _
    have HB3 := hide (HB1.out.grown g3 HB1.out.size (fun i hi2 => by cases hi2; exact Nat.le_refl _))
    have O3 := hide o3
    obtain ⟨va, vc, rfl, -⟩ := (Sli.of o3).form
    clear g3 o3
    go_wp2
    go_ret
    exact ⟨_, rfl, O3.out, HB3.out⟩
end Go.Proofs.Ytelhejamlmhagaa
