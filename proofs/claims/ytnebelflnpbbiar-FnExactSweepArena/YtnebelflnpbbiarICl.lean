/-
  slices.Clone of numbers and of knots; impl.copiedArena.
-/
import Derived.Test.YtnebelflnpbbiarKnN
import Derived.Test.YtnebelflnpbbiarSArOk
import Derived.Test.YtnebelflnpbbiarKnCp
import Derived.Lib.SliceRun
namespace Go.Proofs.Ytnebelflnpbbiar
open Go.RowKit
open Words

set_option maxHeartbeats 400000 in
set_option maxRecDepth 100000 in
theorem icl_ints (v : Value) (ls : List Int) (w : World) (hl : ls.length ≤ 1048576) (ha : ISl w v ls) :
    Calls Try.prog 51 #[v] w fun e w' => ∃ v', e = .returned v' ∧ w'.ownsRow w.heap.size 3 1 v' ls.length (icells ls) ∧ Below w.heap.size w w' := by
  obtain ⟨ad, lc, rfl, h0, hr⟩ := ha
  cases ad with
  | none =>
    have hls : ls = [] := by
      cases hq : ls with
      | nil => rfl
      | cons t l =>
        obtain ⟨b, off, e, -⟩ := hr.2.2 (by rw [hq]; simp)
        cases e
    subst hls
    obtain rfl := h0 rfl
    clear hr h0
    have hn := Lib.run_eql_slice_nil (P := Try.prog) w 39 _ none 0 0 0 0 Try.underlying39
    simp only [Option.isNone] at hn
    go_enter Try.func51, Try.ntmps51
    go_wp2
    go_ret
    exact ⟨_, rfl, ⟨rfl, .inl ⟨rfl, rfl⟩⟩, Below.refl _ _⟩
  | some aq =>
    have HB1 : Hid (Below w.heap.size w (w.alloc (.cells #[] 3))) := (Below.refl w.heap.size w).alloc (Nat.le_refl _) _
    have OE : Hid ((w.alloc (.cells #[] 3)).ownsRow w.heap.size 3 1 (.slice (some ⟨w.heap.size, 0, none⟩) 0 0) 0 []) := ⟨rfl, .inr ⟨w.heap.size, 0, #[], rfl, Nat.le_refl _, heap_alloc_new w _, Nat.le_refl _, by unfold maxLen; omega, rfl, rfl⟩⟩
    have OS := hide (hr.below HB1.out)
    have hn := Lib.run_eql_slice_nil (P := Try.prog) w 39 _ (some aq) ls.length lc 0 0 Try.underlying39
    simp only [Option.isNone] at hn
    have SRC : Hid (∀ (j : Nat) (u : Value), (icells ls)[j]? = some u → (w.alloc (.cells #[] 3)).cell? (aq.add j) = some u) := fun j u hj => by
      obtain ⟨x, hx, rfl⟩ := icells_back hj
      obtain ⟨b, off, e, -, c⟩ := OS.out.at hx
      injection e with e
      subst e
      have ea : (⟨b, off, none⟩ : Addr).add j = ⟨b, off + j, none⟩ := by simp only [Addr.add]; split <;> simp_all
      rw [ea]
      exact c
    have HLN : Hid ((icells ls).length = ls.length) := by show _ = _; simp [icells]
    obtain ⟨i0, hi0, hz0, hz1, hz2⟩ := info_parts infoInt
    have I0 := hide hi0
    have Y0 := hide hz0
    have Y1 := hide hz1
    have Y2 := hide hz2
    obtain ⟨n, hlen⟩ : ∃ n, ls.length = n := ⟨_, rfl⟩
    rw [hlen] at hn hl HLN ⊢
    have HLEN := hide hlen
    clear hi0 hz0 hz1 hz2 hr h0 OS hlen
    go_enter Try.func51, Try.ntmps51
    go_wp2_with (at_builtin; refine wpList_append_own _ rfl _ _ 39 rfl w.heap.size 3 i0 (.int .i64 0) 1 8 Try.underlying39 I0.out Y0.out Y1.out Y2.out rfl (by decide) _ _ _ rfl OE.out aq n lc (icells ls) rfl ?c0 SRC.out (icells_one _) ?c1 ?c2 ?c3 ?_)
    case c0 => rw [HLN.out, Nat.mul_one]
    case c1 => unfold maxLen; omega
    case c2 => omega
    case c3 => simp
    intro v' w3 o3 g3 _
    have HB3 := hide (HB1.out.grown g3 HB1.out.size (fun i hi2 => by cases hi2; exact Nat.le_refl _))
    have O3 := hide o3
    obtain ⟨va, vc, rfl, -⟩ := (Sli.of o3).form
    clear g3 o3
    go_wp2
    go_ret
    exact ⟨_, rfl, O3.out, HB3.out⟩

theorem kncells_one {rs : List Kw} (h : ∀ r ∈ rs, r.2.1.oneCell' = true) : ∀ u ∈ kncells rs, u.oneCell' = true := by
  intro u hu
  obtain ⟨r, hr, hu⟩ := List.mem_flatMap.1 hu
  simp only [kncell, List.mem_cons, List.not_mem_nil, or_false] at hu
  rcases hu with rfl | rfl
  · rfl
  · exact h r hr
theorem KnRd.cells {W : World} {b off len : Nat} {rs : List Kw} (h : KnRd W (some ⟨b, off, none⟩) len rs) (j : Nat) (u : Value) (hj : (kncells rs)[j]? = some u) : W.cell? ((⟨b, off, none⟩ : Addr).add j) = some u := by
  have hlt := (List.getElem?_eq_some_iff.1 hj).1
  rw [kncells_len] at hlt
  obtain ⟨r, hr⟩ : ∃ r, rs[j / 2]? = some r := ⟨_, List.getElem?_eq_getElem (by omega)⟩
  obtain ⟨c0, c1⟩ := h.cell hr
  have ea : (⟨b, off, none⟩ : Addr).add j = ⟨b, off + j, none⟩ := by simp only [Addr.add]; split <;> simp_all
  rw [ea]
  have hm : j % 2 = 0 ∨ j % 2 = 1 := by omega
  rcases hm with hm | hm
  · have e : j / 2 * 2 + 0 = j := by omega
    have k1 := kncells_at rs (j / 2) r hr 0 _ rfl
    rw [e, hj] at k1
    cases k1
    rw [show off + j = off + j / 2 * 2 by omega]
    exact c0
  · have e : j / 2 * 2 + 1 = j := by omega
    have k1 := kncells_at rs (j / 2) r hr 1 _ rfl
    rw [e, hj] at k1
    cases k1
    rw [show off + j = off + j / 2 * 2 + 1 by omega]
    exact c1

set_option maxHeartbeats 400000 in
set_option maxRecDepth 100000 in
theorem icl_kns (ad : Option Addr) (len cap : Nat) (rs : List Kw) (w : World) (hl : len ≤ 1048578) (h : KnRd w ad len rs) :
    Calls Try.prog 58 #[.slice ad len cap] w fun e w' => ∃ v', e = .returned v' ∧ w'.ownsRow w.heap.size 50 2 v' len (kncells rs) ∧ Below w.heap.size w w' := by
  cases ad with
  | none =>
    have hlen : len = 0 := by
      by_cases e : len = 0
      · exact e
      · obtain ⟨b, off, e, -⟩ := h.adr (by omega)
        cases e
    subst hlen
    have hrs : rs = [] := List.eq_nil_of_length_eq_zero h.1
    subst hrs
    clear h
    have hn := Lib.run_eql_slice_nil (P := Try.prog) w 27 _ none 0 cap 0 0 Try.underlying27
    simp only [Option.isNone] at hn
    go_enter Try.func58, Try.ntmps58
    go_wp2
    go_ret
    exact ⟨_, rfl, ⟨rfl, .inl ⟨rfl, rfl⟩⟩, Below.refl _ _⟩
  | some aq =>
    have HB1 : Hid (Below w.heap.size w (w.alloc (.cells #[] 50))) := (Below.refl w.heap.size w).alloc (Nat.le_refl _) _
    have OE : Hid ((w.alloc (.cells #[] 50)).ownsRow w.heap.size 50 2 (.slice (some ⟨w.heap.size, 0, none⟩) 0 0) 0 []) := ⟨rfl, .inr ⟨w.heap.size, 0, #[], rfl, Nat.le_refl _, heap_alloc_new w _, Nat.le_refl _, by unfold maxLen; omega, rfl, rfl⟩⟩
    have OS := hide (h.below HB1.out)
    have hn := Lib.run_eql_slice_nil (P := Try.prog) w 27 _ (some aq) len cap 0 0 Try.underlying27
    simp only [Option.isNone] at hn
    have SRC : Hid (∀ (j : Nat) (u : Value), (kncells rs)[j]? = some u → (w.alloc (.cells #[] 50)).cell? (aq.add j) = some u) := fun j u hj => by
      have hlt := (List.getElem?_eq_some_iff.1 hj).1
      rw [kncells_len, OS.out.1] at hlt
      obtain ⟨b, off, e, -⟩ := OS.out.adr (by omega)
      cases e
      exact OS.out.cells j u hj
    have ONE : Hid (∀ u ∈ kncells rs, u.oneCell' = true) := kncells_one (fun r hr => (OS.out.2.2.1 r hr).one)
    have HLN : Hid ((kncells rs).length = len * 2) := by show _ = _; rw [kncells_len, OS.out.1]
    obtain ⟨i0, hi0, hz0, hz1, hz2⟩ := info_parts infoKn
    have I0 := hide hi0
    have Y0 := hide hz0
    have Y1 := hide hz1
    have Y2 := hide hz2
    clear hi0 hz0 hz1 hz2 h OS
    go_enter Try.func58, Try.ntmps58
    go_wp2_with (at_builtin; refine wpList_append_own _ rfl _ _ 27 rfl w.heap.size 50 i0 (.agg #[.bool false, .slice none 0 0]) 2 32 Try.underlying27 I0.out Y0.out Y1.out Y2.out rfl (by decide) _ _ _ rfl OE.out aq len cap (kncells rs) rfl ?c0 SRC.out ONE.out ?c1 ?c2 ?c3 ?_)
    case c0 => exact HLN.out
    case c1 => unfold maxLen; omega
    case c2 => omega
    case c3 => simp
    intro v' w3 o3 g3 _
    have HB3 := hide (HB1.out.grown g3 HB1.out.size (fun i hi2 => by cases hi2; exact Nat.le_refl _))
    have O3 := hide o3
    obtain ⟨va, vc, rfl, -⟩ := (Sli.of o3).form
    clear g3 o3
    go_wp2
    go_ret
    exact ⟨_, rfl, O3.out, HB3.out⟩
end Go.Proofs.Ytnebelflnpbbiar
