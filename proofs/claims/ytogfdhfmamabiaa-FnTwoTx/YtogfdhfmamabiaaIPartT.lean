/-
  impl.partTexts.
-/
import Derived.Test.YtogfdhfmamabiaaIRecText
import Derived.Test.YtogfdhfmamabiaaPk0
import Derived.Test.YtogfdhfmamabiaaTxRow
namespace Go.Proofs.Ytogfdhfmamabiaa
open Go.RowKit
open Words

/-- The row of texts. -/
def TT (w W : World) (uv : Value) (gs : List (List Rc)) : Prop := Below w.heap.size w W ∧ W.ownsRow w.heap.size 9 1 uv gs.length (gcels gs)
theorem TT.below {w W W' : World} {uv : Value} {gs : List (List Rc)} (h : TT w W uv gs) (b : Below W.heap.size W W') : TT w W' uv gs :=
  ⟨h.1.trans (b.mono h.1.size), own_below h.2 b⟩
theorem TT.start (w : World) : TT w (w.alloc (.cells #[.string ⟨#[]⟩] 9)) (.slice (some ⟨w.heap.size, 0, none⟩) 1 1) [[]] :=
  ⟨(Below.refl _ _).alloc (Nat.le_refl _) _, rfl, .inr ⟨w.heap.size, 1, #[.string ⟨#[]⟩], rfl, Nat.le_refl _, heap_alloc_new w _, Nat.le_refl _, by unfold maxLen; omega, rfl, rfl⟩⟩
theorem TT.grown {w W y : World} {uv u' : Value} {gs gs' : List (List Rc)} (h : TT w W uv gs) (hg : W.grownBy y uv.ownBlock) (ho : y.ownsRow w.heap.size 9 1 u' gs'.length (gcels gs')) : TT w y u' gs' :=
  ⟨h.1.grown hg h.1.size (fun k hk => (h.2.lt k hk).1), ho⟩
theorem TT.len {w W : World} {g n c : Nat} {gs : List (List Rc)} (h : TT w W (.slice (some ⟨g, 0, none⟩) n c) gs) : gs.length = n := by
  rcases h.2.2 with ⟨e, -⟩ | ⟨_, _, _, e, -⟩
  · simp at e
  · simp at e; exact e.2.1.symm
theorem TT.at_ {w W : World} {g n c m : Nat} {gs : List (List Rc)} (h : TT w W (.slice (some ⟨g, 0, none⟩) n c) gs) {x : List Rc} (hx : gs[m]? = some x) : W.cell? ⟨g, m, none⟩ = some (.string (recsB x)) := by
  have := h.2.cells (g := g) rfl m (.string (recsB x)) (by simp [gcels, hx])
  rwa [addr_at] at this
theorem TT.stored {w W : World} {g n c m : Nat} {gs : List (List Rc)} {x y : List Rc} (h : TT w W (.slice (some ⟨g, 0, none⟩) n c) (gs ++ [x])) (hm : gs.length = m) : TT w (W.setCell ⟨g, m, none⟩ (.string (recsB y))) (.slice (some ⟨g, 0, none⟩) n c) (gs ++ [y]) := by
  have hl := h.len
  have h3 := h.2
  rw [hl] at h3
  obtain ⟨h4, h5⟩ := h3.stored m (.string (recsB y))
  rw [gcels_set gs x y m hm] at h4
  refine TT.grown h h5 ?_
  rw [show (gs ++ [y]).length = n by simpa using hl]
  exact h4
theorem ione_text (x : ByteArray) : ∀ u ∈ [Value.string x], u.oneCell' = true := by
  intro u hu; simp at hu; subst hu; rfl
/-- What partTexts answers. -/
def PtOut (w : World) (l : List Rc) (e : Ending) (w' : World) : Prop :=
  ((∀ r ∈ l, r.Right) ∧ ∃ g n c, e = .returned (.tuple #[.slice (some ⟨g, 0, none⟩) n c, .bool (decide (n ≤ 9))]) ∧ n ≤ l.length + 1 ∧ TT w w' (.slice (some ⟨g, 0, none⟩) n c) (pkG l)) ∨
  (¬ (∀ r ∈ l, r.Right) ∧ e = .returned (.tuple #[.slice none 0 0, .bool false]) ∧ Below w.heap.size w w')

set_option maxHeartbeats 2000000 in
set_option maxRecDepth 100000 in
theorem ipartTexts (ad : Option Addr) (len cap : Nat) (l : List Rc) (w : World) (hl : len ≤ 33554432) (h : RcRow w ad len (l.map Rc.tu)) :
    Calls Try.prog 34 #[.slice ad len cap] w (PtOut w l) := by
  have HR := hide h
  have hn : l.length = len := by have := h.1; simpa using this
  have HN := hide hn
  clear h hn
  have T0 : Hid (TT w (w.alloc (.cells #[.string ⟨#[]⟩] 9)) (.slice (some ⟨w.heap.size, 0, none⟩) 1 1) (pkG (l.take 0))) := TT.start w
  go_enter Try.func34, Try.ntmps34
  go_wp2
  generalize w.alloc (.cells #[.string ⟨#[]⟩] 9) = wa at T0 ⊢
  go_loopw [4, 13] (fun uv iv wr => ∃ k : Nat, k ≤ len ∧ iv = .int .i64 k ∧ (∃ tg m tc : Nat, uv = .slice (some ⟨tg, 0, none⟩) (m + 1) tc ∧ m ≤ k ∧ Hid (TT w wr (.slice (some ⟨tg, 0, none⟩) (m + 1) tc) (pkG (l.take k)))) ∧ Hid (∀ r ∈ l.take k, r.Right)) (fun _ iv _ => len - (intOf iv).toNat)
  case atStart => exact ⟨0, Nat.zero_le _, rfl, ⟨_, 0, _, rfl, Nat.le_refl _, T0⟩, fun r hr => by simp at hr⟩
  case round =>
    obtain ⟨k, hk, rfl, ⟨tg, m, tc, rfl, hmk, T⟩, RR⟩ := hrel
    clear T0
    by_cases hlt : (k : Int) < len
    · have hkl : k < l.length := by have := HN.out; omega
      obtain ⟨r, hx⟩ : ∃ r, l[k]? = some r := ⟨l[k], List.getElem?_eq_getElem hkl⟩
      obtain ⟨rb, ro, rfl, -, c0, c1, c2, c3⟩ := (HR.out.below T.out.1).at (k := k) (t := r.tu) (by rw [List.getElem?_map, hx]; rfl)
      simp only [Rc.tu] at c0 c1 c2 c3
      have C := hide (fun W => irecText r W)
      unfold rcVal at C
      have k0 : (0 : Int) ≤ k := by omega
      obtain ⟨gi, gl, hpk⟩ : ∃ gi gl, pk (l.take k) = (gi, gl) := ⟨_, _, rfl⟩
      have hG : pkG (l.take k) = gi ++ [gl] := by unfold pkG; rw [hpk]
      have hS : pk (l.take (k + 1)) = pkStep (gi, gl) r := by rw [pk_take hx, hpk]
      rw [hG] at T
      have him : gi.length = m := by have := T.out.len; simpa using this
      have TA0 := hide (T.out.below ((Below.refl _ _).alloc (Nat.le_refl _) (.cells #[.int .i64 r.kind, .int .i64 r.vol, .int .i64 r.arg, .int .i64 r.chunk] 34)))
      by_cases hr : r.Right
      · have hz := recA_size r hr
        simp only [rtRes, if_pos hr] at C
        have RR' : Hid (∀ x ∈ l.take (k + 1), x.Right) := by
          intro x hx2
          rw [List.take_add_one, hx, List.mem_append] at hx2
          rcases hx2 with e | e
          · exact RR.out x e
          · simp at e; subst e; exact hr
        have hgl : (recsB gl).size ≤ 90 := by
          rw [recsB_size]
          exact pk_small _ RR.out gl (by rw [hG]; simp)
        obtain ⟨t, ht⟩ : ∃ t, recA r = t := ⟨_, rfl⟩
        rw [ht] at C hz
        go_wp2_with fail
        generalize wr.alloc (.cells #[.int .i64 r.kind, .int .i64 r.vol, .int .i64 r.arg, .int .i64 r.chunk] 34) = wq at TA0 ⊢
        refine (C.out _).mono ?_
        rintro e w1 ⟨rfl, b1⟩
        have T1 := hide (TA0.out.below b1)
        clear b1 T C c0 c1 c2 c3 TA0
        have d0 : w1.cell? ⟨tg, m, none⟩ = some (.string (recsB gl)) := T1.out.at_ (by subst him; simp)
        have em : ((m + 1 : Nat) : Int) - 1 = (m : Int) := by omega
        have m0 : (0 : Int) ≤ m := by omega
        have hSz : (recsL gl).length + (recL r).length = (recsB gl).size + t.size := by
          rw [recsB_size, ← ht]
          congr 1
        by_cases hgt : ((recsB gl).size : Int) + t.size ≤ 90
        · have hG' : pkG (l.take (k + 1)) = gi ++ [gl ++ [r]] := by
            unfold pkG
            rw [hS, pkStep]
            simp only
            rw [if_neg (by omega)]
          have et : recsB gl ++ t = recsB (gl ++ [r]) := by rw [← recsB_snoc, ht]
          have TN := hide (T1.out.stored (y := gl ++ [r]) him)
          rw [← hG', ← et] at TN
          have f0 : w1.frozen? ⟨tg, m, none⟩ = false := by
            have h3 := T1.out.2
            rw [T1.out.len] at h3
            exact h3.frozenAt m
          have Y : ¬ (9223372036854775807 < (recsB gl).size + t.size) := by omega
          clear hG' et hG hS hpk hx hSz
          generalize recsB gl = tl at d0 hgt hgl TN Y ⊢
          obtain ⟨u, U⟩ : ∃ u, tl ++ t = u := ⟨_, rfl⟩
          rw [U] at TN
          go_wp2
          go_roundw
          case rel => exact ⟨k + 1, by omega, by go_num, ⟨tg, m, tc, rfl, by omega, TN⟩, RR'⟩
          case measure => simp [intOf]; omega
        · have hG' : pkG (l.take (k + 1)) = (gi ++ [gl]) ++ [[r]] := by
            unfold pkG
            rw [hS, pkStep]
            simp only
            rw [if_pos (by omega)]
          have et : t = recsB [r] := by rw [recsB_one, ht]
          obtain ⟨i0, hi0, hz0, hz1, hz2⟩ := info_parts infoText
          have I0 := hide hi0
          have Z0 := hide hz0
          have Z1 := hide hz1
          have Z2 := hide hz2
          have OW := hide (T1.out.2.alloc (.cells #[.string t] 9))
          have HZ := hide (show w.heap.size ≤ (w1.alloc (.cells #[.string t] 9)).heap.size by have := T1.out.1.size; simp; omega)
          rw [T1.out.len] at OW
          have H1 := hide (one_cell w1 (.string t) 9)
          have H2 := hide (ione_text t)
          have TA := hide (T1.out.below ((Below.refl _ _).alloc (Nat.le_refl _) (.cells #[.string t] 9)))
          have HGI := hide hG'
          have HET := hide et
          clear hi0 hz0 hz1 hz2 hG' et hG hS hpk hx hSz
          generalize recsB gl = tl at d0 hgt hgl ⊢
          go_wp2_with (at_builtin; refine wpList_append_own _ rfl _ _ 67 rfl w.heap.size 9 i0 (.string ⟨#[]⟩) 1 16 Try.underlying67 I0.out Z0.out Z1.out Z2.out rfl (by decide) _ _ _ rfl OW.out ⟨w1.heap.size, 0, none⟩ 1 1 [Value.string t] rfl rfl H1.out H2.out ?c1 ?c2 HZ.out ?_)
          case c1 => unfold maxLen; omega
          case c2 => omega
          intro u' y ho hg _
          have ho2 : y.ownsRow w.heap.size 9 1 u' ((gi ++ [gl]) ++ [[r]]).length (gcels ((gi ++ [gl]) ++ [[r]])) := by
            rw [← gcels_snoc, ← HET.out]
            have : ((gi ++ [gl]) ++ [[r]]).length = m + 1 + 1 := by simp [him]
            rw [this]
            exact ho
          have TN := hide (TA.out.grown hg ho2)
          rw [← HGI.out] at TN
          rcases ho.2 with ⟨-, h0⟩ | ⟨ug', uc', cur, rfl, -, -, -, -, -, -⟩
          · omega
          clear ho hg ho2 OW HZ H1 H2 TA I0 Z0 Z1 Z2 HGI HET T1
          go_wp2
          go_roundw
          case rel => exact ⟨k + 1, by omega, by go_num, ⟨ug', m + 1, uc', rfl, by omega, TN⟩, RR'⟩
          case measure => simp [intOf]; omega
      · simp only [rtRes, if_neg hr] at C
        have HO : Hid (¬ (∀ r ∈ l, r.Right)) := fun h => hr (h r (List.mem_of_getElem? hx))
        go_wp2_with fail
        generalize wr.alloc (.cells #[.int .i64 r.kind, .int .i64 r.vol, .int .i64 r.arg, .int .i64 r.chunk] 34) = wq at TA0 ⊢
        refine (C.out _).mono ?_
        rintro e w1 ⟨rfl, b1⟩
        have T1 := hide (TA0.out.below b1)
        clear b1 T C c0 c1 c2 c3 TA0
        go_wp2
        go_ret2
        exact .inr ⟨HO.out, rfl, T1.out.1⟩
    · have hkn : k = l.length := by have := HN.out; omega
      rw [hkn, List.take_length] at T RR
      have HM : Hid (m ≤ l.length) := by have := HN.out; show _ ≤ _; omega
      clear hkn
      have e9 : decide (m + 1 ≤ 9) = decide ((m : Int) + 1 ≤ 9) := by
        by_cases h : m + 1 ≤ 9
        · rw [decide_eq_true h, decide_eq_true (show (m : Int) + 1 ≤ 9 by omega)]
        · rw [decide_eq_false h, decide_eq_false (show ¬ (m : Int) + 1 ≤ 9 by omega)]
      have E9 := hide e9
      clear e9
      go_wp2
      go_ret2
      exact .inl ⟨RR.out, tg, m + 1, tc, by rw [E9.out]; rfl, by have := HM.out; omega, T.out⟩
end Go.Proofs.Ytogfdhfmamabiaa
