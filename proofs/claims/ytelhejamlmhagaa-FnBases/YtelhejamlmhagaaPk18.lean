/-
  KFil; OpS
-/
import Derived.Test.YtelhejamlmhagaaPk17
/-
  Rows of knots that are filled one behind the other, in place.
-/
namespace Go.Proofs.Ytelhejamlmhagaa
open Go.RowKit
open Words

/-- The first of them have children of their own. -/
def KFil (W : World) (B : Nat) (v : Value) (n : Nat) (ss : List Kw) (zs : List Value) : Prop :=
  W.ownsRow B 110 2 v n (kncells ss ++ zs) ∧ (∀ r ∈ ss, Sli 3 B W.heap.size r.2.1 r.2.2.length (icells r.2.2) W ∧ r.2.2.length ≤ maxLen) ∧ KLone ss
theorem KFil.below {W W' : World} {B n : Nat} {v : Value} {ss : List Kw} {zs : List Value} (h : KFil W B v n ss zs) (b : Below W.heap.size W W') : KFil W' B v n ss zs :=
  ⟨own_below h.1 b, fun r hr => ⟨((h.2.1 r hr).1.blw b).up b.size, (h.2.1 r hr).2⟩, h.2.2⟩
theorem KFil.own {W : World} {B : Nat} {v : Value} {ss : List Kw} (h : KFil W B v ss.length ss []) : KOwn W B v ss := ⟨by have := h.1; rwa [List.append_nil] at this, h.2⟩
theorem kn_far {w : World} {g lo hi n : Nat} {v : Value} {xs : List Value} {cs : Array Value} (h : Sli 3 lo hi v n xs w) (q : w.heap[g]? = some (.cells cs 110 (0, 0))) : v.ownBlock ≠ some g := by
  intro e
  obtain ⟨-, -, cs', q'⟩ := h.lt g e
  exact int_ne_kn q' q
theorem Sli.setK {w : World} {g lo hi n j : Nat} {v u : Value} {xs : List Value} {cs : Array Value} (h : Sli 3 lo hi v n xs w) (q : w.heap[g]? = some (.cells cs 110 (0, 0))) : Sli 3 lo hi v n xs (w.setCell ⟨g, j, none⟩ u) :=
  h.grown (grown_cell w g j u) (fun k hk e => by cases e; exact kn_far h q hk)
theorem KFil.set {W : World} {B n g cap j : Nat} {ss : List Kw} {zs : List Value} {u : Value} {ys : List Value} (h : KFil W B (.slice (some ⟨g, 0, none⟩) n cap) n ss zs) (e : (kncells ss ++ zs).set j u = kncells ss ++ ys) : KFil (W.setCell ⟨g, j, none⟩ u) B (.slice (some ⟨g, 0, none⟩) n cap) n ss ys := by
  obtain ⟨-, -, cs, q⟩ := own_kind h.1 g rfl
  refine ⟨by rw [← e]; exact fown_set h.1 rfl j u, fun r hr => ⟨?_, (h.2.1 r hr).2⟩, h.2.2⟩
  have hz : (W.setCell ⟨g, j, none⟩ u).heap.size = W.heap.size := by simp [World.setCell]
  rw [hz]
  exact (h.2.1 r hr).1.setK q
/-- One more has children of its own, which came since W0. -/
theorem KFil.take {W0 W : World} {B n g cap : Nat} {ss : List Kw} {zs : List Value} {lf : Bool} {kv : Value} {ls : List Int} (h0 : ∀ r ∈ ss, ∀ q, r.2.1.ownBlock = some q → q < W0.heap.size) (hB : B ≤ W0.heap.size) (h : KFil W B (.slice (some ⟨g, 0, none⟩) n cap) n ss (.bool lf :: kv :: zs)) (hr : Sli 3 W0.heap.size W.heap.size kv ls.length (icells ls) W) (hm : ls.length ≤ maxLen) : KFil W B (.slice (some ⟨g, 0, none⟩) n cap) n (ss ++ [(lf, kv, ls)]) zs := by
  refine ⟨?_, ?_, ?_⟩
  · have := h.1
    rw [← kncells_snoc, List.append_assoc]
    exact this
  · intro r hr2
    rcases List.mem_append.1 hr2 with hr2 | hr2
    · exact h.2.1 r hr2
    · simp only [List.mem_singleton] at hr2
      subst hr2
      exact ⟨hr.dn hB, hm⟩
  · refine List.pairwise_append.2 ⟨h.2.2, List.pairwise_singleton _ _, ?_⟩
    intro a ha b hb q e1 e2
    simp only [List.mem_singleton] at hb
    subst hb
    have q1 := h0 a ha q e1
    have q2 := (hr.lt q e2).1
    omega
theorem KFil.lt {W : World} {B n : Nat} {v : Value} {ss : List Kw} {zs : List Value} (h : KFil W B v n ss zs) : ∀ r ∈ ss, ∀ q, r.2.1.ownBlock = some q → q < W.heap.size := fun r hr q hq => ((h.2.1 r hr).1.lt q hq).2.1
theorem set_even {ss : List Kw} {k : Nat} (hk : ss.length = k) (a b u : Value) (zs : List Value) : (kncells ss ++ a :: b :: zs).set (k * 2) u = kncells ss ++ u :: b :: zs := by
  rw [List.set_append_right _ _ (by rw [kncells_len, hk]; exact Nat.le_refl _), kncells_len, hk, Nat.sub_self]
  rfl
theorem set_odd {ss : List Kw} {k : Nat} (hk : ss.length = k) (a b u : Value) (zs : List Value) : (kncells ss ++ a :: b :: zs).set (k * 2 + 1) u = kncells ss ++ a :: u :: zs := by
  rw [List.set_append_right _ _ (by rw [kncells_len, hk]; omega), kncells_len, hk, show k * 2 + 1 - k * 2 = 1 by omega]
  rfl
theorem KFil.cell0 {W : World} {B n g cap k : Nat} {ss : List Kw} {a b : Value} {zs : List Value} (h : KFil W B (.slice (some ⟨g, 0, none⟩) n cap) n ss (a :: b :: zs)) (hk : ss.length = k) : W.cell? ⟨g, k * 2, none⟩ = some a := by
  rw [← addr_at]
  refine h.1.cells (g := g) rfl (k * 2) a ?_
  rw [List.getElem?_append_right (by rw [kncells_len, hk]; exact Nat.le_refl _), kncells_len, hk, Nat.sub_self]
  rfl
theorem KFil.cell1 {W : World} {B n g cap k : Nat} {ss : List Kw} {a b : Value} {zs : List Value} (h : KFil W B (.slice (some ⟨g, 0, none⟩) n cap) n ss (a :: b :: zs)) (hk : ss.length = k) : W.cell? ⟨g, k * 2 + 1, none⟩ = some b := by
  rw [← addr_at]
  refine h.1.cells (g := g) rfl (k * 2 + 1) b ?_
  rw [List.getElem?_append_right (by rw [kncells_len, hk]; omega), kncells_len, hk, show k * 2 + 1 - k * 2 = 1 by omega]
  rfl
theorem KFil.fr {W : World} {B n g cap : Nat} {ss : List Kw} {zs : List Value} (h : KFil W B (.slice (some ⟨g, 0, none⟩) n cap) n ss zs) (j : Nat) : W.frozen? ⟨g, j, none⟩ = false := by
  obtain ⟨-, -, cs, q⟩ := own_kind h.1 g rfl
  exact frozen_of_row _ _ j _ _ q

/-- The copy under way. -/
def CaSt (w W : World) (z : Nat) (_av v : Value) (len : Nat) (ss rs : List Kw) : Prop := W.heap[z + 1]? = some (.cells #[.slice none 0 0] 27 (0, 0)) ∧ KFil W (z + 2) v len ss (kncells rs) ∧ Below z w W

set_option maxHeartbeats 1000000 in
set_option maxRecDepth 100000 in
theorem icopied (ad : Option Addr) (len cap : Nat) (rs : List Kw) (w : World) (hl : len ≤ 1048578) (hll : ∀ r ∈ rs, r.2.2.length ≤ 1048576) (h : KnRd w ad len rs) :
    Calls Try.prog 84 #[.agg #[.slice ad len cap]] w fun e w' => ∃ v, e = .returned v ∧ KOut w (rs.map ktell) v w' := by
  have bx : ((w.alloc (.cells #[.slice ad len cap] 27)).alloc (.cells #[.slice none 0 0] 27)).cell? ⟨w.heap.size, 0, none⟩ = some (.slice ad len cap) := by
    refine (((Below.refl _ _).alloc (Nat.le_refl _) _).cell (show w.heap.size < (w.alloc (.cells #[.slice ad len cap] 27)).heap.size by simp)).trans (box_at w _)
  have za : (w.alloc (.cells #[.slice ad len cap] 27)).heap.size = w.heap.size + 1 := by simp
  have R1 := heap_alloc_new (w.alloc (.cells #[.slice ad len cap] 27)) (.cells #[.slice none 0 0] 27)
  rw [za] at R1
  have R1H := hide R1
  have B0 : Hid (Below w.heap.size w ((w.alloc (.cells #[.slice ad len cap] 27)).alloc (.cells #[.slice none 0 0] 27))) := ((Below.refl _ _).alloc (Nat.le_refl _) _).alloc (by simp) _
  have Z0 : Hid (((w.alloc (.cells #[.slice ad len cap] 27)).alloc (.cells #[.slice none 0 0] 27)).heap.size = w.heap.size + 2) := by show _ = _; simp
  have H := hide h
  have HLL := hide hll
  have H1 := hide h.1
  clear h hll za R1
  go_enter Try.func84, Try.ntmps84
  go_wp2_with fail
  generalize (w.alloc (.cells #[.slice ad len cap] 27)).alloc (.cells #[.slice none 0 0] 27) = wb at R1H B0 Z0 bx ⊢
  refine (icl_kns ad len cap rs wb hl (H.out.below B0.out)).mono ?_
  rintro e w1 ⟨v, rfl, ho, b1⟩
  obtain ⟨va, vc, rfl, -⟩ := (Sli.of ho).form
  obtain ⟨z, hz⟩ : ∃ z, w.heap.size = z := ⟨_, rfl⟩
  have HZ := hide hz
  have hz2 := Z0.out
  rw [hz] at R1H hz2 ⊢
  have S0 : Hid (CaSt w w1 z (.slice ad len cap) (.slice va len vc) len [] rs) := by
    refine ⟨(b1.block (z + 1) (by omega)).trans R1H.out, ⟨by rw [← hz2]; exact ho, (fun _ h => by cases h), List.Pairwise.nil⟩, ?_⟩
    have := B0.out.trans (b1.mono B0.out.size)
    rw [hz] at this
    exact this
  clear hz ho b1 bx R1H B0 Z0 hz2
  go_wp2
  go_loopw [10] (fun iv W => ∃ (k : Nat) (ss : List Kw), k ≤ len ∧ iv = .int .i64 k ∧ Hid (ss.length = k ∧ ss.map ktell = (rs.map ktell).take k ∧ CaSt w W z (.slice ad len cap) (.slice va len vc) len ss (rs.drop k))) (fun iv _ => len - (intOf iv).toNat)
  case atStart => exact ⟨0, [], Nat.zero_le _, rfl, rfl, by simp, by rw [List.drop_zero]; exact S0.out⟩
  case round =>
    obtain ⟨k, ss, hk, rfl, HS⟩ := hrel
    clear S0
    obtain ⟨hsl, hst, hca⟩ := HS.out
    have HSL := hide hsl
    have HST := hide hst
    have HC := hide hca
    clear HS hsl hst hca
    by_cases hlt : (k : Int) < len
    · have hkr : k < rs.length := by have := H1.out; omega
      obtain ⟨r, hr⟩ : ∃ r, rs[k]? = some r := ⟨_, List.getElem?_eq_getElem hkr⟩
      have hdr : rs.drop k = r :: rs.drop (k + 1) := by rw [List.drop_eq_getElem_cons hkr, (List.getElem?_eq_some_iff.1 hr).2]
      obtain ⟨lf, kv, ls⟩ := r
      have hf := HC.out.2.1
      rw [hdr, kncells_cons] at hf
      have HF : Hid (KFil wr (z + 2) (.slice va len vc) len ss (.bool lf :: kv :: kncells (rs.drop (k + 1)))) := hf
      obtain ⟨g, rfl⟩ : ∃ g, va = some ⟨g, 0, none⟩ := by
        obtain ⟨ad', c', e, q⟩ := (Sli.of hf.1).form
        injection e with e1 e2 e3
        subst e1
        obtain ⟨g, e, -⟩ := q (by omega)
        exact ⟨g, e⟩
      have hsl : ISl wr kv ls := (H.out.below (by rw [HZ.out]; exact HC.out.2.2)).2.2.1 _ (List.mem_of_getElem? hr)
      have HI := hide hsl
      have hlr := HLL.out _ (List.mem_of_getElem? hr)
      simp only at hlr
      have q1 := HF.out.cell1 HSL.out
      have k0 : (0 : Int) ≤ k := by omega
      have HR := hide hr
      obtain ⟨ka, kc, hkv, -, -⟩ := hsl
      subst hkv
      clear hf hdr hr
      obtain ⟨kl, hkl⟩ : ∃ kl, ls.length = kl := ⟨_, rfl⟩
      rw [hkl] at HF HI q1 HR hlr
      have HKL := hide hkl
      clear hkl
      go_wp2_with fail
      refine (icl_ints _ ls wr (by have := HKL.out; omega) HI.out).mono ?_
      rintro e w2 ⟨nv, rfl, on, b2⟩
      have HN := hide (Sli.of on)
      obtain ⟨na, nc, rfl, -⟩ := (Sli.of on).form
      have HB2 := hide b2
      have HF2 := hide (HF.out.below b2)
      have q2 := HF2.out.cell1 HSL.out
      have f2 := HF2.out.fr (k * 2 + 1)
      have hz2 : z + 2 ≤ wr.heap.size := by have := (own_kind HF.out.1 g rfl).2.1; have := (own_kind HF.out.1 g rfl).1; omega
      have NX : Hid (CaSt w (w2.setCell ⟨g, k * 2 + 1, none⟩ (.slice na ls.length nc)) z (.slice ad len cap) (.slice (some ⟨g, 0, none⟩) len vc) len (ss ++ [(lf, .slice na ls.length nc, ls)]) (rs.drop (k + 1))) := by
        have hg := (own_kind HF.out.1 g rfl)
        obtain ⟨-, -, cs, q⟩ := own_kind HF2.out.1 g rfl
        have hz1 : (w2.setCell ⟨g, k * 2 + 1, none⟩ (.slice na ls.length nc)).heap.size = w2.heap.size := by simp [World.setCell]
        refine ⟨row_set_ne ((HB2.out.block (z + 1) (by omega)).trans HC.out.1) (by omega) _ _, ?_, ?_⟩
        · refine KFil.take (W0 := wr) HF.out.lt hz2 (HF2.out.set (set_odd HSL.out _ _ _ _)) ?_ (by rw [HKL.out]; unfold maxLen; omega)
          rw [hz1]
          exact HN.out.setK q
        · exact (HC.out.2.2.trans (HB2.out.mono (by omega))).setCell (p := ⟨g, k * 2 + 1, none⟩) (by show z ≤ g; omega) _
      have NT : Hid ((ss ++ [(lf, Value.slice na ls.length nc, ls)]).map ktell = (rs.map ktell).take (k + 1)) := by
        show _ = _
        rw [List.map_append, HST.out, List.take_add_one, List.getElem?_map, HR.out]
        rfl
      have NL : Hid ((ss ++ [(lf, Value.slice na ls.length nc, ls)]).length = k + 1) := by show _ = _; rw [List.length_append, HSL.out]; rfl
      rw [HKL.out] at NX NT NL ⊢
      generalize ss ++ [(lf, Value.slice na kl nc, ls)] = ss2 at NX NT NL
      clear on b2 HC HF HF2 HN HI HR q1 HST HSL HB2
      go_wp2
      go_roundw
      case rel => exact ⟨k + 1, ss2, by omega, by go_num, NL.out, NT.out, NX.out⟩
      case measure => simp [intOf]; omega
    · have ek : k = len := by omega
      subst ek
      have KO : Hid (KOwn wr (z + 2) (.slice va k vc) ss) := by
        have := HC.out.2.1
        rw [List.drop_eq_nil_of_le (by have := H1.out; omega)] at this
        refine KFil.own ?_
        rw [HSL.out]
        exact this
      have r0 := cell_of_row _ _ 0 _ _ _ HC.out.1
      have f0 := frozen_of_row _ _ 0 _ _ HC.out.1
      have ET : Hid (ss.map ktell = rs.map ktell) := by
        show _ = _
        rw [HST.out, List.take_of_length_le (by rw [List.length_map]; have := H1.out; omega)]
      go_wp2
      refine bodyPost_ret (results_cell_row rfl _ _ (z + 1) 27 _ (0, 0) _ rfl (row_set HC.out.1 0 (.slice va k vc)) Try.underlying27 rfl infoArc) rfl ⟨_, rfl, .slice va k vc, ss, rfl, ?_, ET.out, ?_⟩
      · rw [HZ.out]
        exact (KO.out.cellB (show z + 1 < z + 2 by omega) _ _).down (by omega)
      · rw [HZ.out]
        exact HC.out.2.2.setCell (p := ⟨z + 1, 0, none⟩) (by show z ≤ z + 1; omega) _
end Go.Proofs.Ytelhejamlmhagaa

/-
  A store that the program works on.
-/
namespace Go.Proofs.Ytelhejamlmhagaa
open Go.RowKit
open Words

theorem sli_ne {lo hi n : Nat} {v : Value} {xs : List Value} {t t' : TypeId} {W : World} {i : Nat} {cs : Array Value} (h : Sli t lo hi v n xs W) (q : W.heap[i]? = some (.cells cs t' (0, 0))) (ht : t ≠ t') : v.ownBlock ≠ some i := by
  intro e
  obtain ⟨-, -, cs', q'⟩ := h.lt i e
  rw [q] at q'
  injection q' with q'
  injection q' with _ q'
  exact ht q'.symm
theorem Sli.other {lo hi n : Nat} {v u : Value} {xs : List Value} {t t' : TypeId} {W : World} {i j : Nat} {cs : Array Value} (h : Sli t lo hi v n xs W) (q : W.heap[i]? = some (.cells cs t' (0, 0))) (ht : t ≠ t') : Sli t lo hi v n xs (W.setCell ⟨i, j, none⟩ u) :=
  h.grown (grown_cell W i j u) (fun _ e e2 => by cases e2; exact sli_ne h q ht e)
theorem KIn.other {lo hi : Nat} {v u : Value} {rs : List Kw} {t' : TypeId} {W : World} {i j : Nat} {cs : Array Value} (h : KIn lo hi v rs W) (q : W.heap[i]? = some (.cells cs t' (0, 0))) (h1 : 110 ≠ t') (h2 : (3 : TypeId) ≠ t') : KIn lo hi v rs (W.setCell ⟨i, j, none⟩ u) :=
  ⟨h.1.other q h1, fun r hr => ⟨(h.2.1 r hr).1.other q h2, (h.2.1 r hr).2⟩, h.2.2⟩
theorem own_other {W : World} {B n i j size : Nat} {v u : Value} {xs : List Value} {t t' : TypeId} {cs : Array Value} (h : W.ownsRow B t size v n xs) (q : W.heap[i]? = some (.cells cs t' (0, 0))) (ht : t ≠ t') : (W.setCell ⟨i, j, none⟩ u).ownsRow B t size v n xs :=
  h.kept (grown_cell W i j u) (.inr (sli_ne (Sli.of h) q ht))

/-- Knots of a store that is worked on: those that came in, or new ones. -/
def KnH (w W : World) (kv : Value) (M : List Kn) : Prop :=
  ∃ ad len cap rs, kv = .slice ad len cap ∧ rs.map ktell = M ∧ len ≤ 1048578 ∧ (∀ r ∈ rs, r.2.2.length ≤ 1048576) ∧ (KnRd w ad len rs ∨ ∃ lo hi, w.heap.size ≤ lo ∧ hi ≤ W.heap.size ∧ KIn lo hi kv rs W ∧ rs.length = len)
theorem KnH.rd {w W : World} {kv : Value} {M : List Kn} (h : KnH w W kv M) (hb : Below w.heap.size w W) : ∃ ad len cap rs, kv = .slice ad len cap ∧ rs.map ktell = M ∧ len ≤ 1048578 ∧ (∀ r ∈ rs, r.2.2.length ≤ 1048576) ∧ KnRd W ad len rs := by
  obtain ⟨ad, len, cap, rs, rfl, h2, h3, h4, h5⟩ := h
  refine ⟨ad, len, cap, rs, rfl, h2, h3, h4, ?_⟩
  rcases h5 with h | ⟨lo, hi, q1, q2, q3, q4⟩
  · exact h.below hb
  · exact q3.rd q4 q2
theorem KnH.below {w W W' : World} {kv : Value} {M : List Kn} (h : KnH w W kv M) (hb : Below W.heap.size W W') : KnH w W' kv M := by
  obtain ⟨ad, len, cap, rs, rfl, h2, h3, h4, h5⟩ := h
  refine ⟨ad, len, cap, rs, rfl, h2, h3, h4, ?_⟩
  rcases h5 with h | ⟨lo, hi, q1, q2, q3, q4⟩
  · exact .inl h
  · have := hb.size
    exact .inr ⟨lo, hi, q1, by omega, KIn.loc _ _ _ _ _ _ (fun g g1 g2 => hb.block g (by omega)) q3, q4⟩
theorem KnH.other {w W : World} {kv u : Value} {M : List Kn} {t' : TypeId} {i j : Nat} {cs : Array Value} (h : KnH w W kv M) (q : W.heap[i]? = some (.cells cs t' (0, 0))) (h1 : 110 ≠ t') (h2 : (3 : TypeId) ≠ t') : KnH w (W.setCell ⟨i, j, none⟩ u) kv M := by
  obtain ⟨ad, len, cap, rs, rfl, h3, h4, h5, h6⟩ := h
  refine ⟨ad, len, cap, rs, rfl, h3, h4, h5, ?_⟩
  rcases h6 with h | ⟨lo, hi, q1, q2, q3, q4⟩
  · exact .inl h
  · exact .inr ⟨lo, hi, q1, by simpa [World.setCell] using q2, q3.other q h1 h2, q4⟩
theorem KnH.form {w W : World} {kv : Value} {M : List Kn} (h : KnH w W kv M) : ∃ ad len cap, kv = .slice ad len cap := by
  obtain ⟨ad, len, cap, rs, h, -⟩ := h
  exact ⟨_, _, _, h⟩

/-- Block p is a store that is worked on. -/
def OpS (w W : World) (p : Nat) (s : Sto) : Prop :=
  Below w.heap.size w W ∧ w.heap.size ≤ p ∧ ∃ kv vv, W.heap[p]? = some (.cells #[kv, vv, .int .i64 s.next] 100 (0, 0)) ∧ W.ownsRow w.heap.size 49 2 vv s.vols.length (vlcells s.vols) ∧ KnH w W kv s.kns
theorem OpS.below {w W W' : World} {p : Nat} {s : Sto} (h : OpS w W p s) (hb : Below W.heap.size W W') : OpS w W' p s := by
  obtain ⟨h1, h2, kv, vv, h3, h4, h5⟩ := h
  have hp := (Array.getElem?_eq_some_iff.1 h3).1
  exact ⟨h1.trans (hb.mono h1.size), h2, kv, vv, (hb.block p hp).trans h3, own_below h4 hb, h5.below hb⟩
theorem OpS.lt {w W : World} {p : Nat} {s : Sto} (h : OpS w W p s) : p < W.heap.size := by
  obtain ⟨-, -, kv, vv, h3, -⟩ := h
  exact (Array.getElem?_eq_some_iff.1 h3).1
/-- Its cells and what they hold. -/
theorem OpS.open {w W : World} {p : Nat} {s : Sto} (h : OpS w W p s) : ∃ ad len cap rs va vl vc, W.heap[p]? = some (.cells #[.slice ad len cap, .slice va vl vc, .int .i64 s.next] 100 (0, 0)) ∧ rs.map ktell = s.kns ∧ len ≤ 1048578 ∧ (∀ r ∈ rs, r.2.2.length ≤ 1048576) ∧ KnRd W ad len rs ∧ VlRow W va vl s.vols ∧ W.ownsRow w.heap.size 49 2 (.slice va vl vc) s.vols.length (vlcells s.vols) ∧ s.vols.length = vl ∧ KnH w W (.slice ad len cap) s.kns := by
  obtain ⟨h1, h2, kv, vv, h3, h4, h5⟩ := h
  obtain ⟨ad, len, cap, rs, rfl, e, h6, h7, h8⟩ := h5.rd h1
  obtain ⟨va, vc, rfl, hv⟩ := VlRow.of_own rfl h4
  exact ⟨ad, len, cap, rs, va, _, vc, h3, e, h6, h7, h8, hv, h4, rfl, h5⟩
theorem ops_cells {W : World} {p : Nat} {a b c : Value} (h : W.heap[p]? = some (.cells #[a, b, c] 100 (0, 0))) : W.cell? ⟨p, 0, none⟩ = some a ∧ W.cell? ⟨p, 1, none⟩ = some b ∧ W.cell? ⟨p, 2, none⟩ = some c ∧ W.frozen? ⟨p, 0, none⟩ = false ∧ W.frozen? ⟨p, 1, none⟩ = false ∧ W.frozen? ⟨p, 2, none⟩ = false :=
  ⟨cell_of_row _ _ 0 _ _ _ h, cell_of_row _ _ 1 _ _ _ h, cell_of_row _ _ 2 _ _ _ h, frozen_of_row _ _ 0 _ _ h, frozen_of_row _ _ 1 _ _ h, frozen_of_row _ _ 2 _ _ h⟩
/-- The volumes' row is another one, the knots stay. -/
theorem OpS.setVols {w W : World} {p : Nat} {s : Sto} (h : OpS w W p s) {vs : List (Int × Int)} {vv : Value} (ho : W.ownsRow w.heap.size 49 2 vv vs.length (vlcells vs)) : OpS w (W.setCell ⟨p, 1, none⟩ vv) p ⟨vs, s.kns, s.next⟩ := by
  obtain ⟨h1, h2, kv, vv0, h3, h4, h5⟩ := h
  exact ⟨h1.setCell (p := ⟨p, 1, none⟩) h2 _, h2, kv, vv, row_set h3 1 _, own_other ho h3 (by decide), h5.other h3 (by decide) (by decide)⟩
theorem OpS.setNext {w W : World} {p : Nat} {s : Sto} (h : OpS w W p s) (n : Int) : OpS w (W.setCell ⟨p, 2, none⟩ (.int .i64 n)) p ⟨s.vols, s.kns, n⟩ := by
  obtain ⟨h1, h2, kv, vv0, h3, h4, h5⟩ := h
  exact ⟨h1.setCell (p := ⟨p, 2, none⟩) h2 _, h2, kv, vv0, row_set h3 2 _, own_other h4 h3 (by decide), h5.other h3 (by decide) (by decide)⟩
theorem OpS.setKns {w W : World} {p : Nat} {s : Sto} (h : OpS w W p s) {kv : Value} {M : List Kn} (hk : KnH w W kv M) : OpS w (W.setCell ⟨p, 0, none⟩ kv) p ⟨s.vols, M, s.next⟩ := by
  obtain ⟨h1, h2, kv0, vv0, h3, h4, h5⟩ := h
  exact ⟨h1.setCell (p := ⟨p, 0, none⟩) h2 _, h2, kv, vv0, row_set h3 0 _, own_other h4 h3 (by decide), hk.other h3 (by decide) (by decide)⟩

set_option maxHeartbeats 1000000 in
set_option maxRecDepth 100000 in
theorem iopened (va : Option Addr) (vl vc : Nat) (ad : Option Addr) (len cap : Nat) (nx : Int) (vs : List (Int × Int)) (rs : List Kw) (w : World) (hvl : vl ≤ 1048576) (hl : len ≤ 1048578) (hll : ∀ r ∈ rs, r.2.2.length ≤ 1048576) (hvc : va = none → vc = 0) (h : VlRow w va vl vs) (hk : KnRd w ad len rs) :
    Calls Try.prog 39 #[.agg (SBox va vl vc ad len cap nx)] w fun e w' => ∃ p, e = .returned (.pointer (some ⟨p, 0, none⟩)) ∧ OpS w w' p ⟨vs, rs.map ktell, nx⟩ := by
  have HVL := hide h.1
  have BX := hide (sbox_at w (.slice va vl vc) (.slice ad len cap) (.int .i64 nx))
  have B0 : Hid (Below w.heap.size w (w.alloc (.cells #[.slice va vl vc, .slice ad len cap, .int .i64 nx] 29))) := (Below.refl _ _).alloc (Nat.le_refl _) _
  have VB := hide (show VlSl w (.slice va vl vc) vs from ⟨va, vc, by rw [h.1], hvc, by rw [h.1]; exact h⟩)
  have KB : Hid (KnH w w (.slice ad len cap) (rs.map ktell)) := ⟨ad, len, cap, rs, rfl, rfl, hl, hll, .inl hk⟩
  clear h hk hll hvc
  unfold SBox
  go_enter Try.func39, Try.ntmps39
  go_wp2_with fail
  have HZ := hide (show w.heap.size < (w.alloc (.cells #[.slice va vl vc, .slice ad len cap, .int .i64 nx] 29)).heap.size by simp)
  generalize w.alloc (.cells #[.slice va vl vc, .slice ad len cap, .int .i64 nx] 29) = wb at BX B0 HZ ⊢
  obtain ⟨z, hz⟩ : ∃ z, w.heap.size = z := ⟨_, rfl⟩
  rw [hz] at BX HZ ⊢
  have HZW := hide hz
  clear hz
  have KK : Hid (∀ W, Below wb.heap.size wb W → W.cell? ⟨z, 0, none⟩ = some (.slice va vl vc) ∧ W.cell? ⟨z, 1, none⟩ = some (.slice ad len cap) ∧ W.cell? ⟨z, 2, none⟩ = some (.int .i64 nx)) := fun W H => ⟨(H.cell (show z < wb.heap.size from HZ.out)).trans BX.out.1, (H.cell (show z < wb.heap.size from HZ.out)).trans BX.out.2.1, (H.cell (show z < wb.heap.size from HZ.out)).trans BX.out.2.2⟩
  have BD : Hid (Below wb.heap.size wb wb.drew) := (Below.refl _ _).drew
  have CL := hide (icl_vols (.slice va vl vc) vs wb.drew (by have := HVL.out; omega) (VB.out.below (B0.out.trans (BD.out.mono B0.out.size))))
  have KP := hide (KK.out _ BD.out)
  go_region_held3 (fun w' => w'.cell? ⟨z, 0, none⟩ = some (.slice va vl vc) ∧ w'.cell? ⟨z, 1, none⟩ = some (.slice ad len cap) ∧ w'.cell? ⟨z, 2, none⟩ = some (.int .i64 nx)) (first | exact KP.out | go_keep) ((go_at_call 80; (with_reducible refine Calls.mono CL.out ?_); rintro en w1 ⟨v1, rfl, o1, b1⟩; (obtain ⟨ua, uc, hv1, -⟩ := (Sli.of o1).form); subst hv1; have O1 := hide o1; have B1 := hide b1; clear KP; have KP := hide (KK.out _ (BD.out.trans (B1.out.mono BD.out.size))); clear o1 b1))
  have BE := hide ((B0.out.trans (BD.out.mono B0.out.size)).trans (B1.out.mono (B0.out.trans (BD.out.mono B0.out.size)).size))
  have BA : Hid (Below w1.heap.size w1 (w1.alloc (.cells #[.slice ad len cap, .slice ua vs.length uc, .int .i64 nx] 100))) := (Below.refl _ _).alloc (Nat.le_refl _) _
  have FIN : Hid (OpS w (w1.alloc (.cells #[.slice ad len cap, .slice ua vs.length uc, .int .i64 nx] 100)) w1.heap.size ⟨vs, rs.map ktell, nx⟩) := by
    have h1 := BE.out.size
    refine ⟨BE.out.trans (BA.out.mono h1), h1, _, _, heap_alloc_new w1 _, own_lower (own_below O1.out BA.out) (by have := B0.out.size; have := BD.out.size; omega), ?_⟩
    obtain ⟨ad', len', cap', rs', e1, e2, e3, e4, e5⟩ := KB.out
    refine ⟨ad', len', cap', rs', e1, e2, e3, e4, ?_⟩
    rcases e5 with e | ⟨lo, hi, q1, q2, q3, q4⟩
    · exact .inl e
    · have := BE.out.size
      have := BA.out.size
      exact .inr ⟨lo, hi, q1, by omega, KIn.loc _ _ _ _ _ _ (fun g g1 g2 => ((BE.out.trans (BA.out.mono h1)).block g (by omega))) q3, q4⟩
  go_wp2
  go_ret
  exact ⟨_, rfl, FIN.out⟩
end Go.Proofs.Ytelhejamlmhagaa
