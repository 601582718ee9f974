/-
  impl.SweepArena.
-/
import Derived.Test.YtcnaahajaaifjabISwept
import Derived.Test.YtcnaahajaaifjabPq37
namespace Go.Proofs.Ytcnaahajaaifjab
open Go.RowKit
open Words

theorem swK_eq {u : Nat → Bool} {l : List Kn} {k : Nat} (hk : k ≤ l.length) {j i : Nat} {x : Kn} (hi : i < k) (hu : u i = true) (hj : swN u i = j) (hx : l[i]? = some x) : (swK u l k)[j]? = some (swX u x) := by
  rw [← hj]
  exact swK_at hk hi hu hx
/-- What is left, read as an arena, is what is swept. -/
theorem swept_kids {lo : Nat} {w W : World} {fv tv : Value} {bs ts : List Nat} {L : List Kn} {rs : List Int} (ht : TrsOk L rs) (h : SwSt lo w W fv bs L tv ts rs (swU L rs) (pK (swU L rs) L.length)) :
    FAt W (swG (swU L rs) bs L.length) (swG (swU L rs) (lksU bs L (swU L rs) (pK (swU L rs) L.length)) L.length) ∧ ∀ (j : Nat) (x : Lk) (y : Kn), (swG (swU L rs) (lksU bs L (swU L rs) (pK (swU L rs) L.length)) L.length)[j]? = some x → (swL L rs)[j]? = some y → x.leaf = y.leaf ∧ KidsR W x y.kids := by
  have hf := h.2.2.1
  have hbl : bs.length = L.length := by rw [hf.1, lksU_len]
  have hxl : (lksU bs L (swU L rs) (pK (swU L rs) L.length)).length = L.length := lksU_len _ _ _ _
  refine ⟨⟨by rw [swG_len (by omega), swG_len (by omega)], fun j b x h1 h2 => ?_⟩, fun j x y h1 h2 => ?_⟩
  · have hj := (List.getElem?_eq_some_iff.1 h1).1
    rw [swG_len (by omega)] at hj
    obtain ⟨i, hi, hu, rfl⟩ := swN_back hj
    rw [swG_at (by omega) hi hu] at h1 h2
    exact hf.2 i b x h1 h2
  · obtain ⟨i, k, hk, hu, hj, rfl⟩ := swL_back h2
    have hi := (List.getElem?_eq_some_iff.1 hk).1
    rw [← hj, swG_at (by omega) hi hu, lksU_some hk] at h1
    cases h1
    refine ⟨by rw [swX_leaf]; exact lkOf_leaf _ _ _, ?_⟩
    unfold KidsR
    have hlf : (lkU bs (swU L rs) (pK (swU L rs) L.length) i k).leaf = k.leaf := lkOf_leaf _ _ _
    rw [hlf]
    cases hl : k.leaf with
    | true =>
      rw [if_pos rfl, swX, if_pos hl]
      show k.kids = (lkOf bs i k).nums
      unfold lkOf
      rw [if_pos hl]
    | false =>
      rw [if_neg (by decide), swX, if_neg (by rw [hl]; decide)]
      refine ⟨by rw [List.length_map]; exact knB_len (arB_at ht.1 hk), fun q o ho => ?_⟩
      have e : (lkU bs (swU L rs) (pK (swU L rs) L.length) i k).tos = k.kids.map (kidP bs) := by show (lkOf bs i k).tos = _; unfold lkOf; rw [if_neg (by rw [hl]; decide)]
      rw [e, List.getElem?_map, Option.map_eq_some_iff] at ho
      obtain ⟨n, hn, rfl⟩ := ho
      have hq := (List.getElem?_eq_some_iff.1 hn).1
      rw [knB_len (arB_at ht.1 hk)] at hq
      obtain ⟨n', hn', hc⟩ := inner_kid ht.1 (r := (i : Int)) (by rw [Int.toNat_natCast]; exact hk) hl hq
      rw [hn] at hn'
      cases hn'
      refine ⟨swP (swU L rs) n, by rw [List.getElem?_map, hn]; rfl, ?_⟩
      rcases hc with rfl | ⟨h0, -, z, hz, -⟩
      · exact .inl ⟨rfl, swP_neg _ (by omega)⟩
      · obtain ⟨m, rfl⟩ : ∃ m : Nat, n = (m : Int) := ⟨n.toNat, by omega⟩
        rw [Int.toNat_natCast] at hz
        have hm := (List.getElem?_eq_some_iff.1 hz).1
        have hum := swU_kid ht hk hl hu hq hn
        have hbm : bs[m]? = some bs[m] := List.getElem?_eq_getElem (by omega)
        have hat := hf.2 m _ _ hbm (lksU_some hz)
        refine .inr ⟨bs[m], by rw [kidP, if_neg (by omega), Int.toNat_natCast, hbm], ?_, hat.lt⟩
        rw [hat.place, swP_pos]
        show some (Value.int .i64 (pK (swU L rs) L.length m)) = _
        rw [pK, if_pos ⟨hm, hum⟩]
/-- A tree's place then. -/
theorem swept_place {lo : Nat} {w W : World} {fv tv : Value} {bs ts : List Nat} {L : List Kn} {rs : List Int} (ht : TrsOk L rs) (h : SwSt lo w W fv bs L tv ts rs (swU L rs) (pK (swU L rs) L.length)) (htb : ∀ (k t q : Nat), ts[k]? = some t → rs[k]? = some (q : Int) → bs[q]? = some t) {k t : Nat} {r : Int} (h1 : ts[k]? = some t) (h2 : rs[k]? = some r) :
    ∃ x, LkAt W t x ∧ x.place = swP (swU L rs) r := by
  have hr := List.mem_of_getElem? h2
  rcases rootB_yes (ht.2 r hr) with rfl | ⟨m, y, rfl, hy, hl⟩
  · exact ⟨lkNone, (h.2.2.2.1 k t h1 h2).1, (swP_neg _ (show (-1 : Int) < 0 by omega)).symm⟩
  · refine ⟨_, h.2.2.1.2 m t _ (htb k t m h1 h2) (lksU_some hy), ?_⟩
    have hu := swU_root (l := L) hr (by omega)
    rw [Int.toNat_natCast] at hu
    rw [swP_pos]
    show pK (swU L rs) L.length m = _
    rw [pK, if_pos ⟨(List.getElem?_eq_some_iff.1 hy).1, hu⟩]
theorem lk_ne_int {W : World} {b g : Nat} {x : Lk} {cs : Array Value} (h : LkAt W b x) (q : W.heap[g]? = some (.cells cs 3 (0, 0))) : b ≠ g := by
  intro e
  have := h.1
  rw [e, q] at this
  injection this with this
  injection this with _ this
  simp at this
/-- A number elsewhere is written. -/
theorem SwSt.cellI {lo : Nat} {w W : World} {fv tv : Value} {bs ts : List Nat} {L : List Kn} {rs : List Int} {u : Nat → Bool} {p : Nat → Int} {g j : Nat} {c : Value} {cs : Array Value} (h : SwSt lo w W fv bs L tv ts rs u p) (q : W.heap[g]? = some (.cells cs 3 (0, 0))) (hlo : lo ≤ g) : SwSt lo w (W.setCell ⟨g, j, none⟩ c) fv bs L tv ts rs u p := by
  have far : ∀ {v : Value} {n : Nat} {xs : List Value}, W.ownsRow lo 103 1 v n xs → (W.setCell ⟨g, j, none⟩ c).ownsRow lo 103 1 v n xs := by
    intro v n xs ho
    refine ho.kept (grown_cell W g j c) (.inr (fun e => ?_))
    obtain ⟨-, -, cs', q'⟩ := own_kind ho g e
    rw [q] at q'
    injection q' with q'
    injection q' with _ q'
    simp at q'
  exact ⟨far h.1, far h.2.1, ⟨h.2.2.1.1, fun i b x h1 h2 => (h.2.2.1.2 i b x h1 h2).other (lk_ne_int (h.2.2.1.2 i b x h1 h2) q) _⟩, fun i t h1 h2 => ⟨(h.2.2.2.1 i t h1 h2).1.other (lk_ne_int (h.2.2.2.1 i t h1 h2).1 q) _, (h.2.2.2.1 i t h1 h2).2⟩, h.2.2.2.2.setCell (p := ⟨g, j, none⟩) hlo _⟩
theorem sli_rep (n : Nat) (l : List Int) (k : Nat) (hk : k ≤ n) (hl : l.length = n) : (l.take k ++ (List.replicate n (0 : Int)).drop k).length = n := by simp; omega

/-- The places of the roots, under way. -/
def SlSt (w : World) (lo : Nat) (w2 W : World) (a0 g z : Nat) (av uv fv : Value) (bs : List Nat) (L : List Kn) (tv : Value) (ts : List Nat) (qs : List Int) (m : Nat) (xs : List Int) : Prop :=
  W.ownsRow (g + 1) 3 1 (.slice (some ⟨g + 1, 0, none⟩) m m) m (icells xs) ∧ SwSt lo w2 W fv bs L tv ts qs (swU L qs) (pK (swU L qs) L.length) ∧ W.heap[g]? = some (.cells #[uv] 33 (0, 0)) ∧ Kns a0 g uv (swL L qs) W ∧ PSt w W z av

end Go.Proofs.Ytcnaahajaaifjab
