/-
  HpMath; PlMath; PoMath; RcMath; TxMath
-/
import Derived.Test.YtfmnaidhfgmemaaGreatDoorPk7
import Derived.Test.YtfmnaidhfgmemaaGreatDoorPk3
namespace Go.Proofs.YtfmnaidhfgmemaaGreatDoor
abbrev Wb := Int × Int
abbrev ltW (a b : Wb) : Prop := a.2 < b.2 ∨ a.2 = b.2 ∧ a.1 < b.1
theorem nlt_trans {a b c : Wb} (h : ¬ ltW b a) (k : ¬ ltW c b) : ¬ ltW c a := by unfold ltW at *; omega
theorem ltW_asym {a b : Wb} (h : ltW a b) : ¬ ltW b a := by unfold ltW at *; omega
theorem nlt_lt {a b c : Wb} (h : ¬ ltW c b) (k : ltW a b) : ¬ ltW c a := by unfold ltW at *; omega
theorem nlt_self (a : Wb) : ¬ ltW a a := by unfold ltW; omega
def Heapy (D : List Wb) : Prop := ∀ (k : Nat) (x y : Wb), 0 < k → D[k]? = some x → D[(k - 1) / 2]? = some y → ¬ ltW x y
def HeapBut (D : List Wb) (j : Nat) : Prop := (∀ (k : Nat) (x y : Wb), 0 < k → k ≠ j → D[k]? = some x → D[(k - 1) / 2]? = some y → ¬ ltW x y) ∧
  ∀ (k : Nat) (x y : Wb), 0 < k → 0 < j → (k - 1) / 2 = j → D[k]? = some x → D[(j - 1) / 2]? = some y → ¬ ltW x y
theorem Heapy.nil : Heapy [] := by intro k x y _ h; simp at h
theorem Heapy.root {D : List Wb} (h : Heapy D) {r : Wb} (hr : D[0]? = some r) : ∀ (k : Nat) (x : Wb), D[k]? = some x → ¬ ltW x r := by
  intro k
  induction k using Nat.strongRecOn with
  | ind k ih =>
    intro x hx
    by_cases h0 : k = 0
    · subst h0
      rw [hr] at hx
      cases hx
      exact nlt_self _
    · have hl := (List.getElem?_eq_some_iff.1 hx).1
      have hp : D[(k - 1) / 2]? = some D[(k - 1) / 2] := List.getElem?_eq_getElem (by omega)
      exact nlt_trans (ih _ (by omega) _ hp) (h k x _ (by omega) hx hp)
theorem Heapy.push {D : List Wb} (h : Heapy D) (x : Wb) : HeapBut (D ++ [x]) D.length := by
  refine ⟨fun k u v h0 hk hu hv => ?_, fun k u v h0 hj hk hu hv => ?_⟩
  · have hl := (List.getElem?_eq_some_iff.1 hu).1
    simp only [List.length_append, List.length_cons, List.length_nil] at hl
    rw [List.getElem?_append_left (by omega)] at hu hv
    exact h k u v h0 hu hv
  · have hl := (List.getElem?_eq_some_iff.1 hu).1
    simp only [List.length_append, List.length_cons, List.length_nil] at hl
    omega
theorem HeapBut.done {D : List Wb} {j : Nat} (h : HeapBut D j) (hj : j = 0 ∨ ∃ x y, D[j]? = some x ∧ D[(j - 1) / 2]? = some y ∧ ¬ ltW x y) : Heapy D := by
  intro k x y h0 hx hy
  by_cases e : k = j
  · subst e
    rcases hj with hj | ⟨x', y', hx', hy', hn⟩
    · omega
    · rw [hx] at hx'
      rw [hy] at hy'
      cases hx'
      cases hy'
      exact hn
  · exact h.1 k x y h0 e hx hy
def swp (D : List Wb) (i j : Nat) (a b : Wb) : List Wb := (D.set i b).set j a
theorem swp_len (D : List Wb) (i j : Nat) (a b : Wb) : (swp D i j a b).length = D.length := by simp [swp]
theorem swp_at {D : List Wb} {i j : Nat} {a b : Wb} (ha : D[i]? = some a) (hb : D[j]? = some b) (k : Nat) : (swp D i j a b)[k]? = if k = j then some a else if k = i then some b else D[k]? := by
  have h1 := (List.getElem?_eq_some_iff.1 ha).1
  have h2 := (List.getElem?_eq_some_iff.1 hb).1
  unfold swp
  by_cases e : k = j
  · subst e
    rw [if_pos rfl, List.getElem?_set_self (by simpa using h2)]
  · rw [if_neg e, List.getElem?_set_ne (fun q => e q.symm)]
    by_cases e2 : k = i
    · subst e2
      rw [if_pos rfl, List.getElem?_set_self h1]
    · rw [if_neg e2, List.getElem?_set_ne (fun q => e2 q.symm)]
theorem swp_mem {D : List Wb} {i j : Nat} {a b : Wb} (ha : D[i]? = some a) (hb : D[j]? = some b) (x : Wb) : x ∈ swp D i j a b ↔ x ∈ D := by
  constructor
  · intro h
    obtain ⟨k, hk, e⟩ := List.getElem_of_mem h
    have e2 := List.getElem?_eq_some_iff.2 ⟨hk, e⟩
    rw [swp_at ha hb] at e2
    by_cases q : k = j
    · rw [if_pos q] at e2
      cases e2
      exact List.mem_of_getElem? ha
    · rw [if_neg q] at e2
      by_cases q2 : k = i
      · rw [if_pos q2] at e2
        cases e2
        exact List.mem_of_getElem? hb
      · rw [if_neg q2] at e2
        exact List.mem_of_getElem? e2
  · intro h
    obtain ⟨k, hk, e⟩ := List.getElem_of_mem h
    have e2 := List.getElem?_eq_some_iff.2 ⟨hk, e⟩
    by_cases q : k = j
    · subst q
      rw [hb] at e2
      cases e2
      by_cases q2 : i = k
      · subst q2
        rw [hb] at ha
        cases ha
        exact List.mem_of_getElem? (i := i) (by rw [swp_at hb hb, if_pos rfl])
      · exact List.mem_of_getElem? (i := i) (by rw [swp_at ha hb, if_neg q2, if_pos rfl])
    · by_cases q2 : k = i
      · subst q2
        rw [ha] at e2
        cases e2
        exact List.mem_of_getElem? (i := j) (by rw [swp_at ha hb, if_pos rfl])
      · exact List.mem_of_getElem? (i := k) (by rw [swp_at ha hb, if_neg q, if_neg q2]; exact e2)
theorem HeapBut.step {D : List Wb} {i j : Nat} {a b : Wb} (h : HeapBut D j) (hj : 0 < j) (hi : (j - 1) / 2 = i) (ha : D[i]? = some a) (hb : D[j]? = some b) (hlt : ltW b a) : HeapBut (swp D i j a b) i := by
  obtain ⟨h1, h2⟩ := h
  have hij : i ≠ j := by omega
  refine ⟨fun k x y h0 hk hx hy => ?_, fun k x y h0 h0i hk hx hy => ?_⟩
  · rw [swp_at ha hb] at hx hy
    by_cases e : k = j
    · subst e
      rw [if_pos rfl] at hx
      rw [hi, if_neg hij, if_pos rfl] at hy
      cases hx
      cases hy
      exact ltW_asym hlt
    · rw [if_neg e, if_neg hk] at hx
      by_cases e2 : (k - 1) / 2 = j
      · rw [if_pos e2] at hy
        cases hy
        exact h2 k x a h0 hj e2 hx (by rw [hi]; exact ha)
      · rw [if_neg e2] at hy
        by_cases e3 : (k - 1) / 2 = i
        · rw [if_pos e3] at hy
          cases hy
          exact nlt_lt (h1 k x a h0 e hx (by rw [e3]; exact ha)) hlt
        · rw [if_neg e3] at hy
          exact h1 k x y h0 e hx hy
  · rw [swp_at ha hb] at hx hy
    rw [if_neg (by omega), if_neg (by omega)] at hy
    have hp := h1 i a y h0i hij ha hy
    by_cases e : k = j
    · subst e
      rw [if_pos rfl] at hx
      cases hx
      exact hp
    · rw [if_neg e, if_neg (by omega)] at hx
      exact nlt_trans hp (h1 k x a h0 e hx (by rw [hk]; exact ha))
def IsLeast (L : List Wb) (b : Wb) : Prop := b ∈ L ∧ ∀ x ∈ L, ¬ ltW x b
theorem IsLeast.eq {L : List Wb} {a b : Wb} (h : IsLeast L a) (k : IsLeast L b) : a = b := by
  have h1 := h.2 b k.1
  have h2 := k.2 a h.1
  unfold ltW at h1 h2
  exact Prod.ext (by omega) (by omega)
def leastW : List Wb → Option Wb
  | [] => none
  | x :: l => match leastW l with
    | none => some x
    | some y => if ltW y x then some y else some x
theorem leastW_some {L : List Wb} (h : L ≠ []) : ∃ b, leastW L = some b ∧ IsLeast L b := by
  induction L with
  | nil => exact absurd rfl h
  | cons x l ih =>
    by_cases e : l = []
    · subst e
      exact ⟨x, rfl, List.mem_singleton.2 rfl, fun y hy => by rw [List.mem_singleton] at hy; subst hy; exact nlt_self _⟩
    · obtain ⟨y, h1, h2, h3⟩ := ih e
      by_cases hlt : ltW y x
      · refine ⟨y, by simp only [leastW, h1, if_pos hlt], List.mem_cons_of_mem _ h2, fun z hz => ?_⟩
        rcases List.mem_cons.1 hz with rfl | hz
        · exact ltW_asym hlt
        · exact h3 z hz
      · refine ⟨x, by simp only [leastW, h1, if_neg hlt], List.mem_cons_self, fun z hz => ?_⟩
        rcases List.mem_cons.1 hz with rfl | hz
        · exact nlt_self _
        · exact nlt_trans hlt (h3 z hz)
theorem IsLeast.is {L : List Wb} {b : Wb} (h : IsLeast L b) : leastW L = some b := by
  obtain ⟨c, h1, h2⟩ := leastW_some (L := L) (fun e => by subst e; cases h.1)
  rw [h1, h.eq h2]
def wearOf (bs : List Bk) (i : Int) : Int := match bs[i.toNat]? with | some b => b.2.1 | none => 0
def wearL (bs : List Bk) (l : List Int) : List Wb := l.map (fun i => (i, wearOf bs i))
def leafs (bs : List Bk) (i : Int) : List (Int × ByteArray) := match bs[i.toNat]? with | some b => b.2.2 | none => []
def placeF (bs : List Bk) : Int × Int × Bool :=
  if flOk bs then
    if 0 ≤ openF bs then (openF bs, (nextB (leafs bs (openF bs)) : Nat), true)
    else match leastW (wearL bs (freeL bs)) with
      | some b => (b.1, 0, true)
      | none => (0, 0, false)
  else (0, 0, false)
end Go.Proofs.YtfmnaidhfgmemaaGreatDoor

namespace Go.Proofs.YtfmnaidhfgmemaaGreatDoor
theorem place_no {bs : List Bk} (h : flOk bs = false) : placeF bs = (0, 0, false) := by unfold placeF; rw [h]; rfl
theorem place_open {bs : List Bk} {k : Nat} {b : Bk} (h : flOk bs = true) (hk : openF bs = k) (hb : bs[k]? = some b) : placeF bs = ((k : Int), ((nextB b.2.2 : Nat) : Int), true) := by
  unfold placeF leafs
  rw [h, hk, if_pos rfl, if_pos (by omega), Int.toNat_natCast, hb]
theorem place_least {bs : List Bk} {r : Wb} (h : flOk bs = true) (hk : openF bs = -1) (hr : IsLeast (wearL bs (freeL bs)) r) : placeF bs = (r.1, 0, true) := by
  unfold placeF
  rw [h, hk, if_pos rfl, if_neg (by omega), hr.is]
theorem place_full {bs : List Bk} (h : flOk bs = true) (hk : openF bs = -1) (hr : freeL bs = []) : placeF bs = (0, 0, false) := by
  unfold placeF
  rw [h, hk, if_pos rfl, if_neg (by omega), hr]
  rfl
theorem flOk_len {bs : List Bk} (h : flOk bs = true) : 3 ≤ bs.length ∧ bs.length ≤ 10 := by
  simp only [flOk, Bool.and_eq_true, decide_eq_true_eq] at h
  exact h.1
end Go.Proofs.YtfmnaidhfgmemaaGreatDoor

namespace Go.Proofs.YtfmnaidhfgmemaaGreatDoor
theorem blank_next {ls : List (Int × ByteArray)} (h : 0 < blanks ls) : nextB ls < ls.length ∧ ∃ t, ls[nextB ls]? = some t ∧ t.1 = 0 := by
  have h1 : ∃ t ∈ ls, (t.1 == 0) = true := by
    unfold blanks at h
    exact List.countP_pos_iff.1 h
  have h2 : ls.findIdx (fun t => t.1 == 0) < ls.length := List.findIdx_lt_length.2 h1
  have e : nextB ls = ls.findIdx (fun t => t.1 == 0) := by simp only [nextB]; rw [if_pos h2]
  have h3 := List.findIdx_getElem (w := h2)
  rw [e]
  exact ⟨h2, _, List.getElem?_eq_getElem h2, by simpa using h3⟩
theorem blanks_all {ls : List (Int × ByteArray)} (h : blanks ls = ls.length) (hl : 0 < ls.length) : nextB ls = 0 := by
  unfold blanks at h
  rw [List.countP_eq_length] at h
  have h0 : ls[0]? = some ls[0] := List.getElem?_eq_getElem hl
  exact nextB_at h0 (by simpa using h _ (List.mem_of_getElem? h0)) (fun j u hj => by omega)
theorem roomTo_none {bs : List Bk} (h : ∀ (i : Nat) (b : Bk), bs[i]? = some b → b.1 = true ∨ blanks b.2.2 = 0) (n : Nat) : roomTo bs n = 0 := by
  induction n with
  | zero => rfl
  | succ n ih =>
    simp only [roomTo, ih]
    cases hb : bs[n]? with
    | none => rfl
    | some b =>
      simp only
      rcases h n b hb with h | h
      · simp [h]
      · simp [h]
theorem roomTo_some {bs : List Bk} {k : Nat} {b : Bk} (hb : bs[k]? = some b) (h1 : b.1 = false) (h2 : 0 < blanks b.2.2) (n : Nat) (hn : k < n) : 0 < roomTo bs n := by
  induction n with
  | zero => omega
  | succ n ih =>
    by_cases e : k = n
    · subst e
      rw [roomTo_yes hb h1]
      omega
    · have := ih (by omega)
      simp only [roomTo]
      omega
theorem place_math {bs : List Bk} (hok : flOk bs = true) (h4 : ∀ b ∈ bs, b.2.2.length = 4) :
    (placeF bs = (0, 0, false) ∧ roomF bs = 0 ∧ openF bs = -1 ∧ freeL bs = []) ∨
    ∃ (k : Nat) (b : Bk), bs[k]? = some b ∧ b.1 = false ∧ nextB b.2.2 < 4 ∧ (∃ t, b.2.2[nextB b.2.2]? = some t ∧ t.1 = 0) ∧ placeF bs = ((k : Int), ((nextB b.2.2 : Nat) : Int), true) ∧ 0 < roomF bs ∧ (openF bs = (k : Int) ∨ openF bs = -1 ∧ (k : Int) ∈ freeL bs) := by
  rcases openF_cases bs with ⟨ho, hno⟩ | ⟨k, b, ho, hb, hop, -⟩
  · by_cases hf : freeL bs = []
    · left
      refine ⟨place_full hok ho hf, roomTo_none (fun i b hb => ?_) _, ho, hf⟩
      have h1 := hno i b hb
      have h2 : freeB b = false := by
        cases hq : freeB b with
        | false => rfl
        | true =>
          have := freeTo_has (k := bs.length) (List.getElem?_eq_some_iff.1 hb).1 hb hq
          change (i : Int) ∈ freeL bs at this
          rw [hf] at this
          cases this
      unfold openB at h1
      unfold freeB at h2
      have h3 := blanks_le b.2.2
      cases hb1 : b.1 with
      | true => exact Or.inl rfl
      | false =>
        right
        rw [hb1] at h1 h2
        simp at h1 h2
        omega
    · right
      obtain ⟨r, -, hr⟩ := leastW_some (L := wearL bs (freeL bs)) (fun e => hf (by simpa [wearL] using e))
      obtain ⟨x, hx, e⟩ := List.mem_map.1 hr.1
      obtain ⟨p, e2, hp, b, hb, hfb⟩ := freeTo_mem hx
      subst e2
      have hlen := h4 b (List.mem_of_getElem? hb)
      unfold freeB at hfb
      simp only [Bool.and_eq_true, Bool.not_eq_true', decide_eq_true_eq] at hfb
      have hpos : 0 < blanks b.2.2 := by rw [hfb.2, hlen]; omega
      have hnx := blanks_all hfb.2 (by omega)
      obtain ⟨h5, h6⟩ := blank_next hpos
      refine ⟨p, b, hb, hfb.1, by omega, h6, ?_, roomTo_some hb hfb.1 hpos _ hp, Or.inr ⟨ho, hx⟩⟩
      rw [place_least hok ho hr, hnx, ← e]
      rfl
  · right
    have hlen := h4 b (List.mem_of_getElem? hb)
    have hop2 := hop
    unfold openB at hop2
    simp only [Bool.and_eq_true, Bool.not_eq_true', decide_eq_true_eq] at hop2
    obtain ⟨h5, h6⟩ := blank_next hop2.2.1
    exact ⟨k, b, hb, hop2.1, by omega, h6, place_open hok ho hb, roomTo_some hb hop2.1 hop2.2.1 _ (List.getElem?_eq_some_iff.1 hb).1, Or.inl ho⟩
end Go.Proofs.YtfmnaidhfgmemaaGreatDoor

namespace Go.Proofs.YtfmnaidhfgmemaaGreatDoor.Words
structure Rc where
  kind : Int
  vol : Int
  arg : Int
  chunk : Int
def Rc.tu (r : Rc) : Int × Int × Int × Int := (r.kind, r.vol, r.arg, r.chunk)
def Rc.Right (r : Rc) : Prop :=
  (0 ≤ r.arg ∧ r.arg ≤ 1000000000) ∧ (r.kind = 1 ∧ r.vol = 0 ∧ r.chunk = 0 ∨ (1 ≤ r.vol ∧ r.vol ≤ 9) ∧ (r.kind = 2 ∧ r.arg ≤ 9 ∧ r.chunk = 0 ∨ r.kind = 3 ∧ r.arg = 0 ∧ r.chunk = 0 ∨ r.kind = 4 ∧ r.arg < 16 ∧ 1 ≤ r.chunk ∧ r.chunk ≤ 1000000000 ∨ r.kind = 5 ∧ r.arg < 16 ∧ r.chunk = 0))
abbrev Rc.decR (r : Rc) : Decidable r.Right := by unfold Rc.Right; exact inferInstance
def recL (r : Rc) : List UInt8 := UInt8.ofNat (16 * r.kind + r.vol).toNat :: (varL r.arg.toNat ++ varL r.chunk.toNat)
def recA (r : Rc) : ByteArray := (byteA (16 * r.kind + r.vol).toNat ++ varA r.arg.toNat) ++ varA r.chunk.toNat
theorem recA_list (r : Rc) : (recA r).data.toList = recL r := by
  simp [recA, recL, byteA, varA, ByteArray.data_append]
theorem recL_len (r : Rc) (h : r.Right) : 3 ≤ (recL r).length ∧ (recL r).length ≤ 19 := by
  obtain ⟨h1, h2⟩ := h
  have a := varL_len r.arg.toNat (by omega)
  have b := varL_len r.chunk.toNat (by omega)
  simp only [recL, List.length_cons, List.length_append]
  omega
def recsL : List Rc → List UInt8
  | [] => []
  | r :: l => recL r ++ recsL l
theorem recsL_append (a b : List Rc) : recsL (a ++ b) = recsL a ++ recsL b := by
  induction a with
  | nil => rfl
  | cons r a ih => simp only [List.cons_append, recsL, ih, List.append_assoc]
theorem recsL_snoc (a : List Rc) (r : Rc) : recsL (a ++ [r]) = recsL a ++ recL r := by
  rw [recsL_append]; simp [recsL]
end Go.Proofs.YtfmnaidhfgmemaaGreatDoor.Words

namespace Go.Proofs.YtfmnaidhfgmemaaGreatDoor.Words
def recsB (l : List Rc) : ByteArray := ⟨(recsL l).toArray⟩
theorem recsB_size (l : List Rc) : (recsB l).size = (recsL l).length := by show (recsL l).toArray.size = _; simp
theorem recsB_snoc (l : List Rc) (r : Rc) : recsB l ++ recA r = recsB (l ++ [r]) := by
  apply ba_ext
  rw [ByteArray.data_append, Array.toList_append, recA_list]
  show (recsL l).toArray.toList ++ recL r = (recsL (l ++ [r])).toArray.toList
  rw [recsL_snoc]
theorem recsB_one (r : Rc) : recsB [r] = recA r := by
  apply ba_ext
  rw [recA_list]
  show recL r ++ [] = _
  simp
def pkStep (s : List (List Rc) × List Rc) (r : Rc) : List (List Rc) × List Rc :=
  if 90 < (recsL s.2).length + (recL r).length then (s.1 ++ [s.2], [r]) else (s.1, s.2 ++ [r])
def pk (l : List Rc) : List (List Rc) × List Rc := l.foldl pkStep ([], [])
def pkG (l : List Rc) : List (List Rc) := (pk l).1 ++ [(pk l).2]
theorem pk_nil : pk [] = ([], []) := rfl
theorem pk_snoc (l : List Rc) (r : Rc) : pk (l ++ [r]) = pkStep (pk l) r := by simp [pk, List.foldl_append]
theorem pk_take {l : List Rc} {k : Nat} {r : Rc} (h : l[k]? = some r) : pk (l.take (k + 1)) = pkStep (pk (l.take k)) r := by
  rw [List.take_add_one, h]
  exact pk_snoc _ _
theorem pkG_pos (l : List Rc) : 0 < (pkG l).length := by simp [pkG]
theorem snoc_ind {α : Type} {P : List α → Prop} (h0 : P []) (h1 : ∀ l r, P l → P (l ++ [r])) : ∀ l, P l := by
  intro l
  have : ∀ m : List α, P m.reverse := by
    intro m
    induction m with
    | nil => simpa using h0
    | cons a m ih => rw [List.reverse_cons]; exact h1 _ _ ih
  simpa using this l.reverse
theorem pk_small (l : List Rc) (h : ∀ r ∈ l, r.Right) : ∀ g ∈ pkG l, (recsL g).length ≤ 90 := by
  induction l using snoc_ind with
  | h0 => intro g hg; simp [pkG, pk_nil] at hg; subst hg; simp [recsL]
  | h1 l r ih =>
    have ih' := ih (fun x hx => h x (by simp [hx]))
    have hr := recL_len r (h r (by simp))
    unfold pkG at *
    rw [pk_snoc]
    unfold pkStep
    intro g hg
    split at hg
    · simp only [List.mem_append, List.mem_singleton] at hg ih'
      rcases hg with (hg | hg) | hg
      · exact ih' g (.inl hg)
      · exact ih' g (.inr hg)
      · subst hg; simp only [recsL, List.append_nil]; omega
    · simp only [List.mem_append, List.mem_singleton] at hg ih'
      rcases hg with hg | hg
      · exact ih' g (.inl hg)
      · subst hg; rw [recsL_snoc, List.length_append]; omega
def TxOk (seq tx : Int) (l : List Rc) : Prop :=
  (∀ r ∈ l, r.Right) ∧ (pkG l).length ≤ 9 ∧ 1 ≤ seq ∧ seq ≤ 1000000000 - (pkG l).length + 1 ∧ 1 ≤ tx ∧ tx ≤ 1000000000
abbrev decTx (seq tx : Int) (l : List Rc) : Decidable (TxOk seq tx l) := by unfold TxOk; exact @instDecidableAnd _ _ (@List.decidableBAll _ _ (fun r => r.decR) l) _
def pgTx (seq tx : Int) (n : Nat) (i : Nat) (g : List Rc) : Pg := ⟨2, seq + i, tx, i, n, recsB g⟩
def txPgs (seq tx : Int) (l : List Rc) : List Pg := (pkG l).mapIdx (pgTx seq tx (pkG l).length)
theorem txPgs_len (seq tx : Int) (l : List Rc) : (txPgs seq tx l).length = (pkG l).length := by simp [txPgs]
theorem txPgs_get {seq tx : Int} {l : List Rc} {i : Nat} {g : List Rc} (h : (pkG l)[i]? = some g) : (txPgs seq tx l)[i]? = some (pgTx seq tx (pkG l).length i g) := by
  unfold txPgs
  rw [List.getElem?_mapIdx, h]
  rfl
def txOut (seq tx : Int) (l : List Rc) : List Pg := letI := decTx seq tx l; if TxOk seq tx l then txPgs seq tx l else []
end Go.Proofs.YtfmnaidhfgmemaaGreatDoor.Words
