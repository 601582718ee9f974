/-
  PkRM; Rows3; GRow; GMath
-/
import Derived.Test.YtcjgjkejhkhknabGreatDoorPk8
import Derived.Test.YtcjgjkejhkhknabGreatDoorPk0
namespace Go.Proofs.YtcjgjkejhkhknabGreatDoor.Pack
def readG (lim : Nat) : Nat → List UInt8 → Option (List (Nat × Nat × List UInt8))
 | _, [] => some []
 | 0, _ :: _ => none
 | f + 1, n :: r =>
  if lim ≤ n.toNat then (match r with
   | b :: r' => (readG lim f r').map fun l => (b.toNat, n.toNat - 128, []) :: l
   | [] => none)
  else if n.toNat ≤ r.length then (readG lim f (r.drop n.toNat)).map fun l => (0, 0, r.take n.toNat) :: l else none
theorem readG_T (f : Nat) (r : List UInt8) : readG 129 f r = readT f r := by
 induction f generalizing r with
 | zero => cases r <;> rfl
 | succ f ih =>
  cases r with
  | nil => rfl
  | cons n r =>
   unfold readG readT
   by_cases h : 128 < n.toNat
   ·rw [if_pos h, if_pos (by omega)]
    cases r with
    | nil => rfl
    | cons b r => simp only [ih]
   ·rw [if_neg h, if_neg (by omega), ih]
theorem readG_fuel (lim f : Nat) (r : List UInt8) (h : r.length ≤ f) : readG lim f r = readG lim r.length r := by
 induction f using Nat.strongRecOn generalizing r with
 | ind f ih =>
  cases r with
  | nil => cases f <;> rfl
  | cons n r =>
   rw [List.length_cons] at h
   obtain ⟨g, rfl⟩ : ∃ g, f = g + 1 := ⟨f - 1, by omega⟩
   rw [List.length_cons]
   unfold readG
   by_cases hn : lim ≤ n.toNat
   ·rw [if_pos hn, if_pos hn]
    cases r with
    | nil => rfl
    | cons b r =>
     rw [List.length_cons] at h
     simp only
     rw [ih g (by omega) r (by omega)]
     by_cases hg : r.length + 1 < g + 1
     ·rw [List.length_cons, ih (r.length + 1) hg r (by omega)]
     ·omega
   ·rw [if_neg hn, if_neg hn]
    have hd : (r.drop n.toNat).length ≤ r.length := by rw [List.length_drop]; omega
    rw [ih g (by omega) (r.drop n.toNat) (by omega)]
    by_cases hg : r.length < g + 1
    ·rw [ih r.length hg (r.drop n.toNat) hd]
    ·omega
def RG (lim : Nat) (r : List UInt8) : Option (List (Nat × Nat × List UInt8)) := readG lim r.length r
theorem RG_nil (lim : Nat) : RG lim [] = some [] := rfl
theorem RG_match (lim : Nat) (n b : UInt8) (r : List UInt8) (h : lim ≤ n.toNat) : RG lim (n :: b :: r) = (RG lim r).map fun l => (b.toNat, n.toNat - 128, []) :: l := by
 unfold RG
 rw [List.length_cons]
 conv => lhs; unfold readG
 rw [if_pos h]
 simp only
 rw [readG_fuel lim _ r (by simp)]
theorem RG_cut (lim : Nat) (n : UInt8) (h : lim ≤ n.toNat) : RG lim [n] = none := by
 unfold RG
 rw [List.length_cons]
 conv => lhs; unfold readG
 rw [if_pos h]
theorem RG_text (lim : Nat) (n : UInt8) (r : List UInt8) (h : ¬ lim ≤ n.toNat) (h2 : n.toNat ≤ r.length) : RG lim (n :: r) = (RG lim (r.drop n.toNat)).map fun l => (0, 0, r.take n.toNat) :: l := by
 unfold RG
 rw [List.length_cons]
 conv => lhs; unfold readG
 rw [if_neg h, if_pos h2, readG_fuel lim _ (r.drop n.toNat) (by rw [List.length_drop]; omega)]
theorem RG_short (lim : Nat) (n : UInt8) (r : List UInt8) (h : ¬ lim ≤ n.toNat) (h2 : ¬ n.toNat ≤ r.length) : RG lim (n :: r) = none := by
 unfold RG
 rw [List.length_cons]
 conv => lhs; unfold readG
 rw [if_neg h, if_neg h2]
theorem RG_of (lim : Nat) (hl1 : 128 ≤ lim) (hl2 : lim ≤ 129) (l : List (Nat × Nat × List UInt8)) (h : ∀ t ∈ l, Fit t) : RG lim (l.flatMap zTok) = some l := by
 induction l with
 | nil => rfl
 | cons t l ih =>
  have ht := h t (by simp)
  have hl := ih (fun t ht => h t (by simp [ht]))
  rw [List.flatMap_cons]
  obtain ⟨b, n, x⟩ := t
  rcases ht with ⟨e0, e1, e2, e3⟩ | ⟨e0, e1, e2, e3, e4⟩
  ·simp only at e0 e1 e2 e3
   subst e0 e3
   have hz : zTok (0, 0, x) = UInt8.ofNat x.length :: x := rfl
   have hb := small_byte x.length (by omega)
   rw [hz, List.cons_append, RG_text _ _ _ (by rw [hb]; omega) (by rw [hb]; simp), hb, List.drop_left, List.take_left, hl]
   rfl
  ·simp only at e0 e1 e2 e3 e4
   subst e4
   have hz : zTok (b, n, []) = [UInt8.ofNat (128 + n), UInt8.ofNat b] := by
    unfold zTok
    rw [if_neg (by simp only; omega)]
   have hb := small_byte (128 + n) (by omega)
   have hc := small_byte b (by omega)
   rw [hz, List.cons_append, List.cons_append, List.nil_append, RG_match _ _ _ _ (by rw [hb]; omega), hb, hc, hl]
   simp
def plainI (t : List UInt8) : Option (List UInt8) :=
 match t with
 | [] => none
 | c :: r => if c = 114 then some r else if c = 122 then (RG 128 r).bind plain else none
def unpackI (t : List UInt8) : Option (List UInt8) := if 65 < t.length then none else (plainI t).bind fun s => if packL s = some t then some s else none
theorem unpackI_eq (t : List UInt8) : unpackI t = unpackL t := by
 apply Option.ext
 intro s
 constructor
 ·intro h
  refine unpack_pack s t ?_
  unfold unpackI at h
  split at h
  ·cases h
  ·cases hp : plainI t with
   | none => rw [hp] at h; cases h
   | some x =>
    rw [hp] at h
    simp only [Option.bind_some] at h
    split at h
    ·rename_i e; cases h; exact e
    ·cases h
 ·intro h
  have hp := pack_unpack s t h
  have hlen := pack_len s t hp
  have hs : s.length ≤ 64 := by
   unfold packL at hp
   split at hp
   ·cases hp
   ·omega
  unfold unpackI
  rw [if_neg (by omega)]
  have hi : plainI t = some s := by
   have hp' := hp
   unfold packL at hp'
   rw [if_neg (by omega)] at hp'
   split at hp'
   ·cases hp'
    rfl
   ·cases hp'
    unfold zOf plainI
    simp only
    rw [if_neg (by decide), if_pos trivial, RG_of 128 (by omega) (by omega) _ (fit_of [] s _ (by simp) (plain_toks s hs).1)]
    exact (plain_toks s hs).1
  rw [hi]
  simp only [Option.bind_some]
  rw [if_pos hp]
theorem unpackL_eq (c : UInt8) (r : List UInt8) : unpackL (c :: r) = (if c = 122 then (RG 129 r).bind plain else some r).bind fun s => if packL s = some (c :: r) then some s else none := by
 unfold unpackL RG
 simp only [readG_T]
end Go.Proofs.YtcjgjkejhkhknabGreatDoor.Pack
namespace Go.Proofs.YtcjgjkejhkhknabGreatDoor
open Go.RowKit
open Pack
theorem infoTok : (Tryz.prog.info? 190).map (fun i => (i.zero, i.size, i.bytes)) = some (some (.agg #[.int .i64 0, .int .i64 0, .string ⟨#[]⟩]), 3, 32) := by kernel_rfl
def tcell (t : Nat × Nat × List UInt8) : List Value := [.int .i64 (t.1 : Nat), .int .i64 (t.2.1 : Nat), .string ⟨t.2.2.toArray⟩]
def tcells (l : List (Nat × Nat × List UInt8)) : List Value := l.flatMap tcell
theorem tcells_len (l : List (Nat × Nat × List UInt8)) : (tcells l).length = l.length * 3 := by
 induction l with
 | nil => rfl
 | cons t l ih => simp [tcells, tcell] at ih ⊢; omega
theorem tcells_snoc (l : List (Nat × Nat × List UInt8)) (t : Nat × Nat × List UInt8) : tcells l ++ tcell t = tcells (l ++ [t]) := by simp [tcells]
theorem tcells_at (l : List (Nat × Nat × List UInt8)) (k : Nat) (t : Nat × Nat × List UInt8) (h : l[k]? = some t) : (tcells l)[3 * k]? = some (.int .i64 (t.1 : Nat)) ∧ (tcells l)[3 * k + 1]? = some (.int .i64 (t.2.1 : Nat)) ∧ (tcells l)[3 * k + 2]? = some (.string ⟨t.2.2.toArray⟩) := by
 induction l generalizing k with
 | nil => simp at h
 | cons a l ih =>
  cases k with
  | zero =>
   simp at h
   subst h
   exact ⟨rfl, rfl, rfl⟩
  | succ k =>
   have := ih k (by simpa using h)
   have e : tcells (a :: l) = tcell a ++ tcells l := by simp [tcells]
   have hl : (tcell a).length = 3 := rfl
   rw [e, List.getElem?_append_right (by rw [hl]; omega), List.getElem?_append_right (by rw [hl]; omega), List.getElem?_append_right (by rw [hl]; omega), hl, show 3 * (k + 1) - 3 = 3 * k by omega, show 3 * (k + 1) + 1 - 3 = 3 * k + 1 by omega, show 3 * (k + 1) + 2 - 3 = 3 * k + 2 by omega]
   exact this
theorem tcells_text (l : List (Nat × Nat × List UInt8)) (b z : Nat) (x y : List UInt8) : (tcells (l ++ [(b, z, x)])).set (3 * l.length + 2) (.string ⟨y.toArray⟩) = tcells (l ++ [(b, z, y)]) := by
 rw [← tcells_snoc, ← tcells_snoc, List.set_append_right _ _ (by rw [tcells_len]; omega), tcells_len, show 3 * l.length + 2 - l.length * 3 = 2 by omega]
 rfl
theorem own_set {w : World} {base : Nat} {e : TypeId} {size n : Nat} {v : Value} {xs : List Value} {g cap : Nat} (h : w.ownsRow base e size v n xs) (hv : v = .slice (some ⟨g, 0, none⟩) n cap) (k : Nat) (u : Value) :
 (w.setCell ⟨g, k, none⟩ u).ownsRow base e size v n (xs.set k u) := by
 obtain ⟨h1, h2⟩ := h
 refine ⟨by simpa using h1, ?_⟩
 rcases h2 with ⟨h3, -⟩ | ⟨g', cap', cur, h3, h4, h5, h6, h7, h8, h9⟩
 ·rw [hv] at h3; cases h3
 ·right
  have hg : g' = g := by rw [hv] at h3; injection h3 with a; simp at a; exact a.symm
  subst hg
  refine ⟨g', cap', cur.setIfInBounds k u, h3, h4, ?_, h6, h7, by simpa using h8, ?_⟩
  ·rw [setCell_eq_setRow w g' k cur e (0, 0) u h5]
   exact setRow_heap w g' cur _ e _ h5
  ·rw [Array.toList_setIfInBounds, List.take_set, h9]
end Go.Proofs.YtcjgjkejhkhknabGreatDoor
namespace Go.Proofs.YtcjgjkejhkhknabGreatDoor
open Go.RowKit
def gcell (t : Int × Int × ByteArray) : List Value := [.int .i64 t.1, .int .i64 t.2.1, .string t.2.2]
def gcells (l : List (Int × Int × ByteArray)) : List Value := l.flatMap gcell
def gtok (t : Nat × Nat × List UInt8) : Int × Int × ByteArray := ((t.1 : Int), (t.2.1 : Int), ⟨t.2.2.toArray⟩)
theorem tcells_g (l : List (Nat × Nat × List UInt8)) : tcells l = gcells (l.map gtok) := by
 simp [tcells, gcells, List.flatMap_map, gtok, gcell]
 rfl
theorem gcells_at (l : List (Int × Int × ByteArray)) (k : Nat) (t : Int × Int × ByteArray) (h : l[k]? = some t) : (gcells l)[k * 3]? = some (.int .i64 t.1) ∧ (gcells l)[k * 3 + 1]? = some (.int .i64 t.2.1) ∧ (gcells l)[k * 3 + 2]? = some (.string t.2.2) := by
 induction l generalizing k with
 | nil => simp at h
 | cons a l ih =>
  cases k with
  | zero =>
   simp at h
   subst h
   exact ⟨rfl, rfl, rfl⟩
  | succ k =>
   have := ih k (by simpa using h)
   have e : gcells (a :: l) = gcell a ++ gcells l := by simp [gcells]
   have hl : (gcell a).length = 3 := rfl
   rw [e, List.getElem?_append_right (by rw [hl]; omega), List.getElem?_append_right (by rw [hl]; omega), List.getElem?_append_right (by rw [hl]; omega), hl, show (k + 1) * 3 - 3 = k * 3 by omega, show (k + 1) * 3 + 1 - 3 = k * 3 + 1 by omega, show (k + 1) * 3 + 2 - 3 = k * 3 + 2 by omega]
   exact this
theorem gown_cells {w : World} {B n cap g k : Nat} {l : List (Int × Int × ByteArray)} {t : Int × Int × ByteArray} (h : w.ownsRow B 190 3 (.slice (some ⟨g, 0, none⟩) n cap) n (gcells l)) (ht : l[k]? = some t) :
 w.cell? ⟨g, k * 3, none⟩ = some (.int .i64 t.1) ∧ w.cell? ⟨g, k * 3 + 1, none⟩ = some (.int .i64 t.2.1) ∧ w.cell? ⟨g, k * 3 + 2, none⟩ = some (.string t.2.2) := by
 obtain ⟨h1, h2, h3⟩ := gcells_at l k t ht
 have c1 := h.cells (g := g) rfl _ _ h1
 have c2 := h.cells (g := g) rfl _ _ h2
 have c3 := h.cells (g := g) rfl _ _ h3
 rw [addr_at] at c1 c2 c3
 exact ⟨c1, c2, c3⟩
theorem row_form3 {w : World} {B : Nat} {e : TypeId} {z : Nat} {v : Value} {n : Nat} {xs : List Value} (h : w.ownsRow B e z v n xs) :
 ∃ ad cap, v = .slice ad n cap ∧ n ≤ cap ∧ cap ≤ maxLen ∧ (0 < n → ∃ g, ad = some ⟨g, 0, none⟩ ∧ B ≤ g ∧ g < w.heap.size) := by
 have hlt := h.lt
 rcases h.2 with ⟨h1, h2⟩ | ⟨g, cap, cur, h1, -, -, h3, h4, -⟩
 ·exact ⟨none, 0, by rw [h1, h2], by omega, by unfold maxLen; omega, fun h => by omega⟩
 ·subst h1
  exact ⟨_, cap, rfl, h3, h4, fun _ => ⟨g, rfl, hlt g rfl⟩⟩
end Go.Proofs.YtcjgjkejhkhknabGreatDoor
namespace Go.Proofs.YtcjgjkejhkhknabGreatDoor
open Go.RowKit
open Pack
def GOk (len : Nat) (t : Int × Int × ByteArray) : Prop := (t.1 = 0 ∧ 1 ≤ t.2.2.size ∧ t.2.2.size ≤ 31 ∧ t.2.1 = 0) ∨ (1 ≤ t.1 ∧ t.1 ≤ len ∧ 1 ≤ t.2.1 ∧ t.2.1 ≤ 31 ∧ t.2.2.size = 0)
abbrev decGOk (len : Nat) (t : Int × Int × ByteArray) : Decidable (GOk len t) := by unfold GOk; exact inferInstance
def gtell (out : List UInt8) (t : Int × Int × ByteArray) : List UInt8 := again t.2.1.toNat t.1.toNat (out ++ t.2.2.data.toList)
def gplainFrom (out : List UInt8) : List (Int × Int × ByteArray) → Option (List UInt8)
 | [] => some out
 | t :: r => letI := decGOk out.length t; if GOk out.length t ∧ out.length + t.2.2.size + t.2.1.toNat ≤ 64 then gplainFrom (gtell out t) r else none
def gplain (l : List (Int × Int × ByteArray)) : Option (List UInt8) := gplainFrom [] l
theorem gtell_len (out : List UInt8) (t : Int × Int × ByteArray) : (gtell out t).length = out.length + t.2.2.size + t.2.1.toNat := by
 unfold gtell
 rw [again_len, List.length_append]
 simp
theorem gok_tok (len : Nat) (t : Nat × Nat × List UInt8) : GOk len (gtok t) ↔ TokOk len t := by
 obtain ⟨b, z, x⟩ := t
 have hx : (⟨x.toArray⟩ : ByteArray).size = x.length := by show x.toArray.size = _; simp
 unfold GOk TokOk gtok
 simp only [hx]
 have h0 : x.length = 0 ↔ x = [] := List.length_eq_zero_iff
 rw [← h0]
 split <;> omega
theorem gtell_tok (out : List UInt8) (t : Nat × Nat × List UInt8) (h : TokOk out.length t) : gtell out (gtok t) = tell out t := by
 obtain ⟨b, z, x⟩ := t
 unfold TokOk at h
 unfold gtell tell gtok
 simp only [Int.toNat_natCast] at *
 split at h
 ·rename_i hb
  rw [if_pos hb, h.2.2]
  rfl
 ·rename_i hb
  rw [if_neg hb, h.2.2.2]
  simp
theorem gplain_tok (l : List (Nat × Nat × List UInt8)) (out : List UInt8) : gplainFrom out (l.map gtok) = plainFrom out l := by
 induction l generalizing out with
 | nil => rfl
 | cons t r ih =>
  rw [List.map_cons, gplainFrom, plainFrom]
  by_cases h : TokOk out.length t
  ·have e := gtell_tok out t h
   have hl := gtell_len out (gtok t)
   rw [e] at hl
   rw [if_pos h, e, ih]
   by_cases h2 : (tell out t).length ≤ 64
   ·rw [if_pos ⟨(gok_tok _ _).2 h, by omega⟩, if_pos h2]
   ·rw [if_neg (fun h3 => h2 (by omega)), if_neg h2]
  ·rw [if_neg (fun h3 => h ((gok_tok _ _).1 h3.1)), if_neg h]
def plainV (r : Option (List UInt8)) : Value := match r with
 | some o => .tuple #[.string ⟨o.toArray⟩, .bool true]
 | none => .tuple #[.string ⟨#[]⟩, .bool false]
theorem gplain_step (out : List UInt8) (ls : List (Int × Int × ByteArray)) (k : Nat) (t : Int × Int × ByteArray) (h : ls[k]? = some t) :
 gplainFrom out (ls.drop k) = letI := decGOk out.length t; if GOk out.length t ∧ out.length + t.2.2.size + t.2.1.toNat ≤ 64 then gplainFrom (gtell out t) (ls.drop (k + 1)) else none := by
 obtain ⟨h1, h2⟩ := List.getElem?_eq_some_iff.1 h
 rw [List.drop_eq_getElem_cons h1, h2]
 rfl
theorem again_next (n back : Nat) (o : List UInt8) : again (n + 1) back o = again n back (o ++ [o.getD (o.length - back) 0]) := rfl
theorem bcells_getD (o : List UInt8) (j : Nat) (hj : j < o.length) : (bcells o)[j]? = some (.int .u8 ((o.getD j 0).toNat : Int)) := by
 rw [bcells_at o j hj, List.getD_eq_getElem?_getD, List.getElem?_eq_getElem hj]
 rfl
end Go.Proofs.YtcjgjkejhkhknabGreatDoor
