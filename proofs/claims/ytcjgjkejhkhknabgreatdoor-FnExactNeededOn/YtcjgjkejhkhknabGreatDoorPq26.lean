/-
  PkCut; FdC; FdR; ReadM; IAt; IClone; Rd
-/
import Derived.Test.YtcjgjkejhkhknabGreatDoorPq23
import Derived.Test.YtcjgjkejhkhknabGreatDoorPq24
import Derived.Test.YtcjgjkejhkhknabGreatDoorPq25
import Derived.Test.YtcjgjkejhkhknabGreatDoorPq0
import Derived.Test.YtcjgjkejhkhknabGreatDoorPq21
import Derived.Test.YtcjgjkejhkhknabGreatDoorPq17
import Derived.Test.YtcjgjkejhkhknabGreatDoorPq14
/-
  The walks of the program's reading of tokens from bytes.
-/
namespace Go.Proofs.YtcjgjkejhkhknabGreatDoor
open Go.RowKit
open Pack

theorem infoTokS : (Tryz.prog.info? 190).map (·.size) = some 3 := by kernel_rfl
theorem results_tok3 {fn : Func} {p q r : Tmp} (h : fn.results = #[.cell p 190, .tmp q, .tmp r]) (tmps : Array Value) (w : World) (g : Nat) (a b : Int) (t : ByteArray)
    (hp : tmps.getD p undef = .pointer (some ⟨g, 0, none⟩)) (hc : TokAt w g a b t) :
    (results fn tmps).run Tryz.prog w = .ok (.tuple #[.agg #[.int .i64 a, .int .i64 b, .string t], tmps.getD q undef, tmps.getD r undef]) w := by
  have hp' : tmps[p]?.getD undef = .pointer (some ⟨g, 0, none⟩) := by simpa using hp
  have hl := run_loadVar_row (P := Tryz.prog) w g 190 190 _ _ _ hc Tryz.underlying190 rfl infoTokS
  simp [results, h, hp', asAddr, hl]

/-- Texts by their bytes. -/
def BA (l : List UInt8) : ByteArray := ⟨l.toArray⟩
theorem BA_size (l : List UInt8) : (BA l).size = l.length := by show l.toArray.size = _; simp
theorem BA_list (l : List UInt8) : (BA l).data.toList = l := rfl
theorem BA_of (s : ByteArray) : s = BA s.data.toList := rfl
theorem BA_ext (l : List UInt8) (a b : Nat) : (BA l).extract a b = BA ((l.drop a).take (b - a)) := by
  apply ByteArray.ext
  apply Array.ext'
  rw [Lib.extract_data]
  rfl
theorem cut_from (l : List UInt8) (k : Nat) (x : Int) (hx : x = k) (hk : k ≤ l.length) (W : World) : (Instr.slice 9 (.string (BA l)) (some (.int .i64 x)) none none).run Tryz.prog W = .ok (.string (BA (l.drop k))) W := by
  subst hx
  rw [run_slice_string_from_if W 9 (BA l) .i64 _ Tryz.underlying9, if_pos (by rw [BA_size]; omega), BA_ext, BA_size]
  rw [List.take_of_length_le (by rw [List.length_drop]; simp)]
  rfl
theorem cut_to (l : List UInt8) (k : Nat) (x : Int) (hx : x = k) (hk : k ≤ l.length) (W : World) : (Instr.slice 9 (.string (BA l)) none (some (.int .i64 x)) none).run Tryz.prog W = .ok (.string (BA (l.take k))) W := by
  subst hx
  rw [run_slice_string_to_if W 9 (BA l) .i64 _ Tryz.underlying9, if_pos (by rw [BA_size]; omega), BA_ext]
  rfl
theorem idx_of (l : List UInt8) (k : Nat) (c : UInt8) (x : Int) (hx : x = k) (hk : l[k]? = some c) (W : World) : (Instr.index 9 (.string (BA l)) (.int .i64 x)).run Tryz.prog W = .ok (.int .u8 ((c.toNat : Nat) : Int)) W := by
  have hl := (List.getElem?_eq_some_iff.1 hk).1
  have := byte_ofT (BA l) k x hx (by rw [BA_size]; exact hl) W
  rw [BA_list, List.getD_eq_getElem?_getD, hk] at this
  exact this

theorem TokAt.set0 {w : World} {g : Nat} {a b : Int} {t : ByteArray} (h : TokAt w g a b t) (a' : Int) : TokAt (w.setCell ⟨g, 0, none⟩ (.int .i64 a')) g a' b t := by
  unfold TokAt at *
  rw [setCell_eq_setRow w g 0 _ _ (0, 0) _ h]
  exact setRow_heap w g _ _ _ _ h
theorem TokAt.set1 {w : World} {g : Nat} {a b : Int} {t : ByteArray} (h : TokAt w g a b t) (b' : Int) : TokAt (w.setCell ⟨g, 1, none⟩ (.int .i64 b')) g a b' t := by
  unfold TokAt at *
  rw [setCell_eq_setRow w g 1 _ _ (0, 0) _ h]
  exact setRow_heap w g _ _ _ _ h
theorem TokAt.set2 {w : World} {g : Nat} {a b : Int} {t : ByteArray} (h : TokAt w g a b t) (t' : ByteArray) : TokAt (w.setCell ⟨g, 2, none⟩ (.string t')) g a b t' := by
  unfold TokAt at *
  rw [setCell_eq_setRow w g 2 _ _ (0, 0) _ h]
  exact setRow_heap w g _ _ _ _ h
theorem TokAt.drewN {w : World} {g : Nat} {a b : Int} {t : ByteArray} (h : TokAt w g a b t) (k : Nat) : TokAt (w.drewN k) g a b t := h.below (below_drewN (Below.refl _ _) k)
theorem below_tok {B g : Nat} {a w : World} {x y z : Value} (h : Below B a w) (hg : B ≤ g) : Below B a (((w.setCell ⟨g, 0, none⟩ x).setCell ⟨g, 1, none⟩ y).setCell ⟨g, 2, none⟩ z) :=
  ((h.setCell (p := ⟨g, 0, none⟩) hg x).setCell (p := ⟨g, 1, none⟩) hg y).setCell (p := ⟨g, 2, none⟩) hg z
theorem BA_emp : (BA []).toList.isEmpty = true := by rw [Lib.toList_data]; rfl
theorem BA_ful (c : UInt8) (r : List UInt8) : (BA (c :: r)).toList.isEmpty = false := by rw [Lib.toList_data]; rfl

set_option maxHeartbeats 400000 in
set_option maxRecDepth 100000 in
theorem cut_any (n : UInt8) (r : List UInt8) (w : World) (hr : r.length ≤ 1000) :
    Calls Tryz.prog 159 #[.string (BA (n :: r))] w fun e w' => (∃ (a b : Nat) (t s : List UInt8) (ok : Bool), e = .returned (.tuple #[.agg #[.int .i64 (a : Int), .int .i64 (b : Int), .string (BA t)], .string (BA s), .bool ok]) ∧
      s.length ≤ r.length ∧ (ok = true → RG 128 (n :: r) = (RG 128 s).map fun l => (a, b, t) :: l) ∧ (ok = false → RG 128 (n :: r) = none)) ∧ Below w.heap.size w w' := by
  have hn := n.toNat_lt
  have i1 := idx_of (n :: r) 0 n 0 rfl rfl
  have c1 := cut_from (n :: r) 1 1 rfl (by simp)
  rw [List.drop_one, List.tail_cons] at c1
  by_cases h128 : (128 : Int) ≤ n.toNat
  · cases r with
    | nil =>
      have HX := hide (RG_cut 128 n (by omega))
      have he := BA_emp
      have HT := hide (tok_new w 0 0 ⟨#[]⟩)
      have HB := hide ((Below.refl w.heap.size w).alloc (Nat.le_refl _) (.cells #[.int .i64 0, .int .i64 0, .string ⟨#[]⟩] 190))
      go_enter Tryz.func159, Tryz.ntmps159
      go_wp2
      go_quiet (fail)
      go_wp2
      exact bodyPost_ret (results_tok3 rfl _ _ w.heap.size _ _ _ rfl ((((HT.out.drewN _).set0 _).set1 _).set2 _)) rfl ⟨⟨0, 0, [], [], false, rfl, Nat.le_refl _, (fun h => by cases h), fun _ => HX.out⟩, below_tok (below_drewN HB.out _) (Nat.le_refl _)⟩
    | cons b r =>
      have hbl := b.toNat_lt
      have he := BA_ful b r
      have i2 := idx_of (b :: r) 0 b 0 rfl rfl
      have c2 := cut_from (b :: r) 1 1 rfl (by simp)
      rw [List.drop_one, List.tail_cons] at c2
      have HX := hide (RG_match 128 n b r (by omega))
      have HT := hide (tok_new w 0 0 ⟨#[]⟩)
      have HB := hide ((Below.refl w.heap.size w).alloc (Nat.le_refl _) (.cells #[.int .i64 0, .int .i64 0, .string ⟨#[]⟩] 190))
      go_enter Tryz.func159, Tryz.ntmps159
      go_wp2
      go_quiet (fail)
      go_wp2
      go_region
      go_wp2
      exact bodyPost_ret (results_tok3 rfl _ _ w.heap.size _ _ _ rfl ((((HT.out.drewN _).set0 _).set1 _).set2 _)) rfl ⟨⟨b.toNat, n.toNat - 128, [], r, true, (by rw [show ((n.toNat - 128 : Nat) : Int) = (n.toNat : Int) - 128 by omega]; rfl), Nat.le_succ _, (fun _ => HX.out), fun h => by cases h⟩, below_tok (below_drewN HB.out _) (Nat.le_refl _)⟩
  · have HT := hide (tok_new w 0 0 ⟨#[]⟩)
    have HB := hide ((Below.refl w.heap.size w).alloc (Nat.le_refl _) (.cells #[.int .i64 0, .int .i64 0, .string ⟨#[]⟩] 190))
    have hbs := BA_size r
    by_cases hgt : (r.length : Int) < n.toNat
    · have HX := hide (RG_short 128 n r (by omega) (by omega))
      go_enter Tryz.func159, Tryz.ntmps159
      go_wp2
      go_quiet (fail)
      go_wp2
      exact bodyPost_ret (results_tok3 rfl _ _ w.heap.size _ _ _ rfl ((((HT.out.drewN _).set0 _).set1 _).set2 _)) rfl ⟨⟨0, 0, [], [], false, rfl, Nat.zero_le _, (fun h => by cases h), fun _ => HX.out⟩, below_tok (below_drewN HB.out _) (Nat.le_refl _)⟩
    · have HX := hide (RG_text 128 n r (by omega) (by omega))
      have c2 := cut_to r n.toNat (n.toNat : Int) rfl (by omega)
      have c3 := cut_from r n.toNat (n.toNat : Int) rfl (by omega)
      go_enter Tryz.func159, Tryz.ntmps159
      go_wp2
      go_quiet (fail)
      go_wp2
      go_region
      go_wp2
      exact bodyPost_ret (results_tok3 rfl _ _ w.heap.size _ _ _ rfl ((((HT.out.drewN _).set0 _).set1 _).set2 _)) rfl ⟨⟨0, 0, r.take n.toNat, r.drop n.toNat, true, rfl, (by rw [List.length_drop]; omega), (fun _ => HX.out), fun h => by cases h⟩, below_tok (below_drewN HB.out _) (Nat.le_refl _)⟩
end Go.Proofs.YtcjgjkejhkhknabGreatDoor

/-
  The cells of what a scan found, in a row.
-/
namespace Go.Proofs.YtcjgjkejhkhknabGreatDoor
open Go.RowKit
open Words

def fdVal (x : Fnd) : Value := .agg #[.int .i64 x.block, .int .i64 x.leaf, .int .i64 x.page.kind, .int .i64 x.page.seq, .int .i64 x.page.tx, .int .i64 x.page.part, .int .i64 x.page.count, .string x.page.text]
def fdCells (x : Fnd) : List Value := [.int .i64 x.block, .int .i64 x.leaf, .int .i64 x.page.kind, .int .i64 x.page.seq, .int .i64 x.page.tx, .int .i64 x.page.part, .int .i64 x.page.count, .string x.page.text]
theorem infoFound : (Tryz.prog.info? 77).map (fun i => (i.zero, i.size, i.bytes)) = some (some (.agg #[.int .i64 0, .int .i64 0, .int .i64 0, .int .i64 0, .int .i64 0, .int .i64 0, .int .i64 0, .string ⟨#[]⟩]), 8, 72) := by kernel_rfl
def fcells (l : List Fnd) : List Value := l.flatMap fdCells
theorem fcells_len (l : List Fnd) : (fcells l).length = l.length * 8 := by
  induction l with
  | nil => rfl
  | cons x l ih => simp only [fcells, List.flatMap_cons, List.length_append, List.length_cons] at ih ⊢; rw [ih]; show 8 + _ = _; omega
theorem fcells_snoc (l : List Fnd) (x : Fnd) : fcells l ++ fdCells x = fcells (l ++ [x]) := by simp [fcells]
theorem fd_one (x : Fnd) : ∀ u ∈ fdCells x, u.oneCell' = true := by
  intro u hu
  simp [fdCells] at hu
  rcases hu with h | h | h | h | h | h | h | h <;> subst h <;> rfl
theorem fcells_at : ∀ (l : List Fnd) (i : Nat) (x : Fnd), l[i]? = some x → ∀ j v, (fdCells x)[j]? = some v → (fcells l)[i * 8 + j]? = some v := by
  intro l
  induction l with
  | nil => intro i x h; simp at h
  | cons y l ih =>
    intro i x h j v hv
    have hj : j < 8 := (List.getElem?_eq_some_iff.1 hv).1
    have e : fcells (y :: l) = fdCells y ++ fcells l := by simp [fcells]
    rw [e]
    cases i with
    | zero =>
      simp at h
      subst h
      rw [List.getElem?_append_left (by show 0 * 8 + j < 8; omega)]
      simpa using hv
    | succ i =>
      rw [List.getElem?_cons_succ] at h
      rw [List.getElem?_append_right (by show 8 ≤ (i + 1) * 8 + j; omega)]
      have : (i + 1) * 8 + j - (fdCells y).length = i * 8 + j := by show (i + 1) * 8 + j - 8 = _; omega
      rw [this]
      exact ih i x h j v hv
/-- The cells of what a scan found, by their places. -/
theorem fcells_back (M : List Fnd) (i : Nat) (v : Value) (h : (fcells M)[i]? = some v) : ∃ x, M[i / 8]? = some x ∧ (fdCells x)[i % 8]? = some v := by
  have hl := (List.getElem?_eq_some_iff.1 h).1
  rw [fcells_len] at hl
  obtain ⟨x, hx⟩ : ∃ x, M[i / 8]? = some x := ⟨_, List.getElem?_eq_getElem (by omega)⟩
  obtain ⟨u, hu⟩ : ∃ u, (fdCells x)[i % 8]? = some u := ⟨_, List.getElem?_eq_getElem (by show i % 8 < 8; omega)⟩
  have := fcells_at M (i / 8) x hx (i % 8) u hu
  rw [show i / 8 * 8 + i % 8 = i by omega, h] at this
  cases this
  exact ⟨x, hx, hu⟩
end Go.Proofs.YtcjgjkejhkhknabGreatDoor

/-
  Rows of what a scan found that can be read.
-/
namespace Go.Proofs.YtcjgjkejhkhknabGreatDoor
open Go.RowKit
open Words

def FdRd (w : World) (a : Option Addr) (len : Nat) (ls : List Fnd) : Prop :=
  ls.length = len ∧ len ≤ maxLen ∧ (0 < len → ∃ b off, a = some ⟨b, off, none⟩ ∧ b < w.heap.size ∧ ∀ i t, ls[i]? = some t → ∀ j v, (fdCells t)[j]? = some v → w.cell? ⟨b, off + (i * 8 + j), none⟩ = some v)
theorem FdRd.below {w w' : World} {a : Option Addr} {len : Nat} {ls : List Fnd} (h : FdRd w a len ls) (hb : Below w.heap.size w w') : FdRd w' a len ls := by
  obtain ⟨h1, h2, h4⟩ := h
  refine ⟨h1, h2, fun h0 => ?_⟩
  obtain ⟨b, off, e, hl, hc⟩ := h4 h0
  have hs := hb.size
  exact ⟨b, off, e, by omega, fun i t ht j v hv => (hb.cell (show b < w.heap.size from hl)).trans (hc i t ht j v hv)⟩
theorem FdRd.at {w : World} {a : Option Addr} {len : Nat} {ls : List Fnd} (h : FdRd w a len ls) {k : Nat} {t : Fnd} (hk : ls[k]? = some t) :
    ∃ b off, a = some ⟨b, off, none⟩ ∧ b < w.heap.size ∧ w.cell? ⟨b, off + k * 8, none⟩ = some (.int .i64 t.block) ∧ w.cell? ⟨b, off + k * 8 + 1, none⟩ = some (.int .i64 t.leaf) ∧
      w.cell? ⟨b, off + k * 8 + 2, none⟩ = some (.int .i64 t.page.kind) ∧ w.cell? ⟨b, off + k * 8 + 2 + 1, none⟩ = some (.int .i64 t.page.seq) ∧ w.cell? ⟨b, off + k * 8 + 2 + 2, none⟩ = some (.int .i64 t.page.tx) ∧
      w.cell? ⟨b, off + k * 8 + 2 + 3, none⟩ = some (.int .i64 t.page.part) ∧ w.cell? ⟨b, off + k * 8 + 2 + 4, none⟩ = some (.int .i64 t.page.count) ∧ w.cell? ⟨b, off + k * 8 + 2 + 5, none⟩ = some (.string t.page.text) := by
  obtain ⟨h1, -, h4⟩ := h
  have hl := (List.getElem?_eq_some_iff.1 hk).1
  obtain ⟨b, off, e, hb, hc⟩ := h4 (by omega)
  have hc := hc k t hk
  refine ⟨b, off, e, hb, hc 0 _ rfl, ?_, ?_, ?_, ?_, ?_, ?_, ?_⟩
  · have := hc 1 _ rfl; rwa [← Nat.add_assoc] at this
  · have := hc 2 _ rfl; rwa [← Nat.add_assoc] at this
  · have := hc 3 _ rfl; rwa [← Nat.add_assoc] at this
  · have := hc 4 _ rfl; rwa [← Nat.add_assoc] at this
  · have := hc 5 _ rfl; rwa [← Nat.add_assoc] at this
  · have := hc 6 _ rfl; rwa [← Nat.add_assoc] at this
  · have := hc 7 _ rfl; rwa [← Nat.add_assoc] at this
theorem Sli.fdrd {lo hi n c : Nat} {ad : Option Addr} {M : List Fnd} {W : World} (h : Sli 77 lo hi (.slice ad n c) n (fcells M) W) (hn : M.length = n) (hm : n ≤ maxLen) (hh : hi ≤ W.heap.size) : FdRd W ad n M := by
  refine ⟨hn, hm, fun h0 => ?_⟩
  rcases h with ⟨e, rfl⟩ | ⟨g, cap, e, h1, h2, h3⟩
  · omega
  · injection e with e1 e2 e3
    refine ⟨g, 0, e1, by omega, fun i t hi j v hj => ?_⟩
    rw [Nat.zero_add]
    exact h3.cell (fcells_at M i t hi j v hj)
end Go.Proofs.YtcjgjkejhkhknabGreatDoor

/-
  What is read of a flash.
-/
namespace Go.Proofs.YtcjgjkejhkhknabGreatDoor

theorem read_out {bs : List Bk} {b leaf : Int} (h : ¬ (0 ≤ b ∧ b ≤ (bs.length : Int) - 1)) : readF bs b leaf = (⟨#[]⟩, false) := by
  unfold readF
  cases hb : bs[b.toNat]? with
  | none => rfl
  | some r =>
    have := (List.getElem?_eq_some_iff.1 hb).1
    simp only
    cases hl : r.2.2[leaf.toNat]? with
    | none => rfl
    | some t => exact if_neg (fun hh => h ⟨hh.1, by omega⟩)
theorem read_leaf_out {bs : List Bk} {k : Nat} {r : Bk} {leaf : Int} (hr : bs[k]? = some r) (h : ¬ (0 ≤ leaf ∧ leaf ≤ (r.2.2.length : Int) - 1)) : readF bs (k : Int) leaf = (⟨#[]⟩, false) := by
  unfold readF
  rw [Int.toNat_natCast, hr]
  simp only
  cases hl : r.2.2[leaf.toNat]? with
  | none => rfl
  | some t =>
    have := (List.getElem?_eq_some_iff.1 hl).1
    exact if_neg (fun hh => h ⟨hh.2.1, by omega⟩)
theorem read_in {bs : List Bk} {k j : Nat} {r : Bk} {t : Int × ByteArray} (hr : bs[k]? = some r) (ht : r.2.2[j]? = some t) : (t.1 = 1 → readF bs (k : Int) (j : Int) = (t.2, true)) ∧ (t.1 ≠ 1 → readF bs (k : Int) (j : Int) = (⟨#[]⟩, false)) := by
  unfold readF
  rw [Int.toNat_natCast, hr]
  simp only
  rw [Int.toNat_natCast, ht]
  exact ⟨fun h => if_pos ⟨by omega, by omega, h⟩, fun h => if_neg (fun hh => h hh.2.2)⟩
end Go.Proofs.YtcjgjkejhkhknabGreatDoor

/-
  (impl.Flash).blockAt, (*impl.Block).leafAt, (impl.Flash).blockInUse.
-/
namespace Go.Proofs.YtcjgjkejhkhknabGreatDoor
open Go.RowKit

set_option maxHeartbeats 400000 in
set_option maxRecDepth 100000 in
theorem iat_in (g n cap k : Nat) (w : World) (_hn : n ≤ 1048576) (hk : k < n) :
    Calls Tryz.prog 97 #[.agg #[.slice (some ⟨g, 0, none⟩) n cap], .int .i64 k] w fun e w' => e = .returned (.pointer (some ⟨g, k * 3, none⟩)) ∧ Below w.heap.size w w' := by
  have HB := hide ((Below.refl w.heap.size w).alloc (Nat.le_refl _) (.cells #[.slice (some ⟨g, 0, none⟩) n cap] 30))
  have h1 : (0 : Int) ≤ k := by omega
  have h2 : (k : Int) < n := by omega
  go_enter Tryz.func97, Tryz.ntmps97
  go_wp2
  go_ret
  exact ⟨rfl, HB.out⟩
set_option maxHeartbeats 400000 in
set_option maxRecDepth 100000 in
theorem iat_out (ad : Option Addr) (n cap : Nat) (b : Int) (w : World) (_hn : n ≤ 1048576) (hb : ¬ (0 ≤ b ∧ b ≤ (n : Int) - 1)) :
    Calls Tryz.prog 97 #[.agg #[.slice ad n cap], .int .i64 b] w fun e w' => e = .returned (.pointer none) ∧ Below w.heap.size w w' := by
  have HB := hide ((Below.refl w.heap.size w).alloc (Nat.le_refl _) (.cells #[.slice ad n cap] 30))
  by_cases h0 : b < 0
  · go_enter Tryz.func97, Tryz.ntmps97
    go_wp2
    go_ret
    exact ⟨rfl, HB.out⟩
  · have h1 : (n : Int) ≤ b := by omega
    clear hb
    go_enter Tryz.func97, Tryz.ntmps97
    go_wp2
    go_ret
    exact ⟨rfl, HB.out⟩
set_option maxHeartbeats 400000 in
set_option maxRecDepth 100000 in
theorem ilat_in (g o gl n cap k : Nat) (w : World) (_hn : n ≤ 1048576) (hk : k < n) (hc : w.cell? ⟨g, o + 2, none⟩ = some (.slice (some ⟨gl, 0, none⟩) n cap)) :
    Calls Tryz.prog 98 #[.pointer (some ⟨g, o, none⟩), .int .i64 k] w fun e w' => e = .returned (.pointer (some ⟨gl, k * 2, none⟩)) ∧ w' = w := by
  have h1 : (0 : Int) ≤ k := by omega
  have h2 : (k : Int) < n := by omega
  go_enter Tryz.func98, Tryz.ntmps98
  go_wp2
  go_ret
  exact ⟨rfl, rfl⟩
set_option maxHeartbeats 400000 in
set_option maxRecDepth 100000 in
theorem ilat_off (g o gl lo n cap k : Nat) (w : World) (_hn : n ≤ 1048576) (hk : k < n) (hc : w.cell? ⟨g, o + 2, none⟩ = some (.slice (some ⟨gl, lo, none⟩) n cap)) :
    Calls Tryz.prog 98 #[.pointer (some ⟨g, o, none⟩), .int .i64 k] w fun e w' => e = .returned (.pointer (some ⟨gl, lo + k * 2, none⟩)) ∧ w' = w := by
  have h1 : (0 : Int) ≤ k := by omega
  have h2 : (k : Int) < n := by omega
  go_enter Tryz.func98, Tryz.ntmps98
  go_wp2
  go_ret
  exact ⟨rfl, rfl⟩
set_option maxHeartbeats 400000 in
set_option maxRecDepth 100000 in
theorem ilat_out (g o n cap : Nat) (ad : Option Addr) (b : Int) (w : World) (_hn : n ≤ 1048576) (hb : ¬ (0 ≤ b ∧ b ≤ (n : Int) - 1)) (hc : w.cell? ⟨g, o + 2, none⟩ = some (.slice ad n cap)) :
    Calls Tryz.prog 98 #[.pointer (some ⟨g, o, none⟩), .int .i64 b] w fun e w' => e = .returned (.pointer none) ∧ w' = w := by
  by_cases h0 : b < 0
  · go_enter Tryz.func98, Tryz.ntmps98
    go_wp2
    go_ret
    exact ⟨rfl, rfl⟩
  · have h1 : (n : Int) ≤ b := by omega
    clear hb
    go_enter Tryz.func98, Tryz.ntmps98
    go_wp2
    go_ret
    exact ⟨rfl, rfl⟩
end Go.Proofs.YtcjgjkejhkhknabGreatDoor

/-
  strings.Clone.
-/
namespace Go.Proofs.YtcjgjkejhkhknabGreatDoor
open Go.RowKit

theorem fclone_any (s : ByteArray) (w : World) (hs : s.size ≤ 1048576) :
    Calls Tryz.prog 99 #[.string s] w fun e w' => e = .returned (.string s) ∧ Below w.heap.size w w' := by
  go_enter Tryz.func99, Tryz.ntmps99
  go_wp2_with fail
  refine (Tryz.stringslite_Clone s _ (by omega)).mono ?_
  rintro e w' ⟨rfl, hb⟩
  go_wp2
  go_ret
  exact ⟨rfl, hb⟩
end Go.Proofs.YtcjgjkejhkhknabGreatDoor

/-
  Flashes that can be read, whoever owns them, and wherever their leaves begin.
-/
namespace Go.Proofs.YtcjgjkejhkhknabGreatDoor
open Go.RowKit

def LeafRd (w : World) (u : Value) (ls : List (Int × ByteArray)) : Prop :=
  ∃ ld lc, u = .slice ld ls.length lc ∧ (ld = none → lc = 0) ∧ ∀ j t, ls[j]? = some t → ∃ gl o, ld = some ⟨gl, o, none⟩ ∧ w.cell? ⟨gl, o + j * 2, none⟩ = some (.int .i64 t.1) ∧ w.cell? ⟨gl, o + j * 2 + 1, none⟩ = some (.string t.2)
def FlashRd (w : World) (v : Value) (rs : List Rw) : Prop :=
  ∃ vd vcap, v = .slice vd rs.length vcap ∧ (vd = none → vcap = 0) ∧ ∀ k r, rs[k]? = some r → ∃ g, vd = some ⟨g, 0, none⟩ ∧ (w.cell? ⟨g, k * 3, none⟩ = some (.bool r.1) ∧ w.cell? ⟨g, k * 3 + 1, none⟩ = some (.int .i64 r.2.1) ∧ w.cell? ⟨g, k * 3 + 2, none⟩ = some r.2.2.1) ∧ LeafRd w r.2.2.1 r.2.2.2
theorem LeafRd.below {w w' : World} {u : Value} {ls : List (Int × ByteArray)} (h : LeafRd w u ls) (hb : Below w.heap.size w w') : LeafRd w' u ls := by
  obtain ⟨ld, lc, e, en, h⟩ := h
  refine ⟨ld, lc, e, en, fun j t ht => ?_⟩
  obtain ⟨gl, o, e2, c1, c2⟩ := h j t ht
  exact ⟨gl, o, e2, (hb.cell (World.block_lt_of_cell? w _ c1)).trans c1, (hb.cell (World.block_lt_of_cell? w _ c2)).trans c2⟩
theorem FlashRd.below {w w' : World} {v : Value} {rs : List Rw} (h : FlashRd w v rs) (hb : Below w.heap.size w w') : FlashRd w' v rs := by
  obtain ⟨vd, vcap, e, en, h⟩ := h
  refine ⟨vd, vcap, e, en, fun k r hr => ?_⟩
  obtain ⟨g, e2, ⟨c1, c2, c3⟩, hl⟩ := h k r hr
  exact ⟨g, e2, ⟨(hb.cell (World.block_lt_of_cell? w _ c1)).trans c1, (hb.cell (World.block_lt_of_cell? w _ c2)).trans c2, (hb.cell (World.block_lt_of_cell? w _ c3)).trans c3⟩, hl.below hb⟩
theorem FlashRd.at {w : World} {vd : Option Addr} {n vcap k : Nat} {rs : List Rw} {r : Rw} (h : FlashRd w (.slice vd n vcap) rs) (hr : rs[k]? = some r) : ∃ g, vd = some ⟨g, 0, none⟩ ∧ (w.cell? ⟨g, k * 3, none⟩ = some (.bool r.1) ∧ w.cell? ⟨g, k * 3 + 1, none⟩ = some (.int .i64 r.2.1) ∧ w.cell? ⟨g, k * 3 + 2, none⟩ = some r.2.2.1) ∧ LeafRd w r.2.2.1 r.2.2.2 := by
  obtain ⟨vd', vcap', e, -, h⟩ := h
  injection e with e1 e2 e3
  subst e1
  exact h k r hr
theorem own_nil {w : World} {B : Nat} {e : TypeId} {size n cap m : Nat} {a : Option Addr} {xs : List Value} (h : w.ownsRow B e size (.slice a m cap) n xs) : a = none → cap = 0 := by
  rintro rfl
  rcases h.2 with ⟨h, -⟩ | ⟨g, cap', cur, h, -⟩
  · injection h
  · cases h
theorem LeafIn.rd {w : World} {lo hi : Nat} {u : Value} {ls : List (Int × ByteArray)} (h : LeafIn w lo hi u ls) : LeafRd w u ls := by
  obtain ⟨ld, lc, rfl, -, -, l3⟩ := frow_form h.1
  refine ⟨ld, lc, rfl, own_nil h.1, fun j t ht => ?_⟩
  obtain ⟨gl, rfl, -, -⟩ := l3 (by have := (List.getElem?_eq_some_iff.1 ht).1; omega)
  obtain ⟨d1, d2⟩ := lown_cells h.1 ht
  exact ⟨gl, 0, rfl, by rw [Nat.zero_add]; exact d1, by rw [Nat.zero_add]; exact d2⟩
theorem FlashIn.rd {w : World} {lo hi : Nat} {v : Value} {rs : List Rw} (h : FlashIn w lo hi v rs) : FlashRd w v rs := by
  obtain ⟨vd, vcap, rfl, -, -, a3⟩ := frow_form h.1
  refine ⟨vd, vcap, rfl, own_nil h.1, fun k r hr => ?_⟩
  obtain ⟨g, rfl, -, -⟩ := a3 (by have := (List.getElem?_eq_some_iff.1 hr).1; omega)
  exact ⟨g, rfl, kown_cells (k := k) (t := cellOf r) h.1 (by rw [List.getElem?_map, hr]; rfl), (h.2.2.1 r (List.mem_of_getElem? hr)).rd⟩
theorem addr_offR (g o j : Nat) : (⟨g, o, none⟩ : Addr).add j = ⟨g, o + j, none⟩ := by
  simp only [Addr.add]
  split <;> simp_all
theorem LeafRd.cells {w : World} {gl o n lc : Nat} {ls : List (Int × ByteArray)} (h : LeafRd w (.slice (some ⟨gl, o, none⟩) n lc) ls) (j : Nat) (u : Value) (hj : (lcells ls)[j]? = some u) : w.cell? ⟨gl, o + j, none⟩ = some u := by
  obtain ⟨ld, lc', e, -, h⟩ := h
  injection e with e1 e2 e3
  subst e1
  have hlt := (List.getElem?_eq_some_iff.1 hj).1
  rw [lcells_len] at hlt
  obtain ⟨t, ht⟩ : ∃ t, ls[j / 2]? = some t := ⟨_, List.getElem?_eq_getElem (by omega)⟩
  obtain ⟨gl', o', e4, c1, c2⟩ := h _ t ht
  injection e4 with e4
  injection e4 with e5 e6
  subst e5 e6
  obtain ⟨k1, k2⟩ := lcells_at ls (j / 2) t ht
  rcases Nat.mod_two_eq_zero_or_one j with hm | hm
  · have e : j / 2 * 2 = j := by omega
    rw [e] at k1 c1
    rw [hj] at k1
    cases k1
    exact c1
  · have e : j / 2 * 2 + 1 = j := by omega
    rw [e, hj] at k2
    cases k2
    rw [Nat.add_assoc, e] at c2
    exact c2
/-- Where leaves begin. -/
theorem LeafRd.head {w : World} {ld : Option Addr} {n lc : Nat} {ls : List (Int × ByteArray)} (h : LeafRd w (.slice ld n lc) ls) (hn : 0 < ls.length) : ∃ gl o, ld = some ⟨gl, o, none⟩ := by
  obtain ⟨ld', lc', e, -, h⟩ := h
  injection e with e1 e2 e3
  subst e1
  obtain ⟨gl, o, e, -⟩ := h 0 _ (List.getElem?_eq_getElem hn)
  exact ⟨gl, o, e⟩
theorem LeafRd.two {w : World} {gl o n lc j : Nat} {ls : List (Int × ByteArray)} {t : Int × ByteArray} (h : LeafRd w (.slice (some ⟨gl, o, none⟩) n lc) ls) (ht : ls[j]? = some t) : w.cell? ⟨gl, o + j * 2, none⟩ = some (.int .i64 t.1) ∧ w.cell? ⟨gl, o + j * 2 + 1, none⟩ = some (.string t.2) := by
  obtain ⟨k1, k2⟩ := lcells_at ls j t ht
  exact ⟨h.cells _ _ k1, h.cells _ _ k2⟩
theorem LeafRd.none0 {w : World} {ld : Option Addr} {n lc : Nat} {ls : List (Int × ByteArray)} (h : LeafRd w (.slice ld n lc) ls) : ld = none → lc = 0 := by
  obtain ⟨ld', lc', e, h, -⟩ := h
  injection e with e1 e2 e3
  subst e1 e3
  exact h
theorem FlashRd.head {w : World} {vd : Option Addr} {n vcap : Nat} {rs : List Rw} (h : FlashRd w (.slice vd n vcap) rs) (hn : 0 < rs.length) : ∃ g, vd = some ⟨g, 0, none⟩ := by
  obtain ⟨g, e, -⟩ := h.at (List.getElem?_eq_getElem hn)
  exact ⟨g, e⟩
end Go.Proofs.YtcjgjkejhkhknabGreatDoor
