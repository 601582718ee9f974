/-
  The walks of the program's reading of tokens from bytes.
-/
import Derived.Test.YtaolinlginloaabPkRM
import Derived.Test.YtaolinlginloaabIPlain
import Derived.Test.YtaolinlginloaabWithB
namespace Go.Proofs.Ytaolinlginloaab
open Go.RowKit
open Pack

theorem infoTokS : (Try.prog.info? 46).map (·.size) = some 3 := by kernel_rfl
theorem results_tok3 {fn : Func} {p q r : Tmp} (h : fn.results = #[.cell p 46, .tmp q, .tmp r]) (tmps : Array Value) (w : World) (g : Nat) (a b : Int) (t : ByteArray)
    (hp : tmps.getD p undef = .pointer (some ⟨g, 0, none⟩)) (hc : TokAt w g a b t) :
    (results fn tmps).run Try.prog w = .ok (.tuple #[.agg #[.int .i64 a, .int .i64 b, .string t], tmps.getD q undef, tmps.getD r undef]) w := by
  have hp' : tmps[p]?.getD undef = .pointer (some ⟨g, 0, none⟩) := by simpa using hp
  have hl := run_loadVar_row (P := Try.prog) w g 46 46 _ _ _ hc Try.underlying46 rfl infoTokS
  simp [results, h, hp', asAddr, hl]

/-- Texts by their bytes. -/
def BA (l : List UInt8) : ByteArray := ⟨l.toArray⟩
theorem BA_size (l : List UInt8) : (BA l).size = l.length := by show l.toArray.size = _; simp
theorem BA_list (l : List UInt8) : (BA l).data.toList = l := rfl
theorem BA_of (s : ByteArray) : s = BA s.data.toList := rfl
theorem BA_ext (l : List UInt8) (a b : Nat) : (BA l).extract a b = BA ((l.drop a).take (b - a)) := by
  apply ByteArray.ext
  apply Array.ext'
  rw [Lib.extract_data]
  rfl
theorem cut_from (l : List UInt8) (k : Nat) (x : Int) (hx : x = k) (hk : k ≤ l.length) (W : World) : (Instr.slice 9 (.string (BA l)) (some (.int .i64 x)) none none).run Try.prog W = .ok (.string (BA (l.drop k))) W := by
  subst hx
  rw [run_slice_string_from_if W 9 (BA l) .i64 _ Try.underlying9, if_pos (by rw [BA_size]; omega), BA_ext, BA_size]
  rw [List.take_of_length_le (by rw [List.length_drop]; simp)]
  rfl
theorem cut_to (l : List UInt8) (k : Nat) (x : Int) (hx : x = k) (hk : k ≤ l.length) (W : World) : (Instr.slice 9 (.string (BA l)) none (some (.int .i64 x)) none).run Try.prog W = .ok (.string (BA (l.take k))) W := by
  subst hx
  rw [run_slice_string_to_if W 9 (BA l) .i64 _ Try.underlying9, if_pos (by rw [BA_size]; omega), BA_ext]
  rfl
theorem idx_of (l : List UInt8) (k : Nat) (c : UInt8) (x : Int) (hx : x = k) (hk : l[k]? = some c) (W : World) : (Instr.index 9 (.string (BA l)) (.int .i64 x)).run Try.prog W = .ok (.int .u8 ((c.toNat : Nat) : Int)) W := by
  have hl := (List.getElem?_eq_some_iff.1 hk).1
  have := byte_ofT (BA l) k x hx (by rw [BA_size]; exact hl) W
  rw [BA_list, List.getD_eq_getElem?_getD, hk] at this
  exact this

theorem TokAt.set0 {w : World} {g : Nat} {a b : Int} {t : ByteArray} (h : TokAt w g a b t) (a' : Int) : TokAt (w.setCell ⟨g, 0, none⟩ (.int .i64 a')) g a' b t := by
  unfold TokAt at *
  rw [setCell_eq_setRow w g 0 _ _ (0, 0) _ h]
  exact setRow_heap w g _ _ _ _ h
theorem TokAt.set1 {w : World} {g : Nat} {a b : Int} {t : ByteArray} (h : TokAt w g a b t) (b' : Int) : TokAt (w.setCell ⟨g, 1, none⟩ (.int .i64 b')) g a b' t := by
  unfold TokAt at *
  rw [setCell_eq_setRow w g 1 _ _ (0, 0) _ h]
  exact setRow_heap w g _ _ _ _ h
theorem TokAt.set2 {w : World} {g : Nat} {a b : Int} {t : ByteArray} (h : TokAt w g a b t) (t' : ByteArray) : TokAt (w.setCell ⟨g, 2, none⟩ (.string t')) g a b t' := by
  unfold TokAt at *
  rw [setCell_eq_setRow w g 2 _ _ (0, 0) _ h]
  exact setRow_heap w g _ _ _ _ h
theorem TokAt.drewN {w : World} {g : Nat} {a b : Int} {t : ByteArray} (h : TokAt w g a b t) (k : Nat) : TokAt (w.drewN k) g a b t := h.below (below_drewN (Below.refl _ _) k)
theorem below_tok {B g : Nat} {a w : World} {x y z : Value} (h : Below B a w) (hg : B ≤ g) : Below B a (((w.setCell ⟨g, 0, none⟩ x).setCell ⟨g, 1, none⟩ y).setCell ⟨g, 2, none⟩ z) :=
  ((h.setCell (p := ⟨g, 0, none⟩) hg x).setCell (p := ⟨g, 1, none⟩) hg y).setCell (p := ⟨g, 2, none⟩) hg z
theorem BA_emp : (BA []).toList.isEmpty = true := by rw [Lib.toList_data]; rfl
theorem BA_ful (c : UInt8) (r : List UInt8) : (BA (c :: r)).toList.isEmpty = false := by rw [Lib.toList_data]; rfl

set_option maxHeartbeats 400000 in
set_option maxRecDepth 100000 in
theorem cut_any (n : UInt8) (r : List UInt8) (w : World) (hr : r.length ≤ 1000) :
    Calls Try.prog 33 #[.string (BA (n :: r))] w fun e w' => (∃ (a b : Nat) (t s : List UInt8) (ok : Bool), e = .returned (.tuple #[.agg #[.int .i64 (a : Int), .int .i64 (b : Int), .string (BA t)], .string (BA s), .bool ok]) ∧
      s.length ≤ r.length ∧ (ok = true → RG 128 (n :: r) = (RG 128 s).map fun l => (a, b, t) :: l) ∧ (ok = false → RG 128 (n :: r) = none)) ∧ Below w.heap.size w w' := by
  have hn := n.toNat_lt
  have i1 := idx_of (n :: r) 0 n 0 rfl rfl
  have c1 := cut_from (n :: r) 1 1 rfl (by simp)
  rw [List.drop_one, List.tail_cons] at c1
  by_cases h128 : (128 : Int) ≤ n.toNat
  · cases r with
    | nil =>
      have HX := hide (RG_cut 128 n (by omega))
      have he := BA_emp
      have HT := hide (tok_new w 0 0 ⟨#[]⟩)
      have HB := hide ((Below.refl w.heap.size w).alloc (Nat.le_refl _) (.cells #[.int .i64 0, .int .i64 0, .string ⟨#[]⟩] 46))
      go_enter Try.func33, Try.ntmps33
      go_wp2
      go_quiet (fail)
      go_wp2
      exact bodyPost_ret (results_tok3 rfl _ _ w.heap.size _ _ _ rfl ((((HT.out.drewN _).set0 _).set1 _).set2 _)) rfl ⟨⟨0, 0, [], [], false, rfl, Nat.le_refl _, (fun h => by cases h), fun _ => HX.out⟩, below_tok (below_drewN HB.out _) (Nat.le_refl _)⟩
    | cons b r =>
      have hbl := b.toNat_lt
      have he := BA_ful b r
      have i2 := idx_of (b :: r) 0 b 0 rfl rfl
      have c2 := cut_from (b :: r) 1 1 rfl (by simp)
      rw [List.drop_one, List.tail_cons] at c2
      have HX := hide (RG_match 128 n b r (by omega))
      have HT := hide (tok_new w 0 0 ⟨#[]⟩)
      have HB := hide ((Below.refl w.heap.size w).alloc (Nat.le_refl _) (.cells #[.int .i64 0, .int .i64 0, .string ⟨#[]⟩] 46))
      go_enter Try.func33, Try.ntmps33
      go_wp2
      go_quiet (fail)
      go_wp2
      go_region
      go_wp2
      exact bodyPost_ret (results_tok3 rfl _ _ w.heap.size _ _ _ rfl ((((HT.out.drewN _).set0 _).set1 _).set2 _)) rfl ⟨⟨b.toNat, n.toNat - 128, [], r, true, (by rw [show ((n.toNat - 128 : Nat) : Int) = (n.toNat : Int) - 128 by omega]; rfl), Nat.le_succ _, (fun _ => HX.out), fun h => by cases h⟩, below_tok (below_drewN HB.out _) (Nat.le_refl _)⟩
  · have HT := hide (tok_new w 0 0 ⟨#[]⟩)
    have HB := hide ((Below.refl w.heap.size w).alloc (Nat.le_refl _) (.cells #[.int .i64 0, .int .i64 0, .string ⟨#[]⟩] 46))
    have hbs := BA_size r
    by_cases hgt : (r.length : Int) < n.toNat
    · have HX := hide (RG_short 128 n r (by omega) (by omega))
      go_enter Try.func33, Try.ntmps33
      go_wp2
      go_quiet (fail)
      go_wp2
      exact bodyPost_ret (results_tok3 rfl _ _ w.heap.size _ _ _ rfl ((((HT.out.drewN _).set0 _).set1 _).set2 _)) rfl ⟨⟨0, 0, [], [], false, rfl, Nat.zero_le _, (fun h => by cases h), fun _ => HX.out⟩, below_tok (below_drewN HB.out _) (Nat.le_refl _)⟩
    · have HX := hide (RG_text 128 n r (by omega) (by omega))
      have c2 := cut_to r n.toNat (n.toNat : Int) rfl (by omega)
      have c3 := cut_from r n.toNat (n.toNat : Int) rfl (by omega)
      go_enter Try.func33, Try.ntmps33
      go_wp2
      go_quiet (fail)
      go_wp2
      go_region
      go_wp2
      exact bodyPost_ret (results_tok3 rfl _ _ w.heap.size _ _ _ rfl ((((HT.out.drewN _).set0 _).set1 _).set2 _)) rfl ⟨⟨0, 0, r.take n.toNat, r.drop n.toNat, true, rfl, (by rw [List.length_drop]; omega), (fun _ => HX.out), fun h => by cases h⟩, below_tok (below_drewN HB.out _) (Nat.le_refl _)⟩
end Go.Proofs.Ytaolinlginloaab
