/-
  spec.l09Bytes: the bytes of right records, one behind the other.
-/
import Derived.Test.YtcjgjkejhkhknabSReadRecs
namespace Go.Proofs.Ytcjgjkejhkhknab
open Go.RowKit
open Words

def recsA (l : List Rc) : ByteArray := ⟨(recsL l).toArray⟩
theorem recsA_size (l : List Rc) (h : ∀ r ∈ l, r.Right) : (recsA l).size ≤ 19 * l.length := by
  have e : (recsA l).size = (recsL l).length := by show (recsL l).toArray.size = _; simp
  rw [e]
  exact (recsL_len l h).2
theorem recsA_snoc (l : List Rc) (r : Rc) : recsA l ++ recA r = recsA (l ++ [r]) := by
  apply ba_ext
  rw [ByteArray.data_append, Array.toList_append, recA_list]
  show (recsL l).toArray.toList ++ recL r = (recsL (l ++ [r])).toArray.toList
  rw [recsL_snoc]
theorem rc_at {w : World} {B g n c : Nat} {l : List Rc} (h : w.ownsRow B 25 4 (.slice (some ⟨g, 0, none⟩) n c) l.length (rccells (l.map Rc.tu))) {k : Nat} {r : Rc} (hk : l[k]? = some r) (j : Nat) (v : Value) (hj : (rccell r.tu)[j]? = some v) : w.cell? ⟨g, k * 4 + j, none⟩ = some v := by
  have := h.cells (g := g) rfl (k * 4 + j) v (rccells_at (l.map Rc.tu) k r.tu (by rw [List.getElem?_map, hk]; rfl) j v hj)
  rw [Addr.add_lit] at this
  simpa using this

set_option maxHeartbeats 1000000 in
set_option maxRecDepth 100000 in
theorem sbytes (g n c B : Nat) (l : List Rc) (w : World) (hn : l.length = n) (h8 : n ≤ 8) (hr : ∀ r ∈ l, r.Right) (ho : w.ownsRow B 25 4 (.slice (some ⟨g, 0, none⟩) n c) l.length (rccells (l.map Rc.tu))) :
    Calls Try.prog 22 #[.slice (some ⟨g, 0, none⟩) n c] w fun e w' => e = .returned (.string (recsA l)) ∧ Below w.heap.size w w' := by
  have HO := hide ho
  have HN := hide hn
  have HR := hide hr
  clear ho hr hn
  go_enter Try.func22, Try.ntmps22
  go_wp2
  go_loopw [3, 4] (fun sv iv wr => ∃ k : Nat, k ≤ n ∧ iv = .int .i64 k ∧ (∃ s : ByteArray, sv = .string s ∧ s.size ≤ 19 * k ∧ Hid (s = recsA (l.take k))) ∧ Hid (Below w.heap.size w wr)) (fun _ iv _ => n - (intOf iv).toNat)
  case atStart => exact ⟨0, Nat.zero_le _, rfl, ⟨_, rfl, by simp [ByteArray.size], rfl⟩, Below.refl _ _⟩
  case round =>
    obtain ⟨k, hk, rfl, ⟨s, rfl, hs, E⟩, HW⟩ := hrel
    by_cases hlt : (k : Int) < n
    · have hkl : k < l.length := by have := HN.out; omega
      obtain ⟨r, hx⟩ : ∃ r, l[k]? = some r := ⟨l[k], List.getElem?_eq_getElem hkl⟩
      have OW := own_below HO.out HW.out
      have c0 : wr.cell? ⟨g, k * 4, none⟩ = some (.int .i64 r.kind) := rc_at OW hx 0 _ rfl
      have c1 : wr.cell? ⟨g, k * 4 + 1, none⟩ = some (.int .i64 r.vol) := rc_at OW hx 1 _ rfl
      have c2 : wr.cell? ⟨g, k * 4 + 2, none⟩ = some (.int .i64 r.arg) := rc_at OW hx 2 _ rfl
      have c3 : wr.cell? ⟨g, k * 4 + 3, none⟩ = some (.int .i64 r.chunk) := rc_at OW hx 3 _ rfl
      have hrr := HR.out r (List.mem_of_getElem? hx)
      have C := hide (srecText r wr)
      unfold rtRes rcVal at C
      rw [if_pos hrr] at C
      have hz := recA_size r hrr
      have E' : Hid (s ++ recA r = recsA (l.take (k + 1))) := by
        show _ = _
        rw [E.out, recsA_snoc, List.take_add_one, hx]
        rfl
      generalize recA r = b at C hz E'
      have HX := hide hx
      clear hx OW hkl hrr E
      obtain ⟨u, U⟩ : ∃ u, s ++ b = u := ⟨_, rfl⟩
      rw [U] at E'
      have z := congrArg ByteArray.size U
      rw [ByteArray.size_append] at z
      have Y : ¬ (9223372036854775807 < s.size + b.size) := by omega
      have k0 : (0 : Int) ≤ k := by omega
      go_wp2_with fail
      refine C.out.mono ?_
      rintro e w2 ⟨rfl, b2⟩
      have HW2 := hide (HW.out.trans (b2.mono HW.out.size))
      clear b2 HW C c0 c1 c2 c3
      go_wp2
      go_roundw
      case rel => exact ⟨k + 1, by omega, by go_num, ⟨u, by first | rfl | rw [← U], by omega, E'⟩, HW2⟩
      case measure => simp [intOf]; omega
    · have hkn : k = l.length := by have := HN.out; omega
      have E' : Hid (s = recsA l) := by show _ = _; rw [E.out, hkn, List.take_length]
      clear E
      go_wp2
      go_ret
      exact ⟨by rw [← E'.out]; rfl, HW.out⟩
end Go.Proofs.Ytcjgjkejhkhknab
