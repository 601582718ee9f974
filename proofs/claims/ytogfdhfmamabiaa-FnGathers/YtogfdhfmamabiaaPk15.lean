/-
  StApp; FdCut; CePg
-/
import Derived.Test.YtogfdhfmamabiaaPk11
import Derived.Deep.AppendLies
import Derived.Maps.AppendAt
import Derived.Test.YtogfdhfmamabiaaPk13
import Derived.Test.YtogfdhfmamabiaaPk14
import Derived.Test.YtogfdhfmamabiaaPk0
/-
  append at a step of a region that draws.
-/
namespace Go.Proofs.Ytogfdhfmamabiaa
open Go.RowKit

/-- append onto a row of the call's own, at a step of a region that draws: however many are appended. -/
theorem step_append_own {P : Program} (w : World) {ops : Array Oper} {o : Oper} {a : Act} {K : Act → World → Prop} {Q : Exit → Act → World → Prop} {E : Prop} (hgd : o.guard = none) (s x : Operand) (t : TypeId)
    (ho : o.op = .call { callee := .builtin .append, args := #[s, x], argTypes := #[t, t] })
    (base : Nat) (e : TypeId) (i : TypeInfo) (z : Value) (size bytes : Nat) (ht : P.underlying t = some (.slice e)) (hi : P.info? e = some i) (hz : i.zero = some z)
    (hsize : i.size = size) (hby : i.bytes = bytes) (hzs : z.cells.size = size) (hsz : 0 < size)
    (v : Value) (n : Nat) (xs : List Value) (hs : a.eval s = v) (hown : w.ownsRow base e size v n xs)
    (ad : Addr) (m c : Nat) (news : List Value) (hx : a.eval x = .slice (some ad) m c) (hl : news.length = m * size) (hnews : ∀ j u, news[j]? = some u → w.cell? (ad.add j) = some u) (h1 : ∀ u ∈ news, u.oneCell' = true)
    (h63 : n + m ≤ maxLen) (hbytes : (n + m) * bytes ≤ 140737488355328) (hbase : base ≤ w.heap.size)
    (h : ∀ v' w', w'.ownsRow base e size v' (n + m) (xs ++ news) → w.grownBy w' v.ownBlock → K (a.put o.dst v') w') :
    if Region.wanted o (yielded ops a.tmps) = true then Oper.wp P o a w K Q else E := by
  have hw : Region.wanted o (yielded ops a.tmps) = true := by simp [Region.wanted, hgd]
  rw [if_pos hw]
  obtain ⟨v', w', hr, h2, h3, _, _⟩ := run_append_own_at (P := P) w base t o.type e i z size bytes ht hi hz hsize hby hzs hsz v n xs hown ad m c news hl hnews h1 h63 hbytes hbase
  unfold Oper.wp execOp
  simp only [ho, resolve, invoke, builtin, Sem.run_bind, Sem.run_pure, Result.andThen_ok, List.map_toArray, List.map_cons, List.map_nil, hs, hx, hr]
  exact h v' w' h2 h3
end Go.Proofs.Ytogfdhfmamabiaa

/-
  Parts of rows of what was found; append at a step of a region that draws.
-/
namespace Go.Proofs.Ytogfdhfmamabiaa
open Go.RowKit
open Words

theorem fnd_size (w : World) : (sizeOf (Try.prog.elem 24)).run Try.prog w = .ok 8 w := by kernel_rfl
theorem fnd_slice : Try.prog.underlying 24 = some (.slice (Try.prog.elem 24)) := by kernel_rfl
theorem addr_zero2 (a : Addr) : a.add 0 = a := by
  simp only [Addr.add]
  split <;> simp_all
theorem addr_off3 (b off j : Nat) : (⟨b, off, none⟩ : Addr).add j = ⟨b, off + j, none⟩ := by
  simp only [Addr.add]
  split <;> simp_all
/-- list[:k]. -/
theorem ftake_run (ad : Option Addr) (n cap k : Nat) (w : World) (hk : k ≤ cap) : (Instr.slice 24 (.slice ad n cap) none (some (.int .i64 (k : Int))) none).run Try.prog w = .ok (.slice ad k cap) w := by
  rw [run_slice_h w 24 ad n cap fnd_slice .i64 _ (by omega) (by omega), fnd_size]
  simp only [Result.andThen, sliced, Int.toNat_natCast, Nat.zero_mul, Nat.sub_zero]
  congr 2
  split
  · rfl
  · cases ad <;> simp [addr_zero2]
/-- list[k:]. -/
theorem fdrop_run (g o n cap k : Nat) (w : World) (hk : k ≤ n) : (Instr.slice 24 (.slice (some ⟨g, o, none⟩) n cap) (some (.int .i64 (k : Int))) none none).run Try.prog w = .ok (.slice (if cap = k then some ⟨g, o, none⟩ else some ⟨g, o + k * 8, none⟩) (n - k) (cap - k)) w := by
  rw [run_slice_l w 24 (some ⟨g, o, none⟩) n cap fnd_slice .i64 _ (by omega) (by omega), fnd_size]
  simp only [Result.andThen, sliced, Int.toNat_natCast]
  congr 2
  split
  · rfl
  · simp [addr_off3]
/-- The cells of list[k:]. -/
theorem fdrop_cells {w : World} {B g n cap k : Nat} {zs : List Fnd} {ad : Addr} (h : w.ownsRow B 42 8 (.slice (some ⟨g, 0, none⟩) n cap) n (fcells zs)) (hn : zs.length = n) (hc : n ≤ cap) (hk : k ≤ n) (ha : (if cap = k then some (⟨g, 0, none⟩ : Addr) else some ⟨g, 0 + k * 8, none⟩) = some ad) : ∀ j u, (fcells (zs.drop k))[j]? = some u → w.cell? (ad.add j) = some u := by
  intro j u hj
  have e : fcells zs = fcells (zs.take k) ++ fcells (zs.drop k) := by unfold fcells; rw [← List.flatMap_append, List.take_append_drop]
  have hl : (fcells (zs.take k)).length = k * 8 := by rw [fcells_len, List.length_take]; congr 1; omega
  have hjl := (List.getElem?_eq_some_iff.1 hj).1
  rw [fcells_len, List.length_drop] at hjl
  rw [if_neg (by omega)] at ha
  cases ha
  have h2 : (fcells zs)[k * 8 + j]? = some u := by
    rw [e, List.getElem?_append_right (by omega), hl, Nat.add_sub_cancel_left]
    exact hj
  have := h.cells (g := g) rfl _ _ h2
  rw [addr_off3] at this
  rw [addr_off3]
  simpa [Nat.add_assoc] using this
theorem ftake_cells {w : World} {B g n cap k : Nat} {zs : List Fnd} (h : w.ownsRow B 42 8 (.slice (some ⟨g, 0, none⟩) n cap) n (fcells zs)) : ∀ j u, (fcells (zs.take k))[j]? = some u → w.cell? ((⟨g, 0, none⟩ : Addr).add j) = some u := by
  intro j u hj
  have e : fcells zs = fcells (zs.take k) ++ fcells (zs.drop k) := by unfold fcells; rw [← List.flatMap_append, List.take_append_drop]
  refine h.cells (g := g) rfl j u ?_
  rw [e, List.getElem?_append_left (List.getElem?_eq_some_iff.1 hj).1]
  exact hj
theorem fcells_one (l : List Fnd) : ∀ u ∈ fcells l, u.oneCell' = true := by
  intro u hu
  obtain ⟨x, -, hx⟩ := List.mem_flatMap.1 hu
  exact fd_one x u hx
end Go.Proofs.Ytogfdhfmamabiaa

/-
  The cells of Pages in a row.
-/
namespace Go.Proofs.Ytogfdhfmamabiaa
open Go.RowKit

/-- The cells of elements. -/
def pgcell (t : Int × Int × Int × Int × Int × ByteArray) : List Value := [.int .i64 t.1, .int .i64 t.2.1, .int .i64 t.2.2.1, .int .i64 t.2.2.2.1, .int .i64 t.2.2.2.2.1, .string t.2.2.2.2.2]
def pgcells (l : List (Int × Int × Int × Int × Int × ByteArray)) : List Value := l.flatMap pgcell
theorem pgcells_len (l : List (Int × Int × Int × Int × Int × ByteArray)) : (pgcells l).length = l.length * 6 := by
  induction l with
  | nil => rfl
  | cons t l ih => simp [pgcells, pgcell] at ih ⊢; omega
theorem pgcells_app (a b : List (Int × Int × Int × Int × Int × ByteArray)) : pgcells (a ++ b) = pgcells a ++ pgcells b := by simp [pgcells]
theorem pgcells_cons (t : Int × Int × Int × Int × Int × ByteArray) (l : List (Int × Int × Int × Int × Int × ByteArray)) : pgcells (t :: l) = pgcell t ++ pgcells l := by simp [pgcells]
theorem pgcells_at (l : List (Int × Int × Int × Int × Int × ByteArray)) (k : Nat) (t : Int × Int × Int × Int × Int × ByteArray) (h : l[k]? = some t) (j : Nat) (v : Value) (hj : (pgcell t)[j]? = some v) : (pgcells l)[k * 6 + j]? = some v := by
  have hlt : j < 6 := (List.getElem?_eq_some_iff.1 hj).1
  induction l generalizing k with
  | nil => simp at h
  | cons a l ih =>
    rw [pgcells_cons]
    cases k with
    | zero =>
      simp at h
      subst h
      rw [List.getElem?_append_left (by show _ < 6; omega), Nat.zero_mul, Nat.zero_add]
      exact hj
    | succ k =>
      rw [List.getElem?_append_right (by show 6 ≤ _; omega), show (k + 1) * 6 + j - (pgcell a).length = k * 6 + j by show _ - 6 = _; omega]
      exact ih k (by simpa using h)
theorem pgcells_one (l : List (Int × Int × Int × Int × Int × ByteArray)) : ∀ v ∈ pgcells l, v.oneCell' = true := by
  intro v hv
  obtain ⟨t, -, ht⟩ := List.mem_flatMap.1 hv
  simp [pgcell] at ht
  rcases ht with h | h | h | h | h | h <;> subst h <;> rfl
theorem infoPg : (Try.prog.info? 40).map (fun i => (i.zero, i.size, i.bytes)) = some (some (.agg #[.int .i64 0, .int .i64 0, .int .i64 0, .int .i64 0, .int .i64 0, .string ⟨#[]⟩]), 6, 56) := by kernel_rfl
theorem infoPgz : (Try.prog.info? 40).map (·.size) = some 6 := by kernel_rfl
end Go.Proofs.Ytogfdhfmamabiaa
