/-
  TkBs; RowBk; IBase
-/
import Derived.Test.YtcnaahajaaifjaaPq31
import Derived.Test.YtcnaahajaaifjaaPq20
import Derived.Test.YtcnaahajaaifjaaPq0
import Derived.Test.YtcnaahajaaifjaaPq1
import Derived.Test.YtcnaahajaaifjaaPq12
import Derived.Maps.AppendAt
/-
  BaseRecs over what a drawn law holds; rows of records taken and dropped.
-/
namespace Go.Proofs.Ytcnaahajaaifjaa
open Go.RowKit
open Words

theorem rc_size (w : World) : (sizeOf (Try.prog.elem 39)).run Try.prog w = .ok 4 w := by kernel_rfl
theorem rc_slice : Try.prog.underlying 39 = some (.slice (Try.prog.elem 39)) := by kernel_rfl
/-- list[:k]. -/
theorem rtake_run (ad : Option Addr) (n cap k : Nat) (w : World) (hk : k ≤ cap) : (Instr.slice 39 (.slice ad n cap) none (some (.int .i64 (k : Int))) none).run Try.prog w = .ok (.slice ad k cap) w := by
  rw [run_slice_h w 39 ad n cap rc_slice .i64 _ (by omega) (by omega), rc_size]
  simp only [Result.andThen, sliced, Int.toNat_natCast, Nat.zero_mul, Nat.sub_zero]
  congr 2
  split
  · rfl
  · cases ad <;> simp [addr_zero4]
/-- list[k:]. -/
theorem rdrop_run (g o n cap k : Nat) (w : World) (hk : k ≤ n) : (Instr.slice 39 (.slice (some ⟨g, o, none⟩) n cap) (some (.int .i64 (k : Int))) none none).run Try.prog w = .ok (.slice (if cap = k then some ⟨g, o, none⟩ else some ⟨g, o + k * 4, none⟩) (n - k) (cap - k)) w := by
  rw [run_slice_l w 39 (some ⟨g, o, none⟩) n cap rc_slice .i64 _ (by omega) (by omega), rc_size]
  simp only [Result.andThen, sliced, Int.toNat_natCast]
  congr 2
  split
  · rfl
  · simp [addr_off3v]
theorem rows_sl {W : World} {lo hi n c : Nat} {a : Option Addr} {l : List Rc} (h : Sli 31 lo hi (.slice a n c) n (rccells (l.map Rc.tu)) W) (hn : l.length = n) (hm : n ≤ 1048576) : RcRow W a n (l.map Rc.tu) := by
  rcases h with ⟨e, h0⟩ | ⟨g, cap, e, h1, h2, h3⟩
  · refine ⟨by rw [List.length_map]; exact hn, by unfold maxLen; omega, by simp, fun hp => ?_⟩
    omega
  · injection e with e1 e2 e3
    have := rows_of (l := l) (by omega) h3
    rw [hn] at this
    rw [e1]
    exact this
theorem RcRow.takeR {w : World} {a : Option Addr} {n : Nat} {l : List Rc} (h : RcRow w a n (l.map Rc.tu)) {k : Nat} (hk : k ≤ n) : RcRow w a k ((l.take k).map Rc.tu) := by
  obtain ⟨h1, h2, h3, h4⟩ := h
  rw [List.length_map] at h1
  refine ⟨by simp; omega, by omega, by simp, fun h0 => ?_⟩
  obtain ⟨b, off, e, hb, hc⟩ := h4 (by omega)
  refine ⟨b, off, e, hb, fun i t ht => hc i t ?_⟩
  rw [List.map_take, List.getElem?_take] at ht
  split at ht
  · exact ht
  · cases ht
theorem RcRow.dropR {w : World} {b off n cap : Nat} {l : List Rc} (h : RcRow w (some ⟨b, off, none⟩) n (l.map Rc.tu)) (hc : n ≤ cap) {j : Nat} (hj : j ≤ n) : RcRow w (if cap = j then some ⟨b, off, none⟩ else some ⟨b, off + j * 4, none⟩) (n - j) ((l.drop j).map Rc.tu) := by
  obtain ⟨h1, h2, h3, h4⟩ := h
  rw [List.length_map] at h1
  refine ⟨by simp; omega, by omega, by simp, fun h0 => ?_⟩
  obtain ⟨b', off', e, hb, hc2⟩ := h4 (by omega)
  injection e with e
  injection e with e1 e2
  subst e1 e2
  rw [if_neg (by omega)]
  refine ⟨b, off + j * 4, rfl, hb, fun i t ht => ?_⟩
  rw [List.map_drop, List.getElem?_drop] at ht
  have := hc2 (j + i) t ht
  rw [show off + j * 4 + i * 4 = off + (j + i) * 4 by omega]
  exact this
theorem Sli.adr2 {t : TypeId} {lo hi n c : Nat} {a : Option Addr} {xs : List Value} {w : World} (h : Sli t lo hi (.slice a n c) n xs w) (h0 : 0 < n) : ∃ g, a = some ⟨g, 0, none⟩ ∧ lo ≤ g := by
  obtain ⟨a', c', e, hh⟩ := h.form
  injection e with e1 e2 e3
  obtain ⟨g, e4, e5, -⟩ := hh h0
  exact ⟨g, by rw [e1, e4], e5⟩
theorem gbase_tk {f : Nat} (HC : BaseC f) {w wi : World} {hs : List Hold} {lo hi n : Nat} {v : Value} {s : Sto} {B : List Rc} (hB : baseS s = B) (hn : B.length = n) (T : Tk w wi hs) (n1 : Nat) (ho : s.Fit) (e1 : hs[n1]? = some (lo, hi, Sts lo hi v s)) :
    Calls Try.prog f #[v] wi fun e w' => ∃ a c, e = .returned (.slice a n c) ∧ n ≤ c ∧ Tk w w' ((wi.heap.size, w'.heap.size, Sli 31 wi.heap.size w'.heap.size (.slice a n c) n (rccells (B.map Rc.tu))) :: hs) ∧ wi.heap.size ≤ w'.heap.size := by
  refine (HC v s wi ((T.get n1 e1).rd ho (T.hi n1 e1))).mono ?_
  rintro e w' ⟨u, rfl, hu, hb⟩
  rw [hB] at hu
  have hS := Sli.of hu
  rw [hn] at hS hu
  obtain ⟨a, c, rfl, -⟩ := hS.form
  exact ⟨a, c, rfl, own_cap hu, T.add hb (Sli.loc _ _ _ _ _ _) hS, hb.size⟩
end Go.Proofs.Ytcnaahajaaifjaa

/-
  Blocks beside a row that grows.
-/
namespace Go.Proofs.Ytcnaahajaaifjaa
open Go.RowKit

/-- Block b is o, and the row cv lies elsewhere. -/
def Blk (W : World) (cv : Value) (b : Nat) (o : Obj) : Prop := W.heap[b]? = some o ∧ cv.ownBlock ≠ some b
theorem Blk.lt {W : World} {cv : Value} {b : Nat} {o : Obj} (h : Blk W cv b o) : b < W.heap.size := (Array.getElem?_eq_some_iff.1 h.1).1
theorem Blk.below {W W' : World} {cv : Value} {b : Nat} {o : Obj} (h : Blk W cv b o) (hb : Below W.heap.size W W') : Blk W' cv b o := ⟨(hb.block b h.lt).trans h.1, h.2⟩
theorem Blk.grown {W W1 y : World} {cv u : Value} {b : Nat} {o : Obj} (h : Blk W cv b o) (hb : Below W.heap.size W W1) (hg : W1.grownBy y cv.ownBlock) (hu : u.ownBlock = cv.ownBlock ∨ ∃ q, u.ownBlock = some q ∧ W1.heap.size ≤ q) : Blk y u b o := by
  have h1 := h.below hb
  refine ⟨(hg.block b h1.lt (fun e => h.2 e.symm)).trans h1.1, ?_⟩
  rcases hu with e | ⟨q, e, hq⟩
  · rw [e]; exact h.2
  · rw [e]
    intro e2
    injection e2 with e2
    have := h1.lt
    omega
/-- A block that is new lies elsewhere. -/
theorem Blk.new {W : World} {cv : Value} (cs : Array Value) (t : TypeId) (h : ∀ q, cv.ownBlock = some q → q < W.heap.size) : Blk (W.alloc (.cells cs t)) cv W.heap.size (.cells cs t (0, 0)) := ⟨heap_alloc_new W _, fun e => by have := h _ e; omega⟩
theorem Blk.cell {W : World} {cv : Value} {b k : Nat} {cs : Array Value} {t : TypeId} {v : Value} (h : Blk W cv b (.cells cs t (0, 0))) (hk : cs[k]? = some v) : W.cell? ⟨b, k, none⟩ = some v := by
  rw [cell_of_row _ _ k _ _ _ h.1]
  exact hk
end Go.Proofs.Ytcnaahajaaifjaa

/-
  impl.BaseRecs.
-/
namespace Go.Proofs.Ytcnaahajaaifjaa
open Go.RowKit
open Words

theorem rcn_new (W : World) (a b c d : Int) (g : Nat) (hg : W.heap.size = g) : ∀ (j : Nat) (u : Value), [Value.int .i64 a, Value.int .i64 b, Value.int .i64 c, Value.int .i64 d][j]? = some u → (W.alloc (.cells #[.int .i64 a, .int .i64 b, .int .i64 c, .int .i64 d] 31)).cell? ((⟨g, 0, none⟩ : Addr).add j) = some u := by
  intro j u hj
  subst hg
  rw [addr_at, cell_of_row _ _ j _ _ _ (heap_alloc_new W (.cells #[.int .i64 a, .int .i64 b, .int .i64 c, .int .i64 d] 31))]
  match j, hj with
  | 0, hj | 1, hj | 2, hj | 3, hj => simpa using hj
theorem rcn_one (a b c d : Int) : ∀ u ∈ [Value.int .i64 a, Value.int .i64 b, Value.int .i64 c, Value.int .i64 d], u.oneCell' = true := by
  intro u hu
  simp at hu
  rcases hu with h | h | h | h <;> subst h <;> rfl
theorem rcn_snoc (acc : List Rc) (a b c d : Int) : rccells (acc.map Rc.tu) ++ [Value.int .i64 a, Value.int .i64 b, Value.int .i64 c, Value.int .i64 d] = rccells ((acc ++ [(⟨a, b, c, d⟩ : Rc)]).map Rc.tu) := by
  rw [List.map_append, rccells_app]
  rfl
/-- Records of the first k volumes. -/
def basesK (s : Sto) (k : Nat) : List Rc := ⟨1, 0, s.next, 0⟩ :: (s.vols.take k).flatMap (baseV s.kns)
theorem basesK_succ {s : Sto} {k : Nat} {v : Int × Int} (h : s.vols[k]? = some v) : basesK s (k + 1) = (basesK s k ++ [(⟨2, v.1, 0, 0⟩ : Rc)]) ++ baseK v.1 (allT s.kns v.2) 16 := by
  obtain ⟨h1, h2⟩ := List.getElem?_eq_some_iff.1 h
  rw [basesK, basesK, List.take_succ_eq_append_getElem h1, h2, List.flatMap_append]
  simp [baseV]
/-- Records under way. -/
def BsSt (w W : World) (z : Nat) (bx : Array Value) (cv : Value) (l : List Rc) : Prop := W.ownsRow (w.heap.size + 1) 31 4 cv l.length (rccells (l.map Rc.tu)) ∧ Below w.heap.size w W ∧ Blk W cv z (.cells bx 29 (0, 0))
theorem BsSt.below {w W W' : World} {z : Nat} {bx : Array Value} {cv : Value} {l : List Rc} (h : BsSt w W z bx cv l) (hb : Below W.heap.size W W') : BsSt w W' z bx cv l := ⟨own_below h.1 hb, h.2.1.trans (hb.mono h.2.1.size), h.2.2.below hb⟩
theorem BsSt.snoc {w W W1 y : World} {z : Nat} {bx : Array Value} {cv u : Value} {l : List Rc} {a b c d : Int} (h : BsSt w W z bx cv l) (hb : Below W.heap.size W W1) (ho : y.ownsRow (w.heap.size + 1) 31 4 u (l.length + 1) (rccells (l.map Rc.tu) ++ [.int .i64 a, .int .i64 b, .int .i64 c, .int .i64 d])) (hg : W1.grownBy y cv.ownBlock) (hu : u.ownBlock = cv.ownBlock ∨ ∃ q, u.ownBlock = some q ∧ W1.heap.size ≤ q) : BsSt w y z bx u (l ++ [⟨a, b, c, d⟩]) := by
  have h1 := h.below hb
  rw [rcn_snoc] at ho
  exact ⟨by rw [List.length_append]; exact ho, h1.2.1.grown hg h1.2.1.size (fun q hq => by have := (h1.1.lt q hq).1; omega), h.2.2.grown hb hg hu⟩
theorem BsSt.lt {w W : World} {z : Nat} {bx : Array Value} {cv : Value} {l : List Rc} (h : BsSt w W z bx cv l) : ∀ q, cv.ownBlock = some q → q < W.heap.size := fun q hq => (h.1.lt q hq).2
/-- The numbers of one volume's sectors, in a block. -/
def NumsB (cur : Array Value) (L : List Int) : Prop := ∀ (k : Nat) (x : Int), L[k]? = some x → cur[k]? = some (.int .i64 x)
/-- .. and one volume beside them. -/
def BsIn (w W : World) (z : Nat) (bx : Array Value) (cv : Value) (l : List Rc) (vb : Nat) (vx : Array Value) (ag : Nat) (cur : Array Value) : Prop := BsSt w W z bx cv l ∧ Blk W cv vb (.cells vx 49 (0, 0)) ∧ Blk W cv ag (.cells cur 3 (0, 0))
theorem BsIn.below {w W W' : World} {z vb ag : Nat} {bx vx cur : Array Value} {cv : Value} {l : List Rc} (h : BsIn w W z bx cv l vb vx ag cur) (hb : Below W.heap.size W W') : BsIn w W' z bx cv l vb vx ag cur := ⟨h.1.below hb, h.2.1.below hb, h.2.2.below hb⟩
theorem BsIn.snoc {w W W1 y : World} {z vb ag : Nat} {bx vx cur : Array Value} {cv u : Value} {l : List Rc} {a b c d : Int} (h : BsIn w W z bx cv l vb vx ag cur) (hb : Below W.heap.size W W1) (ho : y.ownsRow (w.heap.size + 1) 31 4 u (l.length + 1) (rccells (l.map Rc.tu) ++ [.int .i64 a, .int .i64 b, .int .i64 c, .int .i64 d])) (hg : W1.grownBy y cv.ownBlock) (hu : u.ownBlock = cv.ownBlock ∨ ∃ q, u.ownBlock = some q ∧ W1.heap.size ≤ q) : BsIn w y z bx u (l ++ [⟨a, b, c, d⟩]) vb vx ag cur := ⟨h.1.snoc hb ho hg hu, h.2.1.grown hb hg hu, h.2.2.grown hb hg hu⟩
/-- A row of numbers that the call owns, as a block. -/
theorem own_nums {W : World} {B n : Nat} {v : Value} {L : List Int} (h : W.ownsRow B 3 1 v n (icells L)) (h0 : 0 < n) : ∃ ag cap cur, v = .slice (some ⟨ag, 0, none⟩) n cap ∧ B ≤ ag ∧ W.heap[ag]? = some (.cells cur 3 (0, 0)) ∧ NumsB cur L := by
  have hh := h
  rcases h.2 with ⟨rfl, q⟩ | ⟨g, cap, cur, rfl, h2, h3, h4, h5, h6, h7⟩
  · omega
  · refine ⟨g, cap, cur, rfl, h2, h3, fun k x hk => ?_⟩
    have := hh.cells (g := g) rfl k _ (icells_get hk)
    rw [addr_at, cell_of_row _ _ k _ _ _ h3] at this
    exact this

set_option maxHeartbeats 1000000 in
set_option maxRecDepth 100000 in
theorem ibase : BaseC 16 := by
  rintro v s w ⟨va, vl, vc, ad, len, cap, rs, rfl, hks, hvl, hl, hll, hvc, h, hk⟩
  have HV := hide h
  have HVL := hide h.1
  have HK := hide hk
  have HKS := hide hks
  obtain ⟨nx, hnx⟩ : ∃ nx, s.next = nx := ⟨_, rfl⟩
  have HNX := hide hnx
  obtain ⟨i0, hi, hz0, hz1, hz2⟩ := info_parts infoRc
  have I0 := hide hi
  have Y0 := hide hz0
  have Y1 := hide hz1
  have Y2 := hide hz2
  have B0 : Hid (Below w.heap.size w (w.alloc (.cells #[.slice va vl vc, .slice ad len cap, .int .i64 nx] 29))) := (Below.refl _ _).alloc (Nat.le_refl _) _
  have R0 := hide (heap_alloc_new w (.cells #[.slice va vl vc, .slice ad len cap, .int .i64 nx] 29))
  have Z0 := hide (show (w.alloc (.cells #[.slice va vl vc, .slice ad len cap, .int .i64 nx] 29)).heap.size = w.heap.size + 1 by simp)
  unfold SBox
  rw [hnx]
  clear h hk hll hvc hks hnx hi hz0 hz1 hz2
  go_enter Try.func16, Try.ntmps16
  go_wp2_with fail
  generalize w.alloc (.cells #[.slice va vl vc, .slice ad len cap, .int .i64 nx] 29) = wb at B0 R0 Z0 ⊢
  have B1 : Hid (Below wb.heap.size wb (wb.alloc (.cells #[.int .i64 1, .int .i64 0, .int .i64 nx, .int .i64 0] 31))) := (Below.refl _ _).alloc (Nat.le_refl _) _
  have S0 : Hid (BsSt w (wb.alloc (.cells #[.int .i64 1, .int .i64 0, .int .i64 nx, .int .i64 0] 31)) w.heap.size #[.slice va vl vc, .slice ad len cap, .int .i64 nx] (.slice (some ⟨w.heap.size + 1, 0, none⟩) 1 1) [⟨1, 0, nx, 0⟩]) := by
    refine ⟨?_, B0.out.trans (B1.out.mono B0.out.size), (B1.out.block w.heap.size (by have := Z0.out; omega)).trans R0.out, fun e => ?_⟩
    · rw [← Z0.out]
      exact ⟨rfl, .inr ⟨wb.heap.size, 1, _, rfl, by have := Z0.out; omega, heap_alloc_new wb _, Nat.le_refl _, by unfold maxLen; omega, rfl, rfl⟩⟩
    · have := Z0.out
      simp only [Value.ownBlock, Option.some.injEq] at e
      omega
  generalize wb.alloc (.cells #[.int .i64 1, .int .i64 0, .int .i64 nx, .int .i64 0] 31) = w1 at B1 S0 ⊢
  have HWZ := hide (show w.heap.size + 1 = wb.heap.size from Z0.out.symm)
  obtain ⟨z, hz⟩ : ∃ z, w.heap.size = z := ⟨_, rfl⟩
  have HZW := hide hz
  rw [hz] at S0 ⊢
  clear hz
  have bx0 : w1.cell? ⟨z, 0, none⟩ = some (.slice va vl vc) := S0.out.2.2.cell rfl
  go_wp2_with fail
  go_loopw [3, 15] (fun cv kv W => ∃ (k : Nat) (l : List Rc), k ≤ vl ∧ kv = .int .i64 k ∧ l.length ≤ 17 * k + 1 ∧ Hid (l = basesK s k) ∧ Hid (BsSt w W z #[.slice va vl vc, .slice ad len cap, .int .i64 nx] cv l)) (fun _ kv _ => vl - (intOf kv).toNat)
  case atStart => exact ⟨0, [⟨1, 0, nx, 0⟩], Nat.zero_le _, rfl, Nat.le_refl _, (by rw [← HNX.out]; rfl : [⟨1, 0, nx, 0⟩] = basesK s 0), S0⟩
  case round =>
    obtain ⟨k, l, hkv, rfl, hll, HL, HS⟩ := hrel
    clear S0 bx0
    by_cases hlt : (k : Int) < vl
    · obtain ⟨v, hv⟩ : ∃ v, s.vols[k]? = some v := ⟨_, List.getElem?_eq_getElem (by have := HVL.out; omega)⟩
      obtain ⟨b, off, e, hb, c0, c1⟩ := (HV.out.below HS.out.2.1).at hv
      subst e
      have k0 : (0 : Int) ≤ k := by omega
      have HKS2 := hide (basesK_succ hv)
      obtain ⟨y0, y1⟩ := v
      simp only at c0 c1 HKS2
      have BV : Hid (Below wr.heap.size wr (wr.alloc (.cells #[.int .i64 y0, .int .i64 y1] 49))) := (Below.refl _ _).alloc (Nat.le_refl _) _
      have S1 := hide (HS.out.below BV.out)
      have K1 := hide (Blk.new (W := wr) #[.int .i64 y0, .int .i64 y1] 49 HS.out.lt)
      have BR : Hid (Below (wr.alloc (.cells #[.int .i64 y0, .int .i64 y1] 49)).heap.size (wr.alloc (.cells #[.int .i64 y0, .int .i64 y1] 49)) ((wr.alloc (.cells #[.int .i64 y0, .int .i64 y1] 49)).alloc (.cells #[.int .i64 2, .int .i64 y0, .int .i64 0, .int .i64 0] 31))) := (Below.refl _ _).alloc (Nat.le_refl _) _
      have OW := hide (own_below S1.out.1 BR.out)
      have HSZ : Hid (w.heap.size + 1 ≤ ((wr.alloc (.cells #[.int .i64 y0, .int .i64 y1] 49)).alloc (.cells #[.int .i64 2, .int .i64 y0, .int .i64 0, .int .i64 0] 31)).heap.size) := by
        have := HS.out.2.1.size
        show _ ≤ _
        simp
        omega
      have CN := hide (rcn_new (wr.alloc (.cells #[.int .i64 y0, .int .i64 y1] 49)) 2 y0 0 0 (wr.heap.size + 1) (by simp))
      clear hv
      go_wp2_with (at_builtin; refine wpList_append_own_at _ rfl _ _ 39 rfl (w.heap.size + 1) 31 i0 (.agg #[.int .i64 0, .int .i64 0, .int .i64 0, .int .i64 0]) 4 32 Try.underlying39 I0.out Y0.out Y1.out Y2.out rfl (by decide) _ _ _ rfl OW.out ⟨wr.heap.size + 1, 0, none⟩ 1 1 [Value.int .i64 2, Value.int .i64 y0, Value.int .i64 0, Value.int .i64 0] rfl rfl CN.out (rcn_one _ _ _ _) ?c1 ?c2 ?c3 ?_)
      case c1 => unfold maxLen; omega
      case c2 => omega
      case c3 => exact HSZ.out
      intro u2 w2 o2 g2 _ hu
      have hu2 : u2.ownBlock = u3.ownBlock ∨ ∃ q, u2.ownBlock = some q ∧ ((wr.alloc (.cells #[.int .i64 y0, .int .i64 y1] 49)).alloc (.cells #[.int .i64 2, .int .i64 y0, .int .i64 0, .int .i64 0] 31)).heap.size ≤ q := by
        rcases hu with e | e
        · exact .inl e
        · exact .inr ⟨_, e, by simp⟩
      have S2 := hide (S1.out.snoc BR.out o2 g2 hu2)
      have K2 := hide (K1.out.grown BR.out g2 hu2)
      have BW2 := hide S2.out.2.1
      clear o2 g2 hu hu2 OW HSZ CN S1 K1 BR BV c0 c1 HS
      obtain ⟨vb, hvb⟩ : ∃ vb, wr.heap.size = vb := ⟨_, rfl⟩
      rw [hvb] at K2 ⊢
      clear hvb
      have x1 : w2.cell? ⟨z, 1, none⟩ = some (.slice ad len cap) := S2.out.2.2.cell rfl
      have x0 : w2.cell? ⟨vb, 1, none⟩ = some (.int .i64 y1) := K2.out.cell rfl
      have CA := hide (iallAt ad len cap rs y1 w2 (by omega) (HK.out.below S2.out.2.1))
      rw [← HKS.out] at CA
      have hal : (allT s.kns y1).length = 16 := allT_len _ _
      obtain ⟨L, hL⟩ : ∃ L, allT s.kns y1 = L := ⟨_, rfl⟩
      rw [hL] at CA hal HKS2
      have hl2 : (l ++ [(⟨2, y0, 0, 0⟩ : Rc)]).length ≤ 17 * k + 2 := by simp; omega
      have HL2 : Hid (l ++ [(⟨2, y0, 0, 0⟩ : Rc)] = basesK s k ++ [⟨2, y0, 0, 0⟩]) := by show _ = _; rw [HL.out]
      generalize l ++ [(⟨2, y0, 0, 0⟩ : Rc)] = l2 at S2 hl2 HL2
      clear hL
      go_wp2_with fail
      refine CA.out.mono ?_
      rintro e w3 ⟨av, rfl, ao, b3⟩
      rw [hal] at ao
      obtain ⟨ag, ac, cur, rfl, ha1, ha2, ha3⟩ := own_nums ao (by omega)
      have S3 : Hid (BsIn w w3 z #[.slice (some ⟨b, off, none⟩) vl vc, .slice ad len cap, .int .i64 nx] u2 l2 vb #[.int .i64 y0, .int .i64 y1] ag cur) := ⟨S2.out.below b3, K2.out.below b3, ha2, fun e => by have := S2.out.lt _ e; omega⟩
      have HN := hide ha3
      have HAL := hide hal
      clear ao ha1 ha2 ha3 b3 CA S2 K2 x0 x1 hal BW2
      go_wp2_with fail
      go_loopw [3, 31] (fun cv jv W => ∃ (j : Nat) (l3 : List Rc), j ≤ 16 ∧ jv = .int .i64 j ∧ l3.length ≤ 17 * k + 2 + j ∧ Hid (l3 = l2 ++ baseK y0 L j) ∧ Hid (BsIn w W z #[.slice (some ⟨b, off, none⟩) vl vc, .slice ad len cap, .int .i64 nx] cv l3 vb #[.int .i64 y0, .int .i64 y1] ag cur)) (fun _ jv _ => 16 - (intOf jv).toNat)
      case atStart => exact ⟨0, l2, Nat.zero_le _, rfl, by omega, (by simp [baseK] : l2 = l2 ++ baseK y0 L 0), S3⟩
      case round =>
        obtain ⟨j, l3, hj, rfl, hl3, HL3, HS3⟩ := hrel
        clear S3
        by_cases hjl : (j : Int) < 16
        · obtain ⟨x, hx⟩ : ∃ x, L[j]? = some x := ⟨_, List.getElem?_eq_getElem (by have := HAL.out; omega)⟩
          have cx : wr.cell? ⟨ag, j, none⟩ = some (.int .i64 x) := HS3.out.2.2.cell (HN.out j x hx)
          have cy : wr.cell? ⟨vb, 0, none⟩ = some (.int .i64 y0) := HS3.out.2.1.cell rfl
          have FT : Hid (baseK y0 L (j + 1) = baseK y0 L j ++ (if 0 < x then [⟨4, y0, (j : Int), x⟩] else [])) := by
            show _ = _
            rw [baseK_succ, hx]
            rfl
          have j0 : (0 : Int) ≤ j := by omega
          clear hx
          by_cases h1x : 1 ≤ x
          · have HL4 : Hid (l3 ++ [(⟨4, y0, (j : Int), x⟩ : Rc)] = l2 ++ baseK y0 L (j + 1)) := by
              show _ = _
              rw [FT.out, if_pos (by omega), ← List.append_assoc, ← HL3.out]
            have BR : Hid (Below wr.heap.size wr (wr.alloc (.cells #[.int .i64 4, .int .i64 y0, .int .i64 j, .int .i64 x] 31))) := (Below.refl _ _).alloc (Nat.le_refl _) _
            have OW := hide (own_below HS3.out.1.1 BR.out)
            have HSZ : Hid (w.heap.size + 1 ≤ (wr.alloc (.cells #[.int .i64 4, .int .i64 y0, .int .i64 j, .int .i64 x] 31)).heap.size) := by
              have := HS3.out.1.2.1.size
              show _ ≤ _
              simp
              omega
            have CN := hide (rcn_new wr 4 y0 j x wr.heap.size rfl)
            go_wp2_with (at_builtin; refine wpList_append_own_at _ rfl _ _ 39 rfl (w.heap.size + 1) 31 i0 (.agg #[.int .i64 0, .int .i64 0, .int .i64 0, .int .i64 0]) 4 32 Try.underlying39 I0.out Y0.out Y1.out Y2.out rfl (by decide) _ _ _ rfl OW.out ⟨wr.heap.size, 0, none⟩ 1 1 [Value.int .i64 4, Value.int .i64 y0, Value.int .i64 j, Value.int .i64 x] rfl rfl CN.out (rcn_one _ _ _ _) ?c1 ?c2 ?c3 ?_)
            case c1 => unfold maxLen; omega
            case c2 => omega
            case c3 => exact HSZ.out
            intro u4 w4 o4 g4 _ hu
            have hu4 : u4.ownBlock = u3.ownBlock ∨ ∃ q, u4.ownBlock = some q ∧ (wr.alloc (.cells #[.int .i64 4, .int .i64 y0, .int .i64 j, .int .i64 x] 31)).heap.size ≤ q := by
              rcases hu with e | e
              · exact .inl e
              · exact .inr ⟨_, e, by simp⟩
            have NX := hide (HS3.out.snoc BR.out o4 g4 hu4)
            have hl4 : (l3 ++ [(⟨4, y0, (j : Int), x⟩ : Rc)]).length ≤ 17 * k + 2 + (j + 1) := by simp; omega
            generalize l3 ++ [(⟨4, y0, (j : Int), x⟩ : Rc)] = l4 at HL4 NX hl4
            clear o4 g4 hu hu4 HS3 OW HSZ CN BR
            go_wp2
            go_roundw
            case rel => exact ⟨j + 1, l4, by omega, by go_num, hl4, HL4, NX⟩
            case measure => simp [intOf]; omega
          · have HL4 : Hid (l3 = l2 ++ baseK y0 L (j + 1)) := by
              show _ = _
              rw [FT.out, if_neg (by omega), List.append_nil, ← HL3.out]
            go_wp2
            go_roundw
            case rel => exact ⟨j + 1, l3, by omega, by go_num, by omega, HL4, HS3⟩
            case measure => simp [intOf]; omega
        · have HL4 : Hid (l3 = basesK s (k + 1)) := by
            show _ = _
            have e : j = 16 := by omega
            rw [HKS2.out, HL3.out, HL2.out, e]
          have HS4 := hide HS3.out.1
          go_wp2
          go_roundw
          case rel => exact ⟨k + 1, l3, by omega, by go_num, by omega, HL4, HS4⟩
          case measure => simp [intOf]; omega
    · have HE : Hid (l = baseS s) := by
        show _ = _
        rw [HL.out, basesK, List.take_of_length_le (by have := HVL.out; omega)]
        rfl
      have FIN : Hid (wr.ownsRow w.heap.size 31 4 u3 (baseS s).length (rccells ((baseS s).map Rc.tu)) ∧ Below w.heap.size w wr) := by
        rw [← HE.out]
        exact ⟨own_lower HS.out.1 (by omega), HS.out.2.1⟩
      go_wp2
      go_ret
      exact ⟨_, rfl, FIN.out.1, FIN.out.2⟩
end Go.Proofs.Ytcnaahajaaifjaa
