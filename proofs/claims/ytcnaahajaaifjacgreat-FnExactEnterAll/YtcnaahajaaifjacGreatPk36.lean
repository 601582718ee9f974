/-
  ILink; LkMath
-/
import Derived.Test.YtcnaahajaaifjacGreatPk35
import Derived.Deep.RegionHeld3
/-
  impl's forests: one knot more.
-/
namespace Go.Proofs.YtcnaahajaaifjacGreat
open Go.RowKit
open Words

def nn (k : Int) : Int := if k < 0 then 0 else k
/-- The knot that is made of given children. -/
def lkMade (bs : List Nat) (xs : List Lk) (n : Nat) (lf : Bool) (ks : List Int) : Lk := if lf = true then ⟨n, true, ks.map nn, [none, none, none, none], false⟩ else ⟨n, false, [0, 0, 0, 0], ks.map (leafP bs xs), false⟩
/-- .. whose children are then these. -/
def kidsMade (bs : List Nat) (xs : List Lk) (lf : Bool) (ks : List Int) : List Int := if lf = true then ks.map nn else ks.map (fun k => if (leafP bs xs k).isSome = true then k else -1)
def linkOk (bs : List Nat) (xs : List Lk) (lf : Bool) (ks : List Int) : Bool := decide (ks.length = 4) && (kidsMade bs xs lf ks == ks)
theorem leafP_some {bs : List Nat} {xs : List Lk} {k : Int} {b : Nat} (h : leafP bs xs k = some b) : 0 ≤ k ∧ bs[k.toNat]? = some b ∧ ∃ x, xs[k.toNat]? = some x ∧ x.leaf = true := by
  unfold leafP at h
  split at h
  · cases h
  · cases hx : xs[k.toNat]? with
    | none => rw [hx] at h; cases h
    | some x =>
      rw [hx, Option.bind_some] at h
      split at h
      · rename_i hl
        exact ⟨by omega, h, x, rfl, hl⟩
      · cases h
/-- What a link answers. -/
def LinkOut (w : World) (ok : Bool) (x : Lk) (e : Ending) (w' : World) : Prop := ∃ v, e = .returned (.tuple #[v, .bool ok]) ∧ Below w.heap.size w w' ∧ (ok = true → ∃ b, v = ptr b ∧ LkAt w' b x ∧ w.heap.size ≤ b)
/-- The making of a knot under way. -/
def LSt (w W : World) (z : Nat) (lf : Bool) (kv : Value) (gs : List Int) (x : Lk) : Prop := W.heap[z]? = some (.cells #[.bool lf, kv] 84 (0, 0)) ∧ W.heap[z + 1]? = some (.cells (icells gs).toArray 116 (0, 0)) ∧ LkAt W (z + 1 + 1) x ∧ Below z w W
theorem LSt.drew {w W : World} {z : Nat} {lf : Bool} {kv : Value} {gs : List Int} {x : Lk} (h : LSt w W z lf kv gs x) : LSt w W.drew z lf kv gs x := ⟨h.1, h.2.1, h.2.2.1, h.2.2.2.drew⟩
theorem LSt.given {w W : World} {z k : Nat} {lf : Bool} {kv : Value} {gs : List Int} {x : Lk} (h : LSt w W z lf kv gs x) (n : Int) : LSt w (W.setCell ⟨z + 1, k, none⟩ (.int .i64 n)) z lf kv (gs.set k n) x := by
  refine ⟨row_set_ne h.1 (by omega) _ _, ?_, h.2.2.1.other (by omega) _, h.2.2.2.setCell (p := ⟨z + 1, k, none⟩) (by show z ≤ z + 1; omega) _⟩
  rw [row_set h.2.1]
  simp [icells, List.map_set]
theorem LSt.num {w W : World} {z k : Nat} {lf : Bool} {kv : Value} {gs : List Int} {x : Lk} (h : LSt w W z lf kv gs x) (hk : k < 4) (n : Int) : LSt w (W.setCell ⟨z + 1 + 1, 2 + k, none⟩ (.int .i64 n)) z lf kv gs { x with nums := x.nums.set k n } :=
  ⟨row_set_ne h.1 (by omega) _ _, row_set_ne h.2.1 (by omega) _ _, h.2.2.1.setNum hk n, h.2.2.2.setCell (p := ⟨z + 1 + 1, 2 + k, none⟩) (by show z ≤ z + 1 + 1; omega) _⟩
theorem LSt.to {w W : World} {z k : Nat} {lf : Bool} {kv : Value} {gs : List Int} {x : Lk} (h : LSt w W z lf kv gs x) (hk : k < 4) (o : Option Nat) : LSt w (W.setCell ⟨z + 1 + 1, 6 + k, none⟩ (pval o)) z lf kv gs { x with tos := x.tos.set k o } :=
  ⟨row_set_ne h.1 (by omega) _ _, row_set_ne h.2.1 (by omega) _ _, h.2.2.1.setTo hk o, h.2.2.2.setCell (p := ⟨z + 1 + 1, 6 + k, none⟩) (by show z ≤ z + 1 + 1; omega) _⟩
theorem LSt.cell {w W : World} {z k : Nat} {lf : Bool} {kv : Value} {gs : List Int} {x : Lk} (h : LSt w W z lf kv gs x) {n : Int} (hk : gs[k]? = some n) : W.cell? ⟨z + 1, k, none⟩ = some (.int .i64 n) := by
  rw [cell_of_row _ _ k _ _ _ h.2.1]
  simpa using icells_get hk
theorem LSt.fr {w W : World} {z : Nat} {lf : Bool} {kv : Value} {gs : List Int} {x : Lk} (h : LSt w W z lf kv gs x) (k : Nat) : W.frozen? ⟨z + 1, k, none⟩ = false := frozen_of_row _ _ k _ _ h.2.1
/-- The knot, its first k children done. -/
def lkPart (bs : List Nat) (xs : List Lk) (n : Nat) (lf : Bool) (ks : List Int) (k : Nat) : Lk := if lf = true then ⟨n, true, (ks.map nn).take k ++ [0, 0, 0, 0].drop k, [none, none, none, none], false⟩ else ⟨n, false, [0, 0, 0, 0], (ks.map (leafP bs xs)).take k ++ [none, none, none, none].drop k, false⟩
theorem lkPart_all {bs : List Nat} {xs : List Lk} {n : Nat} {lf : Bool} {ks : List Int} (h : ks.length = 4) : lkPart bs xs n lf ks 4 = lkMade bs xs n lf ks := by
  have e1 : (ks.map nn).take 4 = ks.map nn := List.take_of_length_le (by simp; omega)
  have e2 : (ks.map (leafP bs xs)).take 4 = ks.map (leafP bs xs) := List.take_of_length_le (by simp; omega)
  unfold lkPart lkMade
  rw [e1, e2]
  simp

set_option maxHeartbeats 1000000 in
set_option maxRecDepth 100000 in
theorem ilink (fa : Option Addr) (n c : Nat) (bs : List Nat) (xs : List Lk) (lf : Bool) (ka : Option Addr) (kl kc : Nat) (ks : List Int) (w : World) (hr : PRow w fa n bs) (hf : FAt w bs xs) (hpl : ∀ (i : Nat) (x : Lk), xs[i]? = some x → x.place = i) (hk : IRow w ka kl ks) :
    Calls Tryz.prog 90 #[.slice fa n c, .agg #[.bool lf, .slice ka kl kc]] w (LinkOut w (linkOk bs xs lf ks) (lkMade bs xs n lf ks)) := by
  have hkl := hk.1
  by_cases h4 : ¬ (kl : Int) = 4
  · have E : Hid (linkOk bs xs lf ks = false) := by show _ = _; rw [linkOk, decide_eq_false (by omega), Bool.false_and]
    rw [E.out]
    clear hr hf hpl hk hkl E
    go_enter Tryz.func90, Tryz.ntmps90
    go_wp2
    go_ret2
    exact ⟨_, rfl, (Below.refl _ _).alloc (Nat.le_refl _) _, fun h => by cases h⟩
  · have h4' : kl = 4 := by omega
    subst h4'
    obtain ⟨z, hz⟩ : ∃ z, w.heap.size = z := ⟨_, rfl⟩
    have HZ := hide hz
    have H := hide hk
    have HL := hide hkl
    have HR := hide hr
    have HF := hide hf
    have HP := hide hpl
    have LX : Hid (LSt w (((w.alloc (.cells #[.bool lf, .slice ka 4 kc] 84)).alloc (.cells #[.int .i64 0, .int .i64 0, .int .i64 0, .int .i64 0] 116)).alloc (.cells #[.int .i64 n, .bool lf, .int .i64 0, .int .i64 0, .int .i64 0, .int .i64 0, .pointer none, .pointer none, .pointer none, .pointer none, .bool false] 119)) w.heap.size lf (.slice ka 4 kc) [0, 0, 0, 0] (lkPart bs xs n lf ks 0)) := by
      have za : (w.alloc (.cells #[.bool lf, .slice ka 4 kc] 84)).heap.size = w.heap.size + 1 := by simp
      have zb : ((w.alloc (.cells #[.bool lf, .slice ka 4 kc] 84)).alloc (.cells #[.int .i64 0, .int .i64 0, .int .i64 0, .int .i64 0] 116)).heap.size = w.heap.size + 1 + 1 := by simp
      have R0 := heap_alloc_new w (.cells #[.bool lf, .slice ka 4 kc] 84)
      have R1 := heap_alloc_new (w.alloc (.cells #[.bool lf, .slice ka 4 kc] 84)) (.cells #[.int .i64 0, .int .i64 0, .int .i64 0, .int .i64 0] 116)
      have R2 := heap_alloc_new ((w.alloc (.cells #[.bool lf, .slice ka 4 kc] 84)).alloc (.cells #[.int .i64 0, .int .i64 0, .int .i64 0, .int .i64 0] 116)) (.cells #[.int .i64 n, .bool lf, .int .i64 0, .int .i64 0, .int .i64 0, .int .i64 0, .pointer none, .pointer none, .pointer none, .pointer none, .bool false] 119)
      rw [za] at R1
      rw [zb] at R2
      refine ⟨(Below.heap_alloc _ _ _ (by simp; omega)).trans ((Below.heap_alloc _ _ _ (by simp)).trans R0), (Below.heap_alloc _ _ _ (by simp)).trans R1, ⟨?_, ?_⟩, (((Below.refl _ _).alloc (Nat.le_refl _) _).alloc (by simp) _).alloc (by simp; omega) _⟩
      · rw [R2]
        cases lf <;> rfl
      · cases lf <;> exact ⟨rfl, rfl⟩
    clear hr hf hpl hk hkl h4 hz
    go_enter Tryz.func90, Tryz.ntmps90
    go_wp2
    have hz := HZ.out
    rw [hz] at LX ⊢
    clear hz
    generalize ((w.alloc (.cells #[.bool lf, .slice ka 4 kc] 84)).alloc (.cells #[.int .i64 0, .int .i64 0, .int .i64 0, .int .i64 0] 116)).alloc (.cells #[.int .i64 n, .bool lf, .int .i64 0, .int .i64 0, .int .i64 0, .int .i64 0, .pointer none, .pointer none, .pointer none, .pointer none, .bool false] 119) = wa at LX ⊢
    go_loopw [23] (fun iv W => ∃ k : Nat, k ≤ 4 ∧ iv = .int .i64 k ∧ Hid (LSt w W z lf (.slice ka 4 kc) (ks.take k ++ [0, 0, 0, 0].drop k) (lkPart bs xs n lf ks k))) (fun iv _ => 4 - (intOf iv).toNat)
    case atStart => exact ⟨0, by omega, rfl, LX⟩
    case round =>
      obtain ⟨k, hk, rfl, HS⟩ := hrel
      clear LX
      by_cases hlt : (k : Int) < 4
      · have hk4 : k < 4 := by omega
        obtain ⟨m, hm⟩ : ∃ m, ks[k]? = some m := ⟨_, List.getElem?_eq_getElem (by have := HL.out; omega)⟩
        obtain ⟨kb, ko, e, -, hc⟩ := (H.out.below (by rw [HZ.out]; exact HS.out.2.2.2)).at hm
        subst e
        have k0 : (0 : Int) ≤ k := by omega
        have oc : wr.cell? ⟨z + 1, k, none⟩ = some (.int .i64 0) := HS.out.cell (by
          rw [part_at (by have := HL.out; omega)]
          exact lf_nought k hk4)
        have of := HS.out.fr k
        have ol : wr.cell? ⟨z, 0, none⟩ = some (.bool lf) := cell_of_row _ _ 0 _ _ _ HS.out.1
        have S1 := hide (HS.out.given (k := k) m)
        rw [part_set hm (by have := HL.out; simp; omega)] at S1
        have HM := hide hm
        clear HS hm
        cases lf with
        | true =>
          have x1 : Hid ({ lkPart bs xs n true ks k with nums := (lkPart bs xs n true ks k).nums.set k (if m < 0 then 0 else m) } = lkPart bs xs n true ks (k + 1)) := by
            show Lk.mk _ _ _ _ _ = Lk.mk _ _ _ _ _
            congr 1
            show ((ks.map nn).take k ++ [0, 0, 0, 0].drop k).set k (if m < 0 then 0 else m) = _
            exact part_set (by rw [List.getElem?_map, HM.out]; rfl) (by have := HL.out; simp; omega)
          have S2 := hide (S1.out.num hk4 (if m < 0 then 0 else m))
          rw [x1.out] at S2
          have oc2 : (wr.setCell ⟨z + 1, k, none⟩ (.int .i64 m)).cell? ⟨z + 1 + 1, 2 + k, none⟩ = some (.int .i64 0) := S1.out.2.2.1.num (by
            show ((ks.map nn).take k ++ [0, 0, 0, 0].drop k)[k]? = _
            rw [part_at (by have := HL.out; simp; omega)]
            exact lf_nought k hk4)
          have of2 := S1.out.2.2.1.frozen (2 + k)
          clear x1 S1 HM
          go_wp2
          go_roundw
          case rel => exact ⟨k + 1, by omega, by go_num, S2⟩
          case measure => simp [intOf]; omega
        | false =>
          have hw : Hid (Below w.heap.size w (wr.setCell ⟨z + 1, k, none⟩ (.int .i64 m)).drew) := by rw [hide HZ.out]; exact S1.out.drew.2.2.2
          have C := hide (ileafAt fa n c bs xs m (wr.setCell ⟨z + 1, k, none⟩ (.int .i64 m)).drew (HR.out.below hw.out) (HF.out.below hw.out))
          obtain ⟨o, ho⟩ : ∃ o, leafP bs xs m = o := ⟨_, rfl⟩
          rw [ho] at C
          have x1 : Hid ({ lkPart bs xs n false ks k with tos := (lkPart bs xs n false ks k).tos.set k o } = lkPart bs xs n false ks (k + 1)) := by
            show Lk.mk _ _ _ _ _ = Lk.mk _ _ _ _ _
            congr 1
            show ((ks.map (leafP bs xs)).take k ++ [none, none, none, none].drop k).set k o = _
            exact part_set (by rw [List.getElem?_map, HM.out, ← ho]; rfl) (by have := HL.out; simp; omega)
          have S2 := hide (S1.out.to hk4 o)
          rw [x1.out] at S2
          have oc2 : (wr.setCell ⟨z + 1, k, none⟩ (.int .i64 m)).cell? ⟨z + 1 + 1, 6 + k, none⟩ = some (.pointer none) := S1.out.2.2.1.to (o := none) (by
            show ((ks.map (leafP bs xs)).take k ++ [none, none, none, none].drop k)[k]? = _
            rw [part_at (by have := HL.out; simp; omega)]
            match k, hk4 with
            | 0, _ | 1, _ | 2, _ | 3, _ => rfl)
          have of2 := S1.out.2.2.1.frozen (6 + k)
          have hpo : ∃ q, pval o = .pointer q := by cases o <;> exact ⟨_, rfl⟩
          obtain ⟨q, hq⟩ := hpo
          rw [hq] at C S2
          clear x1 S1 HM ho hw hq
          go_wp2
          go_region_held3 (fun _ => True) (trivial) ((go_at_call 97; (with_reducible refine Calls.mono C.out ?_); rintro e w1 ⟨rfl, rfl⟩))
          go_wp2
          go_roundw
          case rel => exact ⟨k + 1, by omega, by go_num, hide S2.out.drew⟩
          case measure => simp [intOf]; omega
      · have e4 : k = 4 := by omega
        subst e4
        have S1 : Hid (LSt w wr z lf (.slice ka 4 kc) ks (lkMade bs xs n lf ks)) := by
          have := HS.out
          rw [List.take_of_length_le (by have := HL.out; omega), lkPart_all HL.out] at this
          show LSt w wr z lf (.slice ka 4 kc) ks (lkMade bs xs n lf ks)
          simpa using this
        have hw : Hid (Below w.heap.size w wr.drew) := by rw [hide HZ.out]; exact S1.out.drew.2.2.2
        have KR : Hid (KidsR wr.drew (lkMade bs xs n lf ks) (kidsMade bs xs lf ks)) := by
          show KidsR _ _ _
          unfold KidsR
          cases lf with
          | true => rfl
          | false =>
            refine ⟨by rw [kidsMade, if_neg (by decide), List.length_map]; exact HL.out, fun j o ho => ?_⟩
            have ho2 : (ks.map (leafP bs xs))[j]? = some o := ho
            rw [List.getElem?_map, Option.map_eq_some_iff] at ho2
            obtain ⟨m, hm, rfl⟩ := ho2
            refine ⟨if (leafP bs xs m).isSome = true then m else -1, by rw [kidsMade, if_neg (by decide), List.getElem?_map, hm]; rfl, ?_⟩
            cases hq : leafP bs xs m with
            | none => exact .inl ⟨rfl, rfl⟩
            | some b =>
              obtain ⟨h0, hb, x, hx, -⟩ := leafP_some hq
              have hA := (HF.out.below hw.out).2 _ b x hb hx
              refine .inr ⟨b, rfl, ?_, hA.lt⟩
              rw [hA.place, HP.out _ x hx]
              show some (Value.int .i64 ((m.toNat : Nat) : Int)) = some (.int .i64 m)
              rw [Int.toNat_of_nonneg h0]
        have C := hide (ikids (z + 1 + 1) (lkMade bs xs n lf ks) (kidsMade bs xs lf ks) wr.drew S1.out.drew.2.2.1 KR.out)
        obtain ⟨k0, k1, k2, k3, hks⟩ := list4 HL.out
        obtain ⟨a0, a1, a2, a3, has⟩ := list4 (show (kidsMade bs xs lf ks).length = 4 by rw [kidsMade]; split <;> rw [List.length_map] <;> exact HL.out)
        have OK : Hid (linkOk bs xs lf ks = ([a0, a1, a2, a3] == [k0, k1, k2, k3])) := by
          show _ = _
          rw [linkOk, decide_eq_true HL.out, Bool.true_and, has, hks]
        obtain ⟨ok, hok⟩ : ∃ ok, ([a0, a1, a2, a3] == [k0, k1, k2, k3]) = ok := ⟨_, rfl⟩
        have eqv := fun W => eq4 a0 a1 a2 a3 k0 k1 k2 k3 W
        rw [hok] at OK eqv
        rw [has] at C
        have q0 := S1.out.cell (k := 0) (n := k0) (by rw [hks]; rfl)
        have q1 := S1.out.cell (k := 1) (n := k1) (by rw [hks]; rfl)
        have q2 := S1.out.cell (k := 2) (n := k2) (by rw [hks]; rfl)
        have q3 := S1.out.cell (k := 3) (n := k3) (by rw [hks]; rfl)
        have KP : Hid (∀ W, Below wr.drew.heap.size wr.drew W → W.cell? ⟨z + 1, 0, none⟩ = some (.int .i64 k0) ∧ W.cell? ⟨z + 1, 1, none⟩ = some (.int .i64 k1) ∧ W.cell? ⟨z + 1, 2, none⟩ = some (.int .i64 k2) ∧ W.cell? ⟨z + 1, 3, none⟩ = some (.int .i64 k3)) := fun W hW => by
          have hl : z + 1 < wr.drew.heap.size := (Array.getElem?_eq_some_iff.1 S1.out.2.1).1
          exact ⟨(hW.cell (show z + 1 < wr.drew.heap.size from hl)).trans q0, (hW.cell (show z + 1 < wr.drew.heap.size from hl)).trans q1, (hW.cell (show z + 1 < wr.drew.heap.size from hl)).trans q2, (hW.cell (show z + 1 < wr.drew.heap.size from hl)).trans q3⟩
        simp only [icells, List.map_cons, List.map_nil] at C eqv
        unfold ptr at C
        clear HS KR hks has hok
        go_wp2
        go_region_held3 (fun w' => w'.cell? ⟨z + 1, 0, none⟩ = some (.int .i64 k0) ∧ w'.cell? ⟨z + 1, 1, none⟩ = some (.int .i64 k1) ∧ w'.cell? ⟨z + 1, 2, none⟩ = some (.int .i64 k2) ∧ w'.cell? ⟨z + 1, 3, none⟩ = some (.int .i64 k3)) (first | go_keep | exact KP.out _ BB.out) ((go_at_call 98; (with_reducible refine Calls.mono C.out ?_); rintro e w1 ⟨rfl, bb⟩; have BB := hide bb; clear bb))
        all_goals
          go_wp2
          go_ret2
          refine ⟨_, congrArg (fun q => Ending.returned (.tuple #[ptr (z + 1 + 1), .bool q])) OK.out.symm, hw.out.trans (BB.out.mono hw.out.size), fun _ => ⟨z + 1 + 1, rfl, S1.out.drew.2.2.1.blw BB.out, by have := HZ.out; omega⟩⟩
end Go.Proofs.YtcnaahajaaifjacGreat

/-
  Linked knots in plain words: the forest of a right arena.
-/
namespace Go.Proofs.YtcnaahajaaifjacGreat
open Go.RowKit
open Words

/-- The block of a child. -/
def kidP (bs : List Nat) (n : Int) : Option Nat := if n < 0 then none else bs[n.toNat]?
def lkOf (bs : List Nat) (i : Nat) (x : Kn) : Lk := if x.leaf = true then ⟨i, true, x.kids, [none, none, none, none], false⟩ else ⟨i, false, [0, 0, 0, 0], x.kids.map (kidP bs), false⟩
theorem lkOf_place (bs : List Nat) (i : Nat) (x : Kn) : (lkOf bs i x).place = i := by unfold lkOf; split <;> rfl
theorem lkOf_leaf (bs : List Nat) (i : Nat) (x : Kn) : (lkOf bs i x).leaf = x.leaf := by
  unfold lkOf
  cases h : x.leaf with
  | true => rfl
  | false => rfl
theorem lkOf_need (bs : List Nat) (i : Nat) (x : Kn) : (lkOf bs i x).need = false := by unfold lkOf; split <;> rfl
/-- The knots of an arena, linked. -/
def lksOf (bs : List Nat) (l : List Kn) : List Lk := l.mapIdx (lkOf bs)
theorem lksOf_len (bs : List Nat) (l : List Kn) : (lksOf bs l).length = l.length := by simp [lksOf]
theorem lksOf_at (bs : List Nat) (l : List Kn) (i : Nat) : (lksOf bs l)[i]? = (l[i]?).map (lkOf bs i) := by rw [lksOf, List.getElem?_mapIdx]
theorem lksOf_some {bs : List Nat} {l : List Kn} {i : Nat} {x : Kn} (h : l[i]? = some x) : (lksOf bs l)[i]? = some (lkOf bs i x) := by rw [lksOf_at, h]; rfl
theorem lksOf_back {bs : List Nat} {l : List Kn} {i : Nat} {y : Lk} (h : (lksOf bs l)[i]? = some y) : ∃ x, l[i]? = some x ∧ y = lkOf bs i x := by
  rw [lksOf_at, Option.map_eq_some_iff] at h
  obtain ⟨x, h1, h2⟩ := h
  exact ⟨x, h1, h2.symm⟩
theorem lksOf_place {bs : List Nat} {l : List Kn} : ∀ (i : Nat) (y : Lk), (lksOf bs l)[i]? = some y → y.place = i := by
  intro i y h
  obtain ⟨x, -, rfl⟩ := lksOf_back h
  exact lkOf_place _ _ _
theorem map_beq (f : Int → Int) : ∀ l : List Int, (l.map f == l) = l.all (fun n => f n == n)
  | [] => rfl
  | a :: l => by
    have := map_beq f l
    simp only [List.map_cons, List.all_cons, ← this]
    rfl
/-- Is there a leaf at n, of the first k? -/
theorem leafP_is {bs : List Nat} {l : List Kn} {k : Nat} (hb : bs.length = k) (hk : k ≤ l.length) (n : Int) : (leafP bs (lksOf bs (l.take k)) n).isSome = (decide (0 ≤ n) && decide (n < k) && knLeaf l n) := by
  unfold leafP
  by_cases h0 : n < 0
  · rw [if_pos h0, decide_eq_false (by omega)]; rfl
  · rw [if_neg h0, decide_eq_true (by omega : 0 ≤ n), Bool.true_and, lksOf_at]
    by_cases h1 : n < k
    · have hl : n.toNat < l.length := by omega
      rw [decide_eq_true h1, Bool.true_and, List.getElem?_take, if_pos (by omega), List.getElem?_eq_getElem hl, knLeaf_some (List.getElem?_eq_getElem hl)]
      simp only [Option.map_some, Option.bind_some, lkOf_leaf]
      cases hq : l[n.toNat].leaf with
      | true => rw [if_pos rfl, List.getElem?_eq_getElem (by omega)]; rfl
      | false => rfl
    · rw [decide_eq_false h1, Bool.false_and, List.getElem?_take, if_neg (by omega)]
      rfl
/-- A knot is linked just where it is right. -/
theorem linkOk_is {bs : List Nat} {l : List Kn} {k : Nat} (hb : bs.length = k) (hk : k ≤ l.length) (x : Kn) : linkOk bs (lksOf bs (l.take k)) x.leaf x.kids = knB l k x := by
  rw [linkOk, knB]
  congr 1
  rw [kidsMade]
  cases hl : x.leaf with
  | true =>
    rw [if_pos rfl, map_beq]
    refine List.all_congr rfl (fun n => ?_)
    simp only [kidB, nn, if_true]
    by_cases h : n < 0
    · rw [if_pos h, decide_eq_false (by omega)]
      simp; omega
    · rw [if_neg h, decide_eq_true (by omega)]
      simp
  | false =>
    rw [if_neg (by decide), map_beq]
    refine List.all_congr rfl (fun n => ?_)
    simp only [kidB, Bool.false_eq_true, if_false, leafP_is hb hk]
    cases hq : (decide (0 ≤ n) && decide (n < k) && knLeaf l n) with
    | true => simp
    | false =>
      simp only [Bool.false_eq_true, if_false, Bool.or_false]
      by_cases e : n = -1
      · simp [e]
      · rw [decide_eq_false e, beq_eq_false_iff_ne]
        exact fun q => e q.symm
/-- .. and then it is the arena's own. -/
theorem lkMade_is {bs : List Nat} {l : List Kn} {k : Nat} (x : Kn) (h : linkOk bs (lksOf bs (l.take k)) x.leaf x.kids = true) : lkMade bs (lksOf bs (l.take k)) k x.leaf x.kids = lkOf bs k x := by
  rw [linkOk, Bool.and_eq_true] at h
  have h2 := h.2
  unfold kidsMade at h2
  unfold lkMade lkOf
  cases hl : x.leaf with
  | true =>
    rw [hl, if_pos rfl] at h2
    rw [if_pos rfl, if_pos rfl]
    rw [eq_of_beq h2]
  | false =>
    rw [hl, if_neg (by decide), map_beq, List.all_eq_true] at h2
    rw [if_neg (by decide), if_neg (by decide)]
    congr 1
    refine List.map_congr_left (fun n hn => ?_)
    have := h2 n hn
    unfold kidP
    cases hq : leafP bs (lksOf bs (l.take k)) n with
    | none =>
      rw [hq] at this
      have e : -1 = n := by simpa using this
      rw [if_pos (by omega)]
    | some b =>
      obtain ⟨h0, h1, -⟩ := leafP_some hq
      rw [if_neg (by omega), h1]
theorem kidP_ext {bs cs : List Nat} {n : Int} (h : n < bs.length) : kidP (bs ++ cs) n = kidP bs n := by
  unfold kidP
  split
  · rfl
  · rw [List.getElem?_append_left (by omega)]
theorem lkOf_ext {bs cs : List Nat} {l : List Kn} {i : Nat} {x : Kn} (hi : i ≤ bs.length) (h : knB l i x = true) : lkOf (bs ++ cs) i x = lkOf bs i x := by
  unfold lkOf
  cases hl : x.leaf with
  | true => rfl
  | false =>
    rw [if_neg (by decide), if_neg (by decide)]
    congr 1
    refine List.map_congr_left (fun n hn => ?_)
    obtain ⟨k, hk⟩ := List.getElem?_of_mem hn
    have := knB_kid h hk
    rw [kidB, hl] at this
    simp only [Bool.false_eq_true, if_false, Bool.or_eq_true, Bool.and_eq_true, decide_eq_true_eq] at this
    exact kidP_ext (by omega)
theorem lksOf_ext {bs cs : List Nat} {l : List Kn} {k : Nat} (hb : bs.length = k) (h : arK l k = true) : lksOf (bs ++ cs) (l.take k) = lksOf bs (l.take k) := by
  apply List.ext_getElem?
  intro i
  rw [lksOf_at, lksOf_at]
  cases hx : (l.take k)[i]? with
  | none => rfl
  | some x =>
    have hi := (List.getElem?_eq_some_iff.1 hx).1
    rw [List.length_take] at hi
    rw [List.getElem?_take, if_pos (by omega)] at hx
    have := arK_le (show i + 1 ≤ k by omega) h
    rw [arK_succ hx, Bool.and_eq_true] at this
    rw [Option.map_some, Option.map_some, lkOf_ext (by omega) this.2]
theorem lksOf_snoc {bs : List Nat} {b : Nat} {l : List Kn} {k : Nat} {x : Kn} (hb : bs.length = k) (hx : l[k]? = some x) (h : arK l (k + 1) = true) : lksOf (bs ++ [b]) (l.take (k + 1)) = lksOf bs (l.take k) ++ [lkOf bs k x] := by
  have hk := (List.getElem?_eq_some_iff.1 hx).1
  have h' := h
  rw [arK_succ hx, Bool.and_eq_true] at h'
  have e : l.take (k + 1) = l.take k ++ [x] := by rw [List.take_succ_eq_append_getElem hk, (List.getElem?_eq_some_iff.1 hx).2]
  have e2 : (l.take k).length = k := by rw [List.length_take]; omega
  have := lksOf_ext (cs := [b]) hb h'.1
  rw [e]
  show (l.take k ++ [x]).mapIdx _ = _
  rw [List.mapIdx_append, e2]
  show lksOf (bs ++ [b]) (l.take k) ++ _ = _
  rw [this]
  simp only [List.mapIdx_cons, List.mapIdx_nil, Nat.zero_add]
  rw [lkOf_ext (by omega) h'.2]
/-- The blocks of a forest ascend. -/
theorem asc_snoc {bs : List Nat} {b : Nat} (h : bs.Pairwise (· < ·)) (hb : ∀ c ∈ bs, c < b) : (bs ++ [b]).Pairwise (· < ·) :=
  List.pairwise_append.2 ⟨h, List.pairwise_singleton _ _, fun a ha c hc => by simp only [List.mem_singleton] at hc; rw [hc]; exact hb a ha⟩
/-- A forest that a call owns. -/
def Forest (W : World) (lo : Nat) (v : Value) (bs : List Nat) (L : List Kn) : Prop :=
  W.ownsRow lo 113 1 v L.length (bcellsP bs) ∧ bs.length = L.length ∧ FAt W bs (lksOf bs L) ∧ bs.Pairwise (· < ·) ∧ ∀ b ∈ bs, lo ≤ b
theorem FAt.grown {W y : World} {bs : List Nat} {xs : List Lk} {row : Option Nat} (h : FAt W bs xs) (hg : W.grownBy y row) (hr : ∀ g, row = some g → ∃ cs, W.heap[g]? = some (.cells cs 113 (0, 0))) : FAt y bs xs := by
  refine ⟨h.1, fun i b x h1 h2 => ?_⟩
  have hx := h.2 i b x h1 h2
  refine ⟨(hg.block b hx.lt (fun e => ?_)).trans hx.1, hx.2⟩
  obtain ⟨cs, q⟩ := hr b e.symm
  rw [hx.1] at q
  injection q with q
  injection q with _ q
  simp at q
theorem FAt.snoc {W : World} {bs : List Nat} {xs : List Lk} {b : Nat} {x : Lk} (h : FAt W bs xs) (hx : LkAt W b x) : FAt W (bs ++ [b]) (xs ++ [x]) := by
  refine ⟨by rw [List.length_append, List.length_append, h.1]; rfl, fun i c y h1 h2 => ?_⟩
  by_cases hi : i < bs.length
  · rw [List.getElem?_append_left hi] at h1
    rw [List.getElem?_append_left (by rw [← h.1]; exact hi)] at h2
    exact h.2 i c y h1 h2
  · have hl := (List.getElem?_eq_some_iff.1 h1).1
    rw [List.length_append] at hl
    simp only [List.length_cons, List.length_nil] at hl
    have e : i = bs.length := by omega
    subst e
    simp at h1
    rw [h.1] at h2
    simp at h2
    subst h1 h2
    exact hx
theorem FAt.all_lt {W : World} {bs : List Nat} {xs : List Lk} (h : FAt W bs xs) : ∀ b ∈ bs, b < W.heap.size := by
  intro b hb
  obtain ⟨i, hi⟩ := List.getElem?_of_mem hb
  have hl := (List.getElem?_eq_some_iff.1 hi).1
  exact (h.2 i b _ hi (List.getElem?_eq_getElem (by rw [← h.1]; exact hl))).lt
end Go.Proofs.YtcnaahajaaifjacGreat
