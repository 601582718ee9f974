import Derived.Test.YtfmnaidhfgmemaaGreatDoorPk3
import Derived.Deep.RegionHeld3
namespace Go.Proofs.YtfmnaidhfgmemaaGreatDoor
open Go.RowKit
open Words
def nn (k : Int) : Int := if k < 0 then 0 else k
def lkMade (bs : List Nat) (xs : List Lk) (n : Nat) (lf : Bool) (ks : List Int) : Lk := if lf = true then ⟨n, true, ks.map nn, [none, none, none, none], false⟩ else ⟨n, false, [0, 0, 0, 0], ks.map (leafP bs xs), false⟩
def kidsMade (bs : List Nat) (xs : List Lk) (lf : Bool) (ks : List Int) : List Int := if lf = true then ks.map nn else ks.map (fun k => if (leafP bs xs k).isSome = true then k else -1)
def linkOk (bs : List Nat) (xs : List Lk) (lf : Bool) (ks : List Int) : Bool := decide (ks.length = 4) && (kidsMade bs xs lf ks == ks)
theorem leafP_some {bs : List Nat} {xs : List Lk} {k : Int} {b : Nat} (h : leafP bs xs k = some b) : 0 ≤ k ∧ bs[k.toNat]? = some b ∧ ∃ x, xs[k.toNat]? = some x ∧ x.leaf = true := by
  unfold leafP at h
  split at h
  · cases h
  · cases hx : xs[k.toNat]? with
    | none => rw [hx] at h; cases h
    | some x =>
      rw [hx, Option.bind_some] at h
      split at h
      · rename_i hl
        exact ⟨by omega, h, x, rfl, hl⟩
      · cases h
def LinkOut (w : World) (ok : Bool) (x : Lk) (e : Ending) (w' : World) : Prop := ∃ v, e = .returned (.tuple #[v, .bool ok]) ∧ Below w.heap.size w w' ∧ (ok = true → ∃ b, v = ptr b ∧ LkAt w' b x ∧ w.heap.size ≤ b)
def LSt (w W : World) (z : Nat) (lf : Bool) (kv : Value) (gs : List Int) (x : Lk) : Prop := W.heap[z]? = some (.cells #[.bool lf, kv] 175 (0, 0)) ∧ W.heap[z + 1]? = some (.cells (icells gs).toArray 193 (0, 0)) ∧ LkAt W (z + 1 + 1) x ∧ Below z w W
theorem LSt.drew {w W : World} {z : Nat} {lf : Bool} {kv : Value} {gs : List Int} {x : Lk} (h : LSt w W z lf kv gs x) : LSt w W.drew z lf kv gs x := ⟨h.1, h.2.1, h.2.2.1, h.2.2.2.drew⟩
theorem LSt.given {w W : World} {z k : Nat} {lf : Bool} {kv : Value} {gs : List Int} {x : Lk} (h : LSt w W z lf kv gs x) (n : Int) : LSt w (W.setCell ⟨z + 1, k, none⟩ (.int .i64 n)) z lf kv (gs.set k n) x := by
  refine ⟨row_set_ne h.1 (by omega) _ _, ?_, h.2.2.1.other (by omega) _, h.2.2.2.setCell (p := ⟨z + 1, k, none⟩) (by show z ≤ z + 1; omega) _⟩
  rw [row_set h.2.1]
  simp [icells, List.map_set]
theorem LSt.num {w W : World} {z k : Nat} {lf : Bool} {kv : Value} {gs : List Int} {x : Lk} (h : LSt w W z lf kv gs x) (hk : k < 4) (n : Int) : LSt w (W.setCell ⟨z + 1 + 1, 2 + k, none⟩ (.int .i64 n)) z lf kv gs { x with nums := x.nums.set k n } :=
  ⟨row_set_ne h.1 (by omega) _ _, row_set_ne h.2.1 (by omega) _ _, h.2.2.1.setNum hk n, h.2.2.2.setCell (p := ⟨z + 1 + 1, 2 + k, none⟩) (by show z ≤ z + 1 + 1; omega) _⟩
theorem LSt.to {w W : World} {z k : Nat} {lf : Bool} {kv : Value} {gs : List Int} {x : Lk} (h : LSt w W z lf kv gs x) (hk : k < 4) (o : Option Nat) : LSt w (W.setCell ⟨z + 1 + 1, 6 + k, none⟩ (pval o)) z lf kv gs { x with tos := x.tos.set k o } :=
  ⟨row_set_ne h.1 (by omega) _ _, row_set_ne h.2.1 (by omega) _ _, h.2.2.1.setTo hk o, h.2.2.2.setCell (p := ⟨z + 1 + 1, 6 + k, none⟩) (by show z ≤ z + 1 + 1; omega) _⟩
theorem LSt.cell {w W : World} {z k : Nat} {lf : Bool} {kv : Value} {gs : List Int} {x : Lk} (h : LSt w W z lf kv gs x) {n : Int} (hk : gs[k]? = some n) : W.cell? ⟨z + 1, k, none⟩ = some (.int .i64 n) := by
  rw [cell_of_row _ _ k _ _ _ h.2.1]
  simpa using icells_get hk
theorem LSt.fr {w W : World} {z : Nat} {lf : Bool} {kv : Value} {gs : List Int} {x : Lk} (h : LSt w W z lf kv gs x) (k : Nat) : W.frozen? ⟨z + 1, k, none⟩ = false := frozen_of_row _ _ k _ _ h.2.1
def lkPart (bs : List Nat) (xs : List Lk) (n : Nat) (lf : Bool) (ks : List Int) (k : Nat) : Lk := if lf = true then ⟨n, true, (ks.map nn).take k ++ [0, 0, 0, 0].drop k, [none, none, none, none], false⟩ else ⟨n, false, [0, 0, 0, 0], (ks.map (leafP bs xs)).take k ++ [none, none, none, none].drop k, false⟩
theorem lkPart_all {bs : List Nat} {xs : List Lk} {n : Nat} {lf : Bool} {ks : List Int} (h : ks.length = 4) : lkPart bs xs n lf ks 4 = lkMade bs xs n lf ks := by
  have e1 : (ks.map nn).take 4 = ks.map nn := List.take_of_length_le (by simp; omega)
  have e2 : (ks.map (leafP bs xs)).take 4 = ks.map (leafP bs xs) := List.take_of_length_le (by simp; omega)
  unfold lkPart lkMade
  rw [e1, e2]
  simp
set_option maxHeartbeats 1000000 in
set_option maxRecDepth 100000 in
theorem ilink (fa : Option Addr) (n c : Nat) (bs : List Nat) (xs : List Lk) (lf : Bool) (ka : Option Addr) (kl kc : Nat) (ks : List Int) (w : World) (hr : PRow w fa n bs) (hf : FAt w bs xs) (hpl : ∀ (i : Nat) (x : Lk), xs[i]? = some x → x.place = i) (hk : IRow w ka kl ks) :
    Calls Tryz.prog 144 #[.slice fa n c, .agg #[.bool lf, .slice ka kl kc]] w (LinkOut w (linkOk bs xs lf ks) (lkMade bs xs n lf ks)) := by
  have hkl := hk.1
  by_cases h4 : ¬ (kl : Int) = 4
  · have E : Hid (linkOk bs xs lf ks = false) := by show _ = _; rw [linkOk, decide_eq_false (by omega), Bool.false_and]
    rw [E.out]
    clear hr hf hpl hk hkl E
    go_enter Tryz.func144, Tryz.ntmps144
    go_wp2
    go_ret2
    exact ⟨_, rfl, (Below.refl _ _).alloc (Nat.le_refl _) _, fun h => by cases h⟩
  · have h4' : kl = 4 := by omega
    subst h4'
    obtain ⟨z, hz⟩ : ∃ z, w.heap.size = z := ⟨_, rfl⟩
    have HZ := hide hz
    have H := hide hk
    have HL := hide hkl
    have HR := hide hr
    have HF := hide hf
    have HP := hide hpl
    have LX : Hid (LSt w (((w.alloc (.cells #[.bool lf, .slice ka 4 kc] 175)).alloc (.cells #[.int .i64 0, .int .i64 0, .int .i64 0, .int .i64 0] 193)).alloc (.cells #[.int .i64 n, .bool lf, .int .i64 0, .int .i64 0, .int .i64 0, .int .i64 0, .pointer none, .pointer none, .pointer none, .pointer none, .bool false] 196)) w.heap.size lf (.slice ka 4 kc) [0, 0, 0, 0] (lkPart bs xs n lf ks 0)) := by
      have za : (w.alloc (.cells #[.bool lf, .slice ka 4 kc] 175)).heap.size = w.heap.size + 1 := by simp
      have zb : ((w.alloc (.cells #[.bool lf, .slice ka 4 kc] 175)).alloc (.cells #[.int .i64 0, .int .i64 0, .int .i64 0, .int .i64 0] 193)).heap.size = w.heap.size + 1 + 1 := by simp
      have R0 := heap_alloc_new w (.cells #[.bool lf, .slice ka 4 kc] 175)
      have R1 := heap_alloc_new (w.alloc (.cells #[.bool lf, .slice ka 4 kc] 175)) (.cells #[.int .i64 0, .int .i64 0, .int .i64 0, .int .i64 0] 193)
      have R2 := heap_alloc_new ((w.alloc (.cells #[.bool lf, .slice ka 4 kc] 175)).alloc (.cells #[.int .i64 0, .int .i64 0, .int .i64 0, .int .i64 0] 193)) (.cells #[.int .i64 n, .bool lf, .int .i64 0, .int .i64 0, .int .i64 0, .int .i64 0, .pointer none, .pointer none, .pointer none, .pointer none, .bool false] 196)
      rw [za] at R1
      rw [zb] at R2
      refine ⟨(Below.heap_alloc _ _ _ (by simp; omega)).trans ((Below.heap_alloc _ _ _ (by simp)).trans R0), (Below.heap_alloc _ _ _ (by simp)).trans R1, ⟨?_, ?_⟩, (((Below.refl _ _).alloc (Nat.le_refl _) _).alloc (by simp) _).alloc (by simp; omega) _⟩
      · rw [R2]
        cases lf <;> rfl
      · cases lf <;> exact ⟨rfl, rfl⟩
    clear hr hf hpl hk hkl h4 hz
    go_enter Tryz.func144, Tryz.ntmps144
    go_wp2
    have hz := HZ.out
    rw [hz] at LX ⊢
    clear hz
    generalize ((w.alloc (.cells #[.bool lf, .slice ka 4 kc] 175)).alloc (.cells #[.int .i64 0, .int .i64 0, .int .i64 0, .int .i64 0] 193)).alloc (.cells #[.int .i64 n, .bool lf, .int .i64 0, .int .i64 0, .int .i64 0, .int .i64 0, .pointer none, .pointer none, .pointer none, .pointer none, .bool false] 196) = wa at LX ⊢
    go_loopw [23] (fun iv W => ∃ k : Nat, k ≤ 4 ∧ iv = .int .i64 k ∧ Hid (LSt w W z lf (.slice ka 4 kc) (ks.take k ++ [0, 0, 0, 0].drop k) (lkPart bs xs n lf ks k))) (fun iv _ => 4 - (intOf iv).toNat)
    case atStart => exact ⟨0, by omega, rfl, LX⟩
    case round =>
      obtain ⟨k, hk, rfl, HS⟩ := hrel
      clear LX
      by_cases hlt : (k : Int) < 4
      · have hk4 : k < 4 := by omega
        obtain ⟨m, hm⟩ : ∃ m, ks[k]? = some m := ⟨_, List.getElem?_eq_getElem (by have := HL.out; omega)⟩
        obtain ⟨kb, ko, e, -, hc⟩ := (H.out.below (by rw [HZ.out]; exact HS.out.2.2.2)).at hm
        subst e
        have k0 : (0 : Int) ≤ k := by omega
        have oc : wr.cell? ⟨z + 1, k, none⟩ = some (.int .i64 0) := HS.out.cell (by
          rw [part_at (by have := HL.out; omega)]
          exact lf_nought k hk4)
        have of := HS.out.fr k
        have ol : wr.cell? ⟨z, 0, none⟩ = some (.bool lf) := cell_of_row _ _ 0 _ _ _ HS.out.1
        have S1 := hide (HS.out.given (k := k) m)
        rw [part_set hm (by have := HL.out; simp; omega)] at S1
        have HM := hide hm
        clear HS hm
        cases lf with
        | true =>
          have x1 : Hid ({ lkPart bs xs n true ks k with nums := (lkPart bs xs n true ks k).nums.set k (if m < 0 then 0 else m) } = lkPart bs xs n true ks (k + 1)) := by
            show Lk.mk _ _ _ _ _ = Lk.mk _ _ _ _ _
            congr 1
            show ((ks.map nn).take k ++ [0, 0, 0, 0].drop k).set k (if m < 0 then 0 else m) = _
            exact part_set (by rw [List.getElem?_map, HM.out]; rfl) (by have := HL.out; simp; omega)
          have S2 := hide (S1.out.num hk4 (if m < 0 then 0 else m))
          rw [x1.out] at S2
          have oc2 : (wr.setCell ⟨z + 1, k, none⟩ (.int .i64 m)).cell? ⟨z + 1 + 1, 2 + k, none⟩ = some (.int .i64 0) := S1.out.2.2.1.num (by
            show ((ks.map nn).take k ++ [0, 0, 0, 0].drop k)[k]? = _
            rw [part_at (by have := HL.out; simp; omega)]
            exact lf_nought k hk4)
          have of2 := S1.out.2.2.1.frozen (2 + k)
          clear x1 S1 HM
          go_wp2
          go_roundw
          case rel => exact ⟨k + 1, by omega, by go_num, S2⟩
          case measure => simp [intOf]; omega
        | false =>
          have hw : Hid (Below w.heap.size w (wr.setCell ⟨z + 1, k, none⟩ (.int .i64 m)).drew) := by rw [hide HZ.out]; exact S1.out.drew.2.2.2
          have C := hide (ileafAt fa n c bs xs m (wr.setCell ⟨z + 1, k, none⟩ (.int .i64 m)).drew (HR.out.below hw.out) (HF.out.below hw.out))
          obtain ⟨o, ho⟩ : ∃ o, leafP bs xs m = o := ⟨_, rfl⟩
          rw [ho] at C
          have x1 : Hid ({ lkPart bs xs n false ks k with tos := (lkPart bs xs n false ks k).tos.set k o } = lkPart bs xs n false ks (k + 1)) := by
            show Lk.mk _ _ _ _ _ = Lk.mk _ _ _ _ _
            congr 1
            show ((ks.map (leafP bs xs)).take k ++ [none, none, none, none].drop k).set k o = _
            exact part_set (by rw [List.getElem?_map, HM.out, ← ho]; rfl) (by have := HL.out; simp; omega)
          have S2 := hide (S1.out.to hk4 o)
          rw [x1.out] at S2
          have oc2 : (wr.setCell ⟨z + 1, k, none⟩ (.int .i64 m)).cell? ⟨z + 1 + 1, 6 + k, none⟩ = some (.pointer none) := S1.out.2.2.1.to (o := none) (by
            show ((ks.map (leafP bs xs)).take k ++ [none, none, none, none].drop k)[k]? = _
            rw [part_at (by have := HL.out; simp; omega)]
            match k, hk4 with
            | 0, _ | 1, _ | 2, _ | 3, _ => rfl)
          have of2 := S1.out.2.2.1.frozen (6 + k)
          have hpo : ∃ q, pval o = .pointer q := by cases o <;> exact ⟨_, rfl⟩
          obtain ⟨q, hq⟩ := hpo
          rw [hq] at C S2
          clear x1 S1 HM ho hw hq
          go_wp2
          go_region_held3 (fun _ => True) (trivial) ((go_at_call 163; (with_reducible refine Calls.mono C.out ?_); rintro e w1 ⟨rfl, rfl⟩))
          go_wp2
          go_roundw
          case rel => exact ⟨k + 1, by omega, by go_num, hide S2.out.drew⟩
          case measure => simp [intOf]; omega
      · have e4 : k = 4 := by omega
        subst e4
        have S1 : Hid (LSt w wr z lf (.slice ka 4 kc) ks (lkMade bs xs n lf ks)) := by
          have := HS.out
          rw [List.take_of_length_le (by have := HL.out; omega), lkPart_all HL.out] at this
          show LSt w wr z lf (.slice ka 4 kc) ks (lkMade bs xs n lf ks)
          simpa using this
        have hw : Hid (Below w.heap.size w wr.drew) := by rw [hide HZ.out]; exact S1.out.drew.2.2.2
        have KR : Hid (KidsR wr.drew (lkMade bs xs n lf ks) (kidsMade bs xs lf ks)) := by
          show KidsR _ _ _
          unfold KidsR
          cases lf with
          | true => rfl
          | false =>
            refine ⟨by rw [kidsMade, if_neg (by decide), List.length_map]; exact HL.out, fun j o ho => ?_⟩
            have ho2 : (ks.map (leafP bs xs))[j]? = some o := ho
            rw [List.getElem?_map, Option.map_eq_some_iff] at ho2
            obtain ⟨m, hm, rfl⟩ := ho2
            refine ⟨if (leafP bs xs m).isSome = true then m else -1, by rw [kidsMade, if_neg (by decide), List.getElem?_map, hm]; rfl, ?_⟩
            cases hq : leafP bs xs m with
            | none => exact .inl ⟨rfl, rfl⟩
            | some b =>
              obtain ⟨h0, hb, x, hx, -⟩ := leafP_some hq
              have hA := (HF.out.below hw.out).2 _ b x hb hx
              refine .inr ⟨b, rfl, ?_, hA.lt⟩
              rw [hA.place, HP.out _ x hx]
              show some (Value.int .i64 ((m.toNat : Nat) : Int)) = some (.int .i64 m)
              rw [Int.toNat_of_nonneg h0]
        have C := hide (ikids (z + 1 + 1) (lkMade bs xs n lf ks) (kidsMade bs xs lf ks) wr.drew S1.out.drew.2.2.1 KR.out)
        obtain ⟨k0, k1, k2, k3, hks⟩ := list4 HL.out
        obtain ⟨a0, a1, a2, a3, has⟩ := list4 (show (kidsMade bs xs lf ks).length = 4 by rw [kidsMade]; split <;> rw [List.length_map] <;> exact HL.out)
        have OK : Hid (linkOk bs xs lf ks = ([a0, a1, a2, a3] == [k0, k1, k2, k3])) := by
          show _ = _
          rw [linkOk, decide_eq_true HL.out, Bool.true_and, has, hks]
        obtain ⟨ok, hok⟩ : ∃ ok, ([a0, a1, a2, a3] == [k0, k1, k2, k3]) = ok := ⟨_, rfl⟩
        have eqv := fun W => eq4 a0 a1 a2 a3 k0 k1 k2 k3 W
        rw [hok] at OK eqv
        rw [has] at C
        have q0 := S1.out.cell (k := 0) (n := k0) (by rw [hks]; rfl)
        have q1 := S1.out.cell (k := 1) (n := k1) (by rw [hks]; rfl)
        have q2 := S1.out.cell (k := 2) (n := k2) (by rw [hks]; rfl)
        have q3 := S1.out.cell (k := 3) (n := k3) (by rw [hks]; rfl)
        have KP : Hid (∀ W, Below wr.drew.heap.size wr.drew W → W.cell? ⟨z + 1, 0, none⟩ = some (.int .i64 k0) ∧ W.cell? ⟨z + 1, 1, none⟩ = some (.int .i64 k1) ∧ W.cell? ⟨z + 1, 2, none⟩ = some (.int .i64 k2) ∧ W.cell? ⟨z + 1, 3, none⟩ = some (.int .i64 k3)) := fun W hW => by
          have hl : z + 1 < wr.drew.heap.size := (Array.getElem?_eq_some_iff.1 S1.out.2.1).1
          exact ⟨(hW.cell (show z + 1 < wr.drew.heap.size from hl)).trans q0, (hW.cell (show z + 1 < wr.drew.heap.size from hl)).trans q1, (hW.cell (show z + 1 < wr.drew.heap.size from hl)).trans q2, (hW.cell (show z + 1 < wr.drew.heap.size from hl)).trans q3⟩
        simp only [icells, List.map_cons, List.map_nil] at C eqv
        unfold ptr at C
        clear HS KR hks has hok
        go_wp2
        go_region_held3 (fun w' => w'.cell? ⟨z + 1, 0, none⟩ = some (.int .i64 k0) ∧ w'.cell? ⟨z + 1, 1, none⟩ = some (.int .i64 k1) ∧ w'.cell? ⟨z + 1, 2, none⟩ = some (.int .i64 k2) ∧ w'.cell? ⟨z + 1, 3, none⟩ = some (.int .i64 k3)) (first | go_keep | exact KP.out _ BB.out) ((go_at_call 164; (with_reducible refine Calls.mono C.out ?_); rintro e w1 ⟨rfl, bb⟩; have BB := hide bb; clear bb))
        all_goals
          go_wp2
          go_ret2
          refine ⟨_, congrArg (fun q => Ending.returned (.tuple #[ptr (z + 1 + 1), .bool q])) OK.out.symm, hw.out.trans (BB.out.mono hw.out.size), fun _ => ⟨z + 1 + 1, rfl, S1.out.drew.2.2.1.blw BB.out, by have := HZ.out; omega⟩⟩
end Go.Proofs.YtfmnaidhfgmemaaGreatDoor
