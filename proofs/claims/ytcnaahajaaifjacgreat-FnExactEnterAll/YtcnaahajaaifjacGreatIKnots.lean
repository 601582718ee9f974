/-
  impl's linked knots: the knots of a tree, each once; slices.Contains of pointers.
-/
import Derived.Test.YtcnaahajaaifjacGreatPk37
namespace Go.Proofs.YtcnaahajaaifjacGreat
open Go.RowKit
open Words

/-- The index of one that is there is not below 0. -/
def IxOut (w : World) (c : Nat) (cs : List Nat) (e : Ending) (w' : World) : Prop := ∃ i : Int, e = .returned (.int .i64 i) ∧ decide (0 ≤ i) = decide (c ∈ cs) ∧ w' = w
def IxSt (w W : World) (c : Nat) (cs : List Nat) (k : Nat) : Prop := W = w ∧ ∀ j b : Nat, j < k → cs[j]? = some b → b ≠ c
set_option maxHeartbeats 1000000 in
set_option maxRecDepth 100000 in
theorem iindex (fa : Option Addr) (n cap : Nat) (cs : List Nat) (c : Nat) (w : World) (hn : n ≤ 1048600) (hr : PRow w fa n cs) (hs : ∀ b ∈ cs, ∃ y, LkAt w b y) (hc : ∃ y, LkAt w c y) :
    Calls Tryz.prog 103 #[.slice fa n cap, ptr c] w (IxOut w c cs) := by
  have HR := hide hr
  have HS := hide hs
  have HC := hide hc
  clear hr hs hc
  unfold ptr
  go_enter Tryz.func103, Tryz.ntmps103
  go_wp2
  go_loopw [8] (fun iv W => ∃ k : Nat, k ≤ n ∧ iv = .int .i64 k ∧ Hid (IxSt w W c cs k)) (fun iv _ => n - (intOf iv).toNat)
  case atStart => exact ⟨0, Nat.zero_le _, rfl, hide ⟨rfl, fun j b h => by omega⟩⟩
  case round =>
    obtain ⟨k, hk, rfl, HI⟩ := hrel
    obtain ⟨hw, hno⟩ := HI.out
    subst hw
    have HN := hide hno
    clear HI hno
    by_cases hlt : (k : Int) < n
    · obtain ⟨b, hb⟩ : ∃ b, cs[k]? = some b := ⟨_, List.getElem?_eq_getElem (by have := HR.out.1; omega)⟩
      obtain ⟨g, rfl, -, hcell⟩ := HR.out.at hb
      have k0 : (0 : Int) ≤ k := by omega
      unfold ptr at hcell
      by_cases e : b = c
      · subst e
        have eqv := eqp_same b wr
        have EX : Hid (IxOut wr b cs (.returned (.int .i64 k)) wr) := ⟨k, rfl, by rw [decide_eq_true k0, decide_eq_true (List.mem_of_getElem? hb)], rfl⟩
        clear hb
        go_wp2
        go_ret
        exact EX.out
      · obtain ⟨y, hy⟩ := HS.out b (List.mem_of_getElem? hb)
        obtain ⟨x, hx⟩ := HC.out
        have eqv := eqp_other (fun q => e q.symm) hx hy
        have HN2 : Hid (IxSt wr wr c cs (k + 1)) := ⟨rfl, fun j d hj hd => by
          by_cases q : j = k
          · subst q; rw [hb] at hd; cases hd; exact e
          · exact HN.out j d (by omega) hd⟩
        clear hy hx hb
        go_wp2
        go_roundw
        case rel => exact ⟨k + 1, by omega, by go_num, HN2⟩
        case measure => simp [intOf]; omega
    · have EX : Hid (IxOut wr c cs (.returned (.int .i64 (-1))) wr) := by
        refine ⟨-1, rfl, ?_, rfl⟩
        rw [decide_eq_false (by omega), decide_eq_false (fun h => ?_)]
        obtain ⟨j, hj⟩ := List.getElem?_of_mem h
        have hjl := (List.getElem?_eq_some_iff.1 hj).1
        exact HN.out j c (by have := HR.out.1; omega) hj rfl
      go_wp2
      go_ret
      exact EX.out
set_option maxHeartbeats 400000 in
set_option maxRecDepth 100000 in
theorem icontains (fa : Option Addr) (n cap : Nat) (cs : List Nat) (c : Nat) (w : World) (hn : n ≤ 1048600) (hr : PRow w fa n cs) (hs : ∀ b ∈ cs, ∃ y, LkAt w b y) (hc : ∃ y, LkAt w c y) :
    Calls Tryz.prog 99 #[.slice fa n cap, ptr c] w fun e w' => e = .returned (.bool (decide (c ∈ cs))) ∧ w' = w := by
  have C := hide (iindex fa n cap cs c w hn hr hs hc)
  clear hr hs hc
  unfold ptr at *
  go_enter Tryz.func99, Tryz.ntmps99
  go_wp2_with fail
  refine C.out.mono ?_
  rintro e w1 ⟨i, rfl, hi, rfl⟩
  have HI := hide hi
  clear hi C
  go_wp2
  go_ret
  exact ⟨congrArg (fun q => Ending.returned (.bool q)) HI.out, rfl⟩
/-- One more knot, if it is not there yet. -/
def knStep (acc : List Nat) (o : Option Nat) : List Nat := match o with
  | none => acc
  | some c => if c ∈ acc then acc else acc ++ [c]
/-- The knots of a tree, by their blocks. -/
def knP (b : Nat) (x : Lk) : List Nat := x.tos.foldl knStep (if x.place = -1 then [] else [b])
theorem knStep_len (acc : List Nat) (o : Option Nat) : (knStep acc o).length ≤ acc.length + 1 := by
  unfold knStep
  split
  · omega
  · split
    · omega
    · simp
theorem knFold_succ {l : List (Option Nat)} {k : Nat} {o : Option Nat} (h : l[k]? = some o) (a : List Nat) : (l.take (k + 1)).foldl knStep a = knStep ((l.take k).foldl knStep a) o := by
  obtain ⟨h1, h2⟩ := List.getElem?_eq_some_iff.1 h
  rw [List.take_succ_eq_append_getElem h1, h2, List.foldl_append]
  rfl
theorem knStep_mem {acc : List Nat} {o : Option Nat} {d : Nat} : d ∈ knStep acc o ↔ d ∈ acc ∨ o = some d := by
  unfold knStep
  cases o with
  | none => simp
  | some c =>
    simp only [Option.some.injEq]
    by_cases h : c ∈ acc
    · rw [if_pos h]
      constructor
      · exact .inl
      · rintro (q | rfl)
        · exact q
        · exact h
    · rw [if_neg h, List.mem_append, List.mem_singleton]
      constructor
      · rintro (q | rfl)
        · exact .inl q
        · exact .inr rfl
      · rintro (q | rfl)
        · exact .inl q
        · exact .inr rfl
theorem knFold_mem {l : List (Option Nat)} {a : List Nat} {d : Nat} : d ∈ l.foldl knStep a ↔ d ∈ a ∨ some d ∈ l := by
  induction l generalizing a with
  | nil => simp
  | cons o l ih =>
    rw [List.foldl_cons, ih, knStep_mem, List.mem_cons, or_assoc]
    constructor
    · rintro (h | h | h)
      · exact .inl h
      · exact .inr (.inl h.symm)
      · exact .inr (.inr h)
    · rintro (h | h | h)
      · exact .inl h
      · exact .inr (.inl h.symm)
      · exact .inr (.inr h)
theorem knFold_nodup {l : List (Option Nat)} {a : List Nat} (h : a.Nodup) : (l.foldl knStep a).Nodup := by
  induction l generalizing a with
  | nil => exact h
  | cons o l ih =>
    refine ih ?_
    unfold knStep
    split
    · exact h
    · split
      · exact h
      · rename_i c hc
        exact List.nodup_append.2 ⟨h, by simp, fun x hx y hy e => by simp only [List.mem_singleton] at hy; subst hy; subst e; exact hc hx⟩

/-- The knots so far. -/
def KwSt (w W : World) (v : Value) (acc : List Nat) : Prop := W.ownsRow w.heap.size 113 1 v acc.length (bcellsP acc) ∧ Below w.heap.size w W
theorem KwSt.snoc {w W y : World} {v u : Value} {acc : List Nat} {c : Nat} (h : KwSt w W v acc) (ho : y.ownsRow w.heap.size 113 1 u (acc.length + 1) (bcellsP acc ++ [ptr c])) (hg : (W.alloc (.cells #[ptr c] 113)).grownBy y v.ownBlock) : KwSt w y u (acc ++ [c]) := by
  refine ⟨by rw [← bcellsP_snoc, List.length_append]; exact ho, own_grown h.2 h.2.size h.1 hg⟩

set_option maxHeartbeats 1000000 in
set_option maxRecDepth 100000 in
theorem iknots (b : Nat) (x : Lk) (w : World) (h : LkAt w b x) (hc : ∀ c, some c ∈ x.tos → ∃ y, LkAt w c y) :
    Calls Tryz.prog 92 #[ptr b] w fun e w' => ∃ v, e = .returned v ∧ KwSt w w' v (knP b x) := by
  obtain ⟨i0, hi0, hz0, hz1, hz2⟩ := info_parts infoPt
  have I0 := hide hi0
  have Y0 := hide hz0
  have Y1 := hide hz1
  have Y2 := hide hz2
  clear hi0 hz0 hz1 hz2
  have H := hide h
  have HC := hide hc
  obtain ⟨t0, t1, t2, t3, ht⟩ := list4 h.2.2
  have HT := hide ht
  have pv : ∀ o : Option Nat, ∃ a, pval o = .pointer a := fun o => by cases o <;> exact ⟨_, rfl⟩
  obtain ⟨a0, ha0⟩ := pv t0
  obtain ⟨a1, ha1⟩ := pv t1
  obtain ⟨a2, ha2⟩ := pv t2
  obtain ⟨a3, ha3⟩ := pv t3
  have TC : Hid (∀ W, Below w.heap.size w W → W.cell? ⟨b, 6, none⟩ = some (.pointer a0) ∧ W.cell? ⟨b, 7, none⟩ = some (.pointer a1) ∧ W.cell? ⟨b, 8, none⟩ = some (.pointer a2) ∧ W.cell? ⟨b, 9, none⟩ = some (.pointer a3)) := fun W hW => by
    have hx := h.blw hW
    have d0 := hx.to (k := 0) (o := t0) (by rw [ht]; rfl)
    have d1 := hx.to (k := 1) (o := t1) (by rw [ht]; rfl)
    have d2 := hx.to (k := 2) (o := t2) (by rw [ht]; rfl)
    have d3 := hx.to (k := 3) (o := t3) (by rw [ht]; rfl)
    rw [ha0] at d0
    rw [ha1] at d1
    rw [ha2] at d2
    rw [ha3] at d3
    exact ⟨d0, d1, d2, d3⟩
  have AG : Hid (Value.agg #[.pointer a0, .pointer a1, .pointer a2, .pointer a3] = .agg (pcells x.tos).toArray) := by show _ = _; rw [ht, ← ha0, ← ha1, ← ha2, ← ha3]; rfl
  have H4 : Hid (x.tos.length = 4) := h.2.2
  have c0 := h.place
  clear h hc ht pv ha0 ha1 ha2 ha3
  unfold ptr
  by_cases hp : x.place = -1
  · obtain ⟨A0, hA0⟩ : ∃ A : List Nat, [] = A := ⟨_, rfl⟩
    have E : Hid (knP b x = x.tos.foldl knStep A0) := by show _ = _; rw [knP, if_pos hp, hA0]
    have AL : Hid (A0.length ≤ 0 + 1) := by show _ ≤ _; rw [← hA0]; simp
    have A1 : Hid (∀ d ∈ A0, ∃ y, LkAt w d y) := by rw [← hA0]; exact fun d hd => by cases hd
    rw [hp] at c0
    obtain ⟨d0, d1, d2, d3⟩ := TC.out w (Below.refl _ _)
    have S0 : Hid (KwSt w w (.slice none 0 0) A0) := by rw [← hA0]; exact ⟨⟨rfl, .inl ⟨rfl, rfl⟩⟩, Below.refl _ _⟩
    clear hp hA0
    go_enter Tryz.func92, Tryz.ntmps92
    go_wp2
    clear d0 d1 d2 d3
    rw [AG.out]
    clear c0
    go_loopw [3, 19] (fun av iv W => ∃ (k : Nat) (acc : List Nat), k ≤ 4 ∧ iv = .int .i64 k ∧ acc.length ≤ k + 1 ∧ Hid (acc = (x.tos.take k).foldl knStep A0) ∧ Hid (KwSt w W av acc)) (fun _ iv _ => 4 - (intOf iv).toNat)
    case atStart => exact ⟨0, A0, by omega, rfl, AL.out, rfl, S0⟩
    case round =>
      obtain ⟨k, acc, hk, rfl, hal, HA, HS⟩ := hrel
      clear S0
      obtain ⟨fa, fc, hfv, hpr⟩ := PRow.of HS.out.1
      subst hfv
      have HPR := hide hpr
      clear hpr
      by_cases hlt : (k : Int) < 4
      · obtain ⟨o, ho⟩ : ∃ o, x.tos[k]? = some o := ⟨_, List.getElem?_eq_getElem (by have := H4.out; omega)⟩
        have hix := idxP x.tos k o H4.out ho
        have HA2 : Hid ((x.tos.take (k + 1)).foldl knStep A0 = knStep acc o) := by show _ = _; rw [knFold_succ ho, ← HA.out]
        have ALL : Hid (∀ d ∈ acc, ∃ y, LkAt wr d y) := fun d hd => by
          rw [HA.out, knFold_mem] at hd
          rcases hd with hd | hd
          · obtain ⟨y, hy⟩ := A1.out d hd
            exact ⟨y, hy.blw HS.out.2⟩
          · obtain ⟨y, hy⟩ := HC.out d (List.mem_of_mem_take hd)
            exact ⟨y, hy.blw HS.out.2⟩
        cases o with
        | none =>
          have hix2 : ∀ W : World, (Instr.index 117 (.agg (pcells x.tos).toArray) (.int .i64 (k : Int))).run Tryz.prog W = .ok (.pointer none) W := hix
          clear hix ho
          go_wp2
          go_roundw
          case rel => exact ⟨k + 1, acc, by omega, by go_num, by omega, HA2.out.symm, HS⟩
          case measure => simp [intOf]; omega
        | some c =>
          have hix2 : ∀ W : World, (Instr.index 117 (.agg (pcells x.tos).toArray) (.int .i64 (k : Int))).run Tryz.prog W = .ok (.pointer (some ⟨c, 0, none⟩)) W := hix
          have HCC : Hid (∃ y, LkAt wr c y) := by
            obtain ⟨y, hy⟩ := HC.out c (List.mem_of_getElem? ho)
            exact ⟨y, hy.blw HS.out.2⟩
          clear hix ho
          go_wp2_with fail
          refine (icontains fa acc.length fc acc c wr (by omega) HPR.out ALL.out HCC.out).mono ?_
          rintro e w1 ⟨rfl, rfl⟩
          by_cases hm : c ∈ acc
          · have HA3 : Hid (acc = (x.tos.take (k + 1)).foldl knStep A0) := by show _ = _; rw [HA2.out, knStep, if_pos hm]
            rw [decide_eq_true hm]
            clear hm
            go_wp2
            go_roundw
            case rel => exact ⟨k + 1, acc, by omega, by go_num, by omega, HA3, HS⟩
            case measure => simp [intOf]; omega
          · have HA3 : Hid (acc ++ [c] = (x.tos.take (k + 1)).foldl knStep A0) := by show _ = _; rw [HA2.out, knStep, if_neg hm]
            rw [decide_eq_false hm]
            have OWN := hide (own_below HS.out.1 ((Below.refl w1.heap.size w1).alloc (Nat.le_refl _) (.cells #[ptr c] 113)))
            have hza : w.heap.size ≤ (w1.alloc (.cells #[.pointer (some ⟨c, 0, none⟩)] 113)).heap.size := by have := HS.out.2.size; simp; omega
            obtain ⟨m, hm2⟩ : ∃ m, acc.length = m := ⟨_, rfl⟩
            rw [hm2] at OWN hal HPR ⊢
            have HM := hide hm2
            clear hm hm2 HPR ALL
            unfold ptr at OWN
            go_wp2_with (at_builtin; refine wpList_append_own _ rfl _ _ 106 rfl w.heap.size 113 i0 (.pointer none) 1 8 Tryz.underlying106 I0.out Y0.out Y1.out Y2.out rfl (by decide) _ _ _ rfl OWN.out ⟨w1.heap.size, 0, none⟩ 1 1 [Value.pointer (some ⟨c, 0, none⟩)] rfl rfl (one_cell _ _ _) (ptr_one _) ?c1 ?c2 ?c3 ?_)
            case c1 => unfold maxLen; omega
            case c2 => omega
            case c3 => exact hza
            intro u' y ho hg _
            have ST : Hid (KwSt w y u' (acc ++ [c])) := HS.out.snoc (by rw [HM.out]; exact ho) (by rw [HM.out]; exact hg)
            have hl2 : (acc ++ [c]).length ≤ k + 2 := by rw [List.length_append, HM.out]; simp; omega
            obtain ⟨ua, uc, hu, -⟩ := (Sli.of ho).form
            subst hu
            generalize acc ++ [c] = acc2 at ST HA3 hl2
            clear ho hg OWN
            go_wp2
            go_roundw
            case rel => exact ⟨k + 1, acc2, by omega, by go_num, by omega, HA3, ST⟩
            case measure => simp [intOf]; omega
      · have e4 : k = 4 := by omega
        subst e4
        have EE : Hid (knP b x = acc) := by show _ = _; rw [E.out, HA.out, List.take_of_length_le (by have := H4.out; omega)]
        clear HPR
        go_wp2
        go_ret
        exact ⟨_, rfl, by rw [EE.out]; exact HS.out⟩
  · obtain ⟨A0, hA0⟩ : ∃ A : List Nat, [b] = A := ⟨_, rfl⟩
    have E : Hid (knP b x = x.tos.foldl knStep A0) := by show _ = _; rw [knP, if_neg hp, hA0]
    have AL : Hid (A0.length ≤ 0 + 1) := by show _ ≤ _; rw [← hA0]; simp
    have A1 : Hid (∀ d ∈ A0, ∃ y, LkAt w d y) := by rw [← hA0]; exact fun d hd => by simp only [List.mem_singleton] at hd; rw [hd]; exact ⟨x, H.out⟩
    have hne : (x.place != -1) = true := by simpa using hp
    have ON : Hid ((w.alloc (.cells #[.pointer (some ⟨b, 0, none⟩)] 113)).ownsRow w.heap.size 113 1 (.slice none 0 0) 0 []) := ⟨rfl, .inl ⟨rfl, rfl⟩⟩
    generalize x.place = pl at c0 hne
    clear hp
    go_enter Tryz.func92, Tryz.ntmps92
    go_wp2_with (at_builtin; refine wpList_append_own _ rfl _ _ 106 rfl w.heap.size 113 i0 (.pointer none) 1 8 Tryz.underlying106 I0.out Y0.out Y1.out Y2.out rfl (by decide) _ _ _ rfl ON.out ⟨w.heap.size, 0, none⟩ 1 1 [Value.pointer (some ⟨b, 0, none⟩)] rfl rfl (one_cell _ _ _) (ptr_one _) ?c1 ?c2 ?c3 ?_)
    case c1 => unfold maxLen; omega
    case c2 => omega
    case c3 => simp
    intro u' y ho hg _
    have hb1 : Below w.heap.size w y := ((Below.refl w.heap.size w).alloc (Nat.le_refl _) (.cells #[.pointer (some ⟨b, 0, none⟩)] 113)).grown hg (by simp) (fun k hk => by cases hk)
    have S0 : Hid (KwSt w y u' A0) := by rw [← hA0]; exact ⟨ho, hb1⟩
    obtain ⟨d0, d1, d2, d3⟩ := TC.out y hb1
    obtain ⟨ua, uc, hu, -⟩ := (Sli.of ho).form
    subst hu
    clear ho hg hb1 hA0 ON
    go_wp2
    clear d0 d1 d2 d3
    rw [AG.out]
    clear c0
    go_loopw [3, 19] (fun av iv W => ∃ (k : Nat) (acc : List Nat), k ≤ 4 ∧ iv = .int .i64 k ∧ acc.length ≤ k + 1 ∧ Hid (acc = (x.tos.take k).foldl knStep A0) ∧ Hid (KwSt w W av acc)) (fun _ iv _ => 4 - (intOf iv).toNat)
    case atStart => exact ⟨0, A0, by omega, rfl, AL.out, rfl, S0⟩
    case round =>
      obtain ⟨k, acc, hk, rfl, hal, HA, HS⟩ := hrel
      clear S0
      obtain ⟨fa, fc, hfv, hpr⟩ := PRow.of HS.out.1
      subst hfv
      have HPR := hide hpr
      clear hpr
      by_cases hlt : (k : Int) < 4
      · obtain ⟨o, ho⟩ : ∃ o, x.tos[k]? = some o := ⟨_, List.getElem?_eq_getElem (by have := H4.out; omega)⟩
        have hix := idxP x.tos k o H4.out ho
        have HA2 : Hid ((x.tos.take (k + 1)).foldl knStep A0 = knStep acc o) := by show _ = _; rw [knFold_succ ho, ← HA.out]
        have ALL : Hid (∀ d ∈ acc, ∃ y, LkAt wr d y) := fun d hd => by
          rw [HA.out, knFold_mem] at hd
          rcases hd with hd | hd
          · obtain ⟨y, hy⟩ := A1.out d hd
            exact ⟨y, hy.blw HS.out.2⟩
          · obtain ⟨y, hy⟩ := HC.out d (List.mem_of_mem_take hd)
            exact ⟨y, hy.blw HS.out.2⟩
        cases o with
        | none =>
          have hix2 : ∀ W : World, (Instr.index 117 (.agg (pcells x.tos).toArray) (.int .i64 (k : Int))).run Tryz.prog W = .ok (.pointer none) W := hix
          clear hix ho
          go_wp2
          go_roundw
          case rel => exact ⟨k + 1, acc, by omega, by go_num, by omega, HA2.out.symm, HS⟩
          case measure => simp [intOf]; omega
        | some c =>
          have hix2 : ∀ W : World, (Instr.index 117 (.agg (pcells x.tos).toArray) (.int .i64 (k : Int))).run Tryz.prog W = .ok (.pointer (some ⟨c, 0, none⟩)) W := hix
          have HCC : Hid (∃ y, LkAt wr c y) := by
            obtain ⟨y, hy⟩ := HC.out c (List.mem_of_getElem? ho)
            exact ⟨y, hy.blw HS.out.2⟩
          clear hix ho
          go_wp2_with fail
          refine (icontains fa acc.length fc acc c wr (by omega) HPR.out ALL.out HCC.out).mono ?_
          rintro e w1 ⟨rfl, rfl⟩
          by_cases hm : c ∈ acc
          · have HA3 : Hid (acc = (x.tos.take (k + 1)).foldl knStep A0) := by show _ = _; rw [HA2.out, knStep, if_pos hm]
            rw [decide_eq_true hm]
            clear hm
            go_wp2
            go_roundw
            case rel => exact ⟨k + 1, acc, by omega, by go_num, by omega, HA3, HS⟩
            case measure => simp [intOf]; omega
          · have HA3 : Hid (acc ++ [c] = (x.tos.take (k + 1)).foldl knStep A0) := by show _ = _; rw [HA2.out, knStep, if_neg hm]
            rw [decide_eq_false hm]
            have OWN := hide (own_below HS.out.1 ((Below.refl w1.heap.size w1).alloc (Nat.le_refl _) (.cells #[ptr c] 113)))
            have hza : w.heap.size ≤ (w1.alloc (.cells #[.pointer (some ⟨c, 0, none⟩)] 113)).heap.size := by have := HS.out.2.size; simp; omega
            obtain ⟨m, hm2⟩ : ∃ m, acc.length = m := ⟨_, rfl⟩
            rw [hm2] at OWN hal HPR ⊢
            have HM := hide hm2
            clear hm hm2 HPR ALL
            unfold ptr at OWN
            go_wp2_with (at_builtin; refine wpList_append_own _ rfl _ _ 106 rfl w.heap.size 113 i0 (.pointer none) 1 8 Tryz.underlying106 I0.out Y0.out Y1.out Y2.out rfl (by decide) _ _ _ rfl OWN.out ⟨w1.heap.size, 0, none⟩ 1 1 [Value.pointer (some ⟨c, 0, none⟩)] rfl rfl (one_cell _ _ _) (ptr_one _) ?c1 ?c2 ?c3 ?_)
            case c1 => unfold maxLen; omega
            case c2 => omega
            case c3 => exact hza
            intro u' y ho hg _
            have ST : Hid (KwSt w y u' (acc ++ [c])) := HS.out.snoc (by rw [HM.out]; exact ho) (by rw [HM.out]; exact hg)
            have hl2 : (acc ++ [c]).length ≤ k + 2 := by rw [List.length_append, HM.out]; simp; omega
            obtain ⟨ua, uc, hu, -⟩ := (Sli.of ho).form
            subst hu
            generalize acc ++ [c] = acc2 at ST HA3 hl2
            clear ho hg OWN
            go_wp2
            go_roundw
            case rel => exact ⟨k + 1, acc2, by omega, by go_num, by omega, HA3, ST⟩
            case measure => simp [intOf]; omega
      · have e4 : k = 4 := by omega
        subst e4
        have EE : Hid (knP b x = acc) := by show _ = _; rw [E.out, HA.out, List.take_of_length_le (by have := H4.out; omega)]
        clear HPR
        go_wp2
        go_ret
        exact ⟨_, rfl, by rw [EE.out]; exact HS.out⟩
end Go.Proofs.YtcnaahajaaifjacGreat
