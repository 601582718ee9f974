/-
  LawLast; Vars
-/
import Derived.Test.YtaolinlginloaadDoorLawB
import Derived.Test.YtaolinlginloaadDoorILast
import Derived.Deep.RegionHeld3
import Derived.Test.YtaolinlginloaadDoorPk0
import Derived.ChangeVars
/-
  FnExactLastSeq.
-/
namespace Go.Proofs.YtaolinlginloaadDoor
open Go.RowKit
open Words Sums

theorem slast_of (v : Value) (bs : List Bk) (lo hi : Nat) (w : World) (ho : Okk bs) (htx : TxK bs) (ha : hi ≤ w.heap.size ∧ Inn w lo hi v bs) :
    Calls Tryd.prog 14 #[.agg #[v]] w fun e w' => LastP (founds bs bs.length) e ∧ Below w.heap.size w w' := by
  obtain ⟨ss, e1, i1, l, ll, -⟩ := ha.2.lens ho
  subst e1
  rw [List.length_map]
  exact slast v ss lo hi w l ll (by intro q hq t ht; exact htx _ (List.mem_map_of_mem (f := tellOf) hq) t ht) ha.1 i1
theorem ilast_of (v : Value) (bs : List Bk) (lo hi : Nat) (w : World) (ho : Okk bs) (htx : TxK bs) (ha : hi ≤ w.heap.size ∧ Inn w lo hi v bs) (hv : HalvIn w) :
    Calls Tryd.prog 15 #[.agg #[v]] w fun e w' => LastP (founds bs bs.length) e ∧ Below w.heap.size w w' := by
  obtain ⟨ss, e1, i1, l, ll, -⟩ := ha.2.lens ho
  subst e1
  rw [List.length_map]
  exact ilast v ss lo hi w l ll (by intro q hq t ht; exact htx _ (List.mem_map_of_mem (f := tellOf) hq) t ht) ha.1 i1 hv

set_option maxHeartbeats 800000 in
set_option maxRecDepth 100000 in
theorem lawLast_any (a : Option Addr) (len cap : Nat) (rs : List Rw) (w : World) (hv : HalvIn w) (h : BkRow w a len rs) :
    Calls Tryd.prog 4 #[.agg #[.slice a len cap]] w fun e w' => e = .returned (.bool true) ∧ Below w.heap.size w w' := by
  obtain ⟨bs, hbs⟩ : ∃ bs, rs.map tellOf = bs := ⟨_, rfl⟩
  have T0 := hide (Trk.start w (.slice a len cap) 24)
  have H := hide h
  have HV := hide hv
  have HBS := hide hbs
  have hlen := h.1
  clear h hbs hv
  go_enter Tryd.func4, Tryd.ntmps4
  go_wp2_with fail
  refine (szFlash_any a len cap rs 1048576 _ (Nat.le_refl _) (H.out.below T0.out.1)).mono ?_
  rintro e w1 ⟨⟨r, rfl, r1, r2, r3⟩, b1⟩
  have T1 := hide (T0.out.below b1)
  have k1 : w1.cell? ⟨w.heap.size, 0, none⟩ = some (.slice a len cap) := T1.out.at 0 rfl
  clear b1 T0
  by_cases hr : r < 0
  · clear r2 r3
    go_wp2
    go_ret
    exact ⟨rfl, T1.out.1⟩
  · obtain ⟨hl, hll, ho⟩ := meas (by omega) (r2 (by omega))
    have htx := tx_tell (r3 (by omega))
    rw [HBS.out] at ho htx
    have HLL := hide hll
    have HO := hide ho
    have HTX := hide htx
    have hl2 : len ≤ 1048576 := by omega
    have HLE := hide hl2
    clear r2 r3 hll ho htx hl2
    go_wp2_with fail
    refine (to_trk T1.out H.out HBS.out HLE.out HLL.out).mono ?_
    rintro e w2 ⟨ad1, cap1, rfl, t2, -⟩
    have T2 := hide t2
    clear t2 T1 k1
    go_wp2_with fail
    refine (slast_of _ bs _ _ _ HO.out HTX.out (T2.out.fl 0 rfl)).mono ?_
    rintro e w3 ⟨lp, b3⟩
    obtain ⟨z, hz⟩ : ∃ z, e = .returned (.int .i64 z) := by obtain ⟨M, -, -, e1⟩ := lp; exact ⟨_, e1⟩
    subst hz
    have LP := hide lp
    have T3 := hide (T2.out.below b3)
    have k3 : w3.cell? ⟨w.heap.size, 0, none⟩ = some (.slice a len cap) := T3.out.at 0 rfl
    clear b3 T2 lp
    go_wp2_with fail
    refine (to_trk T3.out H.out HBS.out HLE.out HLL.out).mono ?_
    rintro e w4 ⟨ad2, cap2, rfl, t4, -⟩
    have T5 := hide (t4.cell (.slice ad2 bs.length cap2) 30)
    clear t4 T3 k3
    go_wp2_with fail
    generalize w4.alloc (.cells #[.slice ad2 bs.length cap2] 30) = w5 at T5 ⊢
    refine (ilast_of _ bs _ _ _ HO.out HTX.out (T5.out.fl 0 rfl) (HV.out.on T5.out.1)).mono ?_
    rintro e w6 ⟨lp, b6⟩
    obtain rfl := lp.same LP.out
    have T6 := hide (T5.out.below b6)
    have hne : (z != z) = false := by simp
    have k6 : w6.cell? ⟨w.heap.size, 0, none⟩ = some (.slice a len cap) := T6.out.at 1 rfl
    have x6 : w6.cell? ⟨w4.heap.size, 0, none⟩ = some (.slice ad2 bs.length cap2) := T6.out.at 0 rfl
    have T6d := hide T6.out.drew
    clear b6 T5 lp LP
    go_wp2
    go_region_held3 (fun w' => w'.cell? ⟨w4.heap.size, 0, none⟩ = some (.slice ad2 bs.length cap2) ∧ w'.cell? ⟨w.heap.size, 0, none⟩ = some (.slice a len cap)) (first | go_keep | exact ⟨T7.out.at 0 rfl, T7.out.at 1 rfl⟩ | exact ⟨T8.out.at 0 rfl, T8.out.at 1 rfl⟩) (first
      | (go_at_call 7; with_reducible refine Calls.mono (to_trk T6d.out H.out HBS.out HLE.out HLL.out) ?_; rintro en w7 ⟨ad3, cap3, rfl, t7, -⟩; have T7 := hide t7; clear t7)
      | (go_at_call 10; with_reducible refine Calls.mono (eq_trk T7.out 1 0 HO.out rfl rfl) ?_; rintro en w8 ⟨rfl, t8, -⟩; have T8 := hide t8; clear t8))
    all_goals
      go_wp2
      go_ret
      exact ⟨rfl, T8.out.1⟩
theorem lawLast_card (a : Option Addr) (len cap : Nat) (rs : List Rw) {w : World} (h : BkRow w a len rs) (_ : World) (hv : HalvIn w) :
    Calls Tryd.prog 4 #[.agg #[.slice a len cap]] w fun e w' => e = .returned (.bool true) ∧ Below w.heap.size w w' := lawLast_any a len cap rs w hv h
end Go.Proofs.YtaolinlginloaadDoor

/-
  Package variables that are arrays of integers, where a row names them: they read behind the call as they did ahead of it.
-/
namespace Go.Proofs.YtaolinlginloaadDoor
open Go.ChangeShapes Go.RowKit

theorem trod_ints {H : Type} {enc : TypeId × Value → H} {P : Program} {t e : TypeId} {n : Nat} {k : IntKind} (ht : P.underlying t = some (.array n e)) (he : P.underlying e = some (.int k))
    (V V' : World) (b b' : Nat) (sp sp' : Nat → Bool) (held : Bool) (fuel : Nat) (cs : List Value) :
    DataW.trod enc P V b sp held fuel t cs = DataW.trod enc P V' b' sp' held fuel t cs := by
  cases fuel with
  | zero => rfl
  | succ fuel =>
    have h : ∀ x : List Value, DataW.trod enc P V b sp held fuel e x = DataW.trod enc P V' b' sp' held fuel e x := by
      intro x
      cases fuel with
      | zero => rfl
      | succ fuel =>
        simp only [DataW.trod, he]
        rcases x with _ | ⟨v, _ | ⟨v2, r⟩⟩
        · rfl
        · cases v <;> rfl
        · cases v <;> rfl
    simp only [DataW.trod, ht, h]

theorem vars_length {H : Type} {enc : TypeId × Value → H} {P : Program} {W : World} {sp : Nat → Bool} : ∀ {ns : List String} {gs : List (DataW H)} {q : List MemPlace}, DataW.TrodVars enc P W sp ns gs q → gs.length = ns.length
  | [], [], _, _ => rfl
  | [], _ :: _, _, h => by simp [DataW.TrodVars] at h
  | _ :: _, [], _, h => by simp [DataW.TrodVars] at h
  | _ :: _, _ :: _, _, h => by
    obtain ⟨_, _, _, _, _, _, _, _, _, _, hs, _⟩ := h
    simp [vars_length hs]

theorem vars_nil {H : Type} {enc : TypeId × Value → H} {P : Program} {W W' : World} {sp sp' : Nat → Bool} (gs : List (DataW H)) (q : List MemPlace) (h : DataW.TrodVars enc P W sp [] gs q) : DataW.TrodVars enc P W' sp' [] gs q := by
  cases gs with
  | nil => exact h
  | cons => simp [DataW.TrodVars] at h

theorem vars_cons {H : Type} {enc : TypeId × Value → H} {P : Program} {W W' : World} {sp sp' : Nat → Bool} {n : String} {ns : List String} {g : Nat} {t e : TypeId} {m : Nat} {k : IntKind}
    (hg : P.globalNamed n = some g) (hty : (P.globals[g]?).map (·.type) = some t) (ht : P.underlying t = some (.array m e)) (he : P.underlying e = some (.int k)) (hb : Below W.heap.size W W')
    (rest : ∀ gs q, DataW.TrodVars enc P W sp ns gs q → DataW.TrodVars enc P W' sp' ns gs q) (gs : List (DataW H)) (q : List MemPlace) (h : DataW.TrodVars enc P W sp (n :: ns) gs q) : DataW.TrodVars enc P W' sp' (n :: ns) gs q := by
  cases gs with
  | nil => simp [DataW.TrodVars] at h
  | cons d ds =>
    obtain ⟨g', t', cs, fuel, p, q', h1, h2, h3, h4, hs, rfl⟩ := h
    obtain rfl := Option.some.inj (hg.symm.trans h1)
    obtain rfl := Option.some.inj (hty.symm.trans h2)
    have hlt : g < W.heap.size := by
      rcases Nat.lt_or_ge g W.heap.size with h' | h'
      · exact h'
      · unfold World.var? at h3
        simp [hg, Array.getElem?_eq_none h'] at h3
    refine ⟨g, t, cs, fuel, p, q', h1, h2, var?_below hb hg hlt h3, ?_, rest _ _ hs, rfl⟩
    rw [trod_ints ht he W' W 0 0 sp' sp]
    exact h4
end Go.Proofs.YtaolinlginloaadDoor
