/-
  LawFS; OpKn; Vars
-/
import Derived.Test.YtcjgjkejhkhknabGreatDoorPk4
import Derived.Test.YtcjgjkejhkhknabGreatDoorIDig
import Derived.Deep.RegionHeld3
import Derived.Test.YtcjgjkejhkhknabGreatDoorPk0
import Derived.ProofKit
import Derived.OpenShut
import Derived.ShutString
import Derived.Deep.Strs
import Derived.Deep.Slices
import Derived.ChangeVars
set_option maxHeartbeats 1000000
set_option maxRecDepth 100000
namespace Go.Proofs.YtcjgjkejhkhknabGreatDoor
open Go.RowKit
open Words Sums Pack
theorem sfs_tk {w wi : World} {hs : List Hold} {v u : Value} {bs : List Bk} {live : List Int} {n l1 h1 l2 h2 : Nat} (t : ByteArray) (T : Tk w wi hs) (n1 n2 : Nat) (ho : Okk bs) (htx : TxK bs) (hn : live.length = n) (hm : n ≤ 1048576) (e1 : hs[n1]? = some (l1, h1, Fla l1 h1 v bs)) (e2 : hs[n2]? = some (l2, h2, Sli 3 l2 h2 u n (icells live))) :
 Calls Tryz.prog 6 #[.agg #[v], u, .string t] wi fun e w' => e = .returned (.int .i64 (sameP (scanF bs) live t.data.toList)) ∧ Tk w w' hs ∧ wi.heap.size ≤ w'.heap.size := by
 obtain ⟨ss, e3, i1, l, ll, -⟩ := (T.get n1 e1).lens ho
 subst hn
 obtain ⟨la, lc, rfl, -, hr⟩ := ISl.of (T.get n2 e2) (by unfold maxLen; omega) (T.hi n2 e2)
 subst e3
 refine (sfind v ss la _ lc live t wi l ll (by intro q hq t ht; exact htx _ (List.mem_map_of_mem (f := tellOf) hq) t ht) i1.rd (by omega) hr).mono ?_
 rintro e w' ⟨rfl, hb⟩
 exact ⟨rfl, T.below hb, hb.size⟩
theorem ifs_tk {w wi : World} {hs : List Hold} {v u : Value} {bs : List Bk} {live : List Int} {n l1 h1 l2 h2 : Nat} (t : ByteArray) (ht : t.size ≤ 1048576) (T : Tk w wi hs) (n1 n2 : Nat) (ho : Okk bs) (htx : TxK bs) (hn : live.length = n) (hm : n ≤ 1048576) (e1 : hs[n1]? = some (l1, h1, Fla l1 h1 v bs)) (e2 : hs[n2]? = some (l2, h2, Sli 3 l2 h2 u n (icells live))) (hv : HalvIn wi) (hst : StepIn wi) :
 Calls Tryz.prog 9 #[.agg #[v], u, .string t] wi fun e w' => e = .returned (.int .i64 (sameP (scanF bs) live t.data.toList)) ∧ Tk w w' hs ∧ wi.heap.size ≤ w'.heap.size := by
 obtain ⟨ss, e3, i1, l, ll, -⟩ := (T.get n1 e1).lens ho
 subst hn
 obtain ⟨la, lc, rfl, -, hr⟩ := ISl.of (T.get n2 e2) (by unfold maxLen; omega) (T.hi n2 e2)
 subst e3
 refine (ifind v ss la _ lc live t wi l ll (by intro q hq t ht; exact htx _ (List.mem_map_of_mem (f := tellOf) hq) t ht) i1.rd (by omega) hr ht hv hst).mono ?_
 rintro e w' ⟨rfl, hb⟩
 exact ⟨rfl, T.below hb, hb.size⟩
theorem lawFS_any (a : Option Addr) (len cap : Nat) (rs : List Rw) (la : Option Addr) (ll lc : Nat) (live : List Int) (t : ByteArray) (w : World) (hv : HalvIn w) (hst : StepIn w) (h : BkRow w a len rs) (hi : IRow w la ll live) (hts : t.size ≤ maxLen) :
 Calls Tryz.prog 3 #[.agg #[.slice a len cap], .slice la ll lc, .string t] w fun e w' => e = .returned (.bool true) ∧ Below w.heap.size w w' := by
 obtain ⟨bs, hbs⟩ : ∃ bs, rs.map tellOf = bs := ⟨_, rfl⟩
 have T0 := hide ((Tk.start w).cell #[.slice a len cap] 24)
 have H := hide h
 have HV := hide hv
 have HST := hide hst
 have HI := hide hi
 have HNL := hide hi.1
 have HBS := hide hbs
 have hlen := h.1
 unfold maxLen at hts
 clear h hbs hv hst hi
 by_cases hbig : (1048576 : Int) < ll
 ·go_enter Tryz.func3, Tryz.ntmps3
  go_wp2
  go_ret
  exact ⟨rfl, T0.out.1⟩
 by_cases hbig2 : (1048576 : Int) < t.size
 ·go_enter Tryz.func3, Tryz.ntmps3
  go_wp2
  go_ret
  exact ⟨rfl, T0.out.1⟩
 have hll1 : ll ≤ 1048576 := by omega
 have htt1 : t.size ≤ 1048576 := by omega
 have HLL1 := hide hll1
 have HTT1 := hide htt1
 go_enter Tryz.func3, Tryz.ntmps3
 go_wp2_with fail
 refine (szFlash_any a len cap rs 1048576 _ (Nat.le_refl _) (H.out.below T0.out.1)).mono ?_
 rintro e w1 ⟨⟨r, rfl, r1, r2, r3⟩, b1⟩
 have T1 := hide (T0.out.below b1)
 have k1 : w1.cell? ⟨w.heap.size, 0, none⟩ = some (.slice a len cap) := T1.out.at 0 0 rfl rfl
 clear b1 T0
 by_cases hr : r < 0
 ·clear r2 r3
  go_wp2
  go_ret
  exact ⟨rfl, T1.out.1⟩
 ·obtain ⟨hl, hll, ho⟩ := meas (by omega) (r2 (by omega))
  have htx := tx_tell (r3 (by omega))
  rw [HBS.out] at ho htx
  have HLL := hide hll
  have HO := hide ho
  have HTX := hide htx
  have hl2 : len ≤ 1048576 := by omega
  have HLE := hide hl2
  clear r2 r3 hll ho htx hl2
  go_wp2_with fail
  refine (to_tk T1.out H.out HBS.out HLE.out HLL.out).mono ?_
  rintro e w2 ⟨ad1, cap1, rfl, t2, -⟩
  have T2 := hide t2
  clear t2 T1 k1
  go_wp2_with fail
  refine (tois_tk (cap := lc) T2.out HI.out HLL1.out).mono ?_
  rintro e w3 ⟨g1, rfl, t3, -⟩
  have T3 := hide t3
  clear t3 T2
  go_wp2_with fail
  refine (sfs_tk t T3.out 1 0 HO.out HTX.out HNL.out HLL1.out rfl rfl).mono ?_
  rintro e w4 ⟨rfl, t4, -⟩
  have T4 := hide (t4.drop (hs' := [(w.heap.size, w.heap.size + 1, Cel w.heap.size #[.slice a len cap] 24)]) (by intro x hx; simp only [List.mem_cons, List.not_mem_nil, or_false] at hx ⊢; exact .inr (.inr hx)))
  have k4 : w4.cell? ⟨w.heap.size, 0, none⟩ = some (.slice a len cap) := T4.out.at 0 0 rfl rfl
  clear t4 T3
  obtain ⟨ok, hok⟩ : ∃ ok, sameP (scanF bs) live t.data.toList = ok := ⟨_, rfl⟩
  rw [hok]
  have HOK := hide hok
  clear hok
  go_wp2_with fail
  refine (to_tk T4.out H.out HBS.out HLE.out HLL.out).mono ?_
  rintro e w5 ⟨ad2, cap2, rfl, t5, -⟩
  have T5 := hide (t5.cell #[.slice ad2 bs.length cap2] 30)
  clear t5 T4 k4
  go_wp2_with fail
  generalize w5.alloc (.cells #[.slice ad2 bs.length cap2] 30) = w6 at T5 ⊢
  refine (tois_tk (cap := lc) T5.out HI.out HLL1.out).mono ?_
  rintro e w7 ⟨g2, rfl, t7, -⟩
  have T7 := hide t7
  have x7 : w7.cell? ⟨w5.heap.size, 0, none⟩ = some (.slice ad2 bs.length cap2) := T7.out.at 1 0 rfl rfl
  clear t7 T5
  go_wp2_with fail
  refine (ifs_tk t HTT1.out T7.out 2 0 HO.out HTX.out HNL.out HLL1.out rfl rfl (HV.out.on T7.out.1) (HST.out.on T7.out.1)).mono ?_
  rintro e w8 ⟨rfl, t8, -⟩
  have T8 := hide t8
  rw [HOK.out]
  have hne : (ok != ok) = false := by simp
  have k8 : w8.cell? ⟨w.heap.size, 0, none⟩ = some (.slice a len cap) := T8.out.at 3 0 rfl rfl
  have x8 : w8.cell? ⟨w5.heap.size, 0, none⟩ = some (.slice ad2 bs.length cap2) := T8.out.at 1 0 rfl rfl
  have T8d := hide T8.out.drew
  clear t8 T7 x7
  go_wp2
  go_region_held3 (fun w' => w'.cell? ⟨w5.heap.size, 0, none⟩ = some (.slice ad2 bs.length cap2) ∧ w'.cell? ⟨w.heap.size, 0, none⟩ = some (.slice a len cap)) (first | go_keep | exact ⟨T9.out.at 2 0 rfl rfl, T9.out.at 4 0 rfl rfl⟩ | exact ⟨TA.out.at 2 0 rfl rfl, TA.out.at 4 0 rfl rfl⟩) (first
   | (go_at_call 7; with_reducible refine Calls.mono (to_tk T8d.out H.out HBS.out HLE.out HLL.out) ?_; rintro en w9 ⟨ad3, cap3, rfl, t9, -⟩; have T9 := hide t9; clear t9)
   | (go_at_call 10; with_reducible refine Calls.mono (eq_tk T9.out 3 0 HO.out rfl rfl) ?_; rintro en wA ⟨rfl, tA, -⟩; have TA := hide tA; clear tA))
  all_goals
   go_wp2_with fail
   refine (tois_tk (cap := lc) TA.out HI.out HLL1.out).mono ?_
   rintro e wB ⟨g3, rfl, tB, -⟩
   have TB := hide tB
   clear tB TA T9 T8d T8
   go_wp2_with fail
   refine (eqi_tk2 TB.out 2 0 HNL.out HLL1.out rfl rfl).mono ?_
   rintro e wC ⟨rfl, tC, -⟩
   have TC := hide tC
   clear tC TB
   go_wp2
   go_ret
   exact ⟨rfl, TC.out.1⟩
theorem lawFS_card (a : Option Addr) (len cap : Nat) (rs : List Rw) (la : Option Addr) (ll lc : Nat) (live : List Int) (t : ByteArray) {w : World} (h : BkRow w a len rs) (hi : ISl w (.slice la ll lc) live) (ht : t.size ≤ maxLen) (_ : World) (hv : HalvIn w) (hst : StepIn w) :
 Calls Tryz.prog 3 #[.agg #[.slice a len cap], .slice la ll lc, .string t] w fun e w' => e = .returned (.bool true) ∧ Below w.heap.size w w' := by
 obtain ⟨a', c', e, -, hr⟩ := hi
 injection e with e1 e2 e3
 subst e1 e2
 exact lawFS_any a len cap rs _ _ lc live t w hv hst h hr ht
end Go.Proofs.YtcjgjkejhkhknabGreatDoor
namespace Go.Proofs.YtcjgjkejhkhknabGreatDoor
open Go.ChangeShapes Go.WideShapes Go.ChangeAt Go.RowKit Go.Deep
section
variable {H : Type} {enc : TypeId × Value → H} {w : World} {base : Nat} {sp : Nat → Bool} {held : Bool}
theorem kcells3 : Tryz.prog.cellsOf 3 = 1 := by kernel_rfl
theorem kaddr (b off j : Nat) : (⟨b, off, none⟩ : Addr).add j = ⟨b, off + j, none⟩ := by
 simp only [Addr.add]
 split <;> simp_all
theorem open_isl {v : Value} {fuel : Nat} {y : DataW H × List MemPlace} (hf : DataW.trod enc Tryz.prog w base sp held fuel 25 [v] = some y) : ∃ ls, ISl w v ls := by
 rcases open_slice Tryz.underlying25 hf with ⟨hcs, _⟩ | ⟨x, len, c, m, n, D, Pl, hcs, h1, hl, hm, hmm, h2, hx⟩
 ·simp at hcs
  subst hcs
  exact ⟨[], none, 0, rfl, fun _ => rfl, rfl, by unfold maxLen; simp, fun h => by simp at h⟩
 ·simp at hcs
  subst hcs
  have hlm : len ≤ m := by rw [hmm]; split <;> omega
  have each : ∀ i, i < len → ∃ t : Int, w.cell? (x.add i) = some (.int .i64 t) := by
   intro i hi
   obtain ⟨cs, h1, h2⟩ := hx i (by omega)
   rw [kcells3] at h1
   obtain ⟨_, hlen, hcell⟩ := World.cells?_some h1
   obtain ⟨k0, e0, -, -⟩ := DataW.trod_int Tryz.underlying3 h2
   subst e0
   have f0 := hcell 0 (by simp)
   rw [add_add] at f0
   exact ⟨k0, by simpa using f0⟩
  obtain ⟨f, hq⟩ := choose_lt each
  refine ⟨(List.range len).map f, some x, c, by simp, (fun e => by cases e), by simp, by simpa using by omega, fun h0 => ?_⟩
  rw [List.length_map, List.length_range] at h0
  obtain ⟨b, off, spot⟩ := x
  have hspot : spot = none := by simpa [Addr.add] using World.cell?_spot (hq 0 h0)
  subst hspot
  refine ⟨b, off, rfl, ?_, fun i t hi => ?_⟩
  ·have := World.block_lt_of_cell? w _ (hq 0 h0)
   rw [kaddr] at this
   exact this
  ·obtain ⟨hi1, hi2⟩ := List.getElem?_eq_some_iff.1 hi
   have hil : i < len := by simpa using hi1
   have ht : t = f i := by rw [← hi2]; simp
   subst ht
   have := hq i hil
   rw [kaddr] at this
   exact this
end
end Go.Proofs.YtcjgjkejhkhknabGreatDoor
namespace Go.Proofs.YtcjgjkejhkhknabGreatDoor
open Go.ChangeShapes Go.RowKit
theorem trod_ints {H : Type} {enc : TypeId × Value → H} {P : Program} {t e : TypeId} {n : Nat} {k : IntKind} (ht : P.underlying t = some (.array n e)) (he : P.underlying e = some (.int k))
 (V V' : World) (b b' : Nat) (sp sp' : Nat → Bool) (held : Bool) (fuel : Nat) (cs : List Value) :
 DataW.trod enc P V b sp held fuel t cs = DataW.trod enc P V' b' sp' held fuel t cs := by
 cases fuel with
 | zero => rfl
 | succ fuel =>
  have h : ∀ x : List Value, DataW.trod enc P V b sp held fuel e x = DataW.trod enc P V' b' sp' held fuel e x := by
   intro x
   cases fuel with
   | zero => rfl
   | succ fuel =>
    simp only [DataW.trod, he]
    rcases x with _ | ⟨v, _ | ⟨v2, r⟩⟩
    ·rfl
    ·cases v <;> rfl
    ·cases v <;> rfl
  simp only [DataW.trod, ht, h]
theorem vars_length {H : Type} {enc : TypeId × Value → H} {P : Program} {W : World} {sp : Nat → Bool} : ∀ {ns : List String} {gs : List (DataW H)} {q : List MemPlace}, DataW.TrodVars enc P W sp ns gs q → gs.length = ns.length
 | [], [], _, _ => rfl
 | [], _ :: _, _, h => by simp [DataW.TrodVars] at h
 | _ :: _, [], _, h => by simp [DataW.TrodVars] at h
 | _ :: _, _ :: _, _, h => by
  obtain ⟨_, _, _, _, _, _, _, _, _, _, hs, _⟩ := h
  simp [vars_length hs]
theorem vars_nil {H : Type} {enc : TypeId × Value → H} {P : Program} {W W' : World} {sp sp' : Nat → Bool} (gs : List (DataW H)) (q : List MemPlace) (h : DataW.TrodVars enc P W sp [] gs q) : DataW.TrodVars enc P W' sp' [] gs q := by
 cases gs with
 | nil => exact h
 | cons => simp [DataW.TrodVars] at h
theorem vars_cons {H : Type} {enc : TypeId × Value → H} {P : Program} {W W' : World} {sp sp' : Nat → Bool} {n : String} {ns : List String} {g : Nat} {t e : TypeId} {m : Nat} {k : IntKind}
 (hg : P.globalNamed n = some g) (hty : (P.globals[g]?).map (·.type) = some t) (ht : P.underlying t = some (.array m e)) (he : P.underlying e = some (.int k)) (hb : Below W.heap.size W W')
 (rest : ∀ gs q, DataW.TrodVars enc P W sp ns gs q → DataW.TrodVars enc P W' sp' ns gs q) (gs : List (DataW H)) (q : List MemPlace) (h : DataW.TrodVars enc P W sp (n :: ns) gs q) : DataW.TrodVars enc P W' sp' (n :: ns) gs q := by
 cases gs with
 | nil => simp [DataW.TrodVars] at h
 | cons d ds =>
  obtain ⟨g', t', cs, fuel, p, q', h1, h2, h3, h4, hs, rfl⟩ := h
  obtain rfl := Option.some.inj (hg.symm.trans h1)
  obtain rfl := Option.some.inj (hty.symm.trans h2)
  have hlt : g < W.heap.size := by
   rcases Nat.lt_or_ge g W.heap.size with h' | h'
   ·exact h'
   ·unfold World.var? at h3
    simp [hg, Array.getElem?_eq_none h'] at h3
  refine ⟨g, t, cs, fuel, p, q', h1, h2, var?_below hb hg hlt h3, ?_, rest _ _ hs, rfl⟩
  rw [trod_ints ht he W' W 0 0 sp' sp]
  exact h4
end Go.Proofs.YtcjgjkejhkhknabGreatDoor
