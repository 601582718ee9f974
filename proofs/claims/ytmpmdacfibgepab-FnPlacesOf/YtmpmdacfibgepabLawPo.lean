/-
  FnPlacesOf.
-/
import Derived.Test.YtmpmdacfibgepabPoMath
import Derived.Test.YtmpmdacfibgepabPk10
import Derived.Test.YtmpmdacfibgepabDrawR
import Derived.Test.YtmpmdacfibgepabSNext
import Derived.Test.YtmpmdacfibgepabSProg
import Derived.Test.YtmpmdacfibgepabIPlace
import Derived.Test.YtmpmdacfibgepabIRoom
import Derived.Deep.RegionWith
import Derived.Deep.DeepCutAuto
import Derived.Deep.RegionHeld3
namespace Go.Proofs.Ytmpmdacfibgepab
open Go.RowKit

set_option maxHeartbeats 400000 in
set_option maxRecDepth 100000 in
theorem in_anyP (lo hi : Nat) (a : Value) (l : List Int) (x : Int) (w : World) (hl : l.length ≤ 1000000000) (ha : Ints lo hi a l w) (hx : x ∈ l) :
    Calls Try.prog 17 #[a, .int .i64 x] w fun e w' => e = .returned (.bool true) ∧ w' = w := by
  obtain ⟨ad, ca, rfl, a3⟩ := ha.form
  have A3 := hide a3
  obtain ⟨n, hn⟩ : ∃ n, l.length = n := ⟨_, rfl⟩
  have HN := hide hn
  have HA := hide ha
  have HX := hide hx
  rw [hn] at hl HA A3 ⊢
  clear ha a3 hn hx
  go_enter Try.func17, Try.ntmps17
  go_wp2
  go_loop [5] (fun iv => ∃ k : Nat, k ≤ n ∧ iv = .int .i64 k ∧ Hid (x ∈ l.drop k)) (fun iv => n - (intOf iv).toNat)
  case atStart => exact ⟨0, Nat.zero_le _, rfl, by simpa using HX⟩
  case round =>
    obtain ⟨k, hk, rfl, HR⟩ := hrel
    by_cases hlt : (k : Int) < n
    · have hkl : k < l.length := by have := HN.out; omega
      obtain ⟨ga, e, g1, g2⟩ := A3.out (by omega)
      subst e
      have hd : l.drop k = l[k] :: l.drop (k + 1) := List.drop_eq_getElem_cons hkl
      have c1 := HA.out.cell (List.getElem?_eq_getElem hkl)
      have hm := HR.out
      rw [hd] at hm
      generalize l[k] = y at c1 hm
      have k0 : (0 : Int) ≤ k := by omega
      by_cases hxy : y = x
      · subst hxy
        clear hm hd HR
        go_wp2
        go_ret
        exact ⟨rfl, rfl⟩
      · have hne : (y == x) = false := by simpa using hxy
        have H2 : Hid (x ∈ l.drop (k + 1)) := by
          rcases List.mem_cons.1 hm with h | h
          · exact absurd h.symm hxy
          · exact h
        clear hm hd HR
        go_wp2
        go_round
        case rel => exact ⟨k + 1, by omega, by go_num, H2⟩
        case measure => simp [intOf]; omega
    · have := HR.out
      rw [List.drop_of_length_le (by have := HN.out; omega)] at this
      cases this

theorem rlens {n : Int} {bs : List Bk} {ss : List Rw} (hr : Right n bs) (e : ss.map tellOf = bs) : ss.length ≤ 1048576 ∧ ∀ q ∈ ss, q.2.2.2.length ≤ 1048576 := by
  subst e
  obtain ⟨-, l1, l2⟩ := hr.lens
  rw [List.length_map] at l1
  exact ⟨by omega, fun q hq => by have := l2 _ (List.mem_map_of_mem (f := tellOf) hq); simp only [tellOf] at this; omega⟩
theorem rplace_tk {w wi : World} {hs : List Hold} {u : Value} {l1 h1 : Nat} {n : Int} {bs : List Bk} (T : Tk w wi hs) (n1 : Nat) (hr : Right n bs) (e1 : hs[n1]? = some (l1, h1, Fla l1 h1 u bs)) {p : Int × Int × Bool} (hp : placeF bs = p) :
    Calls Try.prog 11 #[.agg #[u]] wi fun e w' => e = .returned (plV p) ∧ Tk w w' hs := by
  obtain ⟨ss, e, i1⟩ := T.get n1 e1
  obtain ⟨q1, q2⟩ := rlens hr e
  rw [← e] at hp
  refine (iplace_any u ss l1 h1 wi q1 q2 (T.hi n1 e1) i1).mono ?_
  rintro e w2 ⟨rfl, b2⟩
  rw [hp]
  exact ⟨rfl, T.below b2⟩
theorem rroom_tk {w wi : World} {hs : List Hold} {u : Value} {l1 h1 : Nat} {n : Int} {bs : List Bk} (T : Tk w wi hs) (n1 : Nat) (hr : Right n bs) (e1 : hs[n1]? = some (l1, h1, Fla l1 h1 u bs)) {p : Nat} (hp : roomF bs = p) :
    Calls Try.prog 12 #[.agg #[u]] wi fun e w' => e = .returned (.int .i64 (p : Int)) ∧ Tk w w' hs := by
  obtain ⟨ss, e, i1⟩ := T.get n1 e1
  obtain ⟨q1, q2⟩ := rlens hr e
  rw [← e] at hp
  refine (iroom_any u ss l1 h1 wi q1 q2 (T.hi n1 e1) i1).mono ?_
  rintro e w2 ⟨rfl, b2⟩
  rw [hp]
  exact ⟨rfl, T.below b2⟩
theorem ropen_tk {w wi : World} {hs : List Hold} {u : Value} {l1 h1 : Nat} {n : Int} {bs : List Bk} (T : Tk w wi hs) (n1 : Nat) (hr : Right n bs) (e1 : hs[n1]? = some (l1, h1, Fla l1 h1 u bs)) {p : Int} (hp : openF bs = p) :
    Calls Try.prog 15 #[.agg #[u]] wi fun e w' => e = .returned (.int .i64 p) ∧ Tk w w' hs := by
  obtain ⟨ss, e, i1⟩ := T.get n1 e1
  obtain ⟨q1, q2⟩ := rlens hr e
  rw [← e] at hp
  refine (iopen_any u ss l1 h1 wi q1 q2 (T.hi n1 e1) i1).mono ?_
  rintro e w2 ⟨rfl, b2⟩
  rw [hp]
  exact ⟨rfl, T.below b2⟩
theorem rfree_tk {w wi : World} {hs : List Hold} {u : Value} {l1 h1 : Nat} {n : Int} {bs : List Bk} (T : Tk w wi hs) (n1 : Nat) (hr : Right n bs) (e1 : hs[n1]? = some (l1, h1, Fla l1 h1 u bs)) {F : List Int} (hF : freeL bs = F) :
    Calls Try.prog 13 #[.agg #[u]] wi fun e w' => ∃ a c, e = .returned (.slice a F.length c) ∧ Hid (Tk w w' ((wi.heap.size, w'.heap.size, Ints wi.heap.size w'.heap.size (.slice a F.length c) F) :: hs)) := by
  obtain ⟨ss, e, i1⟩ := T.get n1 e1
  obtain ⟨q1, q2⟩ := rlens hr e
  rw [← e] at hF
  refine (ifree_any u ss l1 h1 wi q1 q2 (T.hi n1 e1) i1).mono ?_
  rintro e w2 ⟨v1, rfl, f1, b2⟩
  rw [hF] at f1
  have T2 := T.add b2 (Ints.loc _ _ v1 F) (Ints.of f1)
  obtain ⟨ad1, cap1, rfl, -⟩ := (Ints.of f1).form
  exact ⟨ad1, cap1, rfl, T2⟩
theorem rprog_tk {w wi : World} {hs : List Hold} {u : Value} {l1 h1 : Nat} {n : Int} {bs bs' : List Bk} {b leaf : Int} {t : ByteArray} (T : Tk w wi hs) (n1 : Nat) (hr : Right n bs) (e1 : hs[n1]? = some (l1, h1, Fla l1 h1 u bs)) (hp : programF bs b leaf t = (bs', true)) :
    Calls Try.prog 16 #[.agg #[u], .int .i64 b, .int .i64 leaf, .string t] wi fun e w' => ∃ (a2 : Option Addr) (c2 : Nat), e = .returned (.tuple #[.agg #[.slice a2 bs'.length c2], .bool true]) ∧ Hid (Tk w w' ((wi.heap.size, w'.heap.size, Fla wi.heap.size w'.heap.size (.slice a2 bs'.length c2) bs') :: hs)) := by
  obtain ⟨ss, e, i1⟩ := T.get n1 e1
  obtain ⟨q1, q2⟩ := rlens hr e
  rw [← e] at hp
  refine (sprog_any u ss l1 h1 b leaf t wi q1 q2 (T.hi n1 e1) i1).mono ?_
  rintro e w2 ⟨v1, rfl, f1, b2⟩
  rw [hp] at f1 ⊢
  simp only at f1 ⊢
  have T2 := T.fla b2 f1
  obtain ⟨ad1, cap1, e2⟩ := f1.form
  subst e2
  exact ⟨ad1, cap1, rfl, T2⟩

set_option maxHeartbeats 2000000 in
set_option maxRecDepth 100000 in
theorem lawPo (ad : Option Addr) (len cap : Nat) (w : World) (hd : CodeIn w ad len w.heap.size) :
    Calls Try.prog 3 #[.slice ad len cap] w fun e w' => e = .returned (.bool true) ∧ Below w.heap.size w w' := by
  have HD := hide hd
  clear hd
  by_cases hbig : (1048576 : Int) < len
  · go_enter Try.func3, Try.ntmps3
    go_wp2_with fail
    refine (big_any ad len cap _).mono ?_
    rintro e w1 ⟨rfl, rfl⟩
    rw [decide_eq_true hbig]
    go_wp2
    go_ret
    exact ⟨rfl, Below.refl _ _⟩
  · have hl2 : len ≤ 1048576 := by omega
    have hbd : decide ((1048576 : Int) < len) = false := decide_eq_false hbig
    clear hbig
    go_enter Try.func3, Try.ntmps3
    go_wp2_with fail
    refine (big_any ad len cap _).mono ?_
    rintro e w0 ⟨rfl, hw0⟩
    subst hw0
    rw [hbd]
    clear hbd
    go_wp2_with fail
    refine (drawRF_any ad len cap _ hl2 HD.out).mono ?_
    rintro e w1 ⟨v, bs, rfl, hr, fo, b1⟩
    obtain ⟨vd, vcap, rfl⟩ := fo.form
    have hr4 := hr.lens.2.2
    have hrl := hr.lens
    obtain ⟨n, hn⟩ : ∃ n, bs.length = n := ⟨_, rfl⟩
    have HR := hide hr
    have HR4 := hide hr4
    have PM := hide (place_math hr.1 hr4)
    have T1 : Hid (Tk w0 w1 [(w0.heap.size, w1.heap.size, Fla w0.heap.size w1.heap.size (.slice vd n vcap) bs)]) := by
      have := (Tk.start w0).fla b1 fo
      rw [hn] at this
      exact this
    rw [hn] at hrl ⊢
    have T2 := hide (T1.out.cell #[.slice vd n vcap] 26)
    have n3 := hrl.1
    have n10 := hrl.2.1
    have HN := hide hn
    obtain ⟨R, hR⟩ : ∃ R, roomF bs = R := ⟨_, rfl⟩
    obtain ⟨F, hF⟩ : ∃ F, freeL bs = F := ⟨_, rfl⟩
    have HRm := hide hR
    have HFr := hide hF
    have hF10 : F.length ≤ 10 := by
      have := freeTo_len bs bs.length
      rw [← hF]
      unfold freeL
      omega
    have hR40 : R ≤ 40 := by
      have h1 := roomTo_le (bs := bs) (m := 4) (fun b hb => Nat.le_of_eq (hr4 b hb)) bs.length
      rw [← hR]
      unfold roomF
      rw [hn] at h1 ⊢
      omega
    clear b1 fo hr hr4 hrl T1 hn hR hF
    obtain ⟨p0, p1, p2, hp⟩ : ∃ p0 p1 p2, placeF bs = (p0, p1, p2) := ⟨_, _, _, rfl⟩
    have HP := hide hp
    clear hp
    go_wp2_with fail
    generalize w1.alloc (.cells #[.slice vd n vcap] 26) = w2 at T2 ⊢
    refine (rplace_tk T2.out 1 HR.out rfl HP.out).mono ?_
    rintro e w3 ⟨rfl, t3⟩
    have T3 := hide t3
    have c3 : w3.cell? ⟨w1.heap.size, 0, none⟩ = some (.slice vd n vcap) := T3.out.at 0 0 rfl rfl
    unfold plV
    simp only
    clear t3 T2
    go_wp2_with fail
    refine (rroom_tk T3.out 1 HR.out rfl HRm.out).mono ?_
    rintro e w4 ⟨rfl, t4⟩
    have T4 := hide t4
    have c4 : w4.cell? ⟨w1.heap.size, 0, none⟩ = some (.slice vd n vcap) := T4.out.at 0 0 rfl rfl
    clear t4 T3 c3
    rcases PM.out with ⟨h1, h2, h3, h4⟩ | ⟨k, b, h1, h2, h3, h4, h5, h6, h7⟩
    · -- there is no place
      rw [HP.out] at h1
      injection h1 with e1 h1
      injection h1 with e2 e3
      subst e1 e2 e3
      rw [HRm.out] at h2
      subst h2
      rw [HFr.out] at h4
      subst h4
      have HO := hide h3
      clear PM h3
      go_wp2_with fail
      refine (rfree_tk T4.out 1 HR.out rfl HFr.out).mono ?_
      rintro e w5 ⟨fa, fc, rfl, t5⟩
      have T5 := hide t5.out
      have c5 : w5.cell? ⟨w1.heap.size, 0, none⟩ = some (.slice vd n vcap) := T5.out.at 1 0 rfl rfl
      clear t5 T4 c4
      simp only [List.length_nil] at T5 ⊢
      go_wp2
      go_loopw [9] (fun iv wr => iv = .int .i64 0 ∧ wr = w5) (fun _ _ => 0)
      case atStart => exact ⟨rfl, rfl⟩
      case round =>
        obtain ⟨rfl, rfl⟩ := hrel
        go_wp2_with fail
        refine (ropen_tk T5.out 2 HR.out rfl HO.out).mono ?_
        rintro e w6 ⟨rfl, t6⟩
        have B6 := hide t6.1
        clear t6 T5 c5
        go_wp2
        go_ret
        exact ⟨rfl, B6.out⟩
    · -- there is one
      rw [HP.out] at h5
      injection h5 with e1 h5
      injection h5 with e2 e3
      subst e1 e2 e3
      rw [HRm.out] at h6
      have hR1 : 0 < R := by omega
      have hRd : decide (0 < R) = true := decide_eq_true hR1
      have hkl : k < n := by have := (List.getElem?_eq_some_iff.1 h1).1; have := HN.out; omega
      obtain ⟨q1, q2⟩ := put_math (t := ⟨#[120]⟩) HR.out.1 h1 h2 h3 h4 (of_decide_eq_true rfl) (of_decide_eq_true rfl)
      obtain ⟨bs2, hbs2⟩ : ∃ bs2, putLeaf bs k (nextB b.2.2) ⟨#[120]⟩ = bs2 := ⟨_, rfl⟩
      have hR2 := HR.out.prog (k : Int) ((nextB b.2.2 : Nat) : Int) ⟨#[120]⟩
      rw [q1] at hR2
      rw [hbs2] at q1 q2 hR2
      obtain ⟨R2, hR2m⟩ : ∃ R2, roomF bs2 = R2 := ⟨_, rfl⟩
      rw [hR2m, HRm.out] at q2
      have hRR : (R : Int) - 1 = R2 := by omega
      have HQ1 := hide q1
      have HR2 := hide hR2
      have HRm2 := hide hR2m
      have hlen2 : bs2.length = n := by rw [← hbs2, ← HN.out]; unfold putLeaf; rw [List.length_modify]
      have HL2 := hide hlen2
      have H7 := hide h7
      obtain ⟨N, hN⟩ : ∃ N, nextB b.2.2 = N := ⟨_, rfl⟩
      rw [hN] at HQ1 HP h3 ⊢
      clear PM h1 h2 h4 h6 h7 q1 q2 hR2 hR2m hbs2 hN hlen2
      go_wp2_with fail
      refine (rfree_tk T4.out 1 HR.out rfl HFr.out).mono ?_
      rintro e w5 ⟨fa, fc, rfl, t5⟩
      have T5 := hide t5.out
      obtain ⟨fa', fc', e, hfa⟩ := (T5.out.get 0 rfl).form
      injection e with e1 e2 e3
      subst e1 e3
      have HFA := hide hfa
      obtain ⟨va, vc, e, hva⟩ := (T5.out.get 2 rfl).form
      rw [HN.out] at e hva
      injection e with e1 e2 e3
      subst e1 e3
      obtain ⟨gv, e, -, -⟩ := hva (by omega)
      subst e
      obtain ⟨m, hm⟩ : ∃ m, F.length = m := ⟨_, rfl⟩
      have HM := hide hm
      rw [hm] at T5 HFA hF10 ⊢
      obtain ⟨lo5, h5l⟩ : ∃ lo5, w4.heap.size = lo5 := ⟨_, rfl⟩
      obtain ⟨hi5, h5h⟩ : ∃ hi5, w5.heap.size = hi5 := ⟨_, rfl⟩
      rw [h5l, h5h] at T5 HFA
      clear t5 T4 c4 hfa hva hm e2 h5l h5h
      -- what is read of a free block
      have RD : Hid (∀ (W : World) (gF i : Nat), fa = some ⟨gF, 0, none⟩ → i < m → Tk w0 W [(lo5, hi5, Ints lo5 hi5 (.slice fa m fc) F), (w1.heap.size, w1.heap.size + 1, Cel w1.heap.size #[.slice (some ⟨gv, 0, none⟩) n vcap] 26), (w0.heap.size, w1.heap.size, Fla w0.heap.size w1.heap.size (.slice (some ⟨gv, 0, none⟩) n vcap) bs)] → ∃ (j : Nat) (y : Int) (u : Value) (ls : List (Int × ByteArray)), j < n ∧ ls.length = 4 ∧ nextB ls = 0 ∧ W.ownsRow w0.heap.size 95 2 u ls.length (lcells ls) ∧ W.cell? ⟨gF, i, none⟩ = some (.int .i64 (j : Int)) ∧ W.cell? ⟨gv, j * 3, none⟩ = some (.bool false) ∧ W.cell? ⟨gv, j * 3 + 1, none⟩ = some (.int .i64 y) ∧ W.cell? ⟨gv, j * 3 + 2, none⟩ = some u) := by
        rintro W gF i rfl hi hT
        obtain ⟨x, hx⟩ : ∃ x, F[i]? = some x := ⟨_, List.getElem?_eq_getElem (by have := HM.out; omega)⟩
        obtain ⟨j, c, e, hc, hc1, hc2⟩ := free_math HR4.out (x := x) (by rw [HFr.out]; exact List.mem_of_getElem? hx)
        subst e
        obtain ⟨d1, d2, u, d3, d4⟩ := (hT.get 2 rfl).cells hc
        rw [hc1] at d1
        exact ⟨j, c.2.1, u, c.2.2, (by have := (List.getElem?_eq_some_iff.1 hc).1; have := HN.out; omega), HR4.out c (List.mem_of_getElem? hc), hc2, d4, (hT.get 0 rfl).cell hx, d1, d2, d3⟩
      go_wp2
      go_loopw [9] (fun iv wr => ∃ i : Nat, iv = .int .i64 i ∧ i ≤ m ∧ Hid (Tk w0 wr [(lo5, hi5, Ints lo5 hi5 (.slice fa m fc) F), (w1.heap.size, w1.heap.size + 1, Cel w1.heap.size #[.slice (some ⟨gv, 0, none⟩) n vcap] 26), (w0.heap.size, w1.heap.size, Fla w0.heap.size w1.heap.size (.slice (some ⟨gv, 0, none⟩) n vcap) bs)])) (fun iv _ => m - (intOf iv).toNat)
      case atStart => exact ⟨0, rfl, Nat.zero_le _, T5⟩
      case round =>
        obtain ⟨i, rfl, him, HT⟩ := hrel
        clear T5
        have cf : wr.cell? ⟨w1.heap.size, 0, none⟩ = some (.slice (some ⟨gv, 0, none⟩) n vcap) := HT.out.at 1 0 rfl rfl
        by_cases hlt : (i : Int) < m
        · obtain ⟨gF, e, -, -⟩ := HFA.out (by have := HM.out; omega)
          obtain ⟨j, y, u, ls, hj, hls, hnx, hown, d0, d1, d2, d3⟩ := RD.out wr gF i e (by omega) HT.out
          subst e
          have i0 : (0 : Int) ≤ i := by omega
          have j0 : (0 : Int) ≤ j := by omega
          have jn : (j : Int) < n := by omega
          have HTd := hide HT.out.drew
          have CN : Hid (Calls Try.prog 14 #[.agg #[.bool false, .int .i64 y, u]] wr.drew fun e w' => e = .returned (.int .i64 0) ∧ Hid (Tk w0 w' [(lo5, hi5, Ints lo5 hi5 (.slice (some ⟨gF, 0, none⟩) m fc) F), (w1.heap.size, w1.heap.size + 1, Cel w1.heap.size #[.slice (some ⟨gv, 0, none⟩) n vcap] 26), (w0.heap.size, w1.heap.size, Fla w0.heap.size w1.heap.size (.slice (some ⟨gv, 0, none⟩) n vcap) bs)]) ∧ (w'.cell? ⟨w1.heap.size, 0, none⟩ = some (.slice (some ⟨gv, 0, none⟩) n vcap) ∧ w'.cell? ⟨gF, i, none⟩ = some (.int .i64 (j : Int)) ∧ w'.cell? ⟨gv, j * 3, none⟩ = some (.bool false) ∧ w'.cell? ⟨gv, j * 3 + 1, none⟩ = some (.int .i64 y) ∧ w'.cell? ⟨gv, j * 3 + 2, none⟩ = some u)) := by
            refine (snext_any false y u ls _ wr.drew (by omega) hown).mono ?_
            rintro e w6 ⟨rfl, b6⟩
            rw [hnx]
            refine ⟨rfl, HTd.out.below b6, ?_⟩
            exact ⟨(b6.cell (World.block_lt_of_cell? wr.drew _ cf)).trans cf, (b6.cell (World.block_lt_of_cell? wr.drew _ d0)).trans d0, (b6.cell (World.block_lt_of_cell? wr.drew _ d1)).trans d1, (b6.cell (World.block_lt_of_cell? wr.drew _ d2)).trans d2, (b6.cell (World.block_lt_of_cell? wr.drew _ d3)).trans d3⟩
          clear hown hnx hls
          go_wp2
          go_region_held3 (fun w' => w'.cell? ⟨w1.heap.size, 0, none⟩ = some (.slice (some ⟨gv, 0, none⟩) n vcap) ∧ w'.cell? ⟨gF, i, none⟩ = some (.int .i64 (j : Int)) ∧ w'.cell? ⟨gv, j * 3, none⟩ = some (.bool false) ∧ w'.cell? ⟨gv, j * 3 + 1, none⟩ = some (.int .i64 y) ∧ w'.cell? ⟨gv, j * 3 + 2, none⟩ = some u) (first | go_keep | exact K6) ((go_at_call 14; (with_reducible refine Calls.mono CN.out ?_); rintro en w6 ⟨rfl, T6, K6⟩))
          all_goals
            clear K6 CN d0 d1 d2 d3 cf
            go_wp2
            go_roundw
            case rel => exact ⟨i + 1, by go_num, by omega, T6⟩
            case measure => simp [intOf]; omega
        · clear RD
          go_wp2_with fail
          refine (rprog_tk HT.out 2 HR.out rfl HQ1.out).mono ?_
          rintro e w6 ⟨a2, c2, rfl, t6⟩
          rw [HL2.out] at t6 ⊢
          have T7 := hide (t6.out.cell #[.slice a2 n c2] 26)
          have c7 : (w6.alloc (.cells #[.slice a2 n c2] 26)).cell? ⟨w1.heap.size, 0, none⟩ = some (.slice (some ⟨gv, 0, none⟩) n vcap) := T7.out.at 3 0 rfl rfl
          clear t6 HT cf
          go_wp2_with fail
          clear c7
          generalize w6.alloc (.cells #[.slice a2 n c2] 26) = w7 at T7 ⊢
          refine (rroom_tk T7.out 1 HR2.out rfl HRm2.out).mono ?_
          rintro e w8 ⟨rfl, t8⟩
          have T8 := hide t8
          have c8 : w8.cell? ⟨w1.heap.size, 0, none⟩ = some (.slice (some ⟨gv, 0, none⟩) n vcap) := T8.out.at 3 0 rfl rfl
          have hrr : ((R2 : Int) == (R2 : Int)) = true := by simp
          clear t8 T7
          rcases H7.out with ho | ⟨ho, hin⟩
          · have HO := hide ho
            have hk1 : ((k : Int) == -1) = false := by simp
            have hkk : ((k : Int) == (k : Int)) = true := by simp
            clear ho
            go_wp2_with fail
            refine (ropen_tk T8.out 4 HR.out rfl HO.out).mono ?_
            rintro e w9 ⟨rfl, t9⟩
            have T9 := hide t9
            have c9 : w9.cell? ⟨w1.heap.size, 0, none⟩ = some (.slice (some ⟨gv, 0, none⟩) n vcap) := T9.out.at 3 0 rfl rfl
            clear t9 T8 c8
            go_wp2_with fail
            refine (ropen_tk T9.out 4 HR.out rfl HO.out).mono ?_
            rintro e w10 ⟨rfl, t10⟩
            have B10 := hide t10.1
            clear t10 T9 c9
            go_wp2
            go_ret
            exact ⟨rfl, B10.out⟩
          · have HO := hide ho
            have HIN : Hid ((k : Int) ∈ F) := by rw [← HFr.out]; exact hin
            clear ho hin
            go_wp2_with fail
            refine (ropen_tk T8.out 4 HR.out rfl HO.out).mono ?_
            rintro e w9 ⟨rfl, t9⟩
            have T9 := hide t9
            have CI : Hid (Calls Try.prog 17 #[.slice fa m fc, .int .i64 (k : Int)] w9 fun e w' => e = .returned (.bool true) ∧ w' = w9) := in_anyP lo5 hi5 _ F _ w9 (by have := HM.out; omega) (T9.out.get 2 rfl) HIN.out
            clear t9 T8 c8
            go_wp2_with fail
            refine CI.out.mono ?_
            rintro e w10 ⟨rfl, rfl⟩
            have B10 := hide T9.out.1
            clear T9 CI
            go_wp2
            go_ret
            exact ⟨rfl, B10.out⟩
end Go.Proofs.Ytmpmdacfibgepab
