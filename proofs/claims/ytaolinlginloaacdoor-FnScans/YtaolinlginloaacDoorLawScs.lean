/-
  FnScans.
-/
import Derived.Test.YtaolinlginloaacDoorDrawFl
import Derived.Test.YtaolinlginloaacDoorPq62
import Derived.Test.YtaolinlginloaacDoorILast
import Derived.Test.YtaolinlginloaacDoorPq18
import Derived.Deep.RegionHeld3
import Derived.Laws.StructEq
import Derived.Deep.DeepCutAuto
namespace Go.Proofs.YtaolinlginloaacDoor
open Go.RowKit
open Words Sums

theorem pgOf_seq {s : ByteArray} {p : Pg} (h : pgOf s = some p) : 0 ≤ p.seq := by
  unfold pgOf at h
  repeat' split at h
  all_goals first
    | cases h; done
    | (injection h with h; subst h; exact Int.natCast_nonneg _)
theorem leafPg_read {bs : List Bk} {b k : Int} {p : Pg} (h : leafPg bs b k = some p) : ∃ T, readF bs b k = (T, true) ∧ readPg T = some p ∧ 0 ≤ p.seq := by
  unfold leafPg at h
  cases h2 : (readF bs b k).2 with
  | false => rw [h2] at h; cases h
  | true =>
    rw [h2, if_pos rfl] at h
    refine ⟨(readF bs b k).1, Prod.ext rfl h2, h, ?_⟩
    unfold readPg at h
    cases hu : unA (readF bs b k).1 with
    | none => rw [hu] at h; cases h
    | some s => rw [hu] at h; exact pgOf_seq h
/-- The last Seq of the first k. -/
def seqTo (M : List Fnd) (k : Nat) : Int := lastOf (M.take k)
theorem seqTo_succ {M : List Fnd} {k : Nat} {x : Fnd} (h : M[k]? = some x) : seqTo M (k + 1) = x.page.seq := by
  obtain ⟨h1, rfl⟩ := List.getElem?_eq_some_iff.1 h
  unfold seqTo lastOf
  rw [List.take_succ_eq_append_getElem h1, List.getLast?_append]
  simp
theorem seqTo_le {M : List Fnd} (ha : Asc M) (h0 : ∀ x ∈ M, 0 ≤ x.page.seq) {k : Nat} {x : Fnd} (h : M[k]? = some x) : seqTo M k ≤ x.page.seq := by
  cases k with
  | zero => exact h0 x (List.mem_of_getElem? h)
  | succ k =>
    obtain ⟨y, hy⟩ : ∃ y, M[k]? = some y := ⟨_, List.getElem?_eq_getElem (by have := (List.getElem?_eq_some_iff.1 h).1; omega)⟩
    rw [seqTo_succ hy]
    exact ha.le hy h (by omega)

set_option maxHeartbeats 4000000 in
set_option maxRecDepth 100000 in
theorem lawScs (ad : Option Addr) (len cap : Nat) (w : World) (hd : CodeIn w ad len w.heap.size) (ht : HalvIn w) :
    Calls Tryd.prog 6 #[.slice ad len cap] w fun e w' => e = .returned (.bool true) ∧ Below w.heap.size w w' := by
  have HD := hide hd
  have HT := hide ht
  clear hd ht
  by_cases hbig : (1048576 : Int) < len
  · go_enter Tryd.func6, Tryd.ntmps6
    go_wp2_with fail
    refine (big_any ad len cap _).mono ?_
    rintro e w1 ⟨rfl, rfl⟩
    rw [decide_eq_true hbig]
    go_wp2
    go_ret
    exact ⟨rfl, Below.refl _ _⟩
  · have hl2 : len ≤ 1048576 := by omega
    have hbd : decide ((1048576 : Int) < len) = false := decide_eq_false hbig
    clear hbig
    go_enter Tryd.func6, Tryd.ntmps6
    go_wp2_with fail
    refine (big_any ad len cap _).mono ?_
    rintro e w0 ⟨rfl, hw0⟩
    subst hw0
    rw [hbd]
    clear hbd
    go_wp2_with fail
    refine (drawScan_any ad len cap _ hl2 HD.out).mono ?_
    rintro e w1 ⟨v, rs, rfl, hlen, hrd, b1⟩
    have hrd2 := hrd
    obtain ⟨vd, vcap, rfl, -⟩ := hrd2
    have hll : ∀ r ∈ rs, r.2.2.2.length ≤ 1048576 := fun r hr => by have := (hlen.2 r hr).1; omega
    have htx : TxB rs := fun r hr t htt => by have := (hlen.2 r hr).2 t htt; omega
    have hl10 : rs.length ≤ 1048576 := by have := hlen.1; omega
    have HLL := hide hll
    have HTX := hide htx
    have HL10 := hide hl10
    obtain ⟨n, hn⟩ : ∃ n, rs.length = n := ⟨_, rfl⟩
    have HN := hide hn
    obtain ⟨c, hcq⟩ : ∃ c, w1.heap.size = c := ⟨_, rfl⟩
    have T1 : Hid (Tk w0 (w1.alloc (.cells #[.slice vd n vcap] 48)) [(c, c + 1, Cel c #[.slice vd n vcap] 48)]) := by
      have := ((Tk.start w0).below b1).cell #[.slice vd n vcap] 48
      rw [hcq] at this
      exact this
    have F1 : Hid (FlashRd (w1.alloc (.cells #[.slice vd n vcap] 48)) (.slice vd n vcap) rs) := by
      have := hrd.below ((Below.refl _ _).alloc (Nat.le_refl _) (.cells #[.slice vd n vcap] 48))
      rw [hn] at this
      exact this
    rw [hn]
    clear hrd b1 hll htx hl10 hn hlen
    go_wp2_with fail
    try rw [hcq]
    generalize w1.alloc (.cells #[.slice vd n vcap] 48) = w2 at T1 F1 ⊢
    refine (iscan_rd _ rs w2 HL10.out HLL.out HTX.out F1.out (HT.out.on T1.out.1)).mono ?_
    rintro e w3 ⟨u1, M, rfl, m1, m2, m3, b3⟩
    have S3 := hide m3.sli
    obtain ⟨a3, c3, rfl, -⟩ := m3.sli.form
    have T3 := hide ((T1.out.below b3).put (lo := w2.heap.size) (hi := w3.heap.size) (P := Sli 54 w2.heap.size w3.heap.size (.slice a3 M.length c3) M.length (fcells M)) (Nat.le_refl _) (Sli.loc _ _ _ _ _ _) m3.sli)
    have F3 := hide (F1.out.below b3)
    have HAS := hide m1
    have HAK := hide m2
    have k3 : w3.cell? ⟨c, 0, none⟩ = some (.slice vd n vcap) := T3.out.at 1 0 rfl rfl
    clear m1 m2 m3 b3 T1 F1 S3 hcq
    go_wp2_with fail
    refine (sscan_rd _ rs w3 HL10.out HLL.out HTX.out F3.out).mono ?_
    rintro e w4 ⟨u2, M', rfl, m1, m2, m3, b4⟩
    have e : M' = M := Akin.eq (m2.symm.trans HAK.out) m1 HAS.out
    subst e
    obtain ⟨a4, c4, rfl, -⟩ := m3.sli.form
    have T4 := hide ((T3.out.below b4).put (lo := w3.heap.size) (hi := w4.heap.size) (P := Sli 54 w3.heap.size w4.heap.size (.slice a4 M'.length c4) M'.length (fcells M')) (Nat.le_refl _) (Sli.loc _ _ _ _ _ _) m3.sli)
    have F4 := hide (F3.out.below b4)
    have hM9 : M'.length ≤ 1000000000000000000 := by
      rcases m3 with ⟨-, rfl⟩ | ⟨g, cp, -, -, -, h⟩
      · simp
      · exact h
    have HPG : Hid (∀ x ∈ M', ∃ T, readF (rs.map tellOf) x.block x.leaf = (T, true) ∧ readPg T = some x.page ∧ 0 ≤ x.page.seq) := fun x hx => leafPg_read (founds_page ((HAK.out.mem x).2 hx))
    obtain ⟨m, hm⟩ : ∃ m, M'.length = m := ⟨_, rfl⟩
    have HM := hide hm
    obtain ⟨s3, hs3⟩ : ∃ s3, w3.heap.size = s3 := ⟨_, rfl⟩
    obtain ⟨s2, hs2⟩ : ∃ s2, w2.heap.size = s2 := ⟨_, rfl⟩
    obtain ⟨s4, hs4⟩ : ∃ s4, w4.heap.size = s4 := ⟨_, rfl⟩
    rw [hm] at T4 hM9 ⊢
    rw [hs3, hs2, hs4] at T4
    have hmm : ((m : Int) != (m : Int)) = false := by simp
    clear m1 m2 m3 b4 T3 F3 k3 hm hs3 hs2 hs4
    have HH : ∃ hs : List Hold, hs = [(s3, s4, Sli 54 s3 s4 (.slice a4 m c4) m (fcells M')), (s2, s3, Sli 54 s2 s3 (.slice a3 m c3) m (fcells M')), (c, c + 1, Cel c #[.slice vd n vcap] 48)] := ⟨_, rfl⟩
    obtain ⟨hs, ehs⟩ := HH
    rw [← ehs] at T4
    have G0 : Hid (∀ W, Tk w0 W hs → Sli 54 s3 s4 (.slice a4 m c4) m (fcells M') W) := by
      intro W h
      rw [ehs] at h
      exact h.get 0 rfl
    have G1 : Hid (∀ W, Tk w0 W hs → Sli 54 s2 s3 (.slice a3 m c3) m (fcells M') W) := by
      intro W h
      rw [ehs] at h
      exact h.get 1 rfl
    have G2 : Hid (∀ W, Tk w0 W hs → W.cell? ⟨c, 0, none⟩ = some (.slice vd n vcap)) := by
      intro W h
      rw [ehs] at h
      exact h.at 2 0 rfl rfl
    clear ehs
    go_wp2
    go_loopw [6, 7] (fun lv iv wr => ∃ (i : Nat) (q : Int), iv = .int .i64 i ∧ i ≤ m ∧ lv = .int .i64 q ∧ Hid (q = seqTo M' i) ∧ Hid (Tk w0 wr hs) ∧ Hid (FlashRd wr (.slice vd n vcap) rs)) (fun _ iv _ => m - (intOf iv).toNat)
    case atStart => exact ⟨0, 0, rfl, Nat.zero_le _, rfl, rfl, T4, F4⟩
    case round =>
      obtain ⟨i, q, rfl, him, rfl, HQ, HTr, HFr⟩ := hrel
      clear T4 F4
      have kf : wr.cell? ⟨c, 0, none⟩ = some (.slice vd n vcap) := G2.out _ HTr.out
      by_cases hlt : (i : Int) < m
      · obtain ⟨x, hx⟩ : ∃ x, M'[i]? = some x := ⟨_, List.getElem?_eq_getElem (by have := HM.out; omega)⟩
        obtain ⟨T, hT1, hT2, hT3⟩ := HPG.out x (List.mem_of_getElem? hx)
        have hle := seqTo_le HAS.out (fun y hy => by obtain ⟨-, -, -, h⟩ := HPG.out y hy; exact h) hx
        rw [← HQ.out] at hle
        have HSQ := hide (seqTo_succ hx)
        have HX := hide hx
        obtain ⟨a3', c3', e3, h3⟩ := (G1.out _ HTr.out).form
        injection e3 with e31 e32 e33
        subst e31 e33
        obtain ⟨g3, e3, -, -⟩ := h3 (by omega)
        subst e3
        obtain ⟨a4', c4', e4, h4⟩ := (G0.out _ HTr.out).form
        injection e4 with e41 e42 e43
        subst e41 e43
        obtain ⟨g4, e4, -, -⟩ := h4 (by omega)
        subst e4
        have KC : Hid (∀ W, Tk w0 W hs → (W.cell? ⟨g3, i * 8, none⟩ = some (.int .i64 x.block) ∧ W.cell? ⟨g3, i * 8 + 1, none⟩ = some (.int .i64 x.leaf) ∧ W.cell? ⟨g3, i * 8 + 2, none⟩ = some (.int .i64 x.page.kind) ∧ W.cell? ⟨g3, i * 8 + 3, none⟩ = some (.int .i64 x.page.seq) ∧ W.cell? ⟨g3, i * 8 + 4, none⟩ = some (.int .i64 x.page.tx) ∧ W.cell? ⟨g3, i * 8 + 5, none⟩ = some (.int .i64 x.page.part) ∧ W.cell? ⟨g3, i * 8 + 6, none⟩ = some (.int .i64 x.page.count) ∧ W.cell? ⟨g3, i * 8 + 7, none⟩ = some (.string x.page.text)) ∧ W.cell? ⟨g4, i * 8, none⟩ = some (.int .i64 x.block) ∧ W.cell? ⟨g4, i * 8 + 1, none⟩ = some (.int .i64 x.leaf) ∧ W.cell? ⟨g4, i * 8 + 2, none⟩ = some (.int .i64 x.page.kind) ∧ W.cell? ⟨g4, i * 8 + 3, none⟩ = some (.int .i64 x.page.seq) ∧ W.cell? ⟨g4, i * 8 + 4, none⟩ = some (.int .i64 x.page.tx) ∧ W.cell? ⟨g4, i * 8 + 5, none⟩ = some (.int .i64 x.page.part) ∧ W.cell? ⟨g4, i * 8 + 6, none⟩ = some (.int .i64 x.page.count) ∧ W.cell? ⟨g4, i * 8 + 7, none⟩ = some (.string x.page.text)) := by
          intro W hW
          have q3 := (G1.out _ hW).flt
          have q4 := (G0.out _ hW).flt
          exact ⟨⟨q3.cell (fcells_at M' i x HX.out 0 _ rfl), q3.cell (fcells_at M' i x HX.out 1 _ rfl), q3.cell (fcells_at M' i x HX.out 2 _ rfl), q3.cell (fcells_at M' i x HX.out 3 _ rfl), q3.cell (fcells_at M' i x HX.out 4 _ rfl), q3.cell (fcells_at M' i x HX.out 5 _ rfl), q3.cell (fcells_at M' i x HX.out 6 _ rfl), q3.cell (fcells_at M' i x HX.out 7 _ rfl)⟩, q4.cell (fcells_at M' i x HX.out 0 _ rfl), q4.cell (fcells_at M' i x HX.out 1 _ rfl), q4.cell (fcells_at M' i x HX.out 2 _ rfl), q4.cell (fcells_at M' i x HX.out 3 _ rfl), q4.cell (fcells_at M' i x HX.out 4 _ rfl), q4.cell (fcells_at M' i x HX.out 5 _ rfl), q4.cell (fcells_at M' i x HX.out 6 _ rfl), q4.cell (fcells_at M' i x HX.out 7 _ rfl)⟩
        have i0 : (0 : Int) ≤ i := by omega
        obtain ⟨⟨x0, x1, -⟩, -⟩ := KC.out wr HTr.out
        have CR : Hid (Calls Tryd.prog 29 #[.agg #[.slice vd n vcap], .int .i64 x.block, .int .i64 x.leaf] wr.drew fun e w' => e = .returned (.tuple #[.string T, .bool true]) ∧ Hid (Tk w0 w' hs) ∧ Hid (FlashRd w' (.slice vd n vcap) rs) ∧ (w'.cell? ⟨c, 0, none⟩ = some (.slice vd n vcap) ∧ w'.cell? ⟨g3, i * 8, none⟩ = some (.int .i64 x.block) ∧ w'.cell? ⟨g3, i * 8 + 1, none⟩ = some (.int .i64 x.leaf))) := by
          refine (sread_rd _ rs x.block x.leaf wr.drew HL10.out HLL.out (HFr.out.below (Below.refl _ _).drew)).mono ?_
          rintro e w5 ⟨rfl, b5⟩
          rw [hT1]
          have t5 := HTr.out.drew.below b5
          obtain ⟨⟨y0, y1, -⟩, -⟩ := KC.out w5 t5
          exact ⟨rfl, t5, (HFr.out.below (Below.refl _ _).drew).below b5, G2.out _ t5, y0, y1⟩
        have HT2 := hide hT2
        have hTs : T.size ≤ 1048576 := by have := readF_size HTX.out x.block x.leaf; rw [hT1] at this; exact this
        clear hx hT1 hT2 hT3 h3 h4 e32 e42
        go_wp2
        go_region_held3 (fun w' => w'.cell? ⟨c, 0, none⟩ = some (.slice vd n vcap) ∧ w'.cell? ⟨g3, i * 8, none⟩ = some (.int .i64 x.block) ∧ w'.cell? ⟨g3, i * 8 + 1, none⟩ = some (.int .i64 x.leaf)) (first | go_keep | exact K5) ((go_at_call 29; (with_reducible refine Calls.mono CR.out ?_); rintro en w5 ⟨rfl, T5, F5, K5⟩))
        all_goals
          clear CR K5 HTr HFr x0 x1 kf
          have CP := hide (sreadPage T w5 (by unfold maxLen; omega))
          rw [HT2.out] at CP
          unfold pgRes pgVal at CP
          simp only at CP
          go_wp2_with fail
          refine CP.out.mono ?_
          rintro e w6 ⟨rfl, b6⟩
          have b7 := b6.alloc b6.size (.cells #[.int .i64 x.page.kind, .int .i64 x.page.seq, .int .i64 x.page.tx, .int .i64 x.page.part, .int .i64 x.page.count, .string x.page.text] 35)
          have T7 := hide (T5.out.below b7)
          have F7 := hide (F5.out.below b7)
          have P7 := hide (heap_alloc_new w6 (.cells #[.int .i64 x.page.kind, .int .i64 x.page.seq, .int .i64 x.page.tx, .int .i64 x.page.part, .int .i64 x.page.count, .string x.page.text] 35))
          obtain ⟨pb, hpb⟩ : ∃ pb, w6.heap.size = pb := ⟨_, rfl⟩
          rw [hpb] at P7
          clear b6 b7 T5 F5 CP
          go_upto_region 14 with fail
          try rw [hpb]
          clear hpb
          generalize w6.alloc (.cells #[.int .i64 x.page.kind, .int .i64 x.page.seq, .int .i64 x.page.tx, .int .i64 x.page.part, .int .i64 x.page.count, .string x.page.text] 35) = w7 at T7 F7 P7 ⊢
          obtain ⟨⟨x0, x1, x2, x3, x4, x5, x6, x7⟩, z0, z1, z2, z3, z4, z5, z6, z7⟩ := KC.out w7 T7.out
          have p0 : w7.cell? ⟨pb, 0, none⟩ = some (.int .i64 x.page.kind) := cell_of_row _ _ 0 _ _ _ P7.out
          have p1 : w7.cell? ⟨pb, 1, none⟩ = some (.int .i64 x.page.seq) := cell_of_row _ _ 1 _ _ _ P7.out
          have p2 : w7.cell? ⟨pb, 2, none⟩ = some (.int .i64 x.page.tx) := cell_of_row _ _ 2 _ _ _ P7.out
          have p3 : w7.cell? ⟨pb, 3, none⟩ = some (.int .i64 x.page.part) := cell_of_row _ _ 3 _ _ _ P7.out
          have p4 : w7.cell? ⟨pb, 4, none⟩ = some (.int .i64 x.page.count) := cell_of_row _ _ 4 _ _ _ P7.out
          have p5 : w7.cell? ⟨pb, 5, none⟩ = some (.string x.page.text) := cell_of_row _ _ 5 _ _ _ P7.out
          have hsd : decide (x.page.seq < q) = false := decide_eq_false (by omega)
          have T8 := hide (fun k => T7.out.drewN k)
          have F8 := hide (fun k => F7.out.below (below_drewN (Below.refl _ _) k))
          clear T7 F7
          go_wp2
          go_quiet (fail)
          go_wp2
          go_roundw
          case rel => exact ⟨i + 1, x.page.seq, by go_num, by omega, rfl, HSQ.out.symm, T8.out _, F8.out _⟩
          case measure => simp [intOf]; omega
      · have him2 : i = m := by omega
        have HQ2 : Hid (q = lastOf M') := by
          show _ = _
          rw [HQ.out]
          unfold seqTo
          rw [List.take_of_length_le (by have := HM.out; omega)]
        have CL := hide (ilast_rd _ rs wr HL10.out HLL.out HTX.out HFr.out (HT.out.on HTr.out.1))
        clear HQ him2
        go_wp2_with fail
        refine CL.out.mono ?_
        rintro e w5 ⟨⟨M2, l1, l2, rfl⟩, b5⟩
        have e : M2 = M' := Akin.eq (l2.symm.trans HAK.out) l1 HAS.out
        subst e
        rw [← HQ2.out]
        have hqq : (q == q) = true := by simp
        have B5 := hide (HTr.out.below b5).1
        clear CL b5 HTr HFr kf l1 l2
        go_wp2
        go_ret
        exact ⟨by simp, B5.out⟩
end Go.Proofs.YtaolinlginloaacDoor
