/-
  IPagesW; IWrSt; PartL; LkN; ILeaf
-/
import Derived.Test.YtfmnaidhfgmemaaGreatDoorIProgS
import Derived.Test.YtfmnaidhfgmemaaGreatDoorPk36
import Derived.Test.YtfmnaidhfgmemaaGreatDoorPk43
import Derived.Test.YtfmnaidhfgmemaaGreatDoorPk0
import Derived.Test.YtfmnaidhfgmemaaGreatDoorPk23
import Derived.Test.YtfmnaidhfgmemaaGreatDoorPk5
namespace Go.Proofs.YtfmnaidhfgmemaaGreatDoor
open Go.RowKit
open Words Sums
def pagesAt (d : Dv) (l : List Rc) (t : ByteArray) (sq : Int) : List Pg := if t.size = 0 then txOut sq d.tx l else dataPg d.seq (lastCk l) t :: txOut sq d.tx l
theorem pagesAt_is (d : Dv) (l : List Rc) (t : ByteArray) : pagesAt d l t (writeQ d t) = pagesQ d l t := by
  unfold pagesAt pagesQ writeQ
  split <;> rfl
theorem pagesAt_len (d : Dv) (l : List Rc) (t : ByteArray) (sq : Int) : (pagesAt d l t sq).length ≤ 10 := by
  have h : ∀ (q x : Int), (txOut q x l).length ≤ 9 := fun q x => by
    unfold txOut
    split
    · rename_i h; rw [txPgs_len]; exact h.2.1
    · simp
  unfold pagesAt
  split
  · have := h sq d.tx; omega
  · have := h sq d.tx; simp only [List.length_cons]; omega
def SqOk (d : Dv) (l : List Rc) (t : ByteArray) (sq : Int) : Prop := sq = writeQ d t ∨ (t.size ≠ 0 ∧ ¬ (dataPg d.seq (lastCk l) t).Right)
theorem write_no {d : Dv} {l : List Rc} {t : ByteArray} {sq : Int} (hl : l.length ≠ 0) (hs : SqOk d l t sq) (h : ¬ TxOk sq d.tx l) : writeP d l t = ([], false) := by
  rw [write_is hl]
  rcases hs with e | ⟨h1, h2⟩
  · rw [← e, dcN h, Bool.and_false]
    rfl
  · rw [puts_wrong _ _ ⟨dataPg d.seq (lastCk l) t, by unfold pagesQ; rw [if_neg h1]; exact List.mem_cons_self, h2⟩, Bool.false_and]
    rfl
theorem write_yes {d : Dv} {l : List Rc} {t : ByteArray} {sq : Int} (hl : l.length ≠ 0) (hs : SqOk d l t sq) (h : TxOk sq d.tx l) : writeP d l t = if (putsP (d.flash, [], true) (pagesAt d l t sq)).2.2 then ((putsP (d.flash, [], true) (pagesAt d l t sq)).2.1, true) else ([], false) := by
  rw [write_is hl]
  rcases hs with e | ⟨h1, h2⟩
  · subst e
    rw [pagesAt_is, dcY h, Bool.and_true]
  · rw [puts_wrong _ _ ⟨dataPg d.seq (lastCk l) t, by unfold pagesQ; rw [if_neg h1]; exact List.mem_cons_self, h2⟩, puts_wrong _ _ ⟨dataPg d.seq (lastCk l) t, by unfold pagesAt; rw [if_neg h1]; exact List.mem_cons_self, h2⟩, Bool.false_and]
    rfl
def PwOut (w : World) (d : Dv) (l : List Rc) (t : ByteArray) (e : Ending) (w' : World) : Prop :=
  ∃ sq, SqOk d l t sq ∧ ((TxOk sq d.tx l ∧ PgOut w (pagesAt d l t sq) true e w') ∨ (¬ TxOk sq d.tx l ∧ e = .returned (.tuple #[.slice none 0 0, .bool false]) ∧ Below w.heap.size w w'))
theorem pages_form {w W : World} {sq tx : Int} {l : List Rc} {pv : Value} (h : TxOk sq tx l) (ho : W.ownsRow w.heap.size 92 6 pv (txOut sq tx l).length (pgcells ((txOut sq tx l).map Pg.tu))) :
    ∃ pb np pcap, pv = .slice (some ⟨pb, 0, none⟩) np pcap ∧ (txOut sq tx l).length = np ∧ np ≤ 9 ∧ (∀ (j : Nat) (u : Value), (pgcells ((txOut sq tx l).map Pg.tu))[j]? = some u → W.cell? ((⟨pb, 0, none⟩ : Addr).add j) = some u) ∧ (pgcells ((txOut sq tx l).map Pg.tu)).length = np * 6 := by
  obtain ⟨pa, pcap, rfl, -, -, hp⟩ := frow_form ho
  have hl : (txOut sq tx l).length = (pkG l).length := by unfold txOut; rw [if_pos h, txPgs_len]
  obtain ⟨pb, rfl, -, -⟩ := hp (by rw [hl]; exact pkG_pos l)
  exact ⟨pb, _, pcap, rfl, rfl, by rw [hl]; exact h.2.1, fun j u hj => ho.cells (g := pb) rfl j u hj, by rw [pgcells_len, List.length_map]⟩
set_option maxHeartbeats 4000000 in
set_option maxRecDepth 100000 in
theorem ipagesToWrite (x : Value) (d : Dv) (ra : Option Addr) (n rc : Nat) (l : List Rc) (t : ByteArray) (w : World) (h : DvIn w x d) (hn : n ≤ 33554432) (hn0 : n ≠ 0) (hr : RcRow w ra n (l.map Rc.tu)) : Calls Tryz.prog 48 #[x, .slice ra n rc, .string t] w (PwOut w d l t) := by
  obtain ⟨fd, fc, va, vl, vc, ad, ln, cap, rfl, -, -, -⟩ := h.form
  have hln : l.length = n := by have := hr.1; simpa using this
  have HLN := hide hln
  have HRC := hide hr
  have b0 : Below w.heap.size w (w.alloc (.cells #[.slice fd d.flash.length fc, .slice va vl vc, .slice ad ln cap, .int .i64 d.store.next, .int .i64 d.seq, .int .i64 d.tx, .int .i64 d.base] 47)) := (Below.refl _ _).alloc (Nat.le_refl _) _
  have s0 : (w.alloc (.cells #[.slice fd d.flash.length fc, .slice va vl vc, .slice ad ln cap, .int .i64 d.store.next, .int .i64 d.seq, .int .i64 d.tx, .int .i64 d.base] 47)).heap.size = w.heap.size + 1 := by simp
  have g0 : DAt (w.alloc (.cells #[.slice fd d.flash.length fc, .slice va vl vc, .slice ad ln cap, .int .i64 d.store.next, .int .i64 d.seq, .int .i64 d.tx, .int .i64 d.base] 47)) w.heap.size (.slice fd d.flash.length fc) (.slice va vl vc) (.slice ad ln cap) d.store.next d.seq d.tx d.base := heap_alloc_new w _
  obtain ⟨i0, hi, hz0, hz1, hz2⟩ := info_parts infoPg
  have I0 := hide hi
  have Z0 := hide hz0
  have Z1 := hide hz1
  have Z2 := hide hz2
  clear hr hi hz0 hz1 hz2 h hln
  go_enter Tryz.func48, Tryz.ntmps48
  go_upto_region 2 with fail
  generalize w.alloc (.cells #[.slice fd d.flash.length fc, .slice va vl vc, .slice ad ln cap, .int .i64 d.store.next, .int .i64 d.seq, .int .i64 d.tx, .int .i64 d.base] 47) = w1 at b0 s0 g0 ⊢
  have B0 := hide b0
  have S0 := hide s0
  have G0 := hide g0
  obtain ⟨-, -, -, -, y4, y5, -⟩ := G0.out.cells
  clear b0 s0 g0
  by_cases ht : t.size = 0
  · have hte : t.toList.isEmpty = true := by rw [ask_empty]; exact decide_eq_true ht
    have CT := hide (itxPages d.seq d.tx ra n rc l w1 hn (HRC.out.below B0.out))
    have HSQ : Hid (SqOk d l t d.seq) := .inl (by unfold writeQ; rw [if_pos ht])
    have HQ : Hid (pagesAt d l t d.seq = txOut d.seq d.tx l) := by show _ = _; unfold pagesAt; rw [if_pos ht]
    clear ht
    go_wp2_with fail
    refine CT.out.mono ?_
    rintro e w2 ⟨pv, rfl, po, b2⟩
    have B2 := hide (B0.out.trans (b2.mono B0.out.size))
    by_cases hok : TxOk d.seq d.tx l
    · obtain ⟨pb, np, pcap, rfl, hnp, hn9, hpc, hpl⟩ := pages_form hok po
      rw [dcY hok]
      have HPC := hide hpc
      have HPL := hide hpl
      have HNP := hide hnp
      have HOK := hide hok
      have hb2 := B2.out.size
      clear po b2 CT hok hpc hpl hnp
      go_wp2_with (at_builtin; refine wpList_append_own _ rfl _ _ 93 rfl w.heap.size 92 i0 (.agg #[.int .i64 0, .int .i64 0, .int .i64 0, .int .i64 0, .int .i64 0, .string ⟨#[]⟩]) 6 56 Tryz.underlying93 I0.out Z0.out Z1.out Z2.out rfl (by decide) _ 0 [] rfl (World.ownsRow_nil _ _ _ _) ⟨pb, 0, none⟩ np pcap _ rfl HPL.out HPC.out (pgcells_one _) (by unfold maxLen; omega) (by omega) hb2 ?_)
      intro v5 w5 ho5 hg5 _
      have B5 := hide (B2.out.grown hg5 hb2 (fun k hk => by cases hk))
      have HO5 : Hid (w5.ownsRow w.heap.size 92 6 v5 (pagesAt d l t d.seq).length (pgcells ((pagesAt d l t d.seq).map Pg.tu))) := by
        show World.ownsRow _ _ _ _ _ _ _
        rw [HQ.out, HNP.out]
        simpa using ho5
      clear ho5 hg5 HPC HPL HNP
      go_wp2
      exact bodyPost_ret (results_tmp2 rfl _ _ _) rfl ⟨d.seq, HSQ.out, .inl ⟨HOK.out, _, rfl, HO5.out, B5.out⟩⟩
    · rw [dcN hok]
      have HOK := hide hok
      clear po b2 CT hok
      go_wp2
      exact bodyPost_ret (results_tmp2 rfl _ _ _) rfl ⟨d.seq, HSQ.out, .inr ⟨HOK.out, rfl, B2.out⟩⟩
  · have hte : t.toList.isEmpty = false := by rw [ask_empty]; exact decide_eq_false ht
    obtain ⟨m, hm⟩ : ∃ m, n = m + 1 := ⟨n - 1, by omega⟩
    obtain ⟨r, hrm⟩ : ∃ r, l[m]? = some r := ⟨_, List.getElem?_eq_getElem (by have := HLN.out; omega)⟩
    obtain ⟨rk, rv, rg, ck⟩ := r
    have hlc : lastCk l = ck := by
      unfold lastCk
      rw [List.getLast?_eq_getElem?, show l.length - 1 = m by have := HLN.out; omega, hrm]
      rfl
    obtain ⟨rb, ro, rfl, hrb, c0, c1, c2, c3⟩ := (HRC.out.below B0.out).at (show (l.map Rc.tu)[m]? = some (rk, rv, rg, ck) by rw [List.getElem?_map, hrm]; rfl)
    simp only at c0 c1 c2 c3
    have hm0 : (0 : Int) ≤ m := by omega
    have hm1 : (m : Int) < n := by omega
    have hnm : (n : Int) - 1 = m := by omega
    obtain ⟨sq, hsq⟩ : ∃ sq, IntKind.i64.wrap (d.seq + 1) = sq := ⟨_, rfl⟩
    have HSQ : Hid (SqOk d l t sq) := by
      by_cases hr : (dataPg d.seq (lastCk l) t).Right
      · left
        have h1 : 1 ≤ d.seq := hr.2.1
        have h2 : d.seq ≤ 1000000000 := hr.2.2.1
        unfold writeQ
        rw [if_neg ht, ← hsq, IntKind.wrap_i64]
        omega
      · exact .inr ⟨ht, hr⟩
    have HQ : Hid (pagesAt d l t sq = dataPg d.seq ck t :: txOut sq d.tx l) := by show _ = _; unfold pagesAt; rw [if_neg ht, hlc]
    have bR := (Below.refl w1.heap.size w1).alloc (Nat.le_refl _) (.cells #[.int .i64 rk, .int .i64 rv, .int .i64 rg, .int .i64 ck] 90)
    have BR := hide bR
    have hzR : (w1.alloc (.cells #[.int .i64 rk, .int .i64 rv, .int .i64 rg, .int .i64 ck] 90)).heap.size = w1.heap.size + 1 := by simp
    have hb1 := B0.out.size
    clear hm ht hlc hrm bR
    go_wp2_with (at_builtin; refine wpList_append_own _ rfl _ _ 93 rfl w.heap.size 92 i0 (.agg #[.int .i64 0, .int .i64 0, .int .i64 0, .int .i64 0, .int .i64 0, .string ⟨#[]⟩]) 6 56 Tryz.underlying93 I0.out Z0.out Z1.out Z2.out rfl (by decide) _ 0 [] rfl (World.ownsRow_nil _ _ _ _) ⟨w1.heap.size + 1, 0, none⟩ 1 1 (pgcells [(dataPg d.seq ck t).tu]) rfl rfl (by have e := row_new16 (w1.alloc (.cells #[.int .i64 rk, .int .i64 rv, .int .i64 rg, .int .i64 ck] 90)) (pgcells [(dataPg d.seq ck t).tu]) 92; rw [hzR] at e; exact e) (pgcells_one _) (by unfold maxLen; omega) (by omega) (by simp; omega) ?_)
    intro v3 w3 ho3 hg3 _
    have B13 := hide ((BR.out.alloc BR.out.size (.cells #[.int .i64 1, .int .i64 d.seq, .int .i64 ck, .int .i64 0, .int .i64 1, .string t] 92)).grown hg3 (by simp; omega) (fun k hk => by cases hk))
    have B3 := hide (B0.out.trans (B13.out.mono hb1))
    have G3 := hide (G0.out.below B13.out)
    have HO3 : Hid (w3.ownsRow w.heap.size 92 6 v3 1 (pgcells [(dataPg d.seq ck t).tu])) := ho3
    have CT := hide (itxPages sq d.tx (some ⟨rb, ro, none⟩) n rc l w3 hn (HRC.out.below B3.out))
    clear ho3 hg3 B13 BR hzR c0 c1 c2 c3 y4 y5
    obtain ⟨-, -, -, -, y4, y5, -⟩ := G3.out.cells
    go_wp2_with fail
    refine CT.out.mono ?_
    rintro e w4 ⟨pv, rfl, po, b4⟩
    have B4 := hide (B3.out.trans (b4.mono B3.out.size))
    have HO4 := hide (own_below HO3.out b4)
    by_cases hok : TxOk sq d.tx l
    · obtain ⟨pb, np, pcap, rfl, hnp, hn9, hpc, hpl⟩ := pages_form hok po
      rw [dcY hok]
      have HPC := hide (fun j u hj => hpc j u hj)
      have HPL := hide hpl
      have HNP := hide hnp
      have HOK := hide hok
      have hb2 := B4.out.size
      clear po b4 CT hok hpc hpl hnp HO3
      go_wp2_with (at_builtin; refine wpList_append_own _ rfl _ _ 93 rfl w.heap.size 92 i0 (.agg #[.int .i64 0, .int .i64 0, .int .i64 0, .int .i64 0, .int .i64 0, .string ⟨#[]⟩]) 6 56 Tryz.underlying93 I0.out Z0.out Z1.out Z2.out rfl (by decide) _ 1 _ rfl HO4.out ⟨pb, 0, none⟩ np pcap _ rfl HPL.out HPC.out (pgcells_one _) (by unfold maxLen; omega) (by omega) hb2 ?_)
      intro v5 w5 ho5 hg5 _
      have B5 := hide (B4.out.grown hg5 hb2 (fun k hk => (HO4.out.lt k hk).1))
      have HO5 : Hid (w5.ownsRow w.heap.size 92 6 v5 (pagesAt d l t sq).length (pgcells ((pagesAt d l t sq).map Pg.tu))) := by
        show World.ownsRow _ _ _ _ _ _ _
        rw [HQ.out, List.length_cons, HNP.out, List.map_cons, pgcells_cons, Nat.add_comm]
        exact ho5
      clear ho5 hg5 HPC HPL HNP
      go_wp2
      exact bodyPost_ret (results_tmp2 rfl _ _ _) rfl ⟨sq, HSQ.out, .inl ⟨HOK.out, _, rfl, HO5.out, B5.out⟩⟩
    · rw [dcN hok]
      have HOK := hide hok
      clear po b4 CT hok
      go_wp2
      exact bodyPost_ret (results_tmp2 rfl _ _ _) rfl ⟨sq, HSQ.out, .inr ⟨HOK.out, rfl, B4.out⟩⟩
end Go.Proofs.YtfmnaidhfgmemaaGreatDoor

namespace Go.Proofs.YtfmnaidhfgmemaaGreatDoor
open Go.RowKit
open Words Sums
set_option maxHeartbeats 4000000 in
set_option maxRecDepth 100000 in
theorem iwriteW (x : Value) (d : Dv) (lo hi : Nat) (ra : Option Addr) (n rc : Nat) (l : List Rc) (t : ByteArray) (w : World) (h : Dvs lo hi x d w) (hh : hi ≤ w.heap.size) (ho : OkD d) (hn : n ≤ 33554432) (hr : RcRow w ra n (l.map Rc.tu)) (hv : HalvIn w) : Calls Tryz.prog 25 #[x, .slice ra n rc, .string t] w (WsOut w (writeP d l t)) := by
  have hrd := h.rd hh ho.fit
  obtain ⟨fv, vv, kv, lo1, hi1, lo2, hi2, e, h1, -, -, h4, -⟩ := h
  subst e
  have hln : l.length = n := by have := hr.1; simpa using this
  have HLN := hide hln
  have b0 := (Below.refl w.heap.size w).alloc (Nat.le_refl _) (.cells #[fv, vv, kv, .int .i64 d.store.next, .int .i64 d.seq, .int .i64 d.tx, .int .i64 d.base] 47)
  have B0 := hide b0
  have R0 := hide (heap_alloc_new w (.cells #[fv, vv, kv, .int .i64 d.store.next, .int .i64 d.seq, .int .i64 d.tx, .int .i64 d.base] 47))
  have HRD := hide (hrd.below b0)
  have HRC := hide (hr.below b0)
  have F0 := hide (Fla.loc lo1 hi1 fv d.flash w (w.alloc (.cells #[fv, vv, kv, .int .i64 d.store.next, .int .i64 d.seq, .int .i64 d.tx, .int .i64 d.base] 47)) (fun g _ g2 => b0.block g (by omega)) h1)
  have HV := hide (hv.on b0)
  have HS := hide (show Sml d.flash from ho.fit.1)
  have HH : Hid (hi1 ≤ w.heap.size) := Nat.le_trans h4 hh
  obtain ⟨R, hR⟩ : ∃ R, writeP d l t = R := ⟨_, rfl⟩
  have HR := hide hR
  rw [hR]
  clear hR h1 h4 ho hv hr hrd hh b0
  by_cases hz : n = 0
  · have HE : Hid (R = ([], true)) := by show _ = _; rw [← HR.out]; unfold writeP; rw [if_pos (by omega)]
    have hnz : ((n : Int) == 0) = true := by simp [hz]
    clear hz hln
    go_enter Tryz.func25, Tryz.ntmps25
    go_wp2
    refine bodyPost_ret (results_tmp2 rfl _ _ _) rfl ?_
    rw [HE.out]
    exact ⟨_, rfl, World.ownsRow_nil _ _ _ _, B0.out⟩
  have hnz : ((n : Int) == 0) = false := by rw [beq_eq_false_iff_ne]; omega
  have HL0 : Hid (l.length ≠ 0) := by show _ ≠ _; omega
  have CP := hide (ipagesToWrite _ d ra n rc l t _ HRD.out hn hz HRC.out)
  have hsz : (w.alloc (.cells #[fv, vv, kv, .int .i64 d.store.next, .int .i64 d.seq, .int .i64 d.tx, .int .i64 d.base] 47)).heap.size = w.heap.size + 1 := by simp
  clear hln hz
  go_enter Tryz.func25, Tryz.ntmps25
  go_wp2_with fail
  refine CP.out.mono ?_
  generalize w.alloc (.cells #[fv, vv, kv, .int .i64 d.store.next, .int .i64 d.seq, .int .i64 d.tx, .int .i64 d.base] 47) = w1 at B0 R0 HRD HRC F0 HV CP hsz ⊢
  rintro e w2 ⟨sq, hs, ⟨hok, uv, rfl, po, b2⟩ | ⟨hno, rfl, b2⟩⟩
  · have HE : Hid (R = if (putsP (d.flash, [], true) (pagesAt d l t sq)).2.2 then ((putsP (d.flash, [], true) (pagesAt d l t sq)).2.1, true) else ([], false)) := by show _ = _; rw [← HR.out]; exact write_yes HL0.out hs hok
    have hq := pagesAt_len d l t sq
    have B2 := hide (B0.out.trans (b2.mono B0.out.size))
    have R2 : w2.heap[w.heap.size]? = some (.cells #[fv, vv, kv, .int .i64 d.store.next, .int .i64 d.seq, .int .i64 d.tx, .int .i64 d.base] 47 (0, 0)) := (b2.block _ (by rw [hsz]; exact Nat.lt_succ_self _)).trans R0.out
    have y0 := cell_of_row _ _ 0 _ _ _ R2
    have CG := hide (iprogramSteps fv d.flash lo1 hi1 uv (pagesAt d l t sq) _ w2 (Fla.loc lo1 hi1 fv d.flash w1 w2 (fun g _ g2 => b2.block g (by have := HH.out; omega)) F0.out) (by have := HH.out; have := B2.out.size; omega) HS.out (by omega) (HV.out.on b2) po)
    simp at y0
    clear hq R2 b2 po hs hok CP
    go_wp2_with fail
    refine CG.out.mono ?_
    rintro e w3 ⟨v3, rfl, ho3, b3⟩
    have FN : Hid (WsOut w R (.returned (.tuple #[v3, .bool R.2])) w3) := ⟨_, rfl, by rw [HE.out]; exact own_down ho3 B2.out.size, B2.out.trans (b3.mono B2.out.size)⟩
    rw [← HE.out]
    clear ho3 b3 CG y0
    go_wp2
    refine bodyPost_ret (results_tmp2 rfl _ _ _) rfl ?_
    exact FN.out
  · have HE : Hid (R = ([], false)) := by show _ = _; rw [← HR.out]; exact write_no HL0.out hs hno
    have B2 := hide (B0.out.trans (b2.mono B0.out.size))
    clear b2 hs hno CP
    go_wp2
    refine bodyPost_ret (results_tmp2 rfl _ _ _) rfl ?_
    rw [HE.out]
    exact ⟨_, rfl, World.ownsRow_nil _ _ _ _, B2.out⟩
end Go.Proofs.YtfmnaidhfgmemaaGreatDoor

namespace Go.Proofs.YtfmnaidhfgmemaaGreatDoor
open Go.RowKit
theorem icells_set (l : List Int) (k : Nat) (n : Int) : (icells l).set k (.int .i64 n) = icells (l.set k n) := by simp [icells, List.map_set]
theorem part_set {α : Type} {l r : List α} {k : Nat} {v : α} (hl : l[k]? = some v) (hr : r.length = l.length) : (l.take k ++ r.drop k).set k v = l.take (k + 1) ++ r.drop (k + 1) := by
  obtain ⟨hk, e⟩ := List.getElem?_eq_some_iff.1 hl
  rw [List.set_append_right _ _ (by rw [List.length_take]; omega), List.length_take, Nat.min_eq_left (by omega), Nat.sub_self, List.drop_eq_getElem_cons (by omega), List.set_cons_zero, List.take_succ_eq_append_getElem hk, e, List.append_assoc]
  rfl
theorem part_at {α : Type} {l r : List α} {k : Nat} (hk : k < l.length) : (l.take k ++ r.drop k)[k]? = r[k]? := by
  rw [List.getElem?_append_right (by rw [List.length_take]; omega), List.length_take, Nat.min_eq_left (by omega), Nat.sub_self, List.getElem?_drop]
  simp
end Go.Proofs.YtfmnaidhfgmemaaGreatDoor

namespace Go.Proofs.YtfmnaidhfgmemaaGreatDoor
open Go.RowKit
open Words
structure Lk where
  place : Int
  leaf : Bool
  nums : List Int
  tos : List (Option Nat)
  need : Bool
def ptr (b : Nat) : Value := .pointer (some ⟨b, 0, none⟩)
def pval : Option Nat → Value
  | none => .pointer none
  | some b => ptr b
def pcells (l : List (Option Nat)) : List Value := l.map pval
def bcellsP (l : List Nat) : List Value := l.map ptr
def lkcells (x : Lk) : List Value := [.int .i64 x.place, .bool x.leaf] ++ (icells x.nums ++ (pcells x.tos ++ [.bool x.need]))
def Lk.Four (x : Lk) : Prop := x.nums.length = 4 ∧ x.tos.length = 4
def LkAt (W : World) (b : Nat) (x : Lk) : Prop := W.heap[b]? = some (.cells (lkcells x).toArray 196 (0, 0)) ∧ x.Four
theorem LkAt.lt {W : World} {b : Nat} {x : Lk} (h : LkAt W b x) : b < W.heap.size := (Array.getElem?_eq_some_iff.1 h.1).1
theorem LkAt.below {W W' : World} {b C : Nat} {x : Lk} (h : LkAt W b x) (hb : Below C W W') (hC : b < C) : LkAt W' b x := ⟨(hb.block b hC).trans h.1, h.2⟩
theorem LkAt.blw {W W' : World} {b : Nat} {x : Lk} (h : LkAt W b x) (hb : Below W.heap.size W W') : LkAt W' b x := h.below hb h.lt
theorem LkAt.frozen {W : World} {b : Nat} {x : Lk} (h : LkAt W b x) (o : Nat) : W.frozen? ⟨b, o, none⟩ = false := frozen_of_row _ _ o _ _ h.1
theorem LkAt.cell {W : World} {b k : Nat} {x : Lk} {v : Value} (h : LkAt W b x) (hk : (lkcells x)[k]? = some v) : W.cell? ⟨b, k, none⟩ = some v := by
  rw [cell_of_row _ _ k _ _ _ h.1]
  simpa using hk
theorem LkAt.place {W : World} {b : Nat} {x : Lk} (h : LkAt W b x) : W.cell? ⟨b, 0, none⟩ = some (.int .i64 x.place) := h.cell rfl
theorem LkAt.leaf {W : World} {b : Nat} {x : Lk} (h : LkAt W b x) : W.cell? ⟨b, 1, none⟩ = some (.bool x.leaf) := h.cell rfl
theorem lk_num {x : Lk} {k : Nat} {n : Int} (hk : x.nums[k]? = some n) : (lkcells x)[2 + k]? = some (.int .i64 n) := by
  have hl := (List.getElem?_eq_some_iff.1 hk).1
  rw [lkcells, List.getElem?_append_right (by simp), List.getElem?_append_left (by simp [icells]; omega)]
  simpa using icells_get hk
theorem lk_to {x : Lk} (h4 : x.Four) {k : Nat} {o : Option Nat} (hk : x.tos[k]? = some o) : (lkcells x)[6 + k]? = some (pval o) := by
  have hl := (List.getElem?_eq_some_iff.1 hk).1
  have h1 : (icells x.nums).length = 4 := by simp [icells, h4.1]
  rw [lkcells, List.getElem?_append_right (by simp; omega), List.getElem?_append_right (by rw [h1]; simp; omega), List.getElem?_append_left (by rw [h1]; simp [pcells]; omega), h1]
  have e : 6 + k - [Value.int .i64 x.place, Value.bool x.leaf].length - 4 = k := by simp; omega
  rw [e, pcells, List.getElem?_map, hk]
  rfl
theorem LkAt.num {W : World} {b k : Nat} {x : Lk} {n : Int} (h : LkAt W b x) (hk : x.nums[k]? = some n) : W.cell? ⟨b, 2 + k, none⟩ = some (.int .i64 n) := h.cell (lk_num hk)
theorem LkAt.to {W : World} {b k : Nat} {x : Lk} {o : Option Nat} (h : LkAt W b x) (hk : x.tos[k]? = some o) : W.cell? ⟨b, 6 + k, none⟩ = some (pval o) := h.cell (lk_to h.2 hk)
theorem LkAt.set {W : World} {b k : Nat} {x x' : Lk} {u : Value} (h : LkAt W b x) (h4 : x'.Four) (e : lkcells x' = (lkcells x).set k u) : LkAt (W.setCell ⟨b, k, none⟩ u) b x' := by
  refine ⟨?_, h4⟩
  rw [row_set h.1, e]
  simp
theorem LkAt.other {W : World} {b g k : Nat} {x : Lk} (h : LkAt W b x) (hne : b ≠ g) (u : Value) : LkAt (W.setCell ⟨g, k, none⟩ u) b x := ⟨row_set_ne h.1 hne _ _, h.2⟩
theorem LkAt.setNum {W : World} {b k : Nat} {x : Lk} (h : LkAt W b x) (hk : k < 4) (n : Int) : LkAt (W.setCell ⟨b, 2 + k, none⟩ (.int .i64 n)) b { x with nums := x.nums.set k n } := by
  refine h.set ⟨by simp [h.2.1], h.2.2⟩ ?_
  have h1 : (icells x.nums).length = 4 := by simp [icells, h.2.1]
  rw [lkcells, lkcells, List.set_append_right _ _ (by simp), List.set_append_left _ _ (by rw [h1]; simp; omega)]
  have e : 2 + k - [Value.int .i64 x.place, Value.bool x.leaf].length = k := by simp
  rw [e]
  simp [icells, List.map_set]
theorem LkAt.setTo {W : World} {b k : Nat} {x : Lk} (h : LkAt W b x) (hk : k < 4) (o : Option Nat) : LkAt (W.setCell ⟨b, 6 + k, none⟩ (pval o)) b { x with tos := x.tos.set k o } := by
  refine h.set ⟨h.2.1, by simp [h.2.2]⟩ ?_
  have h1 : (icells x.nums).length = 4 := by simp [icells, h.2.1]
  have h2 : (pcells x.tos).length = 4 := by simp [pcells, h.2.2]
  rw [lkcells, lkcells, List.set_append_right _ _ (by simp; omega), List.set_append_right _ _ (by rw [h1]; simp; omega), List.set_append_left _ _ (by rw [h1, h2]; simp; omega), h1]
  have e : 6 + k - [Value.int .i64 x.place, Value.bool x.leaf].length - 4 = k := by simp; omega
  rw [e]
  simp [pcells, List.map_set]
set_option maxHeartbeats 400000 in
set_option maxRecDepth 100000 in
theorem inumAt (b : Nat) (x : Lk) (s : Nat) (v : Int) (w : World) (hs : s ≤ 15) (h : LkAt w b x) (hv : (∃ k, k = s / 4 ∧ x.tos[k]? = some none ∧ v = 0) ∨ ∃ c y, x.tos[s / 4]? = some (some c) ∧ LkAt w c y ∧ y.nums[s % 4]? = some v) :
    Calls Tryz.prog 79 #[ptr b, .int .i64 s] w fun e w' => e = .returned (.int .i64 v) ∧ w' = w := by
  obtain ⟨q, hq⟩ : ∃ q, s / 4 = q := ⟨_, rfl⟩
  obtain ⟨t, ht⟩ : ∃ t, s % 4 = t := ⟨_, rfl⟩
  rw [hq] at hv
  rw [ht] at hv
  have tq : (s : Int).tdiv 4 = (q : Int) := by rw [Int.tdiv_eq_ediv_of_nonneg (by omega)]; omega
  have tt : (s : Int).tmod 4 = (t : Int) := by rw [Int.tmod_eq_emod_of_nonneg (by omega)]; omega
  have tq2 : (s : Int) / 4 = (q : Int) := by omega
  have tt2 : (s : Int) % 4 = (t : Int) := by omega
  have q0 : (0 : Int) ≤ q := by omega
  have q4 : (q : Int) < 4 := by omega
  have t0 : (0 : Int) ≤ t := by omega
  have t4 : (t : Int) < 4 := by omega
  rcases hv with ⟨k, rfl, hk, rfl⟩ | ⟨c, y, hk, hy, hn⟩
  · have c1 : w.cell? ⟨b, 6 + k, none⟩ = some (.pointer none) := h.to hk
    clear h hk hq ht
    unfold ptr
    go_enter Tryz.func79, Tryz.ntmps79
    go_wp2
    go_ret
    exact ⟨rfl, rfl⟩
  · have c1 : w.cell? ⟨b, 6 + q, none⟩ = some (.pointer (some ⟨c, 0, none⟩)) := h.to hk
    have c2 : w.cell? ⟨c, 2 + t, none⟩ = some (.int .i64 v) := hy.num hn
    clear h hk hq ht hy hn
    unfold ptr
    go_enter Tryz.func79, Tryz.ntmps79
    go_wp2
    go_ret
    exact ⟨rfl, rfl⟩
end Go.Proofs.YtfmnaidhfgmemaaGreatDoor

namespace Go.Proofs.YtfmnaidhfgmemaaGreatDoor
open Go.RowKit
open Words
def PRow (W : World) (fa : Option Addr) (n : Nat) (bs : List Nat) : Prop := bs.length = n ∧ n ≤ maxLen ∧ (0 < n → ∃ g, fa = some ⟨g, 0, none⟩ ∧ g < W.heap.size ∧ ∀ (i b : Nat), bs[i]? = some b → W.cell? ⟨g, i, none⟩ = some (ptr b))
theorem PRow.below {W W' : World} {fa : Option Addr} {n : Nat} {bs : List Nat} (h : PRow W fa n bs) (hb : Below W.heap.size W W') : PRow W' fa n bs := by
  obtain ⟨h1, h2, h3⟩ := h
  refine ⟨h1, h2, fun h0 => ?_⟩
  obtain ⟨g, e, hg, hc⟩ := h3 h0
  have := hb.size
  exact ⟨g, e, by omega, fun i b hi => (hb.cell (show g < W.heap.size from hg)).trans (hc i b hi)⟩
theorem PRow.at {W : World} {fa : Option Addr} {n : Nat} {bs : List Nat} (h : PRow W fa n bs) {i b : Nat} (hi : bs[i]? = some b) : ∃ g, fa = some ⟨g, 0, none⟩ ∧ g < W.heap.size ∧ W.cell? ⟨g, i, none⟩ = some (ptr b) := by
  have := (List.getElem?_eq_some_iff.1 hi).1
  obtain ⟨g, e, hg, hc⟩ := h.2.2 (by have := h.1; omega)
  exact ⟨g, e, hg, hc i b hi⟩
theorem bcellsP_get {l : List Nat} {k b : Nat} (h : l[k]? = some b) : (bcellsP l)[k]? = some (ptr b) := by rw [bcellsP, List.getElem?_map, h]; rfl
theorem bcellsP_snoc (l : List Nat) (b : Nat) : bcellsP l ++ [ptr b] = bcellsP (l ++ [b]) := by simp [bcellsP]
theorem PRow.of {W : World} {B : Nat} {v : Value} {bs : List Nat} (h : W.ownsRow B 145 1 v bs.length (bcellsP bs)) : ∃ fa c, v = .slice fa bs.length c ∧ PRow W fa bs.length bs := by
  rcases h.2 with ⟨rfl, h0⟩ | ⟨g, cap, cur, rfl, h1, h2, h3, h4, h5, h6⟩
  · exact ⟨none, 0, by rw [h0], rfl, by rw [h0]; unfold maxLen; omega, fun h => by omega⟩
  · refine ⟨_, _, rfl, rfl, by omega, fun _ => ⟨g, rfl, (Array.getElem?_eq_some_iff.1 h2).1, fun i b hi => ?_⟩⟩
    rw [← addr_at]
    exact h.cells (g := g) rfl i _ (bcellsP_get hi)
def FAt (W : World) (bs : List Nat) (xs : List Lk) : Prop := bs.length = xs.length ∧ ∀ (i b : Nat) (x : Lk), bs[i]? = some b → xs[i]? = some x → LkAt W b x
theorem FAt.below {W W' : World} {bs : List Nat} {xs : List Lk} (h : FAt W bs xs) (hb : Below W.heap.size W W') : FAt W' bs xs := ⟨h.1, fun i b x h1 h2 => (h.2 i b x h1 h2).blw hb⟩
theorem FAt.get {W : World} {bs : List Nat} {xs : List Lk} (h : FAt W bs xs) {i : Nat} {x : Lk} (hx : xs[i]? = some x) : ∃ b, bs[i]? = some b ∧ LkAt W b x := by
  have := (List.getElem?_eq_some_iff.1 hx).1
  exact ⟨_, List.getElem?_eq_getElem (by rw [h.1]; exact this), h.2 i _ x (List.getElem?_eq_getElem (by rw [h.1]; exact this)) hx⟩
theorem FAt.nil (W : World) : FAt W [] [] := ⟨rfl, fun _ _ _ h => by simp at h⟩
def leafP (bs : List Nat) (xs : List Lk) (p : Int) : Option Nat := if p < 0 then none else (xs[p.toNat]?).bind (fun x => if x.leaf = true then bs[p.toNat]? else none)
set_option maxHeartbeats 400000 in
set_option maxRecDepth 100000 in
theorem ileafAt (fa : Option Addr) (n c : Nat) (bs : List Nat) (xs : List Lk) (p : Int) (w : World) (hr : PRow w fa n bs) (hf : FAt w bs xs) :
    Calls Tryz.prog 163 #[.slice fa n c, .int .i64 p] w fun e w' => e = .returned (pval (leafP bs xs p)) ∧ w' = w := by
  have hl : xs.length = n := by rw [← hf.1]; exact hr.1
  by_cases h0 : p < 0
  · have E : Hid (leafP bs xs p = none) := if_pos h0
    rw [E.out]
    clear hr hf hl E
    go_enter Tryz.func163, Tryz.ntmps163
    go_wp2
    go_ret
    exact ⟨rfl, rfl⟩
  · obtain ⟨m, rfl⟩ : ∃ m : Nat, p = (m : Int) := ⟨p.toNat, by omega⟩
    by_cases h1 : (n : Int) ≤ m
    · have E : Hid (leafP bs xs (m : Int) = none) := by
        show _ = _
        rw [leafP, if_neg h0, Int.toNat_natCast, List.getElem?_eq_none (by omega)]
        rfl
      rw [E.out]
      clear hr hf hl E
      go_enter Tryz.func163, Tryz.ntmps163
      go_wp2
      go_ret
      exact ⟨rfl, rfl⟩
    · obtain ⟨x, hx⟩ : ∃ x, xs[m]? = some x := ⟨_, List.getElem?_eq_getElem (by omega)⟩
      obtain ⟨b, hb, ha⟩ := hf.get hx
      obtain ⟨g, rfl, -, hc⟩ := hr.at hb
      have c1 := ha.leaf
      unfold ptr at hc
      have m0 : (0 : Int) ≤ m := by omega
      have mn : (m : Int) < n := by omega
      have E : Hid (leafP bs xs (m : Int) = if x.leaf = true then some b else none) := by
        show _ = _
        rw [leafP, if_neg h0, Int.toNat_natCast, hx, hb]
        rfl
      rw [E.out]
      clear hr hf hl E ha hb hx h0 h1
      cases hxl : x.leaf with
      | true =>
        rw [hxl] at c1
        clear hxl
        go_enter Tryz.func163, Tryz.ntmps163
        go_wp2
        go_ret
        exact ⟨rfl, rfl⟩
      | false =>
        rw [hxl] at c1
        clear hxl
        go_enter Tryz.func163, Tryz.ntmps163
        go_wp2
        go_ret
        exact ⟨rfl, rfl⟩
def lkNone : Lk := ⟨-1, false, [0, 0, 0, 0], [none, none, none, none], false⟩
set_option maxHeartbeats 400000 in
set_option maxRecDepth 100000 in
theorem itree_new (fv : Value) (w : World) :
    Calls Tryz.prog 118 #[fv, .int .i64 (-1)] w fun e w' => e = .returned (ptr w.heap.size) ∧ LkAt w' w.heap.size lkNone ∧ Below w.heap.size w w' := by
  go_enter Tryz.func118, Tryz.ntmps118
  go_wp2
  go_ret
  exact ⟨rfl, ⟨heap_alloc_new w _, rfl, rfl⟩, (Below.refl _ _).alloc (Nat.le_refl _) _⟩
set_option maxHeartbeats 400000 in
set_option maxRecDepth 100000 in
theorem itree_at (fa : Option Addr) (n c : Nat) (bs : List Nat) (xs : List Lk) (m b : Nat) (x : Lk) (w : World) (hr : PRow w fa n bs) (hf : FAt w bs xs) (hx : xs[m]? = some x) (hb : bs[m]? = some b) (hl : x.leaf = false) :
    Calls Tryz.prog 118 #[.slice fa n c, .int .i64 m] w fun e w' => e = .returned (ptr b) ∧ w' = w := by
  have hlt := (List.getElem?_eq_some_iff.1 hb).1
  rw [hr.1] at hlt
  obtain ⟨g, rfl, -, hc⟩ := hr.at hb
  have c1 := (hf.2 m b x hb hx).leaf
  rw [hl] at c1
  unfold ptr at hc ⊢
  have m0 : (0 : Int) ≤ m := by omega
  have mn : (m : Int) < n := by omega
  have m1 : ((m : Int) == -1) = false := by rw [beq_eq_false_iff_ne]; omega
  clear hr hf hx hb hl hlt
  go_enter Tryz.func118, Tryz.ntmps118
  go_wp2
  go_ret
  exact ⟨rfl, rfl⟩
set_option maxHeartbeats 400000 in
set_option maxRecDepth 100000 in
theorem itree_no (fa : Option Addr) (n c : Nat) (bs : List Nat) (xs : List Lk) (r : Int) (w : World) (hr : PRow w fa n bs) (hf : FAt w bs xs) (h1 : r ≠ -1) (h2 : r < 0 ∨ (n : Int) ≤ r ∨ ∃ x, xs[r.toNat]? = some x ∧ x.leaf = true) :
    Calls Tryz.prog 118 #[.slice fa n c, .int .i64 r] w fun e w' => e = .returned (.pointer none) ∧ w' = w := by
  have m1 : (r == -1) = false := by rw [beq_eq_false_iff_ne]; exact h1
  by_cases h0 : r < 0
  · clear hr hf h2 h1
    go_enter Tryz.func118, Tryz.ntmps118
    go_wp2
    go_ret
    exact ⟨rfl, rfl⟩
  · by_cases h3 : (n : Int) ≤ r
    · clear hr hf h2 h1
      go_enter Tryz.func118, Tryz.ntmps118
      go_wp2
      go_ret
      exact ⟨rfl, rfl⟩
    · obtain ⟨x, hx, hl⟩ : ∃ x, xs[r.toNat]? = some x ∧ x.leaf = true := by
        rcases h2 with h | h | h
        · omega
        · omega
        · exact h
      obtain ⟨m, rfl⟩ : ∃ m : Nat, r = (m : Int) := ⟨r.toNat, by omega⟩
      rw [Int.toNat_natCast] at hx
      obtain ⟨b, hb, ha⟩ := hf.get hx
      obtain ⟨g, rfl, -, hc⟩ := hr.at hb
      have c1 := ha.leaf
      rw [hl] at c1
      unfold ptr at hc
      have m0 : (0 : Int) ≤ m := by omega
      have mn : (m : Int) < n := by omega
      clear hr hf hx hb hl ha h2 h1 h0 h3
      go_enter Tryz.func118, Tryz.ntmps118
      go_wp2
      go_ret
      exact ⟨rfl, rfl⟩
end Go.Proofs.YtfmnaidhfgmemaaGreatDoor
