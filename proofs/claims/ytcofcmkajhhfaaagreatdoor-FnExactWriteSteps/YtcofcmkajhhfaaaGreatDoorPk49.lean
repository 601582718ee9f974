/-
  IPagesW; IWrSt; LawWrF; OpVl
-/
import Derived.Test.YtcofcmkajhhfaaaGreatDoorIProgS
import Derived.Test.YtcofcmkajhhfaaaGreatDoorPk37
import Derived.Test.YtcofcmkajhhfaaaGreatDoorLawWrO
import Derived.Test.YtcofcmkajhhfaaaGreatDoorPk24
import Derived.ProofKit
import Derived.OpenShut
import Derived.ShutString
import Derived.Deep.Strs
import Derived.Deep.Slices
namespace Go.Proofs.YtcofcmkajhhfaaaGreatDoor
open Go.RowKit
open Words Sums
def pagesAt (d : Dv) (l : List Rc) (t : ByteArray) (sq : Int) : List Pg := if t.size = 0 then txOut sq d.tx l else dataPg d.seq (lastCk l) t :: txOut sq d.tx l
theorem pagesAt_is (d : Dv) (l : List Rc) (t : ByteArray) : pagesAt d l t (writeQ d t) = pagesQ d l t := by
  unfold pagesAt pagesQ writeQ
  split <;> rfl
theorem pagesAt_len (d : Dv) (l : List Rc) (t : ByteArray) (sq : Int) : (pagesAt d l t sq).length ≤ 10 := by
  have h : ∀ (q x : Int), (txOut q x l).length ≤ 9 := fun q x => by
    unfold txOut
    split
    · rename_i h; rw [txPgs_len]; exact h.2.1
    · simp
  unfold pagesAt
  split
  · have := h sq d.tx; omega
  · have := h sq d.tx; simp only [List.length_cons]; omega
def SqOk (d : Dv) (l : List Rc) (t : ByteArray) (sq : Int) : Prop := sq = writeQ d t ∨ (t.size ≠ 0 ∧ ¬ (dataPg d.seq (lastCk l) t).Right)
theorem write_no {d : Dv} {l : List Rc} {t : ByteArray} {sq : Int} (hl : l.length ≠ 0) (hs : SqOk d l t sq) (h : ¬ TxOk sq d.tx l) : writeP d l t = ([], false) := by
  rw [write_is hl]
  rcases hs with e | ⟨h1, h2⟩
  · rw [← e, dcN h, Bool.and_false]
    rfl
  · rw [puts_wrong _ _ ⟨dataPg d.seq (lastCk l) t, by unfold pagesQ; rw [if_neg h1]; exact List.mem_cons_self, h2⟩, Bool.false_and]
    rfl
theorem write_yes {d : Dv} {l : List Rc} {t : ByteArray} {sq : Int} (hl : l.length ≠ 0) (hs : SqOk d l t sq) (h : TxOk sq d.tx l) : writeP d l t = if (putsP (d.flash, [], true) (pagesAt d l t sq)).2.2 then ((putsP (d.flash, [], true) (pagesAt d l t sq)).2.1, true) else ([], false) := by
  rw [write_is hl]
  rcases hs with e | ⟨h1, h2⟩
  · subst e
    rw [pagesAt_is, dcY h, Bool.and_true]
  · rw [puts_wrong _ _ ⟨dataPg d.seq (lastCk l) t, by unfold pagesQ; rw [if_neg h1]; exact List.mem_cons_self, h2⟩, puts_wrong _ _ ⟨dataPg d.seq (lastCk l) t, by unfold pagesAt; rw [if_neg h1]; exact List.mem_cons_self, h2⟩, Bool.false_and]
    rfl
def PwOut (w : World) (d : Dv) (l : List Rc) (t : ByteArray) (e : Ending) (w' : World) : Prop :=
  ∃ sq, SqOk d l t sq ∧ ((TxOk sq d.tx l ∧ PgOut w (pagesAt d l t sq) true e w') ∨ (¬ TxOk sq d.tx l ∧ e = .returned (.tuple #[.slice none 0 0, .bool false]) ∧ Below w.heap.size w w'))
theorem pages_form {w W : World} {sq tx : Int} {l : List Rc} {pv : Value} (h : TxOk sq tx l) (ho : W.ownsRow w.heap.size 67 6 pv (txOut sq tx l).length (pgcells ((txOut sq tx l).map Pg.tu))) :
    ∃ pb np pcap, pv = .slice (some ⟨pb, 0, none⟩) np pcap ∧ (txOut sq tx l).length = np ∧ np ≤ 9 ∧ (∀ (j : Nat) (u : Value), (pgcells ((txOut sq tx l).map Pg.tu))[j]? = some u → W.cell? ((⟨pb, 0, none⟩ : Addr).add j) = some u) ∧ (pgcells ((txOut sq tx l).map Pg.tu)).length = np * 6 := by
  obtain ⟨pa, pcap, rfl, -, -, hp⟩ := frow_form ho
  have hl : (txOut sq tx l).length = (pkG l).length := by unfold txOut; rw [if_pos h, txPgs_len]
  obtain ⟨pb, rfl, -, -⟩ := hp (by rw [hl]; exact pkG_pos l)
  exact ⟨pb, _, pcap, rfl, rfl, by rw [hl]; exact h.2.1, fun j u hj => ho.cells (g := pb) rfl j u hj, by rw [pgcells_len, List.length_map]⟩
set_option maxHeartbeats 4000000 in
set_option maxRecDepth 100000 in
theorem ipagesToWrite (x : Value) (d : Dv) (ra : Option Addr) (n rc : Nat) (l : List Rc) (t : ByteArray) (w : World) (h : DvIn w x d) (hn : n ≤ 1048576) (hn0 : n ≠ 0) (hr : RcRow w ra n (l.map Rc.tu)) : Calls Tryz.prog 24 #[x, .slice ra n rc, .string t] w (PwOut w d l t) := by
  obtain ⟨fd, fc, va, vl, vc, ad, ln, cap, rfl, -, -, -⟩ := h.form
  have hln : l.length = n := by have := hr.1; simpa using this
  have HLN := hide hln
  have HRC := hide hr
  have b0 : Below w.heap.size w (w.alloc (.cells #[.slice fd d.flash.length fc, .slice va vl vc, .slice ad ln cap, .int .i64 d.store.next, .int .i64 d.seq, .int .i64 d.tx, .int .i64 d.base] 49)) := (Below.refl _ _).alloc (Nat.le_refl _) _
  have s0 : (w.alloc (.cells #[.slice fd d.flash.length fc, .slice va vl vc, .slice ad ln cap, .int .i64 d.store.next, .int .i64 d.seq, .int .i64 d.tx, .int .i64 d.base] 49)).heap.size = w.heap.size + 1 := by simp
  have g0 : DAt (w.alloc (.cells #[.slice fd d.flash.length fc, .slice va vl vc, .slice ad ln cap, .int .i64 d.store.next, .int .i64 d.seq, .int .i64 d.tx, .int .i64 d.base] 49)) w.heap.size (.slice fd d.flash.length fc) (.slice va vl vc) (.slice ad ln cap) d.store.next d.seq d.tx d.base := heap_alloc_new w _
  obtain ⟨i0, hi, hz0, hz1, hz2⟩ := info_parts infoPg
  have I0 := hide hi
  have Z0 := hide hz0
  have Z1 := hide hz1
  have Z2 := hide hz2
  clear hr hi hz0 hz1 hz2 h hln
  go_enter Tryz.func24, Tryz.ntmps24
  go_upto_region 2 with fail
  generalize w.alloc (.cells #[.slice fd d.flash.length fc, .slice va vl vc, .slice ad ln cap, .int .i64 d.store.next, .int .i64 d.seq, .int .i64 d.tx, .int .i64 d.base] 49) = w1 at b0 s0 g0 ⊢
  have B0 := hide b0
  have S0 := hide s0
  have G0 := hide g0
  obtain ⟨-, -, -, -, y4, y5, -⟩ := G0.out.cells
  clear b0 s0 g0
  by_cases ht : t.size = 0
  · have hte : t.toList.isEmpty = true := by rw [ask_empty]; exact decide_eq_true ht
    have CT := hide (itxPages d.seq d.tx ra n rc l w1 hn (HRC.out.below B0.out))
    have HSQ : Hid (SqOk d l t d.seq) := .inl (by unfold writeQ; rw [if_pos ht])
    have HQ : Hid (pagesAt d l t d.seq = txOut d.seq d.tx l) := by show _ = _; unfold pagesAt; rw [if_pos ht]
    clear ht
    go_wp2_with fail
    refine CT.out.mono ?_
    rintro e w2 ⟨pv, rfl, po, b2⟩
    have B2 := hide (B0.out.trans (b2.mono B0.out.size))
    by_cases hok : TxOk d.seq d.tx l
    · obtain ⟨pb, np, pcap, rfl, hnp, hn9, hpc, hpl⟩ := pages_form hok po
      rw [dcY hok]
      have HPC := hide hpc
      have HPL := hide hpl
      have HNP := hide hnp
      have HOK := hide hok
      have hb2 := B2.out.size
      clear po b2 CT hok hpc hpl hnp
      go_wp2_with (at_builtin; refine wpList_append_own _ rfl _ _ 68 rfl w.heap.size 67 i0 (.agg #[.int .i64 0, .int .i64 0, .int .i64 0, .int .i64 0, .int .i64 0, .string ⟨#[]⟩]) 6 56 Tryz.underlying68 I0.out Z0.out Z1.out Z2.out rfl (by decide) _ 0 [] rfl (World.ownsRow_nil _ _ _ _) ⟨pb, 0, none⟩ np pcap _ rfl HPL.out HPC.out (pgcells_one _) (by unfold maxLen; omega) (by omega) hb2 ?_)
      intro v5 w5 ho5 hg5 _
      have B5 := hide (B2.out.grown hg5 hb2 (fun k hk => by cases hk))
      have HO5 : Hid (w5.ownsRow w.heap.size 67 6 v5 (pagesAt d l t d.seq).length (pgcells ((pagesAt d l t d.seq).map Pg.tu))) := by
        show World.ownsRow _ _ _ _ _ _ _
        rw [HQ.out, HNP.out]
        simpa using ho5
      clear ho5 hg5 HPC HPL HNP
      go_wp2
      exact bodyPost_ret (results_tmp2 rfl _ _ _) rfl ⟨d.seq, HSQ.out, .inl ⟨HOK.out, _, rfl, HO5.out, B5.out⟩⟩
    · rw [dcN hok]
      have HOK := hide hok
      clear po b2 CT hok
      go_wp2
      exact bodyPost_ret (results_tmp2 rfl _ _ _) rfl ⟨d.seq, HSQ.out, .inr ⟨HOK.out, rfl, B2.out⟩⟩
  · have hte : t.toList.isEmpty = false := by rw [ask_empty]; exact decide_eq_false ht
    obtain ⟨m, hm⟩ : ∃ m, n = m + 1 := ⟨n - 1, by omega⟩
    obtain ⟨r, hrm⟩ : ∃ r, l[m]? = some r := ⟨_, List.getElem?_eq_getElem (by have := HLN.out; omega)⟩
    obtain ⟨rk, rv, rg, ck⟩ := r
    have hlc : lastCk l = ck := by
      unfold lastCk
      rw [List.getLast?_eq_getElem?, show l.length - 1 = m by have := HLN.out; omega, hrm]
      rfl
    obtain ⟨rb, ro, rfl, hrb, c0, c1, c2, c3⟩ := (HRC.out.below B0.out).at (show (l.map Rc.tu)[m]? = some (rk, rv, rg, ck) by rw [List.getElem?_map, hrm]; rfl)
    simp only at c0 c1 c2 c3
    have hm0 : (0 : Int) ≤ m := by omega
    have hm1 : (m : Int) < n := by omega
    have hnm : (n : Int) - 1 = m := by omega
    obtain ⟨sq, hsq⟩ : ∃ sq, IntKind.i64.wrap (d.seq + 1) = sq := ⟨_, rfl⟩
    have HSQ : Hid (SqOk d l t sq) := by
      by_cases hr : (dataPg d.seq (lastCk l) t).Right
      · left
        have h1 : 1 ≤ d.seq := hr.2.1
        have h2 : d.seq ≤ 1000000000 := hr.2.2.1
        unfold writeQ
        rw [if_neg ht, ← hsq, IntKind.wrap_i64]
        omega
      · exact .inr ⟨ht, hr⟩
    have HQ : Hid (pagesAt d l t sq = dataPg d.seq ck t :: txOut sq d.tx l) := by show _ = _; unfold pagesAt; rw [if_neg ht, hlc]
    have bR := (Below.refl w1.heap.size w1).alloc (Nat.le_refl _) (.cells #[.int .i64 rk, .int .i64 rv, .int .i64 rg, .int .i64 ck] 65)
    have BR := hide bR
    have hzR : (w1.alloc (.cells #[.int .i64 rk, .int .i64 rv, .int .i64 rg, .int .i64 ck] 65)).heap.size = w1.heap.size + 1 := by simp
    have hb1 := B0.out.size
    clear hm ht hlc hrm bR
    go_wp2_with (at_builtin; refine wpList_append_own _ rfl _ _ 68 rfl w.heap.size 67 i0 (.agg #[.int .i64 0, .int .i64 0, .int .i64 0, .int .i64 0, .int .i64 0, .string ⟨#[]⟩]) 6 56 Tryz.underlying68 I0.out Z0.out Z1.out Z2.out rfl (by decide) _ 0 [] rfl (World.ownsRow_nil _ _ _ _) ⟨w1.heap.size + 1, 0, none⟩ 1 1 (pgcells [(dataPg d.seq ck t).tu]) rfl rfl (by have e := row_new16 (w1.alloc (.cells #[.int .i64 rk, .int .i64 rv, .int .i64 rg, .int .i64 ck] 65)) (pgcells [(dataPg d.seq ck t).tu]) 67; rw [hzR] at e; exact e) (pgcells_one _) (by unfold maxLen; omega) (by omega) (by simp; omega) ?_)
    intro v3 w3 ho3 hg3 _
    have B13 := hide ((BR.out.alloc BR.out.size (.cells #[.int .i64 1, .int .i64 d.seq, .int .i64 ck, .int .i64 0, .int .i64 1, .string t] 67)).grown hg3 (by simp; omega) (fun k hk => by cases hk))
    have B3 := hide (B0.out.trans (B13.out.mono hb1))
    have G3 := hide (G0.out.below B13.out)
    have HO3 : Hid (w3.ownsRow w.heap.size 67 6 v3 1 (pgcells [(dataPg d.seq ck t).tu])) := ho3
    have CT := hide (itxPages sq d.tx (some ⟨rb, ro, none⟩) n rc l w3 hn (HRC.out.below B3.out))
    clear ho3 hg3 B13 BR hzR c0 c1 c2 c3 y4 y5
    obtain ⟨-, -, -, -, y4, y5, -⟩ := G3.out.cells
    go_wp2_with fail
    refine CT.out.mono ?_
    rintro e w4 ⟨pv, rfl, po, b4⟩
    have B4 := hide (B3.out.trans (b4.mono B3.out.size))
    have HO4 := hide (own_below HO3.out b4)
    by_cases hok : TxOk sq d.tx l
    · obtain ⟨pb, np, pcap, rfl, hnp, hn9, hpc, hpl⟩ := pages_form hok po
      rw [dcY hok]
      have HPC := hide (fun j u hj => hpc j u hj)
      have HPL := hide hpl
      have HNP := hide hnp
      have HOK := hide hok
      have hb2 := B4.out.size
      clear po b4 CT hok hpc hpl hnp HO3
      go_wp2_with (at_builtin; refine wpList_append_own _ rfl _ _ 68 rfl w.heap.size 67 i0 (.agg #[.int .i64 0, .int .i64 0, .int .i64 0, .int .i64 0, .int .i64 0, .string ⟨#[]⟩]) 6 56 Tryz.underlying68 I0.out Z0.out Z1.out Z2.out rfl (by decide) _ 1 _ rfl HO4.out ⟨pb, 0, none⟩ np pcap _ rfl HPL.out HPC.out (pgcells_one _) (by unfold maxLen; omega) (by omega) hb2 ?_)
      intro v5 w5 ho5 hg5 _
      have B5 := hide (B4.out.grown hg5 hb2 (fun k hk => (HO4.out.lt k hk).1))
      have HO5 : Hid (w5.ownsRow w.heap.size 67 6 v5 (pagesAt d l t sq).length (pgcells ((pagesAt d l t sq).map Pg.tu))) := by
        show World.ownsRow _ _ _ _ _ _ _
        rw [HQ.out, List.length_cons, HNP.out, List.map_cons, pgcells_cons, Nat.add_comm]
        exact ho5
      clear ho5 hg5 HPC HPL HNP
      go_wp2
      exact bodyPost_ret (results_tmp2 rfl _ _ _) rfl ⟨sq, HSQ.out, .inl ⟨HOK.out, _, rfl, HO5.out, B5.out⟩⟩
    · rw [dcN hok]
      have HOK := hide hok
      clear po b4 CT hok
      go_wp2
      exact bodyPost_ret (results_tmp2 rfl _ _ _) rfl ⟨sq, HSQ.out, .inr ⟨HOK.out, rfl, B4.out⟩⟩
end Go.Proofs.YtcofcmkajhhfaaaGreatDoor

namespace Go.Proofs.YtcofcmkajhhfaaaGreatDoor
open Go.RowKit
open Words Sums
set_option maxHeartbeats 4000000 in
set_option maxRecDepth 100000 in
theorem iwriteSteps : lawWrOC 9 := by
  intro x d lo hi ra n rc l t w h hh ho hn hr ht hv
  have hrd := h.rd hh ho.fit
  obtain ⟨fv, vv, kv, lo1, hi1, lo2, hi2, e, h1, -, -, h4, -⟩ := h
  subst e
  have hln : l.length = n := by have := hr.1; simpa using this
  have HLN := hide hln
  have b0 := (Below.refl w.heap.size w).alloc (Nat.le_refl _) (.cells #[fv, vv, kv, .int .i64 d.store.next, .int .i64 d.seq, .int .i64 d.tx, .int .i64 d.base] 49)
  have B0 := hide b0
  have R0 := hide (heap_alloc_new w (.cells #[fv, vv, kv, .int .i64 d.store.next, .int .i64 d.seq, .int .i64 d.tx, .int .i64 d.base] 49))
  have HRD := hide (hrd.below b0)
  have HRC := hide (hr.below b0)
  have F0 := hide (Fla.loc lo1 hi1 fv d.flash w (w.alloc (.cells #[fv, vv, kv, .int .i64 d.store.next, .int .i64 d.seq, .int .i64 d.tx, .int .i64 d.base] 49)) (fun g _ g2 => b0.block g (by omega)) h1)
  have HV := hide (hv.on b0)
  have HS := hide (show Sml d.flash from ho.fit.1)
  have HH : Hid (hi1 ≤ w.heap.size) := Nat.le_trans h4 hh
  obtain ⟨R, hR⟩ : ∃ R, writeP d l t = R := ⟨_, rfl⟩
  have HR := hide hR
  rw [hR]
  clear hR h1 h4 ho hv hr hrd hh ht b0
  by_cases hz : n = 0
  · have HE : Hid (R = ([], true)) := by show _ = _; rw [← HR.out]; unfold writeP; rw [if_pos (by omega)]
    have hnz : ((n : Int) == 0) = true := by simp [hz]
    clear hz hln
    go_enter Tryz.func9, Tryz.ntmps9
    go_wp2
    refine bodyPost_ret (results_tmp2 rfl _ _ _) rfl ?_
    rw [HE.out]
    exact ⟨_, rfl, World.ownsRow_nil _ _ _ _, B0.out⟩
  have hnz : ((n : Int) == 0) = false := by rw [beq_eq_false_iff_ne]; omega
  have HL0 : Hid (l.length ≠ 0) := by show _ ≠ _; omega
  have CP := hide (ipagesToWrite _ d ra n rc l t _ HRD.out hn hz HRC.out)
  have hsz : (w.alloc (.cells #[fv, vv, kv, .int .i64 d.store.next, .int .i64 d.seq, .int .i64 d.tx, .int .i64 d.base] 49)).heap.size = w.heap.size + 1 := by simp
  clear hln hz
  go_enter Tryz.func9, Tryz.ntmps9
  go_wp2_with fail
  refine CP.out.mono ?_
  generalize w.alloc (.cells #[fv, vv, kv, .int .i64 d.store.next, .int .i64 d.seq, .int .i64 d.tx, .int .i64 d.base] 49) = w1 at B0 R0 HRD HRC F0 HV CP hsz ⊢
  rintro e w2 ⟨sq, hs, ⟨hok, uv, rfl, po, b2⟩ | ⟨hno, rfl, b2⟩⟩
  · have HE : Hid (R = if (putsP (d.flash, [], true) (pagesAt d l t sq)).2.2 then ((putsP (d.flash, [], true) (pagesAt d l t sq)).2.1, true) else ([], false)) := by show _ = _; rw [← HR.out]; exact write_yes HL0.out hs hok
    have hq := pagesAt_len d l t sq
    have B2 := hide (B0.out.trans (b2.mono B0.out.size))
    have R2 : w2.heap[w.heap.size]? = some (.cells #[fv, vv, kv, .int .i64 d.store.next, .int .i64 d.seq, .int .i64 d.tx, .int .i64 d.base] 49 (0, 0)) := (b2.block _ (by rw [hsz]; exact Nat.lt_succ_self _)).trans R0.out
    have y0 := cell_of_row _ _ 0 _ _ _ R2
    have CG := hide (iprogramSteps fv d.flash lo1 hi1 uv (pagesAt d l t sq) _ w2 (Fla.loc lo1 hi1 fv d.flash w1 w2 (fun g _ g2 => b2.block g (by have := HH.out; omega)) F0.out) (by have := HH.out; have := B2.out.size; omega) HS.out (by omega) (HV.out.on b2) po)
    simp at y0
    clear hq R2 b2 po hs hok CP
    go_wp2_with fail
    refine CG.out.mono ?_
    rintro e w3 ⟨v3, rfl, ho3, b3⟩
    have FN : Hid (WsOut w R (.returned (.tuple #[v3, .bool R.2])) w3) := ⟨_, rfl, by rw [HE.out]; exact own_down ho3 B2.out.size, B2.out.trans (b3.mono B2.out.size)⟩
    rw [← HE.out]
    clear ho3 b3 CG y0
    go_wp2
    refine bodyPost_ret (results_tmp2 rfl _ _ _) rfl ?_
    exact FN.out
  · have HE : Hid (R = ([], false)) := by show _ = _; rw [← HR.out]; exact write_no HL0.out hs hno
    have B2 := hide (B0.out.trans (b2.mono B0.out.size))
    clear b2 hs hno CP
    go_wp2
    refine bodyPost_ret (results_tmp2 rfl _ _ _) rfl ?_
    rw [HE.out]
    exact ⟨_, rfl, World.ownsRow_nil _ _ _ _, B2.out⟩
end Go.Proofs.YtcofcmkajhhfaaaGreatDoor

namespace Go.Proofs.YtcofcmkajhhfaaaGreatDoor
open Go.RowKit
open Words Sums Pack
theorem lawWrO_card (fa : Option Addr) (n fc : Nat) (va : Option Addr) (vl vc : Nat) (ad : Option Addr) (len cap : Nat) (nx sq tx bs : Int) (rs : List Rw) (vs : List (Int × Int)) (kr : List Kw) (ra : Option Addr) (rl rc : Nat) (z : List (Int × Int × Int × Int)) (t : ByteArray) {w : World} (hb : BkRow w fa n rs) (hvl : VlRow w va vl vs) (hk : KnRd w ad len kr) (hr : RcRow w ra rl z) (ht : t.size ≤ maxLen) (_ : World) (hv : HalvIn w) :
    Calls Tryz.prog 3 #[.agg #[.slice fa n fc, .slice va vl vc, .slice ad len cap, .int .i64 nx, .int .i64 sq, .int .i64 tx, .int .i64 bs], .slice ra rl rc, .string t] w fun e w' => e = .returned (.bool true) ∧ Below w.heap.size w w' := by
  have e : (z.map (fun q => (⟨q.1, q.2.1, q.2.2.1, q.2.2.2⟩ : Rc))).map Rc.tu = z := by rw [List.map_map]; exact List.map_id z
  exact lawWrO_of fa n fc rs va vl vc vs ad len cap kr nx sq tx bs ra rl rc (z.map (fun q => (⟨q.1, q.2.1, q.2.2.1, q.2.2.2⟩ : Rc))) t w hv hb hvl hk (by rw [e]; exact hr) ht iwriteSteps
end Go.Proofs.YtcofcmkajhhfaaaGreatDoor

namespace Go.Proofs.YtcofcmkajhhfaaaGreatDoor
open Go.ChangeShapes Go.WideShapes Go.ChangeAt Go.RowKit Go.Deep
set_option maxRecDepth 100000
section
variable {H : Type} {enc : TypeId × Value → H} {w : World} {base : Nat} {sp : Nat → Bool} {held : Bool}
theorem cells3Vl : Tryz.prog.cellsOf 3 = 1 := by kernel_rfl
theorem cellsVl : Tryz.prog.cellsOf 134 = 2 := by kernel_rfl
theorem addrVl (b off j : Nat) : (⟨b, off, none⟩ : Addr).add j = ⟨b, off + j, none⟩ := by
  simp only [Addr.add]
  split <;> simp_all
theorem trodVl {P : Program} {t : TypeId} {f0 f1 : Field} {fuel : Nat} {cs : List Value} {x : DataW H × List MemPlace} (ht : P.underlying t = some (.struct #[f0, f1])) (h : DataW.trod enc P w base sp held fuel t cs = some x) :
    ∃ y0 y1 n, DataW.trod enc P w base sp held n f0.type ((cs.drop f0.offset).take (P.cellsOf f0.type)) = some y0 ∧ DataW.trod enc P w base sp held n f1.type ((cs.drop f1.offset).take (P.cellsOf f1.type)) = some y1 := by
  obtain ⟨xs, n, _, rfl, hl, hlen, hf⟩ := DataW.trod_struct ht h
  match xs, hlen with
  | [y0, y1], _ => exact ⟨y0, y1, n, by simpa using hf 0 f0 rfl, by simpa using hf 1 f1 rfl⟩
theorem open_vls {a : Option Addr} {len cap : Nat} {d : DataW H} {ps : List MemPlace} (hd : DataW.Trod enc Tryz.prog w base sp held 25 (.slice a len cap) d ps) : ∃ ls, VlRow w a len ls := by
  obtain ⟨fuel, hf⟩ := hd
  rcases open_slice Tryz.underlying25 hf with ⟨hcs, _⟩ | ⟨x, l, c, m, n, D, Pl, hcs, _, hl, hm, hmm, _, hx⟩
  · simp [Value.cells] at hcs
    obtain ⟨rfl, rfl, rfl⟩ := hcs
    exact ⟨[], rfl, by omega, by simp, fun h => by omega⟩
  · simp [Value.cells] at hcs
    obtain ⟨rfl, rfl, rfl⟩ := hcs
    have hlm : len ≤ m := by rw [hmm]; split <;> omega
    have each : ∀ i, i < len → ∃ t : Int × Int, w.cell? (x.add (i * 2)) = some (.int .i64 t.1) ∧ w.cell? (x.add (i * 2 + 1)) = some (.int .i64 t.2) ∧ True := by
      intro i hi
      obtain ⟨cs, h1, h2⟩ := hx i (by omega)
      rw [cellsVl] at h1
      obtain ⟨_, hlen, hcell⟩ := World.cells?_some h1
      obtain ⟨y0, y1, k, g0, g1⟩ := trodVl Tryz.underlying134 h2
      simp only [cells3Vl] at g0 g1
      match cs, hlen with
      | [u0, u1], _ =>
        obtain ⟨k0, e0, -, -⟩ := DataW.trod_int Tryz.underlying3 g0
        obtain ⟨k1, e1, -, -⟩ := DataW.trod_int Tryz.underlying3 g1
        simp at e0 e1
        subst e0 e1
        have f0 := hcell 0 (by simp)
        have f1 := hcell 1 (by simp)
        rw [add_add] at f0 f1
        exact ⟨(k0, k1), by simpa using f0, by simpa using f1, trivial⟩
    obtain ⟨f, hq⟩ := choose_lt each
    refine ⟨(List.range len).map f, by simp, by omega, ?_, fun h0 => ?_⟩
    · intro t ht
      obtain ⟨i, hi, rfl⟩ := List.mem_map.1 ht
      exact (hq i (List.mem_range.1 hi)).2.2
    · obtain ⟨b, off, spot⟩ := x
      have hspot : spot = none := by simpa [Addr.add] using World.cell?_spot (hq 0 h0).1
      subst hspot
      refine ⟨b, off, rfl, ?_, fun i t hi => ?_⟩
      · have := World.block_lt_of_cell? w _ (hq 0 h0).1
        rw [addrVl] at this
        exact this
      · obtain ⟨hi1, hi2⟩ := List.getElem?_eq_some_iff.1 hi
        have hil : i < len := by simpa using hi1
        have ht : t = f i := by rw [← hi2]; simp
        subst ht
        have := hq i hil
        rw [addrVl, addrVl] at this
        exact ⟨this.1, this.2.1⟩
end
end Go.Proofs.YtcofcmkajhhfaaaGreatDoor
