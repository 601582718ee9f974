/-
  A drawn store and a record: spec.DrawStoreRec.
-/
import Derived.Test.YtcnaahajaaifjaaPq29
import Derived.Test.YtcnaahajaaifjaaPq10
import Derived.Test.YtcnaahajaaifjaaPq8
namespace Go.Proofs.Ytcnaahajaaifjaa
open Go.RowKit
open Words

/-- A drawn store and a record, answered. -/
def DSR (w : World) (e : Ending) (w' : World) : Prop :=
  ∃ u s r, e = .returned (.tuple #[u, rcVal r]) ∧ s.Drn ∧ r.vol ≤ 3 ∧ VCap u ∧ Sts w.heap.size w'.heap.size u s w' ∧ Below w.heap.size w w'
theorem infoRec4 : (Try.prog.info? 31).map (·.size) = some 4 := by kernel_rfl
theorem res_str {fn : Func} {p q : Tmp} (h : fn.results = #[.cell p 29, .cell q 31]) (tmps : Array Value) (w : World) (g k : Nat) (a b c d0 d1 d2 d3 : Value)
    (hp : tmps.getD p undef = .pointer (some ⟨g, 0, none⟩)) (hq : tmps.getD q undef = .pointer (some ⟨k, 0, none⟩)) (hg : w.heap[g]? = some (.cells #[a, b, c] 29 (0, 0))) (hk : w.heap[k]? = some (.cells #[d0, d1, d2, d3] 31 (0, 0))) :
    (results fn tmps).run Try.prog w = .ok (.tuple #[.agg #[a, b, c], .agg #[d0, d1, d2, d3]]) w := by
  have hp' : tmps[p]?.getD undef = .pointer (some ⟨g, 0, none⟩) := by simpa using hp
  have hq' : tmps[q]?.getD undef = .pointer (some ⟨k, 0, none⟩) := by simpa using hq
  have hl := run_loadVar_row (P := Try.prog) w g 29 29 #[a, b, c] (0, 0) _ hg Try.underlying29 rfl infoSto
  have hm := run_loadVar_row (P := Try.prog) w k 31 31 #[d0, d1, d2, d3] (0, 0) _ hk Try.underlying31 rfl infoRec4
  simp [results, h, hp', hq', asAddr, hl, hm]
/-- The end: both are laid into the answer's cells. -/
theorem dsr_fin {xo : Obj} {w w1 W : World} {z G zb p : Nat} {ad : Option Addr} {len cap : Nat} {a b : Value} {s : Sto} {r : Rc} (hz : w.heap.size = z) (hw1 : Below w.heap.size w w1) (h1 : z + 1 < w1.heap.size) (hp : w.heap.size ≤ p) (h : SDr xo w1 W G zb p ad len cap a b s) (hv : r.vol ≤ 3) :
    DSR w (.returned (.tuple #[.agg #[a, b, .int .i64 s.next], .agg #[.int .i64 r.kind, .int .i64 r.vol, .int .i64 r.arg, .int .i64 r.chunk]])) (((((((W.setCell ⟨z, 0, none⟩ a).setCell ⟨z, 1, none⟩ b).setCell ⟨z, 2, none⟩ (.int .i64 s.next)).setCell ⟨z + 1, 0, none⟩ (.int .i64 r.kind)).setCell ⟨z + 1, 1, none⟩ (.int .i64 r.vol)).setCell ⟨z + 1, 2, none⟩ (.int .i64 r.arg)).setCell ⟨z + 1, 3, none⟩ (.int .i64 r.chunk)) := by
  have hb : Below w.heap.size w W := hw1.trans (grown_below h.1.1 hp hw1.size)
  have hq : ∀ q, q ≠ z → q ≠ z + 1 → (((((((W.setCell ⟨z, 0, none⟩ a).setCell ⟨z, 1, none⟩ b).setCell ⟨z, 2, none⟩ (.int .i64 s.next)).setCell ⟨z + 1, 0, none⟩ (.int .i64 r.kind)).setCell ⟨z + 1, 1, none⟩ (.int .i64 r.vol)).setCell ⟨z + 1, 2, none⟩ (.int .i64 r.arg)).setCell ⟨z + 1, 3, none⟩ (.int .i64 r.chunk)).heap[q]? = W.heap[q]? := fun q q1 q2 => (Below.heap_setCell _ _ _ _ q2).trans ((Below.heap_setCell _ _ _ _ q2).trans ((Below.heap_setCell _ _ _ _ q2).trans ((Below.heap_setCell _ _ _ _ q2).trans ((Below.heap_setCell _ _ _ _ q1).trans ((Below.heap_setCell _ _ _ _ q1).trans (Below.heap_setCell _ _ _ _ q1))))))
  have hsz : (((((((W.setCell ⟨z, 0, none⟩ a).setCell ⟨z, 1, none⟩ b).setCell ⟨z, 2, none⟩ (.int .i64 s.next)).setCell ⟨z + 1, 0, none⟩ (.int .i64 r.kind)).setCell ⟨z + 1, 1, none⟩ (.int .i64 r.vol)).setCell ⟨z + 1, 2, none⟩ (.int .i64 r.arg)).setCell ⟨z + 1, 3, none⟩ (.int .i64 r.chunk)).heap.size = W.heap.size := by simp [World.setCell]
  obtain ⟨vv, kv, lo1, hi1, lo2, hi2, e, q1, q2, q3, q4, q5, q6, q7⟩ := h.sth
  have a1 : w.heap.size ≤ z := by omega
  have a2 : w.heap.size ≤ z + 1 := by omega
  refine ⟨_, s, r, rfl, h.2.2.2.2.1, hv, h.2.2.2.2.2.1, ⟨vv, kv, lo1, hi1, lo2, hi2, e, ?_, ?_, by omega, by omega, by omega, by omega, q7⟩, ?_⟩
  · exact Sli.loc _ _ _ _ _ _ W _ (fun g g1 g2 => hq g (by omega) (by omega)) q1
  · exact Kns.loc _ _ _ _ W _ (fun g g1 g2 => hq g (by omega) (by omega)) q2
  · exact ((((((hb.setCell (p := ⟨z, 0, none⟩) a1 _).setCell (p := ⟨z, 1, none⟩) a1 _).setCell (p := ⟨z, 2, none⟩) a1 _).setCell (p := ⟨z + 1, 0, none⟩) a2 _).setCell (p := ⟨z + 1, 1, none⟩) a2 _).setCell (p := ⟨z + 1, 2, none⟩) a2 _).setCell (p := ⟨z + 1, 3, none⟩) a2 _

set_option maxHeartbeats 4000000 in
set_option maxRecDepth 100000 in
theorem drawSR (ad : Option Addr) (len cap : Nat) (w : World) (hl : len ≤ 1048576) (hd : CodeIn w ad len w.heap.size) :
    Calls Try.prog 10 #[.slice ad len cap] w (DSR w) := by
  have T0 := hide (Tk.two w #[.slice none 0 0, .slice none 0 0, .int .i64 0] #[.int .i64 0, .int .i64 0, .int .i64 0, .int .i64 0] 29 31)
  have HD0 := hide (hd.on T0.out.1 (Nat.le_refl _))
  clear hd
  go_enter Try.func10, Try.ntmps10
  go_wp2_with fail
  generalize (w.alloc (.cells #[.slice none 0 0, .slice none 0 0, .int .i64 0] 29)).alloc (.cells #[.int .i64 0, .int .i64 0, .int .i64 0, .int .i64 0] 31) = w0 at T0 HD0 ⊢
  refine (new_any ad len cap w.heap.size _ hl HD0.out).mono ?_
  rintro e w1 ⟨p, rfl, hp, hc, b1⟩
  have T1 := hide (T0.out.below b1)
  have hpw := hc.2.2.2.2.2
  have s0 : w.heap.size + 1 + 1 ≤ w0.heap.size := T0.out.hi 0 rfl
  have s1 := b1.size
  have HD := hide (HD0.out.on b1 (by omega))
  have HC := hide hc
  have hB : w.heap.size ≤ p := by omega
  have HPW := hide hpw
  have HZP : Hid (w.heap.size ≠ p ∧ w.heap.size + 1 ≠ p) := ⟨by omega, by omega⟩
  clear hc b1 T0 HD0
  go_wp2_with fail
  refine (dstore p ad len cap w.heap.size _ hl HC.out HD.out hB).mono ?_
  rintro e w2 ⟨u, s, rfl, hs, hcp, hst, d2, hlt2⟩
  obtain ⟨va, vc, kd, kc, rfl⟩ := hst.form
  obtain ⟨xo, hx⟩ := SDr.of hpw hs hcp hst d2 hlt2
  have SD := hide hx
  obtain ⟨n, hn⟩ : ∃ n, s.vols.length = n := ⟨_, rfl⟩
  obtain ⟨m, hm⟩ : ∃ m, s.kns.length = m := ⟨_, rfl⟩
  have HN := hide hn
  have hn3 : n ≤ 3 := by rw [← hn]; exact hs.1.few
  rw [hn, hm] at SD ⊢
  clear hs hcp hst d2 hx hn hm HC
  go_wp2_with fail
  generalize w2.alloc (.cells #[.slice va n vc, .slice kd m kc, .int .i64 s.next] 29) = w3 at SD ⊢
  obtain ⟨zb, hzb⟩ : ∃ zb, w2.heap.size = zb := ⟨_, rfl⟩
  rw [hzb] at SD ⊢
  clear hzb
  refine (drecK p ad len cap w.heap.size _ hl SD.out.1.2 (SD.out.1.code HD.out hB hpw) hB).mono ?_
  rintro e x2 ⟨r, rfl, hr, d2⟩
  have RR := hide (SRr.new (SD.out.go d2) hr)
  obtain ⟨kind, vol, arg, chunk⟩ := r
  simp only at RR
  unfold rcVal
  simp only
  clear SD d2 hr
  go_upto_region 4 with fail
  generalize x2.alloc (.cells #[.int .i64 kind, .int .i64 vol, .int .i64 arg, .int .i64 chunk] 31) = x2a at RR ⊢
  obtain ⟨g, hg⟩ : ∃ g, x2.heap.size = g := ⟨_, rfl⟩
  rw [hg] at RR ⊢
  obtain ⟨G2, hG2⟩ : ∃ G2, G2 = g := ⟨_, rfl⟩
  have RX : Hid (SRr xo w1 x2a G2 zb p g ad len cap (.slice va n vc) (.slice kd m kc) s ⟨kind, vol, arg, chunk⟩) := by rw [hG2]; exact RR.out
  clear RR hg hG2
  go_cut [26] (fun s26 V => ∃ bb : Bool, s26 = .bool bb ∧ (bb = true → 0 < n) ∧ Hid (SRr xo w1 V G2 zb p g ad len cap (.slice va n vc) (.slice kd m kc) s ⟨kind, vol, arg, chunk⟩))
  case first =>
    obtain ⟨c0, c1, c2⟩ := RX.out.1.cells
    obtain ⟨d0, d1, d2, d3⟩ := RX.out.rc
    simp only at d0 d1 d2 d3
    by_cases n0 : 0 < n
    · have n1 : (n : Int) > 0 := by omega
      by_cases k2 : kind = 2
      · have k2b : (kind != 2) = false := by simpa using k2
        go_wp2_with fail
        go_meet
        case rel => exact ⟨false, rfl, (fun h => by cases h), RX⟩
      · have k2b : (kind != 2) = true := by simpa using k2
        go_wp2_with fail
        refine (srr_once hl HD.out hB 6 (by omega) RX.out).mono ?_
        rintro e x3 ⟨b3, rfl, S3⟩
        go_wp2_with fail
        go_meet
        case rel => exact ⟨!b3, rfl, (fun _ => n0), S3⟩
    · have n1 : ¬ ((n : Int) > 0) := by omega
      go_wp2_with fail
      go_meet
      case rel => exact ⟨false, rfl, (fun h => by cases h), RX⟩
  case rest =>
    obtain ⟨bb, hs26, hbn, RY⟩ := hcut
    subst hs26
    obtain ⟨V, hV⟩ : ∃ V, V = wc := ⟨_, rfl⟩
    subst hV
    clear RX
    have RX := RY
    clear RY
    go_upto_if 26 with fail
    go_cut [] (fun V => ∃ vol : Int, Hid (SRr xo w1 V G2 zb p g ad len cap (.slice va n vc) (.slice kd m kc) s ⟨kind, vol, arg, chunk⟩))
    case first =>
      cases bb with
      | false =>
        go_wp2_with fail
        go_meet
        case rel => exact ⟨vol, RX⟩
      | true =>
        obtain ⟨vb, vo, hva, -⟩ := (RX.out.1.row HN.out).at (List.getElem?_eq_getElem (show 0 < s.vols.length by rw [HN.out]; exact hbn rfl))
        subst hva
        have KK : Hid (∀ W, SRr xo w1 W G2 zb p g ad len cap (.slice (some ⟨vb, vo, none⟩) n vc) (.slice kd m kc) s ⟨kind, vol, arg, chunk⟩ → W.cell? ⟨zb, 0, none⟩ = some (.slice (some ⟨vb, vo, none⟩) n vc) ∧ ∀ j : Nat, j < n → W.cell? ⟨vb, vo + j * 2, none⟩ = some (.int .i64 (s.vols[j]?.getD (0, 0)).1)) := fun W H => by
          refine ⟨H.1.cells.1, fun j hj => ?_⟩
          have hj2 : j < s.vols.length := by rw [HN.out]; exact hj
          obtain ⟨b', o', e, -, q, -⟩ := (H.1.row HN.out).at (List.getElem?_eq_getElem hj2)
          injection e with e
          injection e with e1 e2
          subst e1 e2
          rw [List.getElem?_eq_getElem hj2]
          exact q
        have CB : Hid (∀ W, SRr xo w1 W G2 zb p g ad len cap (.slice (some ⟨vb, vo, none⟩) n vc) (.slice kd m kc) s ⟨kind, vol, arg, chunk⟩ → Calls Try.prog 38 #[.pointer (some ⟨p, 0, none⟩), .int .i64 (n : Int)] W fun e w' => ∃ k : Nat, e = .returned (.int .i64 (k : Int)) ∧ k < n ∧ Hid (SRr xo w1 w' G2 zb p g ad len cap (.slice (some ⟨vb, vo, none⟩) n vc) (.slice kd m kc) s ⟨kind, vol, arg, chunk⟩)) := fun W H => by
          refine (srr_below hl HD.out hB (n : Int) (by have := hbn rfl; omega) (by omega) H).mono ?_
          rintro e w' ⟨x, rfl, x0, x1, hS⟩
          exact ⟨x.toNat, by rw [Int.toNat_of_nonneg x0], by omega, hS⟩
        have RXd : Hid (SRr xo w1 V.drew G2 zb p g ad len cap (.slice (some ⟨vb, vo, none⟩) n vc) (.slice kd m kc) s ⟨kind, vol, arg, chunk⟩) := RX.out.bel (Below.refl _ _).drew
        go_upto_region 5 with fail
        go_region_held3 (fun w' => w'.cell? ⟨zb, 0, none⟩ = some (.slice (some ⟨vb, vo, none⟩) n vc) ∧ ∀ j : Nat, j < n → w'.cell? ⟨vb, vo + j * 2, none⟩ = some (.int .i64 (s.vols[j]?.getD (0, 0)).1)) (first | exact KK.out _ RXd.out | exact KK.out _ S3.out | exact KK2.out) (first
          | (go_at_call 38; (with_reducible refine Calls.mono (CB.out _ RXd.out) ?_); rintro en x3 ⟨k3, rfl, hk3, S3⟩; have NV := hide (S3.out.vol (v := (s.vols[k3]?.getD (0, 0)).1) (drn_id S3.out.1.2.2.2.2.1 k3)); have KK2 := hide (keep_vol NV.out HN.out); have kc := S3.out.rc.2.1; have kf := S3.out.rf.2.1; simp only at kc kf))
        all_goals
          go_wp2_with fail
          go_meet
          case rel => exact ⟨_, NV⟩
    case rest =>
      obtain ⟨V1, hV1⟩ : ∃ V1, V1 = wc := ⟨_, rfl⟩
      subst hV1
      clear hbn RX
      obtain ⟨vol, RX⟩ := hcut
      go_wp2_with fail
      refine (srr_once hl HD.out hB 12 (by omega) RX.out).mono ?_
      rintro e x3 ⟨b3, rfl, S3⟩
      clear RX
      obtain ⟨z, hz⟩ : ∃ z, w.heap.size = z := ⟨_, rfl⟩
      have HZ := hide hz
      have ZS : Hid (x3.heap[w.heap.size]? = some (.cells #[.slice none 0 0, .slice none 0 0, .int .i64 0] 29 (0, 0))) := (S3.out.1.1.1.block w.heap.size (by omega) (fun e => by injection e with e; exact HZP.out.1 e)).trans (T1.out.get 1 rfl)
      have ZR : Hid (x3.heap[w.heap.size + 1]? = some (.cells #[.int .i64 0, .int .i64 0, .int .i64 0, .int .i64 0] 31 (0, 0))) := (S3.out.1.1.1.block (w.heap.size + 1) (by omega) (fun e => by injection e with e; exact HZP.out.2 e)).trans (T1.out.get 0 rfl)
      have B1 := hide T1.out.1
      have HZ1 : Hid (z + 1 < w1.heap.size) := by show _ < _; omega
      have HPP : Hid (w.heap.size ≤ p) := hB
      rw [hz] at ZS ZR ⊢
      have zg : z + 1 < g := by
        have h1 := S3.out.1.2.2.2.1
        have h2 := S3.out.2.1
        omega
      have zzb : z + 1 < zb := by have h1 := S3.out.1.2.2.2.1; omega
      have EZ := hide (show z ≠ zb ∧ z ≠ g ∧ z + 1 ≠ zb ∧ z + 1 ≠ g ∧ zb ≠ g by
        have h1 := S3.out.1.2.2.2.1
        have h2 := S3.out.2.1
        refine ⟨?_, ?_, ?_, ?_, ?_⟩ <;> omega)
      clear hz T1
      go_upto_if 39 with fail
      go_cut [] (fun V => ∃ r : Rc, r.vol ≤ 3 ∧ Hid (SDr xo w1 V G2 zb p ad len cap (.slice va n vc) (.slice kd m kc) s ∧ V.heap[g]? = some (.cells #[.int .i64 r.kind, .int .i64 r.vol, .int .i64 r.arg, .int .i64 r.chunk] 31 (0, 0)) ∧ V.heap[z]? = some (.cells #[.slice none 0 0, .slice none 0 0, .int .i64 0] 29 (0, 0)) ∧ V.heap[z + 1]? = some (.cells #[.int .i64 0, .int .i64 0, .int .i64 0, .int .i64 0] 31 (0, 0))))
      case first =>
        cases b3 with
        | false =>
          go_wp2_with fail
          go_meet
          case rel => exact ⟨⟨kind, vol, arg, chunk⟩, S3.out.2.2.2.2.1, S3.out.1, S3.out.2.2.1, ZS.out, ZR.out⟩
        | true =>
          obtain ⟨d0, d1, d2, d3⟩ := S3.out.rc
          obtain ⟨f0, f1, f2, f3⟩ := S3.out.rf
          simp only at d0 d1 d2 d3 f0 f1 f2 f3
          have NV := hide ((((S3.out.1.wr (k := 0) S3.out.2.1 (.int .i64 1)).wr (k := 1) S3.out.2.1 (.int .i64 0)).wr (k := 2) S3.out.2.1 (.int .i64 4)).wr (k := 3) S3.out.2.1 (.int .i64 0))
          have NR := hide (four_cs (a := .int .i64 1) (b := .int .i64 0) (c := .int .i64 4) (d := .int .i64 0) S3.out.2.2.1)
          have NS := hide (row_set_ne (row_set_ne (row_set_ne (row_set_ne ZS.out EZ.out.2.1 0 (.int .i64 1)) EZ.out.2.1 1 (.int .i64 0)) EZ.out.2.1 2 (.int .i64 4)) EZ.out.2.1 3 (.int .i64 0))
          have NT := hide (row_set_ne (row_set_ne (row_set_ne (row_set_ne ZR.out EZ.out.2.2.2.1 0 (.int .i64 1)) EZ.out.2.2.2.1 1 (.int .i64 0)) EZ.out.2.2.2.1 2 (.int .i64 4)) EZ.out.2.2.2.1 3 (.int .i64 0))
          clear ZS ZR
          go_wp2_with fail
          go_meet
          case rel => exact ⟨⟨1, 0, 4, 0⟩, show (0 : Int) ≤ 3 by omega, NV.out, NR.out, NS.out, NT.out⟩
      case rest =>
        obtain ⟨V2, hV2⟩ : ∃ V2, V2 = wc := ⟨_, rfl⟩
        subst hV2
        clear S3 ZS ZR
        obtain ⟨r, hv, HF⟩ := hcut
        go_upto_region 8 with fail
        have HG : Hid (SDr xo w1 V2.drew G2 zb p ad len cap (.slice va n vc) (.slice kd m kc) s ∧ V2.drew.heap[g]? = some (.cells #[.int .i64 r.kind, .int .i64 r.vol, .int .i64 r.arg, .int .i64 r.chunk] 31 (0, 0)) ∧ V2.drew.heap[z]? = some (.cells #[.slice none 0 0, .slice none 0 0, .int .i64 0] 29 (0, 0)) ∧ V2.drew.heap[z + 1]? = some (.cells #[.int .i64 0, .int .i64 0, .int .i64 0, .int .i64 0] 31 (0, 0))) := ⟨HF.out.1.bel (Below.refl _ _).drew, HF.out.2.1, HF.out.2.2.1, HF.out.2.2.2⟩
        have FIN := hide (dsr_fin (r := r) HZ.out B1.out HZ1.out HPP.out HG.out.1 hv)
        have FR1 := hide (row_set_ne (row_set_ne (row_set_ne (row_set_ne (sto_row3 (a := .slice va n vc) (b := .slice kd m kc) (c := .int .i64 s.next) HG.out.2.2.1) (show z ≠ z + 1 by omega) 0 (.int .i64 r.kind)) (show z ≠ z + 1 by omega) 1 (.int .i64 r.vol)) (show z ≠ z + 1 by omega) 2 (.int .i64 r.arg)) (show z ≠ z + 1 by omega) 3 (.int .i64 r.chunk))
        have ZR3 := hide (row_set_ne (row_set_ne (row_set_ne HG.out.2.2.2 (show z + 1 ≠ z by omega) 0 (.slice va n vc)) (show z + 1 ≠ z by omega) 1 (.slice kd m kc)) (show z + 1 ≠ z by omega) 2 (.int .i64 s.next))
        have FR2 := hide (four_cs (a := .int .i64 r.kind) (b := .int .i64 r.vol) (c := .int .i64 r.arg) (d := .int .i64 r.chunk) ZR3.out)
        have KS0 : Hid ((V2.drew.cell? ⟨zb, 0, none⟩ = some (.slice va n vc) ∧ V2.drew.cell? ⟨zb, 1, none⟩ = some (.slice kd m kc) ∧ V2.drew.cell? ⟨zb, 2, none⟩ = some (.int .i64 s.next)) ∧ V2.drew.cell? ⟨g, 0, none⟩ = some (.int .i64 r.kind) ∧ V2.drew.cell? ⟨g, 1, none⟩ = some (.int .i64 r.vol) ∧ V2.drew.cell? ⟨g, 2, none⟩ = some (.int .i64 r.arg) ∧ V2.drew.cell? ⟨g, 3, none⟩ = some (.int .i64 r.chunk)) := ⟨HG.out.1.cells, cell_of_row _ _ 0 _ _ _ HG.out.2.1, cell_of_row _ _ 1 _ _ _ HG.out.2.1, cell_of_row _ _ 2 _ _ _ HG.out.2.1, cell_of_row _ _ 3 _ _ _ HG.out.2.1⟩
        have RZ := hide (row_set_ne (row_set_ne (row_set_ne HG.out.1.var (Ne.symm EZ.out.1) 0 (.slice va n vc)) (Ne.symm EZ.out.1) 1 (.slice kd m kc)) (Ne.symm EZ.out.1) 2 (.int .i64 s.next))
        have RG := hide (row_set_ne (row_set_ne (row_set_ne HG.out.2.1 (Ne.symm EZ.out.2.1) 0 (.slice va n vc)) (Ne.symm EZ.out.2.1) 1 (.slice kd m kc)) (Ne.symm EZ.out.2.1) 2 (.int .i64 s.next))
        have a0 : V2.drew.cell? ⟨z, 0, none⟩ = some (.slice none 0 0) := cell_of_row _ _ 0 _ _ _ HG.out.2.2.1
        have a1 : V2.drew.cell? ⟨z, 1, none⟩ = some (.slice none 0 0) := cell_of_row _ _ 1 _ _ _ HG.out.2.2.1
        have a2 : V2.drew.cell? ⟨z, 2, none⟩ = some (.int .i64 0) := cell_of_row _ _ 2 _ _ _ HG.out.2.2.1
        have g0 : V2.drew.frozen? ⟨z, 0, none⟩ = false := frozen_of_row _ _ 0 _ _ HG.out.2.2.1
        have g1 : V2.drew.frozen? ⟨z, 1, none⟩ = false := frozen_of_row _ _ 1 _ _ HG.out.2.2.1
        have g2 : V2.drew.frozen? ⟨z, 2, none⟩ = false := frozen_of_row _ _ 2 _ _ HG.out.2.2.1
        clear HF HG
        refine wp_region_last2 3 (S := fun w' => (w'.cell? ⟨zb, 0, none⟩ = some (.slice va n vc) ∧ w'.cell? ⟨zb, 1, none⟩ = some (.slice kd m kc) ∧ w'.cell? ⟨zb, 2, none⟩ = some (.int .i64 s.next)) ∧ w'.cell? ⟨g, 0, none⟩ = some (.int .i64 r.kind) ∧ w'.cell? ⟨g, 1, none⟩ = some (.int .i64 r.vol) ∧ w'.cell? ⟨g, 2, none⟩ = some (.int .i64 r.arg) ∧ w'.cell? ⟨g, 3, none⟩ = some (.int .i64 r.chunk)) (by kernel_rfl) rfl (by kernel_rfl) KS0.out (fun hHeld => ?_)
        simp only [List.dropLast_cons_cons, List.dropLast_singleton, List.length_cons, List.length_nil, Nat.reduceAdd]
        generalize V2.drew = V3 at hHeld FIN FR1 FR2 ZR3 RZ RG a0 a1 a2 g0 g1 g2 ⊢
        refine takeL 0 (v := ?_) rfl (by kernel_rfl) (by kernel_rfl) (by kernel_rfl) (fun _ _ _ h => h) (by rfl) (by assumption) ?_ ?_
        rotate_left 1
        · (intro w hSw; (try dsimp only at hSw); go_simp; all_goals with_reducible rfl)
        simp only [Act.put, List.setIfInBounds_toArray, List.set_cons_zero, List.set_cons_succ]
        refine takeL 1 (v := ?_) rfl (by kernel_rfl) (by kernel_rfl) (by kernel_rfl) (fun _ _ _ h => h) (by rfl) (by assumption) ?_ ?_
        rotate_left 1
        · (intro w hSw; (try dsimp only at hSw); go_simp; all_goals with_reducible rfl)
        simp only [Act.put, List.setIfInBounds_toArray, List.set_cons_zero, List.set_cons_succ]
        refine oneL 2 rfl (by kernel_rfl) (fun K hK => ?_)
        go_simp
        refine hK.out _ _ ⟨⟨cell_of_row _ _ 0 _ _ _ RZ.out, cell_of_row _ _ 1 _ _ _ RZ.out, cell_of_row _ _ 2 _ _ _ RZ.out⟩, cell_of_row _ _ 0 _ _ _ RG.out, cell_of_row _ _ 1 _ _ _ RG.out, cell_of_row _ _ 2 _ _ _ RG.out, cell_of_row _ _ 3 _ _ _ RG.out⟩ (fun hHeld2 => ?_)
        clear hK K hHeld
        have hHeld := hHeld2
        clear hHeld2
        (try simp only [Act.put, List.setIfInBounds_toArray, List.set_cons_zero, List.set_cons_succ])
        refine doneL (by kernel_rfl) (last_go ?_)
        clear hHeld
        have b0 := cell_of_row _ _ 0 _ _ _ ZR3.out
        have b1 := cell_of_row _ _ 1 _ _ _ ZR3.out
        have b2 := cell_of_row _ _ 2 _ _ _ ZR3.out
        have b3 := cell_of_row _ _ 3 _ _ _ ZR3.out
        have h0 := frozen_of_row _ _ 0 _ _ ZR3.out
        have h1 := frozen_of_row _ _ 1 _ _ ZR3.out
        have h2 := frozen_of_row _ _ 2 _ _ ZR3.out
        have h3 := frozen_of_row _ _ 3 _ _ ZR3.out
        clear ZR3 RZ RG a0 a1 a2 g0 g1 g2
        go_wp2
        exact bodyPost_ret (res_str (p := 2) (q := 3) rfl _ _ z (z + 1) _ _ _ _ _ _ _ rfl rfl FR1.out FR2.out) rfl FIN.out
end Go.Proofs.Ytcnaahajaaifjaa
