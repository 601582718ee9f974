/-
  Emp; STxP
-/
import Derived.Test.YtfmnaidhfgmemaaGreatDoorPk0
import Derived.Test.YtfmnaidhfgmemaaGreatDoorPk10
import Derived.Test.YtfmnaidhfgmemaaGreatDoorPk27
import Derived.Test.YtfmnaidhfgmemaaGreatDoorPk9
import Derived.Test.YtfmnaidhfgmemaaGreatDoorPk8
namespace Go.Proofs.YtfmnaidhfgmemaaGreatDoor
open Go.RowKit
theorem ask_empty (t : ByteArray) : t.toList.isEmpty = decide (t.size = 0) := by
  rw [ByteArray.toList_eq]
  obtain ⟨⟨l⟩⟩ := t
  cases l with
  | nil => rfl
  | cons a l => exact (decide_eq_false (by simp [ByteArray.size])).symm
end Go.Proofs.YtfmnaidhfgmemaaGreatDoor

namespace Go.Proofs.YtfmnaidhfgmemaaGreatDoor
open Go.RowKit
open Words
set_option maxHeartbeats 2000000 in
set_option maxRecDepth 100000 in
theorem stxPages (seq tx : Int) (ad : Option Addr) (len cap : Nat) (l : List Rc) (w : World) (hl : len ≤ 33554432) (h : RcRow w ad len (l.map Rc.tu)) :
    Calls Tryz.prog 43 #[.int .i64 seq, .int .i64 tx, .slice ad len cap] w (PgOut w (txOut seq tx l) (@decide (TxOk seq tx l) (decTx seq tx l))) := by
  have HR := hide h
  have hn : l.length = len := by have := h.1; simpa using this
  have HN := hide hn
  clear h hn
  have T0 : Hid (TS w ((w.alloc (.cells #[] 92)).alloc (.cells #[.string ⟨#[]⟩] 9)) (.slice (some ⟨w.heap.size + 1, 0, none⟩) 1 1) (pkG (l.take 0))) := TS.start w
  go_enter Tryz.func43, Tryz.ntmps43
  go_wp2
  generalize (w.alloc (.cells #[] 92)).alloc (.cells #[.string ⟨#[]⟩] 9) = wa at T0 ⊢
  go_loopw [9, 10] (fun uv iv wr => ∃ k : Nat, k ≤ len ∧ iv = .int .i64 k ∧ (∃ tg m tc : Nat, uv = .slice (some ⟨tg, 0, none⟩) (m + 1) tc ∧ m ≤ k ∧ Hid (TS w wr (.slice (some ⟨tg, 0, none⟩) (m + 1) tc) (pkG (l.take k)))) ∧ Hid (∀ r ∈ l.take k, r.Right)) (fun _ iv _ => len - (intOf iv).toNat)
  case atStart => exact ⟨0, Nat.zero_le _, rfl, ⟨_, 0, _, rfl, Nat.le_refl _, T0⟩, fun r hr => by simp at hr⟩
  case round =>
    obtain ⟨k, hk, rfl, ⟨tg, m, tc, rfl, hmk, T⟩, RR⟩ := hrel
    clear T0
    by_cases hlt : (k : Int) < len
    · have hkl : k < l.length := by have := HN.out; omega
      obtain ⟨r, hx⟩ : ∃ r, l[k]? = some r := ⟨l[k], List.getElem?_eq_getElem hkl⟩
      obtain ⟨rb, ro, rfl, -, c0, c1, c2, c3⟩ := (HR.out.below T.out.1).at (k := k) (t := r.tu) (by rw [List.getElem?_map, hx]; rfl)
      simp only [Rc.tu] at c0 c1 c2 c3
      have C := hide (srecText r wr)
      unfold rcVal at C
      have k0 : (0 : Int) ≤ k := by omega
      obtain ⟨gi, gl, hpk⟩ : ∃ gi gl, pk (l.take k) = (gi, gl) := ⟨_, _, rfl⟩
      have hG : pkG (l.take k) = gi ++ [gl] := by unfold pkG; rw [hpk]
      have hS : pk (l.take (k + 1)) = pkStep (gi, gl) r := by rw [pk_take hx, hpk]
      rw [hG] at T
      have him : gi.length = m := by have := T.out.len; simpa using this
      by_cases hr : r.Right
      · have hz := recA_size r hr
        rw [rtRes, if_pos hr] at C
        have RR' : Hid (∀ x ∈ l.take (k + 1), x.Right) := by
          intro x hx2
          rw [List.take_add_one, hx, List.mem_append] at hx2
          rcases hx2 with e | e
          · exact RR.out x e
          · simp at e; subst e; exact hr
        have hgl : (recsB gl).size ≤ 90 := by
          rw [recsB_size]
          exact pk_small _ RR.out gl (by rw [hG]; simp)
        obtain ⟨t, ht⟩ : ∃ t, recA r = t := ⟨_, rfl⟩
        rw [ht] at C hz
        go_wp2_with fail
        refine C.out.mono ?_
        rintro e w1 ⟨rfl, b1⟩
        have T1 := hide (T.out.below b1)
        clear b1 T C c0 c1 c2 c3
        have d0 : w1.cell? ⟨tg, m, none⟩ = some (.string (recsB gl)) := T1.out.at_ (by subst him; simp)
        have em : ((m + 1 : Nat) : Int) - 1 = (m : Int) := by omega
        have m0 : (0 : Int) ≤ m := by omega
        have hSz : (recsL gl).length + (recL r).length = (recsB gl).size + t.size := by
          rw [recsB_size, ← ht]
          congr 1
        by_cases hgt : (90 : Int) < (recsB gl).size + t.size
        · have hG' : pkG (l.take (k + 1)) = (gi ++ [gl]) ++ [[r]] := by
            unfold pkG
            rw [hS, pkStep]
            simp only
            rw [if_pos (by omega)]
          have et : t = recsB [r] := by rw [recsB_one, ht]
          obtain ⟨i0, hi0, hz0, hz1, hz2⟩ := info_parts infoText
          have I0 := hide hi0
          have Z0 := hide hz0
          have Z1 := hide hz1
          have Z2 := hide hz2
          have OW := hide (T1.out.2.2.alloc (.cells #[.string t] 9))
          have HZ := hide (show w.heap.size + 1 ≤ (w1.alloc (.cells #[.string t] 9)).heap.size by have := (Array.getElem?_eq_some_iff.1 T1.out.2.1).1; simp; omega)
          rw [T1.out.len] at OW
          have H1 := hide (one_cell w1 (.string t) 9)
          have H2 := hide (one_text t)
          have TA := hide (T1.out.below ((Below.refl _ _).alloc (Nat.le_refl _) (.cells #[.string t] 9)))
          have HGI := hide hG'
          have HET := hide et
          clear hi0 hz0 hz1 hz2 hG' et hG hS hpk hx hSz
          generalize recsB gl = tl at d0 hgt hgl ⊢
          go_wp2_with (at_builtin; refine wpList_append_own _ rfl _ _ 134 rfl (w.heap.size + 1) 9 i0 (.string ⟨#[]⟩) 1 16 Tryz.underlying134 I0.out Z0.out Z1.out Z2.out rfl (by decide) _ _ _ rfl OW.out ⟨w1.heap.size, 0, none⟩ 1 1 [Value.string t] rfl rfl H1.out H2.out ?c1 ?c2 HZ.out ?_)
          case c1 => unfold maxLen; omega
          case c2 => omega
          intro u' y ho hg _
          have ho2 : y.ownsRow (w.heap.size + 1) 9 1 u' ((gi ++ [gl]) ++ [[r]]).length (gcels ((gi ++ [gl]) ++ [[r]])) := by
            rw [← gcels_snoc, ← HET.out]
            have : ((gi ++ [gl]) ++ [[r]]).length = m + 1 + 1 := by simp [him]
            rw [this]
            exact ho
          have TN := hide (TA.out.grown hg ho2)
          rw [← HGI.out] at TN
          rcases ho.2 with ⟨-, h0⟩ | ⟨ug', uc', cur, rfl, -, -, -, -, -, -⟩
          · omega
          clear ho hg ho2 OW HZ H1 H2 TA I0 Z0 Z1 Z2 HGI HET T1
          go_wp2
          go_roundw
          case rel => exact ⟨k + 1, by omega, by go_num, ⟨ug', m + 1, uc', rfl, by omega, TN⟩, RR'⟩
          case measure => simp [intOf]; omega
        · have hG' : pkG (l.take (k + 1)) = gi ++ [gl ++ [r]] := by
            unfold pkG
            rw [hS, pkStep]
            simp only
            rw [if_neg (by omega)]
          have et : recsB gl ++ t = recsB (gl ++ [r]) := by rw [← recsB_snoc, ht]
          have TN := hide (T1.out.stored (y := gl ++ [r]) him)
          rw [← hG', ← et] at TN
          have f0 : w1.frozen? ⟨tg, m, none⟩ = false := by
            have h3 := T1.out.2.2
            rw [T1.out.len] at h3
            exact h3.frozenAt m
          have Y : ¬ (9223372036854775807 < (recsB gl).size + t.size) := by omega
          clear hG' et hG hS hpk hx hSz
          generalize recsB gl = tl at d0 hgt hgl TN Y ⊢
          obtain ⟨u, U⟩ : ∃ u, tl ++ t = u := ⟨_, rfl⟩
          rw [U] at TN
          go_wp2
          go_roundw
          case rel => exact ⟨k + 1, by omega, by go_num, ⟨tg, m, tc, rfl, by omega, TN⟩, RR'⟩
          case measure => simp [intOf]; omega
      · rw [rtRes, if_neg hr] at C
        have HO : Hid (txOut seq tx l = [] ∧ @decide (TxOk seq tx l) (decTx seq tx l) = false) := by
          have : ¬ TxOk seq tx l := fun h => hr (h.1 r (List.mem_of_getElem? hx))
          exact ⟨if_neg this, dcN this⟩
        go_wp2_with fail
        refine C.out.mono ?_
        rintro e w1 ⟨rfl, b1⟩
        have T1 := hide (T.out.below b1)
        clear b1 T C c0 c1 c2 c3
        go_wp2
        go_ret2
        rw [HO.out.1, HO.out.2]
        exact ⟨_, rfl, T1.out.none, T1.out.1⟩
    · have hkn : k = l.length := by have := HN.out; omega
      rw [hkn, List.take_length] at T RR
      have hm := T.out.len
      by_cases h9 : (9 : Int) < ((m + 1 : Nat) : Int)
      · have HO : Hid (txOut seq tx l = [] ∧ @decide (TxOk seq tx l) (decTx seq tx l) = false) := by
          have : ¬ TxOk seq tx l := fun h => by have := h.2.1; omega
          exact ⟨if_neg this, dcN this⟩
        clear hm
        go_wp2
        go_ret2
        rw [HO.out.1, HO.out.2]
        exact ⟨_, rfl, T.out.none, T.out.1⟩
      · by_cases hq : 1 ≤ seq ∧ seq ≤ 1000000000 - ((m + 1 : Nat) : Int) + 1
        · by_cases ht : 1 ≤ tx ∧ tx ≤ 1000000000
          · have hok : TxOk seq tx l := ⟨RR.out, by omega, hq.1, by rw [hm]; exact hq.2, ht.1, ht.2⟩
            have HO : Hid (txOut seq tx l = txPgs seq tx l ∧ @decide (TxOk seq tx l) (decTx seq tx l) = true) := ⟨if_pos hok, dcY hok⟩
            have HM := hide hm
            clear hm hok
            go_wp2_with fail
            refine (sin_b seq 1 _ true _ (.inl ⟨by omega, by omega, rfl⟩)).mono ?_
            rintro e w1 ⟨rfl, rfl⟩
            go_wp2_with fail
            refine (sin_b tx 1 1000000000 true _ (.inl ⟨by omega, by omega, rfl⟩)).mono ?_
            rintro e w1 ⟨rfl, rfl⟩
            have P0 := hide (PSx.start T.out)
            obtain ⟨x0, hx0⟩ : ∃ x0, w1.heap.size = x0 := ⟨_, rfl⟩
            rw [hx0] at P0
            go_wp2_with fail
            try rw [hx0]
            generalize w1.alloc (.cells #[] 92) = wb at P0 ⊢
            go_loopw [14, 15] (fun ov iv wr => ∃ j : Nat, j ≤ m + 1 ∧ iv = .int .i64 j ∧ Hid (PSx w wr (.slice (some ⟨tg, 0, none⟩) (m + 1) tc) (pkG l) ov ((txPgs seq tx l).take j))) (fun _ iv _ => m + 1 - (intOf iv).toNat)
            case atStart => exact ⟨0, Nat.zero_le _, rfl, P0⟩
            case round =>
              obtain ⟨j, hj, rfl, P⟩ := hrel
              clear P0
              by_cases hlt2 : (j : Int) < ((m + 1 : Nat) : Int)
              · have hjl : j < (pkG l).length := by have := HM.out; omega
                obtain ⟨g, hg0⟩ : ∃ g, (pkG l)[j]? = some g := ⟨_, List.getElem?_eq_getElem hjl⟩
                have d0 := P.out.1.at_ hg0
                obtain ⟨pg, hpg⟩ : ∃ pg : Pg, pg = ⟨2, seq + j, tx, j, ((m + 1 : Nat) : Int), recsB g⟩ := ⟨_, rfl⟩
                have hT : Hid ((txPgs seq tx l).take j ++ [pg] = (txPgs seq tx l).take (j + 1)) := by
                  show _ = _
                  rw [List.take_add_one, txPgs_get hg0, hpg]
                  simp [pgTx, HM.out]
                have hlen : ((txPgs seq tx l).take j).length = j := by rw [List.length_take, txPgs_len]; omega
                have P1 := hide (P.out.below ((Below.refl _ _).alloc (Nat.le_refl _) (.cells #[.int .i64 2, .int .i64 (seq + j), .int .i64 tx, .int .i64 j, .int .i64 ((m + 1 : Nat) : Int), .string (recsB g)] 92)))
                have HN2 := hide (pg_new wr pg wr.heap.size rfl)
                have HO2 := hide (pg_one pg)
                have HSn := hide (pg_snoc ((txPgs seq tx l).take j) pg)
                rw [hpg] at HN2 HO2
                simp only [Pg.tu, pgcell] at HN2 HO2
                have OW := hide P1.out.2
                have HZ := hide (show w.heap.size + 1 ≤ (wr.alloc (.cells #[.int .i64 2, .int .i64 (seq + j), .int .i64 tx, .int .i64 j, .int .i64 ((m + 1 : Nat) : Int), .string (recsB g)] 92)).heap.size by have := (Array.getElem?_eq_some_iff.1 P1.out.1.2.1).1; omega)
                rw [hlen] at OW
                have HL := hide hlen
                have HP := hide hpg
                obtain ⟨i0, hi0, hz0, hz1, hz2⟩ := info_parts infoPg
                have I0 := hide hi0
                have Z0 := hide hz0
                have Z1 := hide hz1
                have Z2 := hide hz2
                clear hi0 hz0 hz1 hz2 hlen hpg hg0 P
                generalize (txPgs seq tx l).take j = Qj at P1 HSn OW hT HL
                generalize recsB g = tt at d0 P1 HN2 HO2 OW HZ HP ⊢
                have j0 : (0 : Int) ≤ j := by omega
                go_wp2_with (at_builtin; refine wpList_append_own _ rfl _ _ 93 rfl (w.heap.size + 1) 92 i0 (.agg #[.int .i64 0, .int .i64 0, .int .i64 0, .int .i64 0, .int .i64 0, .string ⟨#[]⟩]) 6 56 Tryz.underlying93 I0.out Z0.out Z1.out Z2.out rfl (by decide) _ _ _ rfl OW.out ⟨wr.heap.size, 0, none⟩ 1 1 [.int .i64 2, .int .i64 (seq + j), .int .i64 tx, .int .i64 j, .int .i64 ((m + 1 : Nat) : Int), .string tt] rfl rfl HN2.out HO2.out ?c1 ?c2 HZ.out ?_)
                case c1 => unfold maxLen; omega
                case c2 => omega
                intro u' y ho hg _
                have ho2 : y.ownsRow (w.heap.size + 1) 92 6 u' ((txPgs seq tx l).take (j + 1)).length (pgcells (((txPgs seq tx l).take (j + 1)).map Pg.tu)) := by
                  rw [← hT.out, ← HSn.out, List.length_append, HL.out, HP.out]
                  exact ho
                have PN := hide (P1.out.grown hg ho2)
                clear ho hg ho2 OW HZ HN2 HO2 HSn P1 I0 Z0 Z1 Z2 hT HP HL d0
                go_wp2
                go_roundw
                case rel => exact ⟨j + 1, by omega, by go_num, PN⟩
                case measure => simp [intOf]; omega
              · have hjn : j = (txPgs seq tx l).length := by rw [txPgs_len]; have := HM.out; omega
                rw [hjn, List.take_length] at P
                go_wp2
                go_ret2
                rw [HO.out.1, HO.out.2]
                exact ⟨_, rfl, own_lower P.out.2 (Nat.le_succ _), P.out.1.1⟩
          · have HO : Hid (txOut seq tx l = [] ∧ @decide (TxOk seq tx l) (decTx seq tx l) = false) := by
              have : ¬ TxOk seq tx l := fun h => ht h.2.2.2.2
              exact ⟨if_neg this, dcN this⟩
            clear hm
            go_wp2_with fail
            refine (sin_b seq 1 _ true _ (.inl ⟨by omega, by omega, rfl⟩)).mono ?_
            rintro e w1 ⟨rfl, rfl⟩
            go_wp2_with fail
            refine (sin_b tx 1 1000000000 false _ (.inr ⟨by omega, rfl⟩)).mono ?_
            rintro e w1 ⟨rfl, rfl⟩
            go_wp2
            go_ret2
            rw [HO.out.1, HO.out.2]
            exact ⟨_, rfl, T.out.none, T.out.1⟩
        · have HO : Hid (txOut seq tx l = [] ∧ @decide (TxOk seq tx l) (decTx seq tx l) = false) := by
            have : ¬ TxOk seq tx l := fun h => hq ⟨h.2.2.1, by have := h.2.2.2.1; rw [hm] at this; exact this⟩
            exact ⟨if_neg this, dcN this⟩
          clear hm
          go_wp2_with fail
          refine (sin_b seq 1 _ false _ (.inr ⟨by omega, rfl⟩)).mono ?_
          rintro e w1 ⟨rfl, rfl⟩
          go_wp2
          go_ret2
          rw [HO.out.1, HO.out.2]
          exact ⟨_, rfl, T.out.none, T.out.1⟩
end Go.Proofs.YtfmnaidhfgmemaaGreatDoor
