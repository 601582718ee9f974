/-
  spec.l10Tx.
-/
import Derived.Test.YtogfdhfmamabiaaLTx
import Derived.Test.YtogfdhfmamabiaaSReadRecs
namespace Go.Proofs.Ytogfdhfmamabiaa
open Go.RowKit
open Words

set_option maxHeartbeats 4000000 in
set_option maxRecDepth 100000 in
theorem sl10 (ad : Option Addr) (len cap : Nat) (M : List Fnd) (tx : Int) (w : World) (hl : len ≤ 1048576) (hs : sumF (fun p => p.text.size) (M.map Fnd.page) ≤ 1048576) (h : FdRd w ad len M) :
    Calls Try.prog 28 #[.slice ad len cap, .int .i64 tx] w (OneOut w (M.map Fnd.page) tx) := by
  have HR := hide h
  have HN := hide (show M.length = len from h.1)
  have HS := hide hs
  clear h hs
  obtain ⟨ps, hps⟩ : ∃ ps, M.map Fnd.page = ps := ⟨_, rfl⟩
  rw [hps] at HS ⊢
  have HP := hide hps
  have hpl : ps.length = len := by rw [← hps, List.length_map]; exact HN.out
  have HPL := hide hpl
  clear hps hpl
  obtain ⟨S, hS⟩ : ∃ S, sumF (fun p => p.count.toNat) ps = S := ⟨_, rfl⟩
  have HSS := hide hS
  clear hS
  have T0 := hide (LT.start w tx)
  go_enter Try.func28, Try.ntmps28
  go_wp2
  generalize (w.alloc (.cells #[.int .i64 0, .int .i64 0, .slice none 0 0] 31)).alloc (.cells #[.int .i64 tx, .int .i64 0, .slice none 0 0] 31) = wa at T0 ⊢
  go_loopw [7, 8, 9] (fun cv tv pv wr => ∃ (k : Nat) (c sq : Int) (t : ByteArray) (done : List Pg), cv = .int .i64 c ∧ tv = .string t ∧ pv = .int .i64 k ∧ k ≤ len ∧ t.size ≤ 1048576 ∧ Hid (LT w wr tx sq) ∧ Hid (Sofar ps tx k c sq t done)) (fun cv _ pv _ => if (intOf pv).toNat = 0 then S + 1 else (intOf cv).toNat - (intOf pv).toNat)
  case atStart => exact ⟨0, 0, 0, ⟨#[]⟩, [], rfl, rfl, rfl, Nat.zero_le _, Nat.zero_le _, T0, rfl, .inl ⟨rfl, rfl, rfl, rfl⟩, Nat.zero_le _, Nat.zero_le _⟩
  case round =>
    obtain ⟨k, c, sq, t, done, rfl, rfl, rfl, hk, ht, T, G⟩ := hrel
    clear T0
    have hk0 : (0 : Int) ≤ k := by omega
    by_cases hgo : k = 0 ∨ (k : Int) < c
    · have HGO := hide hgo
      have eg : ((k : Int) == 0) = true ∨ (((k : Int) == 0) = false ∧ (k : Int) < c) := by
        by_cases e : k = 0
        · subst e; exact .inl rfl
        · exact .inr ⟨by rw [beq_eq_false_iff_ne]; omega, by omega⟩
      clear hgo
      rcases eg with eg | ⟨eg, eg2⟩
      · have hkn : ¬ (0 : Int) < k := by simp at eg; omega
        go_wp2
        go_loopw [7, 8, 10, 11] (fun cv tv fv iv wr => ∃ (m : Nat) (c' : Int) (t' : ByteArray) (f : Bool) (sq' : Int), m ≤ len ∧ cv = .int .i64 c' ∧ tv = .string t' ∧ fv = .bool f ∧ iv = .int .i64 m ∧ t'.size ≤ 1048576 ∧ Hid (LT w wr tx sq') ∧ Hid (Look ps tx k c t sq m c' t' f sq')) (fun _ _ _ iv _ => len - (intOf iv).toNat)
        case atStart => exact ⟨0, c, t, false, sq, Nat.zero_le _, rfl, rfl, rfl, rfl, ht, T, .inl ⟨rfl, rfl, rfl, rfl, rfl⟩⟩
        case round =>
          obtain ⟨m, c', t', f, sq', hm, rfl, rfl, rfl, rfl, ht', T', F⟩ := hrel
          clear T
          cases f with
          | true =>
            obtain ⟨⟨done', G'⟩, n1, n2, n3⟩ := look_next G.out HGO.out HS.out HPL.out HSS.out F.out
            have HG' := hide G'
            have N3 := hide n3
            clear G' n3
            by_cases hlt : (m : Int) < len
            · go_wp2
              go_roundw
              case rel => exact ⟨k + 1, c', sq', t', done', rfl, rfl, by go_num, n2, n1, T', HG'⟩
              case measure => have := N3.out; by_cases hk9 : k = 0 <;> simp [intOf, hk9] at this ⊢ <;> omega
            · go_wp2
              go_roundw
              case rel => exact ⟨k + 1, c', sq', t', done', rfl, rfl, by go_num, n2, n1, T', HG'⟩
              case measure => have := N3.out; by_cases hk9 : k = 0 <;> simp [intOf, hk9] at this ⊢ <;> omega
          | false =>
            by_cases hlt : (m : Int) < len
            · have hml : m < M.length := by have := HN.out; omega
              obtain ⟨x, hx⟩ : ∃ x, M[m]? = some x := ⟨_, List.getElem?_eq_getElem hml⟩
              have hpm : ps[m]? = some x.page := by rw [← HP.out, List.getElem?_map, hx]; rfl
              obtain ⟨rb, ro, rfl, -, -, -, c0, c1, c2, c3, c4, c5⟩ := (HR.out.below T'.out.1).at hx
              have HX := hide hpm
              clear hx hpm hml
              obtain ⟨xb, xl, pk, pq, px, pp, pc, pt⟩ := x
              simp only at c0 c1 c2 c3 c4 c5 HX
              have m0 : (0 : Int) ≤ m := by omega
              have TA := hide (T'.out.below ((Below.refl _ _).alloc (Nat.le_refl _) (.cells #[.int .i64 pk, .int .i64 pq, .int .i64 px, .int .i64 pp, .int .i64 pc, .string pt] 40)))
              by_cases hy : NxB tx k c ⟨pk, pq, px, pp, pc, pt⟩ = true
              · obtain ⟨rfl, rfl, rfl, hnx⟩ := F.out.take HX.out hy
                obtain ⟨-, y1, y2, y3, y4⟩ := nextP_some hnx
                simp only at y1 y2 y3 y4
                have hz := (sofar_size G.out HS.out hnx).2
                simp only at hz
                have q1 : (pk != 2) = false := by rw [y1]; rfl
                have q2 : (px != tx) = false := by rw [y2]; simp
                have q3 : (pp != (k : Int)) = false := by rw [y3]; simp
                have HNX := hide hnx
                clear y1 y2 y3 y4 hnx hy
                obtain ⟨-, l1, -⟩ := TA.out.at
                have lf := TA.out.fr 1
                obtain ⟨u, U⟩ : ∃ u, t' ++ pt = u := ⟨_, rfl⟩
                have hu : u.size ≤ 1048576 := by rw [← U, ByteArray.size_append]; exact hz
                have Y : ¬ (9223372036854775807 < t'.size + pt.size) := by omega
                have TB := hide (TA.out.set pq)
                have LF : Hid (Look ps tx k c' t' sq' (m + 1) pc u true pq) := .inr ⟨rfl, _, HNX.out, rfl, U.symm, by rw [if_pos (.inl (by omega))]⟩
                go_wp2
                go_roundw
                case rel => exact ⟨m + 1, pc, u, true, pq, by omega, rfl, by first | rfl | rw [← U], rfl, by go_num, hu, TB, LF⟩
                case measure => simp [intOf]; omega
              · have hy : NxB tx k c ⟨pk, pq, px, pp, pc, pt⟩ = false := by simpa using hy
                have LF := hide (F.out.skip HX.out hy)
                have hc : c' = c := by rcases F.out with ⟨-, h, -⟩ | ⟨h, -⟩ <;> first | exact h | cases h
                subst hc
                unfold NxB at hy
                simp only [decide_eq_false_iff_not] at hy
                clear F
                by_cases q1 : pk = 2
                · have r1 : (pk != 2) = false := by rw [q1]; rfl
                  by_cases q2 : px = tx
                  · have r2 : (px != tx) = false := by rw [q2]; simp
                    by_cases q3 : pp = (k : Int)
                    · exact absurd ⟨q1, q2, q3, fun h => by omega⟩ hy
                    · have r3 : (pp != (k : Int)) = true := by simpa using q3
                      clear q1 q2 q3 hy
                      go_wp2
                      go_roundw
                      case rel => exact ⟨m + 1, c', t', false, sq', by omega, rfl, rfl, rfl, by go_num, ht', TA, LF⟩
                      case measure => simp [intOf]; omega
                  · have r2 : (px != tx) = true := by simpa using q2
                    clear q1 q2 hy
                    go_wp2
                    go_roundw
                    case rel => exact ⟨m + 1, c', t', false, sq', by omega, rfl, rfl, rfl, by go_num, ht', TA, LF⟩
                    case measure => simp [intOf]; omega
                · have r1 : (pk != 2) = true := by simpa using q1
                  clear q1 hy
                  go_wp2
                  go_roundw
                  case rel => exact ⟨m + 1, c', t', false, sq', by omega, rfl, rfl, rfl, by go_num, ht', TA, LF⟩
                  case measure => simp [intOf]; omega
            · have hno := F.out.none (m := m) (by have := HPL.out; omega)
              have HO : Hid (oneTx ps tx = none) := one_none (G.out.2.1.no HGO.out hno)
              clear hno
              obtain ⟨a0, a1, a2⟩ := T'.out.at
              obtain ⟨b0, b1, b2⟩ := T'.out.at0
              have f0 := T'.out.fr0 0
              have f1 := T'.out.fr0 1
              have f2 := T'.out.fr0 2
              go_wp2
              exact bodyPost_ret (results_tx2 rfl _ _ w.heap.size tx sq' (.slice none 0 0) rfl (tx_set3 T'.out.2.1)) rfl ⟨sq', none, 0, 0, false, rfl, below_tx3 T'.out.1 (Nat.le_refl _), .inl ⟨HO.out, rfl⟩⟩
      · have hkp : (0 : Int) < k := by simp at eg; omega
        go_wp2
        go_loopw [7, 8, 10, 11] (fun cv tv fv iv wr => ∃ (m : Nat) (c' : Int) (t' : ByteArray) (f : Bool) (sq' : Int), m ≤ len ∧ cv = .int .i64 c' ∧ tv = .string t' ∧ fv = .bool f ∧ iv = .int .i64 m ∧ t'.size ≤ 1048576 ∧ Hid (LT w wr tx sq') ∧ Hid (Look ps tx k c t sq m c' t' f sq')) (fun _ _ _ iv _ => len - (intOf iv).toNat)
        case atStart => exact ⟨0, c, t, false, sq, Nat.zero_le _, rfl, rfl, rfl, rfl, ht, T, .inl ⟨rfl, rfl, rfl, rfl, rfl⟩⟩
        case round =>
          obtain ⟨m, c', t', f, sq', hm, rfl, rfl, rfl, rfl, ht', T', F⟩ := hrel
          clear T
          cases f with
          | true =>
            obtain ⟨⟨done', G'⟩, n1, n2, n3⟩ := look_next G.out HGO.out HS.out HPL.out HSS.out F.out
            have HG' := hide G'
            have N3 := hide n3
            clear G' n3
            by_cases hlt : (m : Int) < len
            · go_wp2
              go_roundw
              case rel => exact ⟨k + 1, c', sq', t', done', rfl, rfl, by go_num, n2, n1, T', HG'⟩
              case measure => have := N3.out; by_cases hk9 : k = 0 <;> simp [intOf, hk9] at this ⊢ <;> omega
            · go_wp2
              go_roundw
              case rel => exact ⟨k + 1, c', sq', t', done', rfl, rfl, by go_num, n2, n1, T', HG'⟩
              case measure => have := N3.out; by_cases hk9 : k = 0 <;> simp [intOf, hk9] at this ⊢ <;> omega
          | false =>
            by_cases hlt : (m : Int) < len
            · have hml : m < M.length := by have := HN.out; omega
              obtain ⟨x, hx⟩ : ∃ x, M[m]? = some x := ⟨_, List.getElem?_eq_getElem hml⟩
              have hpm : ps[m]? = some x.page := by rw [← HP.out, List.getElem?_map, hx]; rfl
              obtain ⟨rb, ro, rfl, -, -, -, c0, c1, c2, c3, c4, c5⟩ := (HR.out.below T'.out.1).at hx
              have HX := hide hpm
              clear hx hpm hml
              obtain ⟨xb, xl, pk, pq, px, pp, pc, pt⟩ := x
              simp only at c0 c1 c2 c3 c4 c5 HX
              have m0 : (0 : Int) ≤ m := by omega
              have TA := hide (T'.out.below ((Below.refl _ _).alloc (Nat.le_refl _) (.cells #[.int .i64 pk, .int .i64 pq, .int .i64 px, .int .i64 pp, .int .i64 pc, .string pt] 40)))
              by_cases hy : NxB tx k c ⟨pk, pq, px, pp, pc, pt⟩ = true
              · obtain ⟨rfl, rfl, rfl, hnx⟩ := F.out.take HX.out hy
                obtain ⟨-, y1, y2, y3, y4⟩ := nextP_some hnx
                simp only at y1 y2 y3 y4
                have hz := (sofar_size G.out HS.out hnx).2
                simp only at hz
                have q1 : (pk != 2) = false := by rw [y1]; rfl
                have q2 : (px != tx) = false := by rw [y2]; simp
                have q3 : (pp != (k : Int)) = false := by rw [y3]; simp
                have q4 : (pc != c') = false := by rw [y4 (by omega)]; simp
                have HNX := hide hnx
                clear y1 y2 y3 y4 hnx hy
                obtain ⟨-, l1, -⟩ := TA.out.at
                have lf := TA.out.fr 1
                obtain ⟨u, U⟩ : ∃ u, t' ++ pt = u := ⟨_, rfl⟩
                have hu : u.size ≤ 1048576 := by rw [← U, ByteArray.size_append]; exact hz
                have Y : ¬ (9223372036854775807 < t'.size + pt.size) := by omega
                by_cases hq : pq < sq'
                · have TB := hide (TA.out.set pq)
                  have LF : Hid (Look ps tx k c' t' sq' (m + 1) pc u true pq) := .inr ⟨rfl, _, HNX.out, rfl, U.symm, by rw [if_pos (.inr hq)]⟩
                  go_wp2
                  go_roundw
                  case rel => exact ⟨m + 1, pc, u, true, pq, by omega, rfl, by first | rfl | rw [← U], rfl, by go_num, hu, TB, LF⟩
                  case measure => simp [intOf]; omega
                · have LF : Hid (Look ps tx k c' t' sq' (m + 1) pc u true sq') := .inr ⟨rfl, _, HNX.out, rfl, U.symm, by rw [if_neg (by simp only; omega)]⟩
                  go_wp2
                  go_roundw
                  case rel => exact ⟨m + 1, pc, u, true, sq', by omega, rfl, by first | rfl | rw [← U], rfl, by go_num, hu, TA, LF⟩
                  case measure => simp [intOf]; omega
              · have hy : NxB tx k c ⟨pk, pq, px, pp, pc, pt⟩ = false := by simpa using hy
                have LF := hide (F.out.skip HX.out hy)
                have hc : c' = c := by rcases F.out with ⟨-, h, -⟩ | ⟨h, -⟩ <;> first | exact h | cases h
                subst hc
                unfold NxB at hy
                simp only [decide_eq_false_iff_not] at hy
                clear F
                by_cases q1 : pk = 2
                · have r1 : (pk != 2) = false := by rw [q1]; rfl
                  by_cases q2 : px = tx
                  · have r2 : (px != tx) = false := by rw [q2]; simp
                    by_cases q3 : pp = (k : Int)
                    · have r3 : (pp != (k : Int)) = false := by rw [q3]; simp
                      have r4 : (pc != c') = true := by
                        rw [bne_iff_ne]
                        intro e
                        exact hy ⟨q1, q2, q3, fun _ => e⟩
                      clear q1 q2 q3 hy
                      go_wp2
                      go_roundw
                      case rel => exact ⟨m + 1, c', t', false, sq', by omega, rfl, rfl, rfl, by go_num, ht', TA, LF⟩
                      case measure => simp [intOf]; omega
                    · have r3 : (pp != (k : Int)) = true := by simpa using q3
                      clear q1 q2 q3 hy
                      go_wp2
                      go_roundw
                      case rel => exact ⟨m + 1, c', t', false, sq', by omega, rfl, rfl, rfl, by go_num, ht', TA, LF⟩
                      case measure => simp [intOf]; omega
                  · have r2 : (px != tx) = true := by simpa using q2
                    clear q1 q2 hy
                    go_wp2
                    go_roundw
                    case rel => exact ⟨m + 1, c', t', false, sq', by omega, rfl, rfl, rfl, by go_num, ht', TA, LF⟩
                    case measure => simp [intOf]; omega
                · have r1 : (pk != 2) = true := by simpa using q1
                  clear q1 hy
                  go_wp2
                  go_roundw
                  case rel => exact ⟨m + 1, c', t', false, sq', by omega, rfl, rfl, rfl, by go_num, ht', TA, LF⟩
                  case measure => simp [intOf]; omega
            · have hno := F.out.none (m := m) (by have := HPL.out; omega)
              have HO : Hid (oneTx ps tx = none) := one_none (G.out.2.1.no HGO.out hno)
              clear hno
              obtain ⟨a0, a1, a2⟩ := T'.out.at
              obtain ⟨b0, b1, b2⟩ := T'.out.at0
              have f0 := T'.out.fr0 0
              have f1 := T'.out.fr0 1
              have f2 := T'.out.fr0 2
              go_wp2
              exact bodyPost_ret (results_tx2 rfl _ _ w.heap.size tx sq' (.slice none 0 0) rfl (tx_set3 T'.out.2.1)) rfl ⟨sq', none, 0, 0, false, rfl, below_tx3 T'.out.1 (Nat.le_refl _), .inl ⟨HO.out, rfl⟩⟩
    · have hend := G.out.2.1.end_ hgo
      have eg : ((k : Int) == 0) = false := by rw [beq_eq_false_iff_ne]; omega
      have eg2 : ¬ (k : Int) < c := by omega
      have HE := hide hend
      have hcat := G.out.1
      have HC := hide hcat
      clear hgo hend hcat G
      go_wp2_with fail
      refine (sreadRecs t wr ht).mono ?_
      rintro e w1 ⟨uv, acc, ok, rfl, ho, hb, hx⟩
      have T1 := hide (T.out.below hb)
      have S1 := hide (Sli.of ho)
      have HX := hide hx
      obtain ⟨ua, uc, rfl, -⟩ := S1.out.form
      have S2 : Hid (Sli 34 w.heap.size w1.heap.size (.slice ua acc.length uc) acc.length (rccells (acc.map Rc.tu)) w1) := S1.out.dn T.out.1.size
      have far : Hid (∀ g cs, (Value.slice ua acc.length uc).ownBlock = some g → w1.heap[g]? = some (.cells cs 31 (0, 0)) → False) := by
        intro g cs e q
        obtain ⟨-, -, cs', q'⟩ := S1.out.lt g e
        exact rec_ne_tx q' q
      have HLN := hide (own_len ho)
      clear ho hb hx S1 T
      obtain ⟨a0, a1, a2⟩ := T1.out.at
      have g2 := T1.out.fr 2
      obtain ⟨b0, b1, b2⟩ := T1.out.at0
      have f0 := T1.out.fr0 0
      have f1 := T1.out.fr0 1
      have f2 := T1.out.fr0 2
      have far1 : Hid ((Value.slice ua acc.length uc).ownBlock ≠ some (w.heap.size + 1)) := fun e => far.out _ _ e T1.out.2.2
      have far0 : Hid ((Value.slice ua acc.length uc).ownBlock ≠ some w.heap.size) := fun e => far.out _ _ e T1.out.2.1
      have HZ : Hid (Sli 34 w.heap.size w1.heap.size (.slice ua acc.length uc) acc.length (rccells (acc.map Rc.tu)) (w1.setCell ⟨w.heap.size + 1, 2, none⟩ (.slice ua acc.length uc))) := S2.out.grown (grown_cell w1 (w.heap.size + 1) 2 _) (fun g e e2 => far1.out (by rw [e, ← e2]))
      have HZ3 : Hid (∀ x y z : Value, Sli 34 w.heap.size ((((w1.setCell ⟨w.heap.size + 1, 2, none⟩ (.slice ua acc.length uc)).setCell ⟨w.heap.size, 0, none⟩ x).setCell ⟨w.heap.size, 1, none⟩ y).setCell ⟨w.heap.size, 2, none⟩ z).heap.size (.slice ua acc.length uc) acc.length (rccells (acc.map Rc.tu)) ((((w1.setCell ⟨w.heap.size + 1, 2, none⟩ (.slice ua acc.length uc)).setCell ⟨w.heap.size, 0, none⟩ x).setCell ⟨w.heap.size, 1, none⟩ y).setCell ⟨w.heap.size, 2, none⟩ z)) := by
        intro x y z
        have e : ((((w1.setCell ⟨w.heap.size + 1, 2, none⟩ (.slice ua acc.length uc)).setCell ⟨w.heap.size, 0, none⟩ x).setCell ⟨w.heap.size, 1, none⟩ y).setCell ⟨w.heap.size, 2, none⟩ z).heap.size = w1.heap.size := by simp [World.setCell]
        rw [e]
        have f := fun g (e : (Value.slice ua acc.length uc).ownBlock = some g) (e2 : some w.heap.size = some g) => far0.out (by rw [e, ← e2])
        exact ((HZ.out.grown (grown_cell _ w.heap.size 0 x) f).grown (grown_cell _ w.heap.size 1 y) f).grown (grown_cell _ w.heap.size 2 z) f
      have R0 : Hid ((w1.setCell ⟨w.heap.size + 1, 2, none⟩ (.slice ua acc.length uc)).heap[w.heap.size]? = some (.cells #[.int .i64 0, .int .i64 0, .slice none 0 0] 31 (0, 0))) := row_set_ne T1.out.2.1 (by omega) _ _
      have BB : Hid (Below w.heap.size w (w1.setCell ⟨w.heap.size + 1, 2, none⟩ (.slice ua acc.length uc))) := T1.out.1.setCell (by simp) _
      clear HZ far far1 far0 S2
      have OO : Hid (oneTx ps tx = none ∧ ok = false ∨ ∃ x : TxR, oneTx ps tx = some x ∧ ok = true ∧ x.num = tx ∧ x.seq = sq ∧ acc.length = x.recs.length ∧ x.recs = acc) := by
        have e1 := one_some HE.out.1
        rw [← HC.out] at e1
        rcases HX.out with ⟨q, q2, -⟩ | ⟨q, q2⟩
        · rw [q] at e1; exact .inl ⟨e1, q2⟩
        · rw [q] at e1; exact .inr ⟨_, e1, q2, rfl, HE.out.2.symm, rfl, rfl⟩
      clear HX HE HC
      go_wp2
      refine bodyPost_ret (results_tx2 rfl _ _ w.heap.size tx sq (.slice ua acc.length uc) rfl (tx_set3 R0.out)) rfl ⟨sq, ua, acc.length, uc, ok, rfl, below_tx3 BB.out (Nat.le_refl _), ?_⟩
      rcases OO.out with h | ⟨x, h1, h2, h3, h4, h5, h6⟩
      · exact .inl h
      · exact .inr ⟨x, h1, h2, h3, h4, h5, HLN.out, by rw [h6]; exact HZ3.out _ _ _⟩
end Go.Proofs.Ytogfdhfmamabiaa
