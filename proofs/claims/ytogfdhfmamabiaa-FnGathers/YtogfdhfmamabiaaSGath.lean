/-
  spec.Gather.
-/
import Derived.Test.YtogfdhfmamabiaaSL10
import Derived.Test.YtogfdhfmamabiaaSSince
namespace Go.Proofs.Ytogfdhfmamabiaa
open Go.RowKit
open Words

theorem icells_len (l : List Int) : (icells l).length = l.length := by simp [icells]
theorem own_int_at {w : World} {B g n c : Nat} {l : List Int} (h : Sli 3 B w.heap.size (.slice (some ⟨g, 0, none⟩) n c) n (icells l) w) {k : Nat} {x : Int} (hk : l[k]? = some x) : w.cell? ⟨g, k, none⟩ = some (.int .i64 x) := by
  have hl := (List.getElem?_eq_some_iff.1 hk)
  exact h.flt.cell (by rw [icells_at l k hl.1, hl.2])
theorem filter_take {l : List Int} {f : Int → Bool} {k : Nat} {x : Int} (h : l[k]? = some x) : (l.take (k + 1)).filter f = (l.take k).filter f ++ if f x then [x] else [] := by
  rw [List.take_add_one, h, List.filter_append]
  cases hf : f x <;> simp [hf]
theorem fm_take {l : List Int} {f : Int → Option TxR} {k : Nat} {x : Int} (h : l[k]? = some x) : (l.take (k + 1)).filterMap f = (l.take k).filterMap f ++ (f x).toList := by
  rw [List.take_add_one, h, List.filterMap_append]
  cases hf : f x <;> simp [hf]

set_option maxHeartbeats 4000000 in
set_option maxRecDepth 100000 in
theorem sgather (ad : Option Addr) (len cap : Nat) (M : List Fnd) (w : World) (hl : len ≤ 1048576) (hs : sumF (fun p => p.text.size) (M.map Fnd.page) ≤ 1048576) (h : FdRd w ad len M) :
    Calls Try.prog 9 #[.slice ad len cap] w (TxOut w (gatherP (M.map Fnd.page))) := by
  have HR := hide h
  have HN := hide (show M.length = len from h.1)
  have HL := hide hl
  have HS := hide hs
  clear h hs
  obtain ⟨ps, hps⟩ : ∃ ps, M.map Fnd.page = ps := ⟨_, rfl⟩
  have CX : Hid (∀ W tx, Below w.heap.size w W → Calls Try.prog 28 #[.slice ad len cap, .int .i64 tx] W (OneOut W ps tx)) := by
    intro W tx hb
    rw [← hps]
    exact sl10 ad len cap M tx W hl HS.out (HR.out.below hb)
  rw [hps] at HS ⊢
  have HP := hide hps
  have HPL : Hid (ps.length = len) := by show _ = _; rw [← hps, List.length_map]; exact HN.out
  clear hps
  have N0 : Hid (Below w.heap.size w (w.alloc (.cells #[] 3)) ∧ Sli 3 w.heap.size (w.alloc (.cells #[] 3)).heap.size (.slice (some ⟨w.heap.size, 0, none⟩) 0 0) 0 (icells []) (w.alloc (.cells #[] 3))) :=
    ⟨(Below.refl _ _).alloc (Nat.le_refl _) _, .inr ⟨w.heap.size, 0, rfl, Nat.le_refl _, by simp, #[], heap_alloc_new w _, by intro i v hv; simp [icells] at hv⟩⟩
  go_enter Try.func9, Try.ntmps9
  go_wp2
  generalize w.alloc (.cells #[] 3) = wa at N0 ⊢
  go_loopw [3, 4] (fun nv iv wr => ∃ (k n nc : Nat) (na : Option Addr) (ns : List Int), nv = .slice na n nc ∧ iv = .int .i64 k ∧ k ≤ len ∧ n ≤ k ∧ Hid (ns.length = n ∧ ns = numsP (ps.take k)) ∧ Hid (Below w.heap.size w wr ∧ Sli 3 w.heap.size wr.heap.size (.slice na n nc) n (icells ns) wr)) (fun _ iv _ => len - (intOf iv).toNat)
  case atStart => exact ⟨0, 0, 0, _, [], rfl, rfl, Nat.zero_le _, Nat.le_refl _, ⟨rfl, rfl⟩, N0⟩
  case round =>
    obtain ⟨k, n, nc, na, ns, rfl, rfl, hk, hnk, E, W0⟩ := hrel
    clear N0
    by_cases hlt : (k : Int) < len
    · have hml : k < M.length := by have := HN.out; omega
      obtain ⟨x, hx⟩ : ∃ x, M[k]? = some x := ⟨_, List.getElem?_eq_getElem hml⟩
      have hpm : ps[k]? = some x.page := by rw [← HP.out, List.getElem?_map, hx]; rfl
      obtain ⟨rb, ro, rfl, -, -, -, c0, c1, c2, c3, c4, c5⟩ := (HR.out.below W0.out.1).at hx
      have E1 : Hid (numsP (ps.take (k + 1)) = numStep ns x.page) := by show _ = _; rw [numsP_take hpm, E.out.2]
      have L1 : Hid ((numsP (ps.take (k + 1))).length ≤ k + 1) := Nat.le_trans (numsP_len _) (by rw [List.length_take]; omega)
      clear hx hpm hml
      obtain ⟨xb, xl, pk, pq, px, pp, pc, pt⟩ := x
      simp only at c0 c1 c2 c3 c4 c5 E1
      have k0 : (0 : Int) ≤ k := by omega
      have BA : Hid (Below wr.heap.size wr (wr.alloc (.cells #[.int .i64 pk, .int .i64 pq, .int .i64 px, .int .i64 pp, .int .i64 pc, .string pt] 40))) := (Below.refl _ _).alloc (Nat.le_refl _) _
      by_cases q1 : pk = 2
      · have r1 : (pk != 2) = false := by rw [q1]; rfl
        rw [numStep, if_pos (show (Pg.mk pk pq px pp pc pt).kind = 2 from q1)] at E1
        simp only at E1
        rw [E1.out] at L1
        have WA : Hid (Below w.heap.size w (wr.alloc (.cells #[.int .i64 pk, .int .i64 pq, .int .i64 px, .int .i64 pp, .int .i64 pc, .string pt] 40)) ∧ Sli 3 w.heap.size (wr.alloc (.cells #[.int .i64 pk, .int .i64 pq, .int .i64 px, .int .i64 pp, .int .i64 pc, .string pt] 40)).heap.size (.slice na n nc) n (icells ns) (wr.alloc (.cells #[.int .i64 pk, .int .i64 pq, .int .i64 px, .int .i64 pp, .int .i64 pc, .string pt] 40)) ∧ (wr.alloc (.cells #[.int .i64 pk, .int .i64 pq, .int .i64 px, .int .i64 pp, .int .i64 pc, .string pt] 40)).cell? ⟨wr.heap.size, 2, none⟩ = some (.int .i64 px)) :=
          ⟨W0.out.1.trans (BA.out.mono W0.out.1.size), (W0.out.2.blw BA.out).up BA.out.size, by simp⟩
        obtain ⟨b0, hb0⟩ : ∃ b0, wr.heap.size = b0 := ⟨_, rfl⟩
        have hzA : (wr.alloc (.cells #[.int .i64 pk, .int .i64 pq, .int .i64 px, .int .i64 pp, .int .i64 pc, .string pt] 40)).heap.size = b0 + 1 := by rw [← hb0]; simp
        rw [hzA, hb0] at WA
        have O1 : Hid (Below (b0 + 1) (wr.alloc (.cells #[.int .i64 pk, .int .i64 pq, .int .i64 px, .int .i64 pp, .int .i64 pc, .string pt] 40)) ((wr.alloc (.cells #[.int .i64 pk, .int .i64 pq, .int .i64 px, .int .i64 pp, .int .i64 pc, .string pt] 40)).alloc (.cells #[] 3)) ∧ ((wr.alloc (.cells #[.int .i64 pk, .int .i64 pq, .int .i64 px, .int .i64 pp, .int .i64 pc, .string pt] 40)).alloc (.cells #[] 3)).ownsRow (b0 + 1) 3 1 (.slice (some ⟨b0 + 1, 0, none⟩) 0 0) 0 (icells [])) := by
          refine ⟨by rw [← hzA]; exact (Below.refl _ _).alloc (Nat.le_refl _) _, rfl, .inr ⟨b0 + 1, 0, #[], rfl, Nat.le_refl _, ?_, Nat.le_refl _, by unfold maxLen; omega, rfl, rfl⟩⟩
          have := heap_alloc_new (wr.alloc (.cells #[.int .i64 pk, .int .i64 pq, .int .i64 px, .int .i64 pp, .int .i64 pc, .string pt] 40)) (.cells #[] 3)
          rw [hzA] at this
          exact this
        have HB0 := hide hb0
        have HB1 := hide hzA
        clear W0 BA hzA q1
        go_wp2_with fail
        try rw [hb0]
        clear hb0 c0 c1 c2 c3 c4 c5
        generalize wr.alloc (.cells #[.int .i64 pk, .int .i64 pq, .int .i64 px, .int .i64 pp, .int .i64 pc, .string pt] 40) = w1 at WA O1 HB1 ⊢
        generalize w1.alloc (.cells #[] 3) = w2 at O1 ⊢
        obtain ⟨nad, ncp, hne, hnf⟩ := WA.out.2.1.form
        have HNF := hide (show 0 < n → ∃ g, na = some ⟨g, 0, none⟩ ∧ w.heap.size ≤ g ∧ g < b0 + 1 by injection hne with h1 h2 h3; rw [h1]; exact hnf)
        clear hne hnf
        go_loopw [6, 7] (fun ov jv W => ∃ (j : Nat) (zs : List Int), jv = .int .i64 j ∧ j ≤ n ∧ zs.length ≤ j ∧ Hid (zs = (ns.take j).filter (fun y => decide (y < px))) ∧ Hid (Below (b0 + 1) w1 W ∧ W.ownsRow (b0 + 1) 3 1 ov zs.length (icells zs))) (fun _ jv _ => n - (intOf jv).toNat)
        case atStart => exact ⟨0, [], rfl, Nat.zero_le _, Nat.le_refl _, rfl, O1⟩
        case round =>
          obtain ⟨j, zs, rfl, hj, hzj, EZ, OZ⟩ := hrel
          have px2 : wr.cell? ⟨b0, 2, none⟩ = some (.int .i64 px) := (OZ.out.1.cell (by show b0 < b0 + 1; omega)).trans WA.out.2.2
          by_cases hlt2 : (j : Int) < n
          · obtain ⟨g, rfl, -, hg⟩ := HNF.out (by omega)
            obtain ⟨y, hy⟩ : ∃ y, ns[j]? = some y := ⟨_, List.getElem?_eq_getElem (by have := E.out.1; omega)⟩
            have CY : Hid (∀ W, Below (b0 + 1) w1 W → W.cell? ⟨g, j, none⟩ = some (.int .i64 y)) := by
              intro W hW
              have hl2 := List.getElem?_eq_some_iff.1 hy
              exact (hW.cell (show g < b0 + 1 from hg)).trans (WA.out.2.1.flt.cell (by rw [icells_at ns j hl2.1, hl2.2]))
            have cy := CY.out _ OZ.out.1
            have j0 : (0 : Int) ≤ j := by omega
            have F1 := hide (filter_take (f := (fun y => decide (y < px))) hy)
            clear hy
            by_cases hyx : y < px
            · have F2 : Hid (zs ++ [y] = (ns.take (j + 1)).filter (fun y => decide (y < px))) := by
                show _ = _
                rw [F1.out, EZ.out]
                simp [hyx]
              go_wp2
              go_quiet (fail)
              have bd := below_drewN (Below.refl wr.heap.size wr) nq
              have OD : Hid (Below (b0 + 1) w1 (wr.drewN nq) ∧ (wr.drewN nq).ownsRow (b0 + 1) 3 1 u6 zs.length (icells zs)) := ⟨OZ.out.1.trans (bd.mono (by have := OZ.out.1.size; have := HB1.out; omega)), own_below OZ.out.2 bd⟩
              clear OZ px2 cy bd F1 EZ
              generalize wr.drewN nq = w3 at OD ⊢
              have cy := CY.out _ OD.out.1
              have BN : Hid (Below w3.heap.size w3 (w3.alloc (.cells #[.int .i64 y] 3))) := (Below.refl _ _).alloc (Nat.le_refl _) _
              have OW := hide (own_below OD.out.2 BN.out)
              have H1 := hide (one_cell w3 (.int .i64 y) 3)
              have H2 := hide (one_i64 y)
              have HSZ := hide (show b0 + 1 ≤ (w3.alloc (.cells #[.int .i64 y] 3)).heap.size by have := OD.out.1.size; have := HB1.out; have := BN.out.size; omega)
              obtain ⟨i0, hi0, hz0, hz1, hz2⟩ := info_parts infoInt
              have I0 := hide hi0
              have Z0 := hide hz0
              have Z1 := hide hz1
              have Z2 := hide hz2
              clear hi0 hz0 hz1 hz2
              go_wp2_with (at_builtin; refine wpList_append_own _ rfl _ _ 60 rfl (b0 + 1) 3 i0 (.int .i64 0) 1 8 Try.underlying60 I0.out Z0.out Z1.out Z2.out rfl (by decide) _ _ _ rfl OW.out ⟨w3.heap.size, 0, none⟩ 1 1 [Value.int .i64 y] rfl rfl H1.out H2.out ?c1 ?c2 HSZ.out ?_)
              case c1 => unfold maxLen; omega
              case c2 => omega
              intro u' z ho hg2 _
              rw [icells_snoc, show zs.length + 1 = (zs ++ [y]).length by simp] at ho
              have ON : Hid (Below (b0 + 1) w1 z ∧ z.ownsRow (b0 + 1) 3 1 u' (zs ++ [y]).length (icells (zs ++ [y]))) := ⟨(OD.out.1.trans (BN.out.mono (by have := OD.out.1.size; have := HB1.out; omega))).grown hg2 (by have := HSZ.out; have := HB1.out; omega) (fun k hk => (OW.out.lt k hk).1), ho⟩
              have hl3 : (zs ++ [y]).length ≤ (j + 1) := by simp; omega
              generalize zs ++ [y] = zs2 at ON F2 hl3
              clear ho hg2 OW H1 H2 HSZ I0 Z0 Z1 Z2 BN OD cy
              go_wp2
              go_roundw
              case rel => exact ⟨j + 1, zs2, by go_num, by omega, hl3, F2, ON⟩
              case measure => simp [intOf]; omega
            · have F2 : Hid (zs = (ns.take (j + 1)).filter (fun y => decide (y < px))) := by
                show _ = _
                rw [F1.out, EZ.out]
                simp [hyx]
              go_wp2
              go_quiet (fail)
              have bd := below_drewN (Below.refl wr.heap.size wr) nq
              have OD : Hid (Below (b0 + 1) w1 (wr.drewN nq) ∧ (wr.drewN nq).ownsRow (b0 + 1) 3 1 u6 zs.length (icells zs)) := ⟨OZ.out.1.trans (bd.mono (by have := OZ.out.1.size; have := HB1.out; omega)), own_below OZ.out.2 bd⟩
              clear bd
              go_wp2
              go_roundw
              case rel => exact ⟨j + 1, zs, by go_num, by omega, by omega, F2, OD⟩
              case measure => simp [intOf]; omega
          · have hjn : j = ns.length := by have := E.out.1; omega
            have EF : Hid (zs = ns.filter (fun y => decide (y < px))) := by show _ = _; rw [EZ.out, hjn, List.take_length]
            clear hjn EZ
            -- and the number itself
            have BN : Hid (Below wr.heap.size wr (wr.alloc (.cells #[.int .i64 px] 3))) := (Below.refl _ _).alloc (Nat.le_refl _) _
            have OW := hide (own_below OZ.out.2 BN.out)
            have H1 := hide (one_cell wr (.int .i64 px) 3)
            have H2 := hide (one_i64 px)
            have HSZ := hide (show b0 + 1 ≤ (wr.alloc (.cells #[.int .i64 px] 3)).heap.size by have := OZ.out.1.size; have := HB1.out; have := BN.out.size; omega)
            obtain ⟨i0, hi0, hz0, hz1, hz2⟩ := info_parts infoInt
            have I0 := hide hi0
            have Z0 := hide hz0
            have Z1 := hide hz1
            have Z2 := hide hz2
            clear hi0 hz0 hz1 hz2
            go_wp2_with (at_builtin; refine wpList_append_own _ rfl _ _ 60 rfl (b0 + 1) 3 i0 (.int .i64 0) 1 8 Try.underlying60 I0.out Z0.out Z1.out Z2.out rfl (by decide) _ _ _ rfl OW.out ⟨wr.heap.size, 0, none⟩ 1 1 [Value.int .i64 px] rfl rfl H1.out H2.out ?c1 ?c2 HSZ.out ?_)
            case c1 => unfold maxLen; omega
            case c2 => omega
            intro u' z ho hg2 _
            rw [icells_snoc, show zs.length + 1 = (zs ++ [px]).length by simp] at ho
            have ON : Hid (Below (b0 + 1) w1 z ∧ z.ownsRow (b0 + 1) 3 1 u' (zs ++ [px]).length (icells (zs ++ [px]))) := ⟨(OZ.out.1.trans (BN.out.mono (by have := OZ.out.1.size; have := HB1.out; omega))).grown hg2 (by have := HSZ.out; have := HB1.out; omega) (fun k hk => (OW.out.lt k hk).1), ho⟩
            have hl3 : (zs ++ [px]).length ≤ n + 1 := by simp; omega
            have PZ : Hid (zs ++ [px] = ns.filter (fun y => decide (y < px)) ++ [px]) := by show _ = _; rw [EF.out]
            generalize zs ++ [px] = pre at ON PZ hl3
            clear ho hg2 OW H1 H2 HSZ I0 Z0 Z1 Z2 BN OZ px2 EF
            go_wp2
            go_loopw [6, 8] (fun ov jv W => ∃ (j : Nat) (zs : List Int), jv = .int .i64 j ∧ j ≤ n ∧ zs.length ≤ n + 1 + j ∧ Hid (zs = pre ++ (ns.take j).filter (fun y => decide (px < y))) ∧ Hid (Below (b0 + 1) w1 W ∧ W.ownsRow (b0 + 1) 3 1 ov zs.length (icells zs))) (fun _ jv _ => n - (intOf jv).toNat)
            case atStart => exact ⟨0, pre, rfl, Nat.zero_le _, hl3, by show _ = _; simp, ON⟩
            case round =>
              obtain ⟨j, zs, rfl, hj, hzj, EZ, OZ⟩ := hrel
              have px2 : wr.cell? ⟨b0, 2, none⟩ = some (.int .i64 px) := (OZ.out.1.cell (by show b0 < b0 + 1; omega)).trans WA.out.2.2
              by_cases hlt2 : (j : Int) < n
              · obtain ⟨g, rfl, -, hg⟩ := HNF.out (by omega)
                obtain ⟨y, hy⟩ : ∃ y, ns[j]? = some y := ⟨_, List.getElem?_eq_getElem (by have := E.out.1; omega)⟩
                have CY : Hid (∀ W, Below (b0 + 1) w1 W → W.cell? ⟨g, j, none⟩ = some (.int .i64 y)) := by
                  intro W hW
                  have hl2 := List.getElem?_eq_some_iff.1 hy
                  exact (hW.cell (show g < b0 + 1 from hg)).trans (WA.out.2.1.flt.cell (by rw [icells_at ns j hl2.1, hl2.2]))
                have cy := CY.out _ OZ.out.1
                have j0 : (0 : Int) ≤ j := by omega
                have F1 := hide (filter_take (f := (fun y => decide (px < y))) hy)
                clear hy
                by_cases hyx : px < y
                · have F2 : Hid (zs ++ [y] = pre ++ (ns.take (j + 1)).filter (fun y => decide (px < y))) := by
                    show _ = _
                    rw [F1.out, EZ.out]
                    simp [hyx]
                  go_wp2
                  go_quiet (fail)
                  have bd := below_drewN (Below.refl wr.heap.size wr) nq
                  have OD : Hid (Below (b0 + 1) w1 (wr.drewN nq) ∧ (wr.drewN nq).ownsRow (b0 + 1) 3 1 u6 zs.length (icells zs)) := ⟨OZ.out.1.trans (bd.mono (by have := OZ.out.1.size; have := HB1.out; omega)), own_below OZ.out.2 bd⟩
                  clear OZ px2 cy bd F1 EZ
                  generalize wr.drewN nq = w3 at OD ⊢
                  have cy := CY.out _ OD.out.1
                  have BN : Hid (Below w3.heap.size w3 (w3.alloc (.cells #[.int .i64 y] 3))) := (Below.refl _ _).alloc (Nat.le_refl _) _
                  have OW := hide (own_below OD.out.2 BN.out)
                  have H1 := hide (one_cell w3 (.int .i64 y) 3)
                  have H2 := hide (one_i64 y)
                  have HSZ := hide (show b0 + 1 ≤ (w3.alloc (.cells #[.int .i64 y] 3)).heap.size by have := OD.out.1.size; have := HB1.out; have := BN.out.size; omega)
                  obtain ⟨i0, hi0, hz0, hz1, hz2⟩ := info_parts infoInt
                  have I0 := hide hi0
                  have Z0 := hide hz0
                  have Z1 := hide hz1
                  have Z2 := hide hz2
                  clear hi0 hz0 hz1 hz2
                  go_wp2_with (at_builtin; refine wpList_append_own _ rfl _ _ 60 rfl (b0 + 1) 3 i0 (.int .i64 0) 1 8 Try.underlying60 I0.out Z0.out Z1.out Z2.out rfl (by decide) _ _ _ rfl OW.out ⟨w3.heap.size, 0, none⟩ 1 1 [Value.int .i64 y] rfl rfl H1.out H2.out ?c1 ?c2 HSZ.out ?_)
                  case c1 => unfold maxLen; omega
                  case c2 => omega
                  intro u' z ho hg2 _
                  rw [icells_snoc, show zs.length + 1 = (zs ++ [y]).length by simp] at ho
                  have ON : Hid (Below (b0 + 1) w1 z ∧ z.ownsRow (b0 + 1) 3 1 u' (zs ++ [y]).length (icells (zs ++ [y]))) := ⟨(OD.out.1.trans (BN.out.mono (by have := OD.out.1.size; have := HB1.out; omega))).grown hg2 (by have := HSZ.out; have := HB1.out; omega) (fun k hk => (OW.out.lt k hk).1), ho⟩
                  have hl3 : (zs ++ [y]).length ≤ n + 1 + (j + 1) := by simp; omega
                  generalize zs ++ [y] = zs2 at ON F2 hl3
                  clear ho hg2 OW H1 H2 HSZ I0 Z0 Z1 Z2 BN OD cy
                  go_wp2
                  go_roundw
                  case rel => exact ⟨j + 1, zs2, by go_num, by omega, hl3, F2, ON⟩
                  case measure => simp [intOf]; omega
                · have F2 : Hid (zs = pre ++ (ns.take (j + 1)).filter (fun y => decide (px < y))) := by
                    show _ = _
                    rw [F1.out, EZ.out]
                    simp [hyx]
                  go_wp2
                  go_quiet (fail)
                  have bd := below_drewN (Below.refl wr.heap.size wr) nq
                  have OD : Hid (Below (b0 + 1) w1 (wr.drewN nq) ∧ (wr.drewN nq).ownsRow (b0 + 1) 3 1 u6 zs.length (icells zs)) := ⟨OZ.out.1.trans (bd.mono (by have := OZ.out.1.size; have := HB1.out; omega)), own_below OZ.out.2 bd⟩
                  clear bd
                  go_wp2
                  go_roundw
                  case rel => exact ⟨j + 1, zs, by go_num, by omega, by omega, F2, OD⟩
                  case measure => simp [intOf]; omega
              · have hjn : j = ns.length := by have := E.out.1; omega
                have EF : Hid (zs = pre ++ ns.filter (fun y => decide (px < y))) := by show _ = _; rw [EZ.out, hjn, List.take_length]
                clear hjn EZ
                obtain ⟨oa, oc, rfl⟩ : ∃ oa oc, u6 = .slice oa zs.length oc := by
                  obtain ⟨a, c, e, -⟩ := (Sli.of OZ.out.2).form
                  exact ⟨a, c, e⟩
                have EN : Hid (zs.length = zs.length ∧ zs = numsP (ps.take (k + 1))) := by
                  refine ⟨rfl, ?_⟩
                  rw [E1.out, EF.out, PZ.out]
                  rfl
                have LZ : zs.length ≤ k + 1 := by have := L1.out; rw [EN.out.2, E1.out]; exact this
                have WN : Hid (Below w.heap.size w wr ∧ Sli 3 w.heap.size wr.heap.size (.slice oa zs.length oc) zs.length (icells zs) wr) := ⟨WA.out.1.trans (OZ.out.1.mono (by have := WA.out.1.size; have := HB1.out; omega)), (Sli.of OZ.out.2).dn (by have := WA.out.1.size; have := HB1.out; omega)⟩
                obtain ⟨n2, hn2⟩ : ∃ n2, zs.length = n2 := ⟨_, rfl⟩
                rw [hn2] at LZ WN ⊢
                have HN2 := hide hn2
                clear hn2
                go_wp2
                go_roundw
                case rel => exact ⟨k + 1, n2, oc, oa, zs, rfl, by go_num, by omega, LZ, ⟨HN2.out, EN.out.2⟩, WN⟩
                case measure => simp [intOf]; omega
      · have r1 : (pk != 2) = true := by simpa using q1
        rw [numStep, if_neg (show ¬ (Pg.mk pk pq px pp pc pt).kind = 2 from q1)] at E1
        have W1 : Hid (Below w.heap.size w (wr.alloc (.cells #[.int .i64 pk, .int .i64 pq, .int .i64 px, .int .i64 pp, .int .i64 pc, .string pt] 40)) ∧ Sli 3 w.heap.size (wr.alloc (.cells #[.int .i64 pk, .int .i64 pq, .int .i64 px, .int .i64 pp, .int .i64 pc, .string pt] 40)).heap.size (.slice na n nc) n (icells ns) (wr.alloc (.cells #[.int .i64 pk, .int .i64 pq, .int .i64 px, .int .i64 pp, .int .i64 pc, .string pt] 40))) :=
          ⟨W0.out.1.trans (BA.out.mono W0.out.1.size), (W0.out.2.blw BA.out).up BA.out.size⟩
        have E2 : Hid (ns.length = n ∧ ns = numsP (ps.take (k + 1))) := ⟨E.out.1, E1.out.symm⟩
        clear W0 BA q1
        go_wp2
        go_roundw
        case rel => exact ⟨k + 1, n, nc, na, ns, rfl, by go_num, by omega, by omega, E2, W1⟩
        case measure => simp [intOf]; omega
    · have hkn : k = ps.length := by have := HPL.out; omega
      have EF : Hid (ns.length = n ∧ gatherP ps = ns.filterMap (oneTx ps)) := ⟨E.out.1, by rw [E.out.2, hkn, List.take_length]; rfl⟩
      clear hkn E
      obtain ⟨nad, ncp, hne, hnf⟩ := W0.out.2.form
      obtain ⟨b1, hb1⟩ : ∃ b1, wr.heap.size = b1 := ⟨_, rfl⟩
      have HNF := hide (show 0 < n → ∃ g, na = some ⟨g, 0, none⟩ ∧ w.heap.size ≤ g ∧ g < b1 by injection hne with h1 h2 h3; rw [h1, ← hb1]; exact hnf)
      clear hne hnf
      have X0 := hide (XOwn.empty wr b1 (by omega))
      have B0 := hide (show Below b1 wr (wr.alloc (.cells #[] 31)) by rw [← hb1]; exact (Below.refl _ _).alloc (Nat.le_refl _) _)
      rw [hb1] at X0
      have HB1 := hide hb1
      have hB1 : w.heap.size ≤ b1 := by have := W0.out.1.size; omega
      go_wp2_with fail
      try rw [hb1]
      clear hb1
      generalize wr.alloc (.cells #[] 31) = wb at X0 B0 ⊢
      have WW := W0
      clear W0
      obtain ⟨ws, hws⟩ : ∃ ws, wr = ws := ⟨_, rfl⟩
      rw [hws] at B0 WW HB1
      clear hws
      go_loopw [9, 10] (fun ov iv W => ∃ (j : Nat) (rs : List Xw), iv = .int .i64 j ∧ j ≤ n ∧ rs.length ≤ j ∧ Hid (XOwn W b1 ov rs) ∧ Hid (Below b1 ws W) ∧ Hid (rs.map xtell = ((ns.take j).filterMap (oneTx ps)).map TxR.tu)) (fun _ iv _ => n - (intOf iv).toNat)
      case atStart => exact ⟨0, [], rfl, Nat.zero_le _, Nat.le_refl _, X0, B0, rfl⟩
      case round =>
        obtain ⟨j, rs, rfl, hj, hrj, X, BW, ER⟩ := hrel
        clear X0 B0
        by_cases hlt2 : (j : Int) < n
        · obtain ⟨g, rfl, -, hg⟩ := HNF.out (by omega)
          obtain ⟨y, hy⟩ : ∃ y, ns[j]? = some y := ⟨_, List.getElem?_eq_getElem (by have := EF.out.1; omega)⟩
          have cy : wr.cell? ⟨g, j, none⟩ = some (.int .i64 y) := (BW.out.cell (show g < b1 from hg)).trans (by
            have hl2 := List.getElem?_eq_some_iff.1 hy
            exact WW.out.2.flt.cell (by rw [icells_at ns j hl2.1, hl2.2]))
          have j0 : (0 : Int) ≤ j := by omega
          have F1 := hide (fm_take (f := oneTx ps) hy)
          have BWW : Hid (Below w.heap.size w wr) := WW.out.1.trans (BW.out.mono hB1)
          have C := hide (CX.out wr y BWW.out)
          clear hy
          go_wp2_with fail
          refine C.out.mono ?_
          rintro e w3 ⟨sq, sa, sn, sc, ok, rfl, b3, h3⟩
          have B3 := hide b3
          clear b3 C cy
          have BA : Hid (Below w3.heap.size w3 (w3.alloc (.cells #[.int .i64 y, .int .i64 sq, .slice sa sn sc] 31))) := (Below.refl _ _).alloc (Nat.le_refl _) _
          have hbs : b1 ≤ wr.heap.size := by have := BW.out.size; have := HB1.out; omega
          rcases h3 with ⟨h3, rfl⟩ | ⟨x, h3, rfl, x1, x2, x3, x5, x4⟩
          · have ER2 : Hid (rs.map xtell = ((ns.take (j + 1)).filterMap (oneTx ps)).map TxR.tu) := by show _ = _; rw [F1.out, h3, ER.out]; simp
            have XN := hide ((X.out.below B3.out).below BA.out)
            have BN : Hid (Below b1 ws (w3.alloc (.cells #[.int .i64 y, .int .i64 sq, .slice sa sn sc] 31))) := (BW.out.trans (B3.out.mono hbs)).trans (BA.out.mono (by have := B3.out.size; omega))
            clear h3 X BW ER F1
            go_wp2
            go_roundw
            case rel => exact ⟨j + 1, rs, by go_num, by omega, by omega, XN, BN, ER2⟩
            case measure => simp [intOf]; omega
          · have H3 := hide h3
            have X3 := hide x3
            have X4 := hide x4
            have X5 := hide x5
            have X12 := hide (show x.num = y ∧ x.seq = sq from ⟨x1, x2⟩)
            clear h3 x3 x4 x1 x2 x5
            have HN3 := hide (xt_new (w3.alloc (.cells #[.int .i64 y, .int .i64 sq, .slice sa sn sc] 31)) y sq (.slice sa sn sc) (w3.heap.size + 1) (by simp))
            have HO3 := hide (xt_one y sq sa sn sc)
            have BA2 : Hid (Below (w3.alloc (.cells #[.int .i64 y, .int .i64 sq, .slice sa sn sc] 31)).heap.size (w3.alloc (.cells #[.int .i64 y, .int .i64 sq, .slice sa sn sc] 31)) ((w3.alloc (.cells #[.int .i64 y, .int .i64 sq, .slice sa sn sc] 31)).alloc (.cells #[.int .i64 y, .int .i64 sq, .slice sa sn sc] 31))) := (Below.refl _ _).alloc (Nat.le_refl _) _
            have BB : Hid (Below wr.heap.size wr ((w3.alloc (.cells #[.int .i64 y, .int .i64 sq, .slice sa sn sc] 31)).alloc (.cells #[.int .i64 y, .int .i64 sq, .slice sa sn sc] 31))) := (B3.out.trans (BA.out.mono B3.out.size)).trans (BA2.out.mono (Nat.le_trans B3.out.size BA.out.size))
            have XN := hide (X.out.below BB.out)
            have OW := hide XN.out.1
            have HSZ := hide (show b1 ≤ ((w3.alloc (.cells #[.int .i64 y, .int .i64 sq, .slice sa sn sc] 31)).alloc (.cells #[.int .i64 y, .int .i64 sq, .slice sa sn sc] 31)).heap.size by have := BB.out.size; omega)
            have SX : Hid (Sli 34 wr.heap.size ((w3.alloc (.cells #[.int .i64 y, .int .i64 sq, .slice sa sn sc] 31)).alloc (.cells #[.int .i64 y, .int .i64 sq, .slice sa sn sc] 31)).heap.size (.slice sa sn sc) sn (rccells (x.recs.map Rc.tu)) ((w3.alloc (.cells #[.int .i64 y, .int .i64 sq, .slice sa sn sc] 31)).alloc (.cells #[.int .i64 y, .int .i64 sq, .slice sa sn sc] 31))) := ((X4.out.blw BA.out).blw BA2.out).up (Nat.le_trans BA.out.size BA2.out.size)
            obtain ⟨i0, hi0, hz0, hz1, hz2⟩ := info_parts infoTx
            have I0 := hide hi0
            have Z0 := hide hz0
            have Z1 := hide hz1
            have Z2 := hide hz2
            clear hi0 hz0 hz1 hz2
            go_wp2_with (at_builtin; refine wpList_append_own _ rfl _ _ 26 rfl b1 31 i0 (.agg #[.int .i64 0, .int .i64 0, .slice none 0 0]) 3 40 Try.underlying26 I0.out Z0.out Z1.out Z2.out rfl (by decide) _ _ _ rfl OW.out ⟨w3.heap.size + 1, 0, none⟩ 1 1 [.int .i64 y, .int .i64 sq, .slice sa sn sc] rfl rfl HN3.out HO3.out ?c1 ?c2 HSZ.out ?_)
            case c1 => unfold maxLen; omega
            case c2 => omega
            intro u' z ho hg2 _
            obtain ⟨r, hr⟩ : ∃ r : Xw, r = (y, sq, .slice sa sn sc, x.recs.map Rc.tu) := ⟨_, rfl⟩
            have ho2 : z.ownsRow b1 31 3 u' (rs ++ [r]).length (xcells (rs ++ [r])) := by
              rw [← xcells_snoc, List.length_append, hr]
              exact ho
            have XF := hide (XOwn.snoc (r := r) X.out BB.out hbs (by
              rw [hr]
              show Sli _ _ _ _ (x.recs.map Rc.tu).length _ _
              rw [List.length_map, ← X3.out]
              exact SX.out) (by rw [hr]; show (x.recs.map Rc.tu).length ≤ maxLen; rw [List.length_map, ← X3.out]; exact X5.out) hg2 ho2)
            have BF : Hid (Below b1 ws z) := (BW.out.trans (BB.out.mono hbs)).grown hg2 (by have := HSZ.out; have := HB1.out; omega) (fun k hk => (OW.out.lt k hk).1)
            have ER2 : Hid ((rs ++ [r]).map xtell = ((ns.take (j + 1)).filterMap (oneTx ps)).map TxR.tu) := by
              show _ = _
              rw [F1.out, H3.out, List.map_append, List.map_append, ER.out, hr]
              simp [xtell, TxR.tu, X12.out.1, X12.out.2]
            have hl2 : (rs ++ [r]).length ≤ j + 1 := by simp; omega
            clear ho hg2 ho2 BB XN OW HSZ HN3 HO3 BA BA2 SX I0 Z0 Z1 Z2 ER X BW H3 X3 X4 X12 hr
            generalize rs ++ [r] = rs2 at XF ER2 hl2
            go_wp2
            go_roundw
            case rel => exact ⟨j + 1, rs2, by go_num, by omega, hl2, XF, BF, ER2⟩
            case measure => simp [intOf]; omega
        · have hjn : j = ns.length := by have := EF.out.1; omega
          have EN : Hid (rs.map xtell = (gatherP ps).map TxR.tu) := by show _ = _; rw [ER.out, hjn, List.take_length, EF.out.2]
          clear hjn
          go_wp2
          go_ret
          exact ⟨_, rs, rfl, X.out.down hB1, EN.out, WW.out.1.trans (BW.out.mono hB1)⟩
end Go.Proofs.Ytogfdhfmamabiaa
