import Derived.Test.YtfmnaidhfgmemaaGreatDoorPk47
import Derived.Test.YtfmnaidhfgmemaaGreatDoorPk26
import Derived.Deep.RegionHeld3
namespace Go.Proofs.YtfmnaidhfgmemaaGreatDoor
open Go.RowKit
open Words
theorem step_append_at {P : Program} (w : World) {ops : Array Oper} {o : Oper} {a : Act} {K : Act → World → Prop} {Q : Exit → Act → World → Prop} {E : Prop} (hgd : o.guard = none) (s x : Operand) (t : TypeId)
    (ho : o.op = .call { callee := .builtin .append, args := #[s, x], argTypes := #[t, t] })
    (base : Nat) (e : TypeId) (i : TypeInfo) (z : Value) (size bytes : Nat) (ht : P.underlying t = some (.slice e)) (hi : P.info? e = some i) (hz : i.zero = some z)
    (hsize : i.size = size) (hby : i.bytes = bytes) (hzs : z.cells.size = size) (hsz : 0 < size)
    (v : Value) (n : Nat) (xs : List Value) (hs : a.eval s = v) (hown : w.ownsRow base e size v n xs)
    (ad : Addr) (m c : Nat) (news : List Value) (hx : a.eval x = .slice (some ad) m c) (hl : news.length = m * size) (hnews : ∀ j u, news[j]? = some u → w.cell? (ad.add j) = some u) (h1 : ∀ u ∈ news, u.oneCell' = true)
    (h63 : n + m ≤ maxLen) (hbytes : (n + m) * bytes ≤ 140737488355328) (hbase : base ≤ w.heap.size)
    (h : ∀ v' w', w'.ownsRow base e size v' (n + m) (xs ++ news) → w.grownBy w' v.ownBlock → (v'.ownBlock = v.ownBlock ∨ v'.ownBlock = some w.heap.size) → K (a.put o.dst v') w') :
    if Region.wanted o (yielded ops a.tmps) = true then Oper.wp P o a w K Q else E := by
  have hw : Region.wanted o (yielded ops a.tmps) = true := by simp [Region.wanted, hgd]
  rw [if_pos hw]
  obtain ⟨v', w', hr, h2, h3, _, h5⟩ := run_append_own_at (P := P) w base t o.type e i z size bytes ht hi hz hsize hby hzs hsz v n xs hown ad m c news hl hnews h1 h63 hbytes hbase
  unfold Oper.wp execOp
  simp only [ho, resolve, invoke, builtin, Sem.run_bind, Sem.run_pure, Result.andThen_ok, List.map_toArray, List.map_cons, List.map_nil, hs, hx, hr]
  exact h v' w' h2 h3 h5
theorem base_vols (kns : List Kn) : ∀ vs : List (Int × Int), (vs.flatMap (baseV kns)).length ≤ 17 * vs.length := by
  intro vs
  induction vs with
  | nil => simp
  | cons v vs ih =>
    have h1 : (baseK v.1 (allT kns v.2) 16).length ≤ 16 := by
      unfold baseK
      exact Nat.le_trans (List.length_filterMap_le _ _) (by simp)
    simp only [List.flatMap_cons, List.length_append, List.length_cons, baseV]
    omega
theorem base_bound (s : Sto) : (baseS s).length ≤ 1 + 17 * s.vols.length := by
  have := base_vols s.kns s.vols
  simp only [baseS, List.length_cons]
  omega
def BsJn (w W : World) (z : Nat) (bx : Array Value) (cv : Value) (l : List Rc) (ag : Nat) (cur : Array Value) : Prop := BsSt w W z bx cv l ∧ Blk W cv ag (.cells cur 3 (0, 0))
theorem BsJn.snoc {w W W1 y : World} {z ag : Nat} {bx cur : Array Value} {cv u : Value} {l : List Rc} {a b c d : Int} (h : BsJn w W z bx cv l ag cur) (hb : Below W.heap.size W W1) (ho : y.ownsRow (w.heap.size + 1) 90 4 u (l.length + 1) (rccells (l.map Rc.tu) ++ [.int .i64 a, .int .i64 b, .int .i64 c, .int .i64 d])) (hg : W1.grownBy y cv.ownBlock) (hu : u.ownBlock = cv.ownBlock ∨ ∃ q, u.ownBlock = some q ∧ W1.heap.size ≤ q) : BsJn w y z bx u (l ++ [⟨a, b, c, d⟩]) ag cur := ⟨h.1.snoc hb ho hg hu, h.2.grown hb hg hu⟩
set_option maxHeartbeats 1000000 in
set_option maxRecDepth 100000 in
theorem sbaseRecs : BaseC 22 := by
  rintro v s w ⟨va, vl, vc, ad, len, cap, rs, rfl, hks, hvl, hl, hll, hvc, h, hk⟩
  have HV := hide h
  have HVL := hide h.1
  have HK := hide hk
  have HKS := hide hks
  obtain ⟨nx, hnx⟩ : ∃ nx, s.next = nx := ⟨_, rfl⟩
  have HNX := hide hnx
  obtain ⟨i0, hi, hz0, hz1, hz2⟩ := info_parts infoRc
  have I0 := hide hi
  have Y0 := hide hz0
  have Y1 := hide hz1
  have Y2 := hide hz2
  have B0 : Hid (Below w.heap.size w (w.alloc (.cells #[.slice va vl vc, .slice ad len cap, .int .i64 nx] 45))) := (Below.refl _ _).alloc (Nat.le_refl _) _
  have R0 := hide (heap_alloc_new w (.cells #[.slice va vl vc, .slice ad len cap, .int .i64 nx] 45))
  have Z0 := hide (show (w.alloc (.cells #[.slice va vl vc, .slice ad len cap, .int .i64 nx] 45)).heap.size = w.heap.size + 1 by simp)
  unfold SBox
  rw [hnx]
  clear h hk hll hvc hks hnx hi hz0 hz1 hz2
  go_enter Tryz.func22, Tryz.ntmps22
  go_wp2_with fail
  generalize w.alloc (.cells #[.slice va vl vc, .slice ad len cap, .int .i64 nx] 45) = wb at B0 R0 Z0 ⊢
  have B1 : Hid (Below wb.heap.size wb (wb.alloc (.cells #[.int .i64 1, .int .i64 0, .int .i64 nx, .int .i64 0] 90))) := (Below.refl _ _).alloc (Nat.le_refl _) _
  have S0 : Hid (BsSt w (wb.alloc (.cells #[.int .i64 1, .int .i64 0, .int .i64 nx, .int .i64 0] 90)) w.heap.size #[.slice va vl vc, .slice ad len cap, .int .i64 nx] (.slice (some ⟨w.heap.size + 1, 0, none⟩) 1 1) [⟨1, 0, nx, 0⟩]) := by
    refine ⟨?_, B0.out.trans (B1.out.mono B0.out.size), (B1.out.block w.heap.size (by have := Z0.out; omega)).trans R0.out, fun e => ?_⟩
    · rw [← Z0.out]
      exact ⟨rfl, .inr ⟨wb.heap.size, 1, _, rfl, by have := Z0.out; omega, heap_alloc_new wb _, Nat.le_refl _, by unfold maxLen; omega, rfl, rfl⟩⟩
    · have := Z0.out
      simp only [Value.ownBlock, Option.some.injEq] at e
      omega
  generalize wb.alloc (.cells #[.int .i64 1, .int .i64 0, .int .i64 nx, .int .i64 0] 90) = w1 at B1 S0 ⊢
  have HWZ := hide (show w.heap.size + 1 = wb.heap.size from Z0.out.symm)
  obtain ⟨z, hz⟩ : ∃ z, w.heap.size = z := ⟨_, rfl⟩
  have HZW := hide hz
  rw [hz] at S0 ⊢
  clear hz
  have bx0 : w1.cell? ⟨z, 0, none⟩ = some (.slice va vl vc) := S0.out.2.2.cell rfl
  go_wp2_with fail
  go_loopw [3, 4] (fun cv kv W => ∃ (k : Nat) (l : List Rc), k ≤ vl ∧ kv = .int .i64 k ∧ l.length ≤ 17 * k + 1 ∧ Hid (l = basesK s k) ∧ Hid (BsSt w W z #[.slice va vl vc, .slice ad len cap, .int .i64 nx] cv l)) (fun _ kv _ => vl - (intOf kv).toNat)
  case atStart => exact ⟨0, [⟨1, 0, nx, 0⟩], Nat.zero_le _, rfl, Nat.le_refl _, (by rw [← HNX.out]; rfl : [⟨1, 0, nx, 0⟩] = basesK s 0), S0⟩
  case round =>
    obtain ⟨k, l, hkv, rfl, hll, HL, HS⟩ := hrel
    clear S0 bx0
    by_cases hlt : (k : Int) < vl
    · obtain ⟨v, hv⟩ : ∃ v, s.vols[k]? = some v := ⟨_, List.getElem?_eq_getElem (by have := HVL.out; omega)⟩
      obtain ⟨b, off, e, hb, c0, c1⟩ := (HV.out.below HS.out.2.1).at hv
      subst e
      have k0 : (0 : Int) ≤ k := by omega
      have HKS2 := hide (basesK_succ hv)
      obtain ⟨y0, y1⟩ := v
      simp only at c0 c1 HKS2
      have BR : Hid (Below wr.heap.size wr (wr.alloc (.cells #[.int .i64 2, .int .i64 y0, .int .i64 0, .int .i64 0] 90))) := (Below.refl _ _).alloc (Nat.le_refl _) _
      have OW := hide (own_below HS.out.1 BR.out)
      have HSZ : Hid (w.heap.size + 1 ≤ (wr.alloc (.cells #[.int .i64 2, .int .i64 y0, .int .i64 0, .int .i64 0] 90)).heap.size) := by
        have := HS.out.2.1.size
        show _ ≤ _
        simp
        omega
      have CN := hide (rcn_new wr 2 y0 0 0 wr.heap.size rfl)
      have z0 : wr.cell? ⟨z, 0, none⟩ = some (.slice (some ⟨b, off, none⟩) vl vc) := HS.out.2.2.cell rfl
      go_wp2_with (at_builtin; refine wpList_append_own_at _ rfl _ _ 61 rfl (w.heap.size + 1) 90 i0 (.agg #[.int .i64 0, .int .i64 0, .int .i64 0, .int .i64 0]) 4 32 Tryz.underlying61 I0.out Y0.out Y1.out Y2.out rfl (by decide) _ _ _ rfl OW.out ⟨wr.heap.size, 0, none⟩ 1 1 [Value.int .i64 2, Value.int .i64 y0, Value.int .i64 0, Value.int .i64 0] rfl rfl CN.out (rcn_one _ _ _ _) ?c1 ?c2 ?c3 ?_)
      case c1 => unfold maxLen; omega
      case c2 => omega
      case c3 => exact HSZ.out
      intro u2 w2 o2 g2 _ hu
      have hu2 : u2.ownBlock = u3.ownBlock ∨ ∃ q, u2.ownBlock = some q ∧ (wr.alloc (.cells #[.int .i64 2, .int .i64 y0, .int .i64 0, .int .i64 0] 90)).heap.size ≤ q := by
        rcases hu with e | e
        · exact .inl e
        · exact .inr ⟨_, e, by simp⟩
      have S2 := hide (HS.out.snoc BR.out o2 g2 hu2)
      clear o2 g2 hu hu2 OW HSZ CN BR c0 c1 HS z0
      have d0 : w2.cell? ⟨z, 0, none⟩ = some (.slice (some ⟨b, off, none⟩) vl vc) := S2.out.2.2.cell rfl
      have d1 : w2.cell? ⟨z, 1, none⟩ = some (.slice ad len cap) := S2.out.2.2.cell rfl
      obtain ⟨b', off', e', hb', c0, c1⟩ := (HV.out.below S2.out.2.1).at hv
      injection e' with e'
      injection e' with e1 e2
      subst e1 e2
      simp only at c0 c1
      have l0 := World.block_lt_of_cell? w2 _ d0
      have l1 := World.block_lt_of_cell? w2 _ d1
      have l2 := World.block_lt_of_cell? w2 _ c1
      have CA := hide (sall ad len cap rs y1 w2.drew (by omega) (HK.out.below S2.out.2.1.drew))
      rw [← HKS.out] at CA
      have hal : (allT s.kns y1).length = 16 := allT_len _ _
      obtain ⟨L, hL⟩ : ∃ L, allT s.kns y1 = L := ⟨_, rfl⟩
      rw [hL] at CA hal HKS2
      have hl2 : (l ++ [(⟨2, y0, 0, 0⟩ : Rc)]).length ≤ 17 * k + 2 := by simp; omega
      have HL2 : Hid (l ++ [(⟨2, y0, 0, 0⟩ : Rc)] = basesK s k ++ [⟨2, y0, 0, 0⟩]) := by show _ = _; rw [HL.out]
      generalize l ++ [(⟨2, y0, 0, 0⟩ : Rc)] = l2' at S2 hl2 HL2
      clear hL
      have HVK := hide hv
      clear hv
      go_wp2
      go_region_held3 (fun w' => w'.cell? ⟨z, 0, none⟩ = some (.slice (some ⟨b, off, none⟩) vl vc) ∧ w'.cell? ⟨z, 1, none⟩ = some (.slice ad len cap) ∧ w'.cell? ⟨b, off + k * 2 + 1, none⟩ = some (.int .i64 y1)) (first | exact ⟨d0, d1, c1⟩ | exact KY.out) ((go_at_call 44; (with_reducible refine Calls.mono CA.out ?_); rintro en w3 ⟨av, rfl, ao, b3⟩; have KY : Hid (w3.cell? ⟨z, 0, none⟩ = some (.slice (some ⟨b, off, none⟩) vl vc) ∧ w3.cell? ⟨z, 1, none⟩ = some (.slice ad len cap) ∧ w3.cell? ⟨b, off + k * 2 + 1, none⟩ = some (.int .i64 y1)) := ⟨(b3.cell l0).trans d0, (b3.cell l1).trans d1, (b3.cell l2).trans c1⟩))
      rw [hal] at ao
      obtain ⟨ag, ac, cur, rfl, ha1, ha2, ha3⟩ := own_nums ao (by omega)
      have S3 : Hid (BsJn w w3 z #[.slice (some ⟨b, off, none⟩) vl vc, .slice ad len cap, .int .i64 nx] u2 l2' ag cur) := ⟨(S2.out.below (Below.refl _ _).drew).below b3, ha2, fun e => by have := S2.out.lt _ e; have h9 : w2.drew.heap.size = w2.heap.size := rfl; omega⟩
      have HN := hide ha3
      have HAL := hide hal
      clear ao ha1 ha2 ha3 b3 CA S2 KY c0 c1 d0 d1 l0 l1 l2 hal
      go_wp2
      go_loopw [3, 6] (fun cv jv W => ∃ (j : Nat) (l3 : List Rc), j ≤ 16 ∧ jv = .int .i64 j ∧ l3.length ≤ 17 * k + 2 + j ∧ Hid (l3 = l2' ++ baseK y0 L j) ∧ Hid (BsJn w W z #[.slice (some ⟨b, off, none⟩) vl vc, .slice ad len cap, .int .i64 nx] cv l3 ag cur)) (fun _ jv _ => 16 - (intOf jv).toNat)
      case atStart => exact ⟨0, l2', Nat.zero_le _, rfl, by omega, (by simp [baseK] : l2' = l2' ++ baseK y0 L 0), S3⟩
      case round =>
        obtain ⟨j, l3, hj, rfl, hl3, HL3, HS3⟩ := hrel
        clear S3
        by_cases hjl : (j : Int) < 16
        · obtain ⟨x, hx⟩ : ∃ x, L[j]? = some x := ⟨_, List.getElem?_eq_getElem (by have := HAL.out; omega)⟩
          have cx : wr.cell? ⟨ag, j, none⟩ = some (.int .i64 x) := HS3.out.2.cell (HN.out j x hx)
          have z0 : wr.cell? ⟨z, 0, none⟩ = some (.slice (some ⟨b, off, none⟩) vl vc) := HS3.out.1.2.2.cell rfl
          obtain ⟨b', off', e', hb', c0, -⟩ := (HV.out.below HS3.out.1.2.1).at HVK.out
          injection e' with e'
          injection e' with e1 e2
          subst e1 e2
          simp only at c0
          have FT : Hid (baseK y0 L (j + 1) = baseK y0 L j ++ (if 0 < x then [⟨4, y0, (j : Int), x⟩] else [])) := by
            show _ = _
            rw [baseK_succ, hx]
            rfl
          have j0 : (0 : Int) ≤ j := by omega
          have HX := hide hx
          clear hx
          by_cases h1x : 1 ≤ x
          · have HL4 : Hid (l3 ++ [(⟨4, y0, (j : Int), x⟩ : Rc)] = l2' ++ baseK y0 L (j + 1)) := by
              show _ = _
              rw [FT.out, if_pos (by omega), ← List.append_assoc, ← HL3.out]
            have BR : Hid (Below wr.heap.size wr (wr.alloc (.cells #[.int .i64 4, .int .i64 y0, .int .i64 j, .int .i64 x] 90)).drew) := ((Below.refl _ _).alloc (Nat.le_refl _) _).drew
            have OW := hide (own_below HS3.out.1.1 BR.out)
            have HSZ : Hid (w.heap.size + 1 ≤ (wr.alloc (.cells #[.int .i64 4, .int .i64 y0, .int .i64 j, .int .i64 x] 90)).drew.heap.size) := by
              have := HS3.out.1.2.1.size
              have h9 : (wr.alloc (.cells #[.int .i64 4, .int .i64 y0, .int .i64 j, .int .i64 x] 90)).drew.heap.size = wr.heap.size + 1 := by simp [World.drew]
              show _ ≤ _
              omega
            have CN : Hid (∀ (q : Nat) (u : Value), [Value.int .i64 4, Value.int .i64 y0, Value.int .i64 j, Value.int .i64 x][q]? = some u → (wr.alloc (.cells #[.int .i64 4, .int .i64 y0, .int .i64 j, .int .i64 x] 90)).drew.cell? ((⟨wr.heap.size, 0, none⟩ : Addr).add q) = some u) := rcn_new wr 4 y0 j x wr.heap.size rfl
            have z1 := World.block_lt_of_cell? wr _ z0
            have z2 := World.block_lt_of_cell? wr _ c0
            have z3 := World.block_lt_of_cell? wr _ cx
            have KZ : Hid (∀ (W : World) (cv : Value), BsJn w W z #[.slice (some ⟨b, off, none⟩) vl vc, .slice ad len cap, .int .i64 nx] cv (l3 ++ [(⟨4, y0, (j : Int), x⟩ : Rc)]) ag cur → W.cell? ⟨z, 0, none⟩ = some (.slice (some ⟨b, off, none⟩) vl vc) ∧ W.cell? ⟨b, off + k * 2, none⟩ = some (.int .i64 y0) ∧ W.cell? ⟨ag, j, none⟩ = some (.int .i64 x)) := by
              intro W cv hW
              refine ⟨hW.1.2.2.cell rfl, ?_, hW.2.cell (HN.out j x HX.out)⟩
              obtain ⟨b', off', e', -, c9, -⟩ := (HV.out.below hW.1.2.1).at HVK.out
              injection e' with e'
              injection e' with e1 e2
              subst e1 e2
              exact c9
            go_wp2
            go_region_held3 (fun w' => w'.cell? ⟨z, 0, none⟩ = some (.slice (some ⟨b, off, none⟩) vl vc) ∧ w'.cell? ⟨b, off + k * 2, none⟩ = some (.int .i64 y0) ∧ w'.cell? ⟨ag, j, none⟩ = some (.int .i64 x)) (first | go_keep | exact KY.out) ((refine step_append_at _ (by rfl) (.tmp 48) (.tmp 61) 61 (by rfl) (w.heap.size + 1) 90 i0 (.agg #[.int .i64 0, .int .i64 0, .int .i64 0, .int .i64 0]) 4 32 Tryz.underlying61 I0.out Y0.out Y1.out Y2.out rfl (by decide) _ l3.length (rccells (l3.map Rc.tu)) (by simp [Act.eval]) OW.out ⟨wr.heap.size, 0, none⟩ 1 1 [Value.int .i64 4, Value.int .i64 y0, Value.int .i64 j, Value.int .i64 x] (by simp [Act.eval]) rfl CN.out (rcn_one _ _ _ _) (by unfold maxLen; omega) (by omega) HSZ.out ?_; intro u4 w4 o4 g4 hu; have hu4 : u4.ownBlock = u3.ownBlock ∨ ∃ q, u4.ownBlock = some q ∧ (wr.alloc (.cells #[.int .i64 4, .int .i64 y0, .int .i64 j, .int .i64 x] 90)).drew.heap.size ≤ q := (by rcases hu with e | e; exact .inl e; exact .inr ⟨_, e, Nat.le_refl _⟩); have KY : Hid (w4.cell? ⟨z, 0, none⟩ = some (.slice (some ⟨b, off, none⟩) vl vc) ∧ w4.cell? ⟨b, off + k * 2, none⟩ = some (.int .i64 y0) ∧ w4.cell? ⟨ag, j, none⟩ = some (.int .i64 x)) := KZ.out _ _ (HS3.out.snoc BR.out o4 g4 hu4)))
            have NX := hide (HS3.out.snoc BR.out o4 g4 hu4)
            have hl4 : (l3 ++ [(⟨4, y0, (j : Int), x⟩ : Rc)]).length ≤ 17 * k + 2 + (j + 1) := by simp; omega
            generalize l3 ++ [(⟨4, y0, (j : Int), x⟩ : Rc)] = l4 at HL4 NX hl4
            clear o4 g4 hu hu4 HS3 OW HSZ CN BR KY KZ z0 z1 z2 z3 c0 cx HX
            go_wp2
            go_roundw
            case rel => exact ⟨j + 1, l4, by omega, by go_num, hl4, HL4, NX⟩
            case measure => simp [intOf]; omega
          · have HL4 : Hid (l3 = l2' ++ baseK y0 L (j + 1)) := by
              show _ = _
              rw [FT.out, if_neg (by omega), List.append_nil, ← HL3.out]
            go_wp2
            go_roundw
            case rel => exact ⟨j + 1, l3, by omega, by go_num, by omega, HL4, HS3⟩
            case measure => simp [intOf]; omega
        · have HL4 : Hid (l3 = basesK s (k + 1)) := by
            show _ = _
            have e : j = 16 := by omega
            rw [HKS2.out, HL3.out, HL2.out, e]
          have HS4 := hide HS3.out.1
          go_wp2
          go_roundw
          case rel => exact ⟨k + 1, l3, by omega, by go_num, by omega, HL4, HS4⟩
          case measure => simp [intOf]; omega
    · have HE : Hid (l = baseS s) := by
        show _ = _
        rw [HL.out, basesK, List.take_of_length_le (by have := HVL.out; omega)]
        rfl
      have FIN : Hid (wr.ownsRow w.heap.size 90 4 u3 (baseS s).length (rccells ((baseS s).map Rc.tu)) ∧ Below w.heap.size w wr) := by
        rw [← HE.out]
        exact ⟨own_lower HS.out.1 (by omega), HS.out.2.1⟩
      have z0 : wr.cell? ⟨z, 0, none⟩ = some (.slice va vl vc) := HS.out.2.2.cell rfl
      go_wp2
      go_ret
      exact ⟨_, rfl, FIN.out.1, FIN.out.2⟩
end Go.Proofs.YtfmnaidhfgmemaaGreatDoor
