/-
  INeed; LawNO
-/
import Derived.Test.YtcjhnoapjhohfaaGreatDoorPk48
import Derived.Test.YtcjhnoapjhohfaaGreatDoorPk40
import Derived.Test.YtcjhnoapjhohfaaGreatDoorPk15
import Derived.Test.YtcjhnoapjhohfaaGreatDoorPk16
import Derived.Test.YtcjhnoapjhohfaaGreatDoorShelf
import Derived.Deep.RegionHeld3
import Derived.Deep.QuietTactic
import Derived.BigQuiet
import Derived.Test.YtcjhnoapjhohfaaGreatDoorPk20
import Derived.Test.YtcjhnoapjhohfaaGreatDoorPk23
/-
  impl's needs and impl.NeededOn.
-/
namespace Go.Proofs.YtcjhnoapjhohfaaGreatDoor
open Go.RowKit
open Words Sums

theorem stin_formI {w : World} {v : Value} {s : Sto} (h : StIn w v s) : ∃ va vl vc ad len cap, v = .agg #[.slice va vl vc, .slice ad len cap, .int .i64 s.next] := by
  obtain ⟨va, vl, vc, ad, len, cap, rs, h1, -⟩ := h
  exact ⟨va, vl, vc, ad, len, cap, h1⟩
theorem icontI (la : Option Addr) (ll lc : Nat) (live : List Int) (x : Int) (w : World) (hll : ll ≤ 1000000000000000000) (hi : IRow w la ll live) :
    Calls Tryz.prog 57 #[.slice la ll lc, .int .i64 x] w fun e w' => e = .returned (.bool (live.contains x)) ∧ w' = w := by
  by_cases h0 : ll = 0
  · have hn : live = [] := List.eq_nil_of_length_eq_zero (by rw [hi.1, h0])
    subst h0 hn
    exact Tryz.slices_Contains_int_empty la lc x w
  · obtain ⟨b, off, e, -, -⟩ := hi.at (k := 0) (t := live[0]'(by rw [hi.1]; omega)) (List.getElem?_eq_getElem _)
    subst e
    have := Tryz.slices_Contains_int b off ll lc live x w (by rw [hi.1]; exact Nat.le_refl _) (by omega) (fun j hj => by
      obtain ⟨b', off', e, -, hc⟩ := hi.at (k := j) (t := live[j]) (List.getElem?_eq_getElem hj)
      injection e with e
      injection e with e1 e2
      subst e1 e2
      rw [hc, List.getD_eq_getElem?_getD, List.getElem?_eq_getElem hj]
      rfl)
    rw [List.take_of_length_le (by rw [hi.1]; exact Nat.le_refl _)] at this
    exact this
/-- Whether a page is needed, as the program asks. -/
def needJ (M : List Fnd) (live : List Int) (base : Int) (x : Fnd) : Bool := if x.page.kind = 2 then decide (base ≤ x.page.tx) else fndB (fdOr (newP M x.page.tx)) x && live.contains x.page.tx
theorem needJ_is {M : List Fnd} {x : Fnd} (live : List Int) (base : Int) (hx : x ∈ M) (hk : x.page.kind = 1 ∨ x.page.kind = 2) : needJ M live base x = needI M live base x := by
  unfold needJ needI
  split
  · rfl
  · rename_i h2
    have hk1 : x.page.kind = 1 := by omega
    cases hn : newP M x.page.tx with
    | some y => rfl
    | none =>
      have := newP_none.1 hn x hx
      unfold isData at this
      simp [hk1] at this
set_option maxHeartbeats 1000000 in
set_option maxRecDepth 100000 in
theorem ineeds (B : Nat) (M : List Fnd) (x : Fnd) (la : Option Addr) (ll lc : Nat) (live : List Int) (base : Int) (w : World) (hll : ll ≤ 1000000000000000000) (hN : NM w B M) (hi : IRow w la ll live) :
    Calls Tryz.prog 34 #[.map (some B), fdVal x, .slice la ll lc, .int .i64 base] w fun e w' => e = .returned (.bool (needJ M live base x)) ∧ Below w.heap.size w w' := by
  obtain ⟨y, hy⟩ : ∃ y, fdOr (newP M x.page.tx) = y := ⟨_, rfl⟩
  have hq := fun W => fd_eql y x W
  rw [fndB_is] at hq
  have HJ : Hid (needJ M live base x = if x.page.kind = 2 then decide (base ≤ x.page.tx) else fndB y x && live.contains x.page.tx) := by show _ = _; rw [← hy]; rfl
  obtain ⟨b, hb⟩ : ∃ b, fndB y x = b := ⟨_, rfl⟩
  rw [hb] at hq HJ
  obtain ⟨xb, xl, pk, pq, px, pp, pc, pt⟩ := x
  obtain ⟨yb, yl, yk, yq, yx, yp, yc, yt⟩ := y
  unfold fdVal at hq ⊢
  simp only at hq HJ hy ⊢
  have b1 : Below w.heap.size w (w.alloc (.cells #[.int .i64 xb, .int .i64 xl, .int .i64 pk, .int .i64 pq, .int .i64 px, .int .i64 pp, .int .i64 pc, .string pt] 77)) := (Below.refl _ _).alloc (Nat.le_refl _) _
  have FA : FdAt (w.alloc (.cells #[.int .i64 xb, .int .i64 xl, .int .i64 pk, .int .i64 pq, .int .i64 px, .int .i64 pp, .int .i64 pc, .string pt] 77)) w.heap.size ⟨xb, xl, pk, pq, px, pp, pc, pt⟩ := heap_alloc_new _ _
  generalize hw1 : w.alloc (.cells #[.int .i64 xb, .int .i64 xl, .int .i64 pk, .int .i64 pq, .int .i64 px, .int .i64 pp, .int .i64 pc, .string pt] 77) = w1 at b1 FA
  have b2 : Below w1.heap.size w1 (w1.alloc (.cells #[.int .i64 pk, .int .i64 pq, .int .i64 px, .int .i64 pp, .int .i64 pc, .string pt] 75)) := (Below.refl _ _).alloc (Nat.le_refl _) _
  have FA2 := FA.below b2
  have PA : (w1.alloc (.cells #[.int .i64 pk, .int .i64 pq, .int .i64 px, .int .i64 pp, .int .i64 pc, .string pt] 75)).heap[w1.heap.size]? = some (.cells #[.int .i64 pk, .int .i64 pq, .int .i64 px, .int .i64 pp, .int .i64 pc, .string pt] 75 (0, 0)) := heap_alloc_new _ _
  generalize hw2 : w1.alloc (.cells #[.int .i64 pk, .int .i64 pq, .int .i64 px, .int .i64 pp, .int .i64 pc, .string pt] 75) = w2 at b2 FA2 PA
  have b12 := b1.trans (b2.mono b1.size)
  have hlk := (hN.below b12).look px false
  rw [hy] at hlk
  unfold fdVal at hlk
  simp only [Bool.false_eq_true, if_false] at hlk
  obtain ⟨x0, x1, x2, x3, x4, x5, x6, x7⟩ := FA.cells
  obtain ⟨y0, y1, y2, y3, y4, y5, y6, y7⟩ := FA2.cells
  simp only at x0 x1 x2 x3 x4 x5 x6 x7 y0 y1 y2 y3 y4 y5 y6 y7
  have p0 := cell_of_row _ _ 0 _ _ _ PA
  have p2 := cell_of_row _ _ 2 _ _ _ PA
  have HI := hide (hi.below b12)
  have B12 := hide b12
  clear hN hi hy hb b1 b2 b12 FA FA2 PA
  by_cases hk : (pk == 2) = true
  · have hk2 : pk = 2 := by simpa using hk
    have HO : Hid (needJ M live base ⟨xb, xl, pk, pq, px, pp, pc, pt⟩ = decide (base ≤ px)) := by show _ = _; rw [HJ.out, if_pos hk2]
    clear HJ hk2 hlk
    by_cases hd : base ≤ px
    · go_enter Tryz.func34, Tryz.ntmps34
      go_wp2
      go_ret
      rw [HO.out, decide_eq_true hd]
      exact ⟨rfl, B12.out⟩
    · go_enter Tryz.func34, Tryz.ntmps34
      go_wp2
      go_ret
      rw [HO.out, decide_eq_false (show ¬ base ≤ px by omega)]
      exact ⟨rfl, B12.out⟩
  · have hk' : (pk == 2) = false := by simpa using hk
    have HO : Hid (needJ M live base ⟨xb, xl, pk, pq, px, pp, pc, pt⟩ = (b && live.contains px)) := by show _ = _; rw [HJ.out, if_neg (by simpa using hk)]
    clear HJ hk
    cases b with
    | false =>
      go_enter Tryz.func34, Tryz.ntmps34
      go_wp2
      go_ret
      rw [HO.out]
      exact ⟨rfl, B12.out⟩
    | true =>
      have CC := hide (icontI la ll lc live px w2 hll HI.out)
      obtain ⟨q, hq2⟩ : ∃ q, live.contains px = q := ⟨_, rfl⟩
      rw [hq2] at CC HO
      clear hq2
      go_enter Tryz.func34, Tryz.ntmps34
      go_wp2_with fail
      refine CC.out.mono ?_
      rintro e w3 ⟨rfl, rfl⟩
      go_wp2
      go_ret
      rw [HO.out, Bool.true_and]
      exact ⟨rfl, B12.out⟩

theorem cnt_succ {M : List Fnd} {k : Nat} {x : Fnd} (p : Fnd → Bool) (h : M[k]? = some x) : ((M.take (k + 1)).filter p).length = ((M.take k).filter p).length + if p x then 1 else 0 := by
  rw [take_snoc h, List.filter_append, List.length_append]
  cases hp : p x <;> simp [hp]
/-- The map, the row and the numbers stay. -/
def NdI (w W : World) (B : Nat) (M : List Fnd) (ad : Option Addr) (len : Nat) (la : Option Addr) (ll : Nat) (live : List Int) : Prop := Below w.heap.size w W ∧ NM W B M ∧ FdRd W ad len M ∧ IRow W la ll live
theorem NdI.next {w W W' : World} {B len ll : Nat} {M : List Fnd} {ad la : Option Addr} {live : List Int} (h : NdI w W B M ad len la ll live) (b : Below W.heap.size W W') : NdI w W' B M ad len la ll live :=
  ⟨h.1.trans (b.mono h.1.size), h.2.1.below b, h.2.2.1.below b, h.2.2.2.below b⟩

set_option maxHeartbeats 4000000 in
set_option maxRecDepth 100000 in
theorem ineededOn (v : Value) (rs : List Rw) (sv : Value) (s : Sto) (base b : Int) (w : World) (hl : rs.length ≤ 1048576) (hll : ∀ r ∈ rs, r.2.2.2.length ≤ 1048576) (htx : TxB rs) (ha : FlashRd w v rs) (hs : StIn w sv s) (hH : HalvIn w) :
    Calls Tryz.prog 15 #[.agg #[v], sv, .int .i64 base, .int .i64 b] w fun e w' => e = .returned (.int .i64 ((neededP (scanF (rs.map tellOf)) (liveS s) base b : Nat) : Int)) ∧ Below w.heap.size w w' := by
  obtain ⟨M, hM⟩ : ∃ M, scanF (rs.map tellOf) = M := ⟨_, rfl⟩
  have hfit := hs.fit
  have hlb := live_bound s
  have HNP : Hid (neededP M (liveS s) base b = (M.filter fun x => x.block == b && needJ M (liveS s) base x).length) := by
    show _ = _
    rw [needed_same _ _ _ (by rw [← hM]; exact scan_apart _) (fun x hx => scan_kind (by rw [hM]; exact hx))]
    congr 1
    apply List.filter_congr
    intro x hx
    rw [needJ_is _ _ hx (scan_kind (by rw [hM]; exact hx))]
  obtain ⟨va, vl, vc, ad0, len0, cap0, rfl⟩ := stin_formI hs
  have bA : Below w.heap.size w (w.alloc (.cells #[v] 30)) := (Below.refl _ _).alloc (Nat.le_refl _) _
  have kA : (w.alloc (.cells #[v] 30)).cell? ⟨w.heap.size, 0, none⟩ = some v := cell_of_row _ _ 0 _ _ _ (heap_alloc_new w (.cells #[v] 30))
  generalize hwa : w.alloc (.cells #[v] 30) = wa at bA kA
  have bB : Below wa.heap.size wa (wa.alloc (.cells #[.slice va vl vc, .slice ad0 len0 cap0, .int .i64 s.next] 49)) := (Below.refl _ _).alloc (Nat.le_refl _) _
  have kB : ∀ (k : Nat) (u : Value), #[Value.slice va vl vc, .slice ad0 len0 cap0, .int .i64 s.next][k]? = some u → (wa.alloc (.cells #[.slice va vl vc, .slice ad0 len0 cap0, .int .i64 s.next] 49)).cell? ⟨wa.heap.size, k, none⟩ = some u := fun k u hu => by
    exact (cell_of_row _ _ k _ _ _ (heap_alloc_new wa (.cells #[.slice va vl vc, .slice ad0 len0 cap0, .int .i64 s.next] 49))).trans hu
  generalize hwb : wa.alloc (.cells #[.slice va vl vc, .slice ad0 len0 cap0, .int .i64 s.next] 49) = wb at bB kB
  have bW : Below w.heap.size w wb := bA.trans (bB.mono bA.size)
  have k0 : wb.cell? ⟨w.heap.size, 0, none⟩ = some v := (bB.cell (World.block_lt_of_cell? wa _ kA)).trans kA
  have s0 := kB 0 _ rfl
  have s1 := kB 1 _ rfl
  have s2 := kB 2 _ rfl
  have C := hide (iscanO v rs wb hl hll htx (ha.below bW) (hH.on bW))
  have HS := hide (hs.below bW)
  have BW := hide bW
  unfold ScOut at C
  rw [hM] at C ⊢
  have HLB : Hid ((liveS s).length ≤ 16 * 1048576) := by have := hfit.1; show _ ≤ _; omega
  have HL1 := hide (fun W (h : StIn W (.agg #[.slice va vl vc, .slice ad0 len0 cap0, .int .i64 s.next]) s) => ilive _ s W h)
  clear hl hll htx ha hs bA hM hfit hlb kA kB bW hH
  go_enter Tryz.func15, Tryz.ntmps15
  go_wp2_with fail
  clear hwa hwb bB
  refine C.out.mono ?_
  rintro e w1 ⟨ad, cap, rfl, h1, h2, h3⟩
  have e0 := (h3.cell (World.block_lt_of_cell? wb _ s0)).trans s0
  have e1 := (h3.cell (World.block_lt_of_cell? wb _ s1)).trans s1
  have e2 := (h3.cell (World.block_lt_of_cell? wb _ s2)).trans s2
  have HR := hide h1
  have H1 := hide (HS.out.below h3)
  have B1 := hide (BW.out.trans (h3.mono BW.out.size))
  have bd : Below w1.heap.size w1 w1.drew := (Below.refl _ _).drew
  have HRd := hide (HR.out.below bd)
  have H1d := hide (H1.out.below bd)
  have B1d := hide (B1.out.trans (bd.mono B1.out.size))
  have E1 : Hid (w1.drew.cell? ⟨wa.heap.size, 0, none⟩ = some (.slice va vl vc) ∧ w1.drew.cell? ⟨wa.heap.size, 1, none⟩ = some (.slice ad0 len0 cap0) ∧ w1.drew.cell? ⟨wa.heap.size, 2, none⟩ = some (.int .i64 s.next)) := ⟨e0, e1, e2⟩
  clear C h1 h3 HS BW k0 s0 s1 s2 bd HR H1 B1
  go_wp2
  go_region_held3 (fun w' => w'.cell? ⟨wa.heap.size, 0, none⟩ = some (.slice va vl vc) ∧ w'.cell? ⟨wa.heap.size, 1, none⟩ = some (.slice ad0 len0 cap0) ∧ w'.cell? ⟨wa.heap.size, 2, none⟩ = some (.int .i64 s.next)) (first | (with_reducible exact E3.out) | (with_reducible exact E2.out) | (with_reducible exact E1.out) | go_keep) (first
    | (go_at_call 21; refine (inewestOf ad M.length cap M _ h2 HRd.out).mono ?_; rintro en w2 ⟨BN, rfl, -, hN, b2⟩; have NA := hide hN; have SA := hide (H1d.out.below b2); have RA := hide (HRd.out.below b2); have BA2 := hide (B1d.out.trans (b2.mono B1d.out.size)); have E2 : Hid (w2.cell? ⟨wa.heap.size, 0, none⟩ = some (.slice va vl vc) ∧ w2.cell? ⟨wa.heap.size, 1, none⟩ = some (.slice ad0 len0 cap0) ∧ w2.cell? ⟨wa.heap.size, 2, none⟩ = some (.int .i64 s.next)) := ⟨(b2.cell (World.block_lt_of_cell? _ _ E1.out.1)).trans E1.out.1, (b2.cell (World.block_lt_of_cell? _ _ E1.out.2.1)).trans E1.out.2.1, (b2.cell (World.block_lt_of_cell? _ _ E1.out.2.2)).trans E1.out.2.2⟩; clear hN b2)
    | (go_at_call 33; refine (HL1.out _ SA.out).mono ?_; rintro en w3 ⟨lv, rfl, ho, b3⟩; obtain ⟨la, lc, rfl, hir, -, -⟩ := IHas.of ho (by have := HLB.out; unfold maxLen; omega) b3; have ND : Hid (NdI w w3 BN M ad M.length la (liveS s).length (liveS s)) := ⟨BA2.out.trans (b3.mono BA2.out.size), NA.out.below b3, RA.out.below b3, hir⟩; have E3 : Hid (w3.cell? ⟨wa.heap.size, 0, none⟩ = some (.slice va vl vc) ∧ w3.cell? ⟨wa.heap.size, 1, none⟩ = some (.slice ad0 len0 cap0) ∧ w3.cell? ⟨wa.heap.size, 2, none⟩ = some (.int .i64 s.next)) := ⟨(b3.cell (World.block_lt_of_cell? _ _ E2.out.1)).trans E2.out.1, (b3.cell (World.block_lt_of_cell? _ _ E2.out.2.1)).trans E2.out.2.1, (b3.cell (World.block_lt_of_cell? _ _ E2.out.2.2)).trans E2.out.2.2⟩; clear ho hir b3 NA SA RA BA2))
  all_goals
    clear E1 E2 E3 HRd H1d B1d HL1 e0 e1 e2
    obtain ⟨n, hn⟩ : ∃ n, M.length = n := ⟨_, rfl⟩
    rw [hn] at ND h2
    have HN := hide hn
    try rw [hn]
    clear hn
    go_wp2
    go_loopw [12, 23] (fun nv iv wr => ∃ (k q : Nat), nv = .int .i64 q ∧ iv = .int .i64 k ∧ k ≤ n ∧ q ≤ k ∧ Hid (((M.take k).filter fun x => x.block == b && needJ M (liveS s) base x).length = q) ∧ Hid (NdI w wr BN M ad n la (liveS s).length (liveS s))) (fun _ iv _ => n - (intOf iv).toNat)
    case atStart => exact ⟨0, 0, rfl, rfl, Nat.zero_le _, Nat.le_refl _, (by show _ = _; simp), ND⟩
    case round =>
      rename World => wr
      obtain ⟨k, q, rfl, rfl, hk, hq, HQ, ND2⟩ := hrel
      clear ND
      have hk0 : (0 : Int) ≤ k := by omega
      by_cases hlt : (k : Int) < n
      · obtain ⟨x, hx⟩ : ∃ x, M[k]? = some x := ⟨_, List.getElem?_eq_getElem (by have := HN.out; omega)⟩
        obtain ⟨rb, ro, rfl, -, c0, c1, c2, c3, c4, c5, c6, c7, d4⟩ := ND2.out.2.2.1.all hx
        have HC := hide (cnt_succ (fun x => x.block == b && needJ M (liveS s) base x) hx)
        rw [HQ.out] at HC
        obtain ⟨j, hj⟩ : ∃ j, needJ M (liveS s) base x = j := ⟨_, rfl⟩
        rw [hj] at HC
        have HJ := hide hj
        have ba : Below wr.heap.size wr (wr.alloc (.cells #[.int .i64 x.block, .int .i64 x.leaf, .int .i64 x.page.kind, .int .i64 x.page.seq, .int .i64 x.page.tx, .int .i64 x.page.part, .int .i64 x.page.count, .string x.page.text] 77)) := (Below.refl _ _).alloc (Nat.le_refl _) _
        have ND3 := hide (ND2.out.next ba)
        have FA : Hid (FdAt (wr.alloc (.cells #[.int .i64 x.block, .int .i64 x.leaf, .int .i64 x.page.kind, .int .i64 x.page.seq, .int .i64 x.page.tx, .int .i64 x.page.part, .int .i64 x.page.count, .string x.page.text] 77)) wr.heap.size x) := heap_alloc_new _ _
        obtain ⟨y0, y1, y2, y3, y4, y5, y6, y7⟩ := FA.out.cells
        have CN := hide (ineeds BN M x la (liveS s).length lc (liveS s) base _ (by have := HLB.out; omega) ND3.out.2.1 ND3.out.2.2.2)
        rw [HJ.out] at CN
        obtain ⟨xb, xl, pk, pq, px, pp, pc, pt⟩ := x
        unfold fdVal at CN
        simp only at c0 c1 c2 c3 c4 c5 c6 c7 d4 y0 y1 y2 y3 y4 y5 y6 y7 HC CN ND3
        clear hx hj HJ ba FA ND2 HQ
        by_cases hb : (xb == b) = true
        · rw [hb, Bool.true_and] at HC
          go_wp2_with fail
          refine CN.out.mono ?_
          rintro e w4 ⟨rfl, b4⟩
          have ND4 := hide (ND3.out.next b4)
          clear b4 CN ND3
          cases j with
          | true =>
            have HC2 : Hid (((M.take (k + 1)).filter fun x => x.block == b && needJ M (liveS s) base x).length = q + 1) := HC
            clear HC
            go_wp2
            go_roundw
            case rel => exact ⟨k + 1, q + 1, by go_num, by go_num, by omega, by omega, HC2, ND4⟩
            case measure => simp [intOf]; omega
          | false =>
            have HC2 : Hid (((M.take (k + 1)).filter fun x => x.block == b && needJ M (liveS s) base x).length = q) := HC
            clear HC
            go_wp2
            go_roundw
            case rel => exact ⟨k + 1, q, rfl, by go_num, by omega, by omega, HC2, ND4⟩
            case measure => simp [intOf]; omega
        · have hb : (xb == b) = false := by simpa using hb
          rw [hb, Bool.false_and] at HC
          have HC2 : Hid (((M.take (k + 1)).filter fun x => x.block == b && needJ M (liveS s) base x).length = q) := HC
          clear HC CN
          go_wp2
          go_roundw
          case rel => exact ⟨k + 1, q, rfl, by go_num, by omega, by omega, HC2, ND3⟩
          case measure => simp [intOf]; omega
      · have HO : Hid (neededP M (liveS s) base b = q) := by
          have := HQ.out
          rw [List.take_of_length_le (by have := HN.out; omega), ← HNP.out] at this
          exact this
        clear HQ
        go_wp2
        go_ret
        rw [HO.out]
        exact ⟨rfl, ND2.out.1⟩
end Go.Proofs.YtcjhnoapjhohfaaGreatDoor

/-
  FnExactNeededOn.
-/
namespace Go.Proofs.YtcjhnoapjhohfaaGreatDoor
open Go.RowKit
open Words Sums

theorem sno_tk {w wi : World} {hs : List Hold} {v u : Value} {bs : List Bk} {s : Sto} {l1 h1 l2 h2 : Nat} (base b : Int) (T : Tk w wi hs) (n1 n2 : Nat) (ho : Okk bs) (htx : TxK bs) (hs2 : OkS s) (e1 : hs[n1]? = some (l1, h1, Fla l1 h1 v bs)) (e2 : hs[n2]? = some (l2, h2, Sts l2 h2 u s)) :
    Calls Tryz.prog 13 #[.agg #[v], u, .int .i64 base, .int .i64 b] wi fun e w' => e = .returned (.int .i64 ((neededP (scanF bs) (liveS s) base b : Nat) : Int)) ∧ Tk w w' hs ∧ wi.heap.size ≤ w'.heap.size := by
  obtain ⟨ss, e3, i1, l, ll, -⟩ := (T.get n1 e1).lens ho
  subst e3
  refine (sneededOn v ss u s base b wi l ll (by intro q hq t ht; exact htx _ (List.mem_map_of_mem (f := tellOf) hq) t ht) i1.rd ((T.get n2 e2).rd hs2.fit (T.hi n2 e2))).mono ?_
  rintro e w' ⟨rfl, hb⟩
  exact ⟨rfl, T.below hb, hb.size⟩
theorem ino_tk {w wi : World} {hs : List Hold} {v u : Value} {bs : List Bk} {s : Sto} {l1 h1 l2 h2 : Nat} (base b : Int) (T : Tk w wi hs) (n1 n2 : Nat) (ho : Okk bs) (htx : TxK bs) (hs2 : OkS s) (e1 : hs[n1]? = some (l1, h1, Fla l1 h1 v bs)) (e2 : hs[n2]? = some (l2, h2, Sts l2 h2 u s)) (hv : HalvIn wi) :
    Calls Tryz.prog 15 #[.agg #[v], u, .int .i64 base, .int .i64 b] wi fun e w' => e = .returned (.int .i64 ((neededP (scanF bs) (liveS s) base b : Nat) : Int)) ∧ Tk w w' hs ∧ wi.heap.size ≤ w'.heap.size := by
  obtain ⟨ss, e3, i1, l, ll, -⟩ := (T.get n1 e1).lens ho
  subst e3
  refine (ineededOn v ss u s base b wi l ll (by intro q hq t ht; exact htx _ (List.mem_map_of_mem (f := tellOf) hq) t ht) i1.rd ((T.get n2 e2).rd hs2.fit (T.hi n2 e2)) hv).mono ?_
  rintro e w' ⟨rfl, hb⟩
  exact ⟨rfl, T.below hb, hb.size⟩

set_option maxHeartbeats 2000000 in
set_option maxRecDepth 100000 in
theorem lawNO_any (a : Option Addr) (len cap : Nat) (rs : List Rw) (va : Option Addr) (vl vc : Nat) (ad : Option Addr) (kl kc : Nat) (nx : Int) (vs : List (Int × Int)) (ks : List Kw) (base b : Int) (w : World) (hv : HalvIn w) (h : BkRow w a len rs) (hvl : VlRow w va vl vs) (hkn : KnRd w ad kl ks) :
    Calls Tryz.prog 4 #[.agg #[.slice a len cap], .agg #[.slice va vl vc, .slice ad kl kc, .int .i64 nx], .int .i64 base, .int .i64 b] w fun e w' => e = .returned (.bool true) ∧ Below w.heap.size w w' := by
  obtain ⟨bs, hbs⟩ : ∃ bs, rs.map tellOf = bs := ⟨_, rfl⟩
  have hz0 : (w.alloc (.cells #[.slice a len cap] 24)).heap.size = w.heap.size + 1 := by simp
  have T00 := ((Tk.start w).cell #[.slice a len cap] 24).cell #[.slice va vl vc, .slice ad kl kc, .int .i64 nx] 41
  rw [hz0] at T00
  have T0 := hide T00
  have H := hide h
  have HV := hide hv
  have HVL := hide hvl
  have HKN := hide hkn
  have H1 := hide hvl.1
  have H2 := hide hvl.2.1
  have K1 := hide hkn.1
  have HBS := hide hbs
  have hlen := h.1
  clear h hbs hv hvl hkn T00
  go_enter Tryz.func4, Tryz.ntmps4
  go_wp2_with fail
  generalize (w.alloc (.cells #[.slice a len cap] 24)).alloc (.cells #[.slice va vl vc, .slice ad kl kc, .int .i64 nx] 41) = w0 at T0 ⊢
  have i0 : w0.cell? ⟨w.heap.size + 1, 0, none⟩ = some (.slice va vl vc) := T0.out.at 0 0 rfl rfl
  refine (szFlash_any a len cap rs 1048576 _ (Nat.le_refl _) (H.out.below T0.out.1)).mono ?_
  rintro e w1 ⟨⟨r, rfl, r1, r2, r3⟩, b1⟩
  have T1 := hide (T0.out.below b1)
  have k1 : w1.cell? ⟨w.heap.size, 0, none⟩ = some (.slice a len cap) := T1.out.at 1 0 rfl rfl
  have m0 : w1.cell? ⟨w.heap.size + 1, 0, none⟩ = some (.slice va vl vc) := T1.out.at 0 0 rfl rfl
  have m1 : w1.cell? ⟨w.heap.size + 1, 1, none⟩ = some (.slice ad kl kc) := T1.out.at 0 1 rfl rfl
  have m2 : w1.cell? ⟨w.heap.size + 1, 2, none⟩ = some (.int .i64 nx) := T1.out.at 0 2 rfl rfl
  clear b1 T0 i0
  by_cases hr : r < 0
  · clear r2 r3
    go_wp2
    go_ret
    exact ⟨rfl, T1.out.1⟩
  · have hzr : r ≤ 1048576 := by have := r2 (by omega); omega
    obtain ⟨hl, hll, ho⟩ := meas (by omega) (r2 (by omega))
    have htx := tx_tell (r3 (by omega))
    rw [HBS.out] at ho htx
    have HLL := hide hll
    have HO := hide ho
    have HTX := hide htx
    have hl2 : len ≤ 1048576 := by omega
    have HLE := hide hl2
    clear r2 r3 hll ho htx hl2
    obtain ⟨z0, rfl⟩ : ∃ z0 : Nat, r = (z0 : Int) := ⟨r.toNat, by omega⟩
    have hz1 : z0 ≤ 1048576 := by omega
    go_wp2_with fail
    refine (szSto_any va vl vc ad kl kc nx ks z0 _ hz1 H2.out (HKN.out.below T1.out.1)).mono ?_
    rintro e w2 ⟨⟨q0, rfl, q1, q2, q3⟩, b2⟩
    have T2 := hide (T1.out.below b2)
    have k2 : w2.cell? ⟨w.heap.size, 0, none⟩ = some (.slice a len cap) := T2.out.at 1 0 rfl rfl
    have n0 : w2.cell? ⟨w.heap.size + 1, 0, none⟩ = some (.slice va vl vc) := T2.out.at 0 0 rfl rfl
    have n1 : w2.cell? ⟨w.heap.size + 1, 1, none⟩ = some (.slice ad kl kc) := T2.out.at 0 1 rfl rfl
    have n2 : w2.cell? ⟨w.heap.size + 1, 2, none⟩ = some (.int .i64 nx) := T2.out.at 0 2 rfl rfl
    clear b2 T1 k1 m0 m1 m2
    by_cases hq : q0 < 0
    · clear q3
      go_wp2
      go_ret
      exact ⟨rfl, T2.out.1⟩
    · have h3 := q3 (by omega)
      have hvle : vl ≤ 1048576 := by omega
      have hkle : kl ≤ 1048576 := by omega
      have HKL : Hid (∀ r ∈ ks, r.2.2.length ≤ 1048576) := fun r hr2 => by have := ksum_mem hr2; omega
      obtain ⟨s, hs⟩ : ∃ s : Sto, s = ⟨vs, ks.map ktell, nx⟩ := ⟨_, rfl⟩
      have OK : Hid (OkS s) := by
        have e1 := H1.out
        have e2 := K1.out
        have e3 := ksum_kids ks
        rw [hs]
        exact OkS.of (show vs.length ≤ _ by omega) (by show (ks.map ktell).length ≤ _; rw [List.length_map]; omega) (show kkids (ks.map ktell) ≤ _ by omega)
      have HS := hide hs
      have HVE := hide hvle
      have HKE := hide hkle
      have T2d := hide T2.out.drew
      have S2 : Hid ((w2.drew.cell? ⟨w.heap.size, 0, none⟩ = some (.slice a len cap)) ∧ w2.drew.cell? ⟨w.heap.size + 1, 0, none⟩ = some (.slice va vl vc) ∧ w2.drew.cell? ⟨w.heap.size + 1, 1, none⟩ = some (.slice ad kl kc) ∧ w2.drew.cell? ⟨w.heap.size + 1, 2, none⟩ = some (.int .i64 nx)) := ⟨k2, n0, n1, n2⟩
      clear q3 h3 hs T2
      go_wp2
      go_region_held3 (fun w' => (w'.cell? ⟨w.heap.size, 0, none⟩ = some (.slice a len cap)) ∧ w'.cell? ⟨w.heap.size + 1, 0, none⟩ = some (.slice va vl vc) ∧ w'.cell? ⟨w.heap.size + 1, 1, none⟩ = some (.slice ad kl kc) ∧ w'.cell? ⟨w.heap.size + 1, 2, none⟩ = some (.int .i64 nx)) (first | go_keep | exact S2.out | exact ⟨T3.out.at 2 0 rfl rfl, T3.out.at 1 0 rfl rfl, T3.out.at 1 1 rfl rfl, T3.out.at 1 2 rfl rfl⟩ | exact ⟨T4.out.at 3 0 rfl rfl, T4.out.at 2 0 rfl rfl, T4.out.at 2 1 rfl rfl, T4.out.at 2 2 rfl rfl⟩ | exact ⟨T5.out.at 3 0 rfl rfl, T5.out.at 2 0 rfl rfl, T5.out.at 2 1 rfl rfl, T5.out.at 2 2 rfl rfl⟩) (first
        | (go_at_call 7; refine (to_tk T2d.out H.out HBS.out HLE.out HLL.out).mono ?_; rintro en w3 ⟨ad1, cap1, rfl, t3, -⟩; have T3 := hide t3; clear t3)
        | (go_at_call 14; refine (tosto_tk (vc := vc) (cap := kc) T3.out HVL.out HKN.out HVE.out HKE.out HKL.out HS.out).mono ?_; rintro en w4 ⟨g1, g2, rfl, t4, -⟩; have T4 := hide t4; clear t4)
        | (go_at_call 13; refine (sno_tk base b T4.out 1 0 HO.out HTX.out OK.out rfl rfl).mono ?_; rintro en w5 ⟨rfl, t5, -⟩; have T5 := hide t5; clear t5))
      all_goals
        have T6 := hide (T5.out.drop (hs' := [(w.heap.size + 1, w.heap.size + 1 + 1, Cel (w.heap.size + 1) #[.slice va vl vc, .slice ad kl kc, .int .i64 nx] 41), (w.heap.size, w.heap.size + 1, Cel w.heap.size #[.slice a len cap] 24)]) (by intro x hx; simp only [List.mem_cons, List.not_mem_nil, or_false] at hx ⊢; rcases hx with hx | hx <;> simp [hx]))
        clear T5 T4 T3 T2d S2 k2 n0 n1 n2
        have k5 : w5.cell? ⟨w.heap.size, 0, none⟩ = some (.slice a len cap) := T6.out.at 1 0 rfl rfl
        obtain ⟨ok, hok⟩ : ∃ ok, ((neededP (scanF bs) (liveS s) base b : Nat) : Int) = ok := ⟨_, rfl⟩
        rw [hok]
        have HOK := hide hok
        clear hok
        go_wp2_with fail
        refine (to_tk T6.out H.out HBS.out HLE.out HLL.out).mono ?_
        rintro e w7 ⟨ad2, cap2, rfl, t7, -⟩
        have T8 := hide (t7.cell #[.slice ad2 bs.length cap2] 30)
        generalize hw8 : w7.alloc (.cells #[.slice ad2 bs.length cap2] 30) = w8 at T8
        have n0 : w8.cell? ⟨w.heap.size + 1, 0, none⟩ = some (.slice va vl vc) := T8.out.at 2 0 rfl rfl
        have n1 : w8.cell? ⟨w.heap.size + 1, 1, none⟩ = some (.slice ad kl kc) := T8.out.at 2 1 rfl rfl
        have n2 : w8.cell? ⟨w.heap.size + 1, 2, none⟩ = some (.int .i64 nx) := T8.out.at 2 2 rfl rfl
        clear t7 T6 k5
        go_wp2_with fail
        clear hw8
        refine (tosto_tk (vc := vc) (cap := kc) T8.out HVL.out HKN.out HVE.out HKE.out HKL.out HS.out).mono ?_
        rintro e w9 ⟨g3, g4, rfl, t9, -⟩
        have TA := hide (t9.cell #[.slice (some ⟨g3, 0, none⟩) vl vl, .slice (some ⟨g4, 0, none⟩) kl kl, .int .i64 nx] 49)
        generalize hwA : w9.alloc (.cells #[.slice (some ⟨g3, 0, none⟩) vl vl, .slice (some ⟨g4, 0, none⟩) kl kl, .int .i64 nx] 49) = wA at TA
        have x0 : wA.cell? ⟨w7.heap.size, 0, none⟩ = some (.slice ad2 bs.length cap2) := TA.out.at 2 0 rfl rfl
        have y0 : wA.cell? ⟨w9.heap.size, 0, none⟩ = some (.slice (some ⟨g3, 0, none⟩) vl vl) := TA.out.at 0 0 rfl rfl
        have y1 : wA.cell? ⟨w9.heap.size, 1, none⟩ = some (.slice (some ⟨g4, 0, none⟩) kl kl) := TA.out.at 0 1 rfl rfl
        have y2 : wA.cell? ⟨w9.heap.size, 2, none⟩ = some (.int .i64 nx) := TA.out.at 0 2 rfl rfl
        clear t9 T8 n0 n1 n2
        go_wp2_with fail
        clear hwA
        refine (ino_tk base b TA.out 3 1 HO.out HTX.out OK.out rfl rfl (HV.out.on TA.out.1)).mono ?_
        rintro e wB ⟨rfl, tB, -⟩
        rw [HOK.out]
        have hne : (ok != ok) = false := by simp
        have TBd := hide tB.drew
        have S3 : Hid ((wB.drew.cell? ⟨w7.heap.size, 0, none⟩ = some (.slice ad2 bs.length cap2)) ∧ wB.drew.cell? ⟨w.heap.size, 0, none⟩ = some (.slice a len cap)) := ⟨TBd.out.at 2 0 rfl rfl, TBd.out.at 5 0 rfl rfl⟩
        have z0' : wB.cell? ⟨w7.heap.size, 0, none⟩ = some (.slice ad2 bs.length cap2) := tB.at 2 0 rfl rfl
        have z1' : wB.cell? ⟨w.heap.size, 0, none⟩ = some (.slice a len cap) := tB.at 5 0 rfl rfl
        clear tB TA x0 y0 y1 y2
        go_wp2
        go_region_held3 (fun w' => (w'.cell? ⟨w7.heap.size, 0, none⟩ = some (.slice ad2 bs.length cap2)) ∧ w'.cell? ⟨w.heap.size, 0, none⟩ = some (.slice a len cap)) (first | go_keep | exact S3.out | exact ⟨TC.out.at 3 0 rfl rfl, TC.out.at 6 0 rfl rfl⟩ | exact ⟨TD.out.at 3 0 rfl rfl, TD.out.at 6 0 rfl rfl⟩) (first
          | (go_at_call 7; refine (to_tk TBd.out H.out HBS.out HLE.out HLL.out).mono ?_; rintro en wC ⟨ad3, cap3, rfl, tC, -⟩; have TC := hide tC; clear tC)
          | (go_at_call 10; refine (eq_tk TC.out 4 0 HO.out rfl rfl).mono ?_; rintro en wD ⟨rfl, tD, -⟩; have TD := hide tD; clear tD))
        all_goals
          have y0 : wD.cell? ⟨w9.heap.size, 0, none⟩ = some (.slice (some ⟨g3, 0, none⟩) vl vl) := TD.out.at 1 0 rfl rfl
          have y1 : wD.cell? ⟨w9.heap.size, 1, none⟩ = some (.slice (some ⟨g4, 0, none⟩) kl kl) := TD.out.at 1 1 rfl rfl
          have y2 : wD.cell? ⟨w9.heap.size, 2, none⟩ = some (.int .i64 nx) := TD.out.at 1 2 rfl rfl
          have n0 : wD.cell? ⟨w.heap.size + 1, 0, none⟩ = some (.slice va vl vc) := TD.out.at 5 0 rfl rfl
          have n1 : wD.cell? ⟨w.heap.size + 1, 1, none⟩ = some (.slice ad kl kc) := TD.out.at 5 1 rfl rfl
          have n2 : wD.cell? ⟨w.heap.size + 1, 2, none⟩ = some (.int .i64 nx) := TD.out.at 5 2 rfl rfl
          have TDd := hide TD.out.drew
          have S4 : Hid ((wD.drew.cell? ⟨w9.heap.size, 0, none⟩ = some (.slice (some ⟨g3, 0, none⟩) vl vl) ∧ wD.drew.cell? ⟨w9.heap.size, 1, none⟩ = some (.slice (some ⟨g4, 0, none⟩) kl kl) ∧ wD.drew.cell? ⟨w9.heap.size, 2, none⟩ = some (.int .i64 nx)) ∧ wD.drew.cell? ⟨w.heap.size + 1, 0, none⟩ = some (.slice va vl vc) ∧ wD.drew.cell? ⟨w.heap.size + 1, 1, none⟩ = some (.slice ad kl kc) ∧ wD.drew.cell? ⟨w.heap.size + 1, 2, none⟩ = some (.int .i64 nx)) := ⟨⟨y0, y1, y2⟩, n0, n1, n2⟩
          clear TC TBd S3 z0' z1' TD
          go_wp2
          go_region_held3 (fun w' => (w'.cell? ⟨w9.heap.size, 0, none⟩ = some (.slice (some ⟨g3, 0, none⟩) vl vl) ∧ w'.cell? ⟨w9.heap.size, 1, none⟩ = some (.slice (some ⟨g4, 0, none⟩) kl kl) ∧ w'.cell? ⟨w9.heap.size, 2, none⟩ = some (.int .i64 nx)) ∧ w'.cell? ⟨w.heap.size + 1, 0, none⟩ = some (.slice va vl vc) ∧ w'.cell? ⟨w.heap.size + 1, 1, none⟩ = some (.slice ad kl kc) ∧ w'.cell? ⟨w.heap.size + 1, 2, none⟩ = some (.int .i64 nx)) (first | go_keep | exact S4.out | exact ⟨⟨TE.out.at 2 0 rfl rfl, TE.out.at 2 1 rfl rfl, TE.out.at 2 2 rfl rfl⟩, TE.out.at 6 0 rfl rfl, TE.out.at 6 1 rfl rfl, TE.out.at 6 2 rfl rfl⟩ | exact ⟨⟨TF.out.at 2 0 rfl rfl, TF.out.at 2 1 rfl rfl, TF.out.at 2 2 rfl rfl⟩, TF.out.at 6 0 rfl rfl, TF.out.at 6 1 rfl rfl, TF.out.at 6 2 rfl rfl⟩) (first
            | (go_at_call 14; refine (tosto_tk (vc := vc) (cap := kc) TDd.out HVL.out HKN.out HVE.out HKE.out HKL.out HS.out).mono ?_; rintro en wE ⟨g5, g6, rfl, tE, -⟩; have TE := hide tE; clear tE)
            | (go_at_call 16; refine (eqsto_tk TE.out 3 0 OK.out rfl rfl).mono ?_; rintro en wF ⟨rfl, tF, -⟩; have TF := hide tF; clear tF))
          all_goals
            go_wp2
            go_ret
            exact ⟨rfl, TF.out.1⟩
theorem lawNO_card (a : Option Addr) (len cap : Nat) (rs : List Rw) (va : Option Addr) (vl vc : Nat) (ad : Option Addr) (kl kc : Nat) (nx : Int) (vs : List (Int × Int)) (ks : List Kw) (base b : Int) {w : World} (h : BkRow w a len rs) (hvl : VlRow w va vl vs) (hkn : KnRd w ad kl ks) (_ : World) (hv : HalvIn w) :
    Calls Tryz.prog 4 #[.agg #[.slice a len cap], .agg #[.slice va vl vc, .slice ad kl kc, .int .i64 nx], .int .i64 base, .int .i64 b] w fun e w' => e = .returned (.bool true) ∧ Below w.heap.size w w' := lawNO_any a len cap rs va vl vc ad kl kc nx vs ks base b w hv h hvl hkn
end Go.Proofs.YtcjhnoapjhohfaaGreatDoor
