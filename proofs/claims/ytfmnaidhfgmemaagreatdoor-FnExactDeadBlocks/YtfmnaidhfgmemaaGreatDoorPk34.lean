/-
  ScC; INeed
-/
import Derived.Test.YtfmnaidhfgmemaaGreatDoorPk31
import Derived.Test.YtfmnaidhfgmemaaGreatDoorSScan
import Derived.Test.YtfmnaidhfgmemaaGreatDoorPk32
import Derived.Test.YtfmnaidhfgmemaaGreatDoorPk12
import Derived.Test.YtfmnaidhfgmemaaGreatDoorPk13
import Derived.Test.YtfmnaidhfgmemaaGreatDoorShelf
import Derived.Deep.RegionHeld3
import Derived.Deep.QuietTactic
import Derived.BigQuiet
namespace Go.Proofs.YtfmnaidhfgmemaaGreatDoor
open Go.RowKit
open Words Sums
def ScOut (w : World) (bs : List Bk) (e : Ending) (w' : World) : Prop :=
  ∃ (ad : Option Addr) (cap : Nat), e = .returned (.slice ad (scanF bs).length cap) ∧ FdRd w' ad (scanF bs).length (scanF bs) ∧ (scanF bs).length ≤ 1099511627776 ∧ Below w.heap.size w w'
theorem scOut {w w' : World} {rs : List Rw} {e : Ending} (hl : rs.length ≤ 1048576) (hll : ∀ r ∈ rs, r.2.2.2.length ≤ 1048576) (h : ∃ u M, e = .returned u ∧ Asc M ∧ Akin (founds (rs.map tellOf) rs.length) M ∧ FRes w' w.heap.size u M ∧ Below w.heap.size w w') : ScOut w (rs.map tellOf) e w' := by
  obtain ⟨u, M, rfl, h1, h2, h3, h4⟩ := h
  have e1 : M = scanF (rs.map tellOf) := scanF_is h1 (by rw [List.length_map]; exact h2)
  obtain ⟨ad, cap, rfl, h5, -⟩ := h3.rd
  subst e1
  refine ⟨ad, cap, rfl, h5, ?_, h4⟩
  refine Nat.le_trans (scan_count (rs.map tellOf) 1048576 (fun b hb => ?_)) ?_
  · obtain ⟨r, hr, rfl⟩ := List.mem_map.1 hb
    exact hll r hr
  · rw [List.length_map]
    exact Nat.le_trans (Nat.mul_le_mul_right _ hl) (by decide)
theorem sscanO (v : Value) (rs : List Rw) (w : World) (hl : rs.length ≤ 1048576) (hll : ∀ r ∈ rs, r.2.2.2.length ≤ 1048576) (htx : TxB rs) (ha : FlashRd w v rs) : Calls Tryz.prog 33 #[.agg #[v]] w (ScOut w (rs.map tellOf)) :=
  (sscan_rd v rs w hl hll htx ha).mono (fun _ _ h => scOut hl hll h)
theorem iscanO (v : Value) (rs : List Rw) (w : World) (hl : rs.length ≤ 1048576) (hll : ∀ r ∈ rs, r.2.2.2.length ≤ 1048576) (htx : TxB rs) (ha : FlashRd w v rs) (ht : HalvIn w) : Calls Tryz.prog 124 #[.agg #[v]] w (ScOut w (rs.map tellOf)) :=
  (iscan_rd v rs w hl hll htx ha ht).mono (fun _ _ h => scOut hl hll h)
end Go.Proofs.YtfmnaidhfgmemaaGreatDoor

namespace Go.Proofs.YtfmnaidhfgmemaaGreatDoor
open Go.RowKit
open Words Sums
theorem stin_formI {w : World} {v : Value} {s : Sto} (h : StIn w v s) : ∃ va vl vc ad len cap, v = .agg #[.slice va vl vc, .slice ad len cap, .int .i64 s.next] := by
  obtain ⟨va, vl, vc, ad, len, cap, rs, h1, -⟩ := h
  exact ⟨va, vl, vc, ad, len, cap, h1⟩
theorem icontI (la : Option Addr) (ll lc : Nat) (live : List Int) (x : Int) (w : World) (hll : ll ≤ 1000000000000000000) (hi : IRow w la ll live) :
    Calls Tryz.prog 154 #[.slice la ll lc, .int .i64 x] w fun e w' => e = .returned (.bool (live.contains x)) ∧ w' = w := by
  by_cases h0 : ll = 0
  · have hn : live = [] := List.eq_nil_of_length_eq_zero (by rw [hi.1, h0])
    subst h0 hn
    exact Tryz.slices_Contains_int_empty la lc x w
  · obtain ⟨b, off, e, -, -⟩ := hi.at (k := 0) (t := live[0]'(by rw [hi.1]; omega)) (List.getElem?_eq_getElem _)
    subst e
    have := Tryz.slices_Contains_int b off ll lc live x w (by rw [hi.1]; exact Nat.le_refl _) (by omega) (fun j hj => by
      obtain ⟨b', off', e, -, hc⟩ := hi.at (k := j) (t := live[j]) (List.getElem?_eq_getElem hj)
      injection e with e
      injection e with e1 e2
      subst e1 e2
      rw [hc, List.getD_eq_getElem?_getD, List.getElem?_eq_getElem hj]
      rfl)
    rw [List.take_of_length_le (by rw [hi.1]; exact Nat.le_refl _)] at this
    exact this
def needJ (M : List Fnd) (live : List Int) (base : Int) (x : Fnd) : Bool := if x.page.kind = 2 then decide (base ≤ x.page.tx) else fndB (fdOr (newP M x.page.tx)) x && live.contains x.page.tx
theorem needJ_is {M : List Fnd} {x : Fnd} (live : List Int) (base : Int) (hx : x ∈ M) (hk : x.page.kind = 1 ∨ x.page.kind = 2) : needJ M live base x = needI M live base x := by
  unfold needJ needI
  split
  · rfl
  · rename_i h2
    have hk1 : x.page.kind = 1 := by omega
    cases hn : newP M x.page.tx with
    | some y => rfl
    | none =>
      have := newP_none.1 hn x hx
      unfold isData at this
      simp [hk1] at this
set_option maxHeartbeats 1000000 in
set_option maxRecDepth 100000 in
theorem ineeds (B : Nat) (M : List Fnd) (x : Fnd) (la : Option Addr) (ll lc : Nat) (live : List Int) (base : Int) (w : World) (hll : ll ≤ 1000000000000000000) (hN : NM w B M) (hi : IRow w la ll live) :
    Calls Tryz.prog 127 #[.map (some B), fdVal x, .slice la ll lc, .int .i64 base] w fun e w' => e = .returned (.bool (needJ M live base x)) ∧ Below w.heap.size w w' := by
  obtain ⟨y, hy⟩ : ∃ y, fdOr (newP M x.page.tx) = y := ⟨_, rfl⟩
  have hq := fun W => fd_eql y x W
  rw [fndB_is] at hq
  have HJ : Hid (needJ M live base x = if x.page.kind = 2 then decide (base ≤ x.page.tx) else fndB y x && live.contains x.page.tx) := by show _ = _; rw [← hy]; rfl
  obtain ⟨b, hb⟩ : ∃ b, fndB y x = b := ⟨_, rfl⟩
  rw [hb] at hq HJ
  obtain ⟨xb, xl, pk, pq, px, pp, pc, pt⟩ := x
  obtain ⟨yb, yl, yk, yq, yx, yp, yc, yt⟩ := y
  unfold fdVal at hq ⊢
  simp only at hq HJ hy ⊢
  have b1 : Below w.heap.size w (w.alloc (.cells #[.int .i64 xb, .int .i64 xl, .int .i64 pk, .int .i64 pq, .int .i64 px, .int .i64 pp, .int .i64 pc, .string pt] 116)) := (Below.refl _ _).alloc (Nat.le_refl _) _
  have FA : FdAt (w.alloc (.cells #[.int .i64 xb, .int .i64 xl, .int .i64 pk, .int .i64 pq, .int .i64 px, .int .i64 pp, .int .i64 pc, .string pt] 116)) w.heap.size ⟨xb, xl, pk, pq, px, pp, pc, pt⟩ := heap_alloc_new _ _
  generalize hw1 : w.alloc (.cells #[.int .i64 xb, .int .i64 xl, .int .i64 pk, .int .i64 pq, .int .i64 px, .int .i64 pp, .int .i64 pc, .string pt] 116) = w1 at b1 FA
  have b2 : Below w1.heap.size w1 (w1.alloc (.cells #[.int .i64 pk, .int .i64 pq, .int .i64 px, .int .i64 pp, .int .i64 pc, .string pt] 92)) := (Below.refl _ _).alloc (Nat.le_refl _) _
  have FA2 := FA.below b2
  have PA : (w1.alloc (.cells #[.int .i64 pk, .int .i64 pq, .int .i64 px, .int .i64 pp, .int .i64 pc, .string pt] 92)).heap[w1.heap.size]? = some (.cells #[.int .i64 pk, .int .i64 pq, .int .i64 px, .int .i64 pp, .int .i64 pc, .string pt] 92 (0, 0)) := heap_alloc_new _ _
  generalize hw2 : w1.alloc (.cells #[.int .i64 pk, .int .i64 pq, .int .i64 px, .int .i64 pp, .int .i64 pc, .string pt] 92) = w2 at b2 FA2 PA
  have b12 := b1.trans (b2.mono b1.size)
  have hlk := (hN.below b12).look px false
  rw [hy] at hlk
  unfold fdVal at hlk
  simp only [Bool.false_eq_true, if_false] at hlk
  obtain ⟨x0, x1, x2, x3, x4, x5, x6, x7⟩ := FA.cells
  obtain ⟨y0, y1, y2, y3, y4, y5, y6, y7⟩ := FA2.cells
  simp only at x0 x1 x2 x3 x4 x5 x6 x7 y0 y1 y2 y3 y4 y5 y6 y7
  have p0 := cell_of_row _ _ 0 _ _ _ PA
  have p2 := cell_of_row _ _ 2 _ _ _ PA
  have HI := hide (hi.below b12)
  have B12 := hide b12
  clear hN hi hy hb b1 b2 b12 FA FA2 PA
  by_cases hk : (pk == 2) = true
  · have hk2 : pk = 2 := by simpa using hk
    have HO : Hid (needJ M live base ⟨xb, xl, pk, pq, px, pp, pc, pt⟩ = decide (base ≤ px)) := by show _ = _; rw [HJ.out, if_pos hk2]
    clear HJ hk2 hlk
    by_cases hd : base ≤ px
    · go_enter Tryz.func127, Tryz.ntmps127
      go_wp2
      go_ret
      rw [HO.out, decide_eq_true hd]
      exact ⟨rfl, B12.out⟩
    · go_enter Tryz.func127, Tryz.ntmps127
      go_wp2
      go_ret
      rw [HO.out, decide_eq_false (show ¬ base ≤ px by omega)]
      exact ⟨rfl, B12.out⟩
  · have hk' : (pk == 2) = false := by simpa using hk
    have HO : Hid (needJ M live base ⟨xb, xl, pk, pq, px, pp, pc, pt⟩ = (b && live.contains px)) := by show _ = _; rw [HJ.out, if_neg (by simpa using hk)]
    clear HJ hk
    cases b with
    | false =>
      go_enter Tryz.func127, Tryz.ntmps127
      go_wp2
      go_ret
      rw [HO.out]
      exact ⟨rfl, B12.out⟩
    | true =>
      have CC := hide (icontI la ll lc live px w2 hll HI.out)
      obtain ⟨q, hq2⟩ : ∃ q, live.contains px = q := ⟨_, rfl⟩
      rw [hq2] at CC HO
      clear hq2
      go_enter Tryz.func127, Tryz.ntmps127
      go_wp2_with fail
      refine CC.out.mono ?_
      rintro e w3 ⟨rfl, rfl⟩
      go_wp2
      go_ret
      rw [HO.out, Bool.true_and]
      exact ⟨rfl, B12.out⟩
theorem cnt_succ {M : List Fnd} {k : Nat} {x : Fnd} (p : Fnd → Bool) (h : M[k]? = some x) : ((M.take (k + 1)).filter p).length = ((M.take k).filter p).length + if p x then 1 else 0 := by
  rw [take_snoc h, List.filter_append, List.length_append]
  cases hp : p x <;> simp [hp]
def NdI (w W : World) (B : Nat) (M : List Fnd) (ad : Option Addr) (len : Nat) (la : Option Addr) (ll : Nat) (live : List Int) : Prop := Below w.heap.size w W ∧ NM W B M ∧ FdRd W ad len M ∧ IRow W la ll live
theorem NdI.next {w W W' : World} {B len ll : Nat} {M : List Fnd} {ad la : Option Addr} {live : List Int} (h : NdI w W B M ad len la ll live) (b : Below W.heap.size W W') : NdI w W' B M ad len la ll live :=
  ⟨h.1.trans (b.mono h.1.size), h.2.1.below b, h.2.2.1.below b, h.2.2.2.below b⟩
set_option maxHeartbeats 4000000 in
set_option maxRecDepth 100000 in
theorem ineededOn (v : Value) (rs : List Rw) (sv : Value) (s : Sto) (base b : Int) (w : World) (hl : rs.length ≤ 1048576) (hll : ∀ r ∈ rs, r.2.2.2.length ≤ 1048576) (htx : TxB rs) (ha : FlashRd w v rs) (hs : StIn w sv s) (hH : HalvIn w) :
    Calls Tryz.prog 87 #[.agg #[v], sv, .int .i64 base, .int .i64 b] w fun e w' => e = .returned (.int .i64 ((neededP (scanF (rs.map tellOf)) (liveS s) base b : Nat) : Int)) ∧ Below w.heap.size w w' := by
  obtain ⟨M, hM⟩ : ∃ M, scanF (rs.map tellOf) = M := ⟨_, rfl⟩
  have hfit := hs.fit
  have hlb := live_bound s
  have HNP : Hid (neededP M (liveS s) base b = (M.filter fun x => x.block == b && needJ M (liveS s) base x).length) := by
    show _ = _
    rw [needed_same _ _ _ (by rw [← hM]; exact scan_apart _) (fun x hx => scan_kind (by rw [hM]; exact hx))]
    congr 1
    apply List.filter_congr
    intro x hx
    rw [needJ_is _ _ hx (scan_kind (by rw [hM]; exact hx))]
  obtain ⟨va, vl, vc, ad0, len0, cap0, rfl⟩ := stin_formI hs
  have bA : Below w.heap.size w (w.alloc (.cells #[v] 39)) := (Below.refl _ _).alloc (Nat.le_refl _) _
  have kA : (w.alloc (.cells #[v] 39)).cell? ⟨w.heap.size, 0, none⟩ = some v := cell_of_row _ _ 0 _ _ _ (heap_alloc_new w (.cells #[v] 39))
  generalize hwa : w.alloc (.cells #[v] 39) = wa at bA kA
  have bB : Below wa.heap.size wa (wa.alloc (.cells #[.slice va vl vc, .slice ad0 len0 cap0, .int .i64 s.next] 45)) := (Below.refl _ _).alloc (Nat.le_refl _) _
  have kB : ∀ (k : Nat) (u : Value), #[Value.slice va vl vc, .slice ad0 len0 cap0, .int .i64 s.next][k]? = some u → (wa.alloc (.cells #[.slice va vl vc, .slice ad0 len0 cap0, .int .i64 s.next] 45)).cell? ⟨wa.heap.size, k, none⟩ = some u := fun k u hu => by
    exact (cell_of_row _ _ k _ _ _ (heap_alloc_new wa (.cells #[.slice va vl vc, .slice ad0 len0 cap0, .int .i64 s.next] 45))).trans hu
  generalize hwb : wa.alloc (.cells #[.slice va vl vc, .slice ad0 len0 cap0, .int .i64 s.next] 45) = wb at bB kB
  have bW : Below w.heap.size w wb := bA.trans (bB.mono bA.size)
  have k0 : wb.cell? ⟨w.heap.size, 0, none⟩ = some v := (bB.cell (World.block_lt_of_cell? wa _ kA)).trans kA
  have s0 := kB 0 _ rfl
  have s1 := kB 1 _ rfl
  have s2 := kB 2 _ rfl
  have C := hide (iscanO v rs wb hl hll htx (ha.below bW) (hH.on bW))
  have HS := hide (hs.below bW)
  have BW := hide bW
  unfold ScOut at C
  rw [hM] at C ⊢
  have HLB : Hid ((liveS s).length ≤ 16 * 1048576) := by have := hfit.1; show _ ≤ _; omega
  have HL1 := hide (fun W (h : StIn W (.agg #[.slice va vl vc, .slice ad0 len0 cap0, .int .i64 s.next]) s) => ilive _ s W h)
  clear hl hll htx ha hs bA hM hfit hlb kA kB bW hH
  go_enter Tryz.func87, Tryz.ntmps87
  go_wp2_with fail
  clear hwa hwb bB
  refine C.out.mono ?_
  rintro e w1 ⟨ad, cap, rfl, h1, h2, h3⟩
  have e0 := (h3.cell (World.block_lt_of_cell? wb _ s0)).trans s0
  have e1 := (h3.cell (World.block_lt_of_cell? wb _ s1)).trans s1
  have e2 := (h3.cell (World.block_lt_of_cell? wb _ s2)).trans s2
  have HR := hide h1
  have H1 := hide (HS.out.below h3)
  have B1 := hide (BW.out.trans (h3.mono BW.out.size))
  have bd : Below w1.heap.size w1 w1.drew := (Below.refl _ _).drew
  have HRd := hide (HR.out.below bd)
  have H1d := hide (H1.out.below bd)
  have B1d := hide (B1.out.trans (bd.mono B1.out.size))
  have E1 : Hid (w1.drew.cell? ⟨wa.heap.size, 0, none⟩ = some (.slice va vl vc) ∧ w1.drew.cell? ⟨wa.heap.size, 1, none⟩ = some (.slice ad0 len0 cap0) ∧ w1.drew.cell? ⟨wa.heap.size, 2, none⟩ = some (.int .i64 s.next)) := ⟨e0, e1, e2⟩
  clear C h1 h3 HS BW k0 s0 s1 s2 bd HR H1 B1
  go_wp2
  go_region_held3 (fun w' => w'.cell? ⟨wa.heap.size, 0, none⟩ = some (.slice va vl vc) ∧ w'.cell? ⟨wa.heap.size, 1, none⟩ = some (.slice ad0 len0 cap0) ∧ w'.cell? ⟨wa.heap.size, 2, none⟩ = some (.int .i64 s.next)) (first | (with_reducible exact E3.out) | (with_reducible exact E2.out) | (with_reducible exact E1.out) | go_keep) (first
    | (go_at_call 125; refine (inewestOf ad M.length cap M _ h2 HRd.out).mono ?_; rintro en w2 ⟨BN, rfl, -, hN, b2⟩; have NA := hide hN; have SA := hide (H1d.out.below b2); have RA := hide (HRd.out.below b2); have BA2 := hide (B1d.out.trans (b2.mono B1d.out.size)); have E2 : Hid (w2.cell? ⟨wa.heap.size, 0, none⟩ = some (.slice va vl vc) ∧ w2.cell? ⟨wa.heap.size, 1, none⟩ = some (.slice ad0 len0 cap0) ∧ w2.cell? ⟨wa.heap.size, 2, none⟩ = some (.int .i64 s.next)) := ⟨(b2.cell (World.block_lt_of_cell? _ _ E1.out.1)).trans E1.out.1, (b2.cell (World.block_lt_of_cell? _ _ E1.out.2.1)).trans E1.out.2.1, (b2.cell (World.block_lt_of_cell? _ _ E1.out.2.2)).trans E1.out.2.2⟩; clear hN b2)
    | (go_at_call 126; refine (HL1.out _ SA.out).mono ?_; rintro en w3 ⟨lv, rfl, ho, b3⟩; obtain ⟨la, lc, rfl, hir, -, -⟩ := IHas.of ho (by have := HLB.out; unfold maxLen; omega) b3; have ND : Hid (NdI w w3 BN M ad M.length la (liveS s).length (liveS s)) := ⟨BA2.out.trans (b3.mono BA2.out.size), NA.out.below b3, RA.out.below b3, hir⟩; have E3 : Hid (w3.cell? ⟨wa.heap.size, 0, none⟩ = some (.slice va vl vc) ∧ w3.cell? ⟨wa.heap.size, 1, none⟩ = some (.slice ad0 len0 cap0) ∧ w3.cell? ⟨wa.heap.size, 2, none⟩ = some (.int .i64 s.next)) := ⟨(b3.cell (World.block_lt_of_cell? _ _ E2.out.1)).trans E2.out.1, (b3.cell (World.block_lt_of_cell? _ _ E2.out.2.1)).trans E2.out.2.1, (b3.cell (World.block_lt_of_cell? _ _ E2.out.2.2)).trans E2.out.2.2⟩; clear ho hir b3 NA SA RA BA2))
  all_goals
    clear E1 E2 E3 HRd H1d B1d HL1 e0 e1 e2
    obtain ⟨n, hn⟩ : ∃ n, M.length = n := ⟨_, rfl⟩
    rw [hn] at ND h2
    have HN := hide hn
    try rw [hn]
    clear hn
    go_wp2
    go_loopw [12, 23] (fun nv iv wr => ∃ (k q : Nat), nv = .int .i64 q ∧ iv = .int .i64 k ∧ k ≤ n ∧ q ≤ k ∧ Hid (((M.take k).filter fun x => x.block == b && needJ M (liveS s) base x).length = q) ∧ Hid (NdI w wr BN M ad n la (liveS s).length (liveS s))) (fun _ iv _ => n - (intOf iv).toNat)
    case atStart => exact ⟨0, 0, rfl, rfl, Nat.zero_le _, Nat.le_refl _, (by show _ = _; simp), ND⟩
    case round =>
      rename World => wr
      obtain ⟨k, q, rfl, rfl, hk, hq, HQ, ND2⟩ := hrel
      clear ND
      have hk0 : (0 : Int) ≤ k := by omega
      by_cases hlt : (k : Int) < n
      · obtain ⟨x, hx⟩ : ∃ x, M[k]? = some x := ⟨_, List.getElem?_eq_getElem (by have := HN.out; omega)⟩
        obtain ⟨rb, ro, rfl, -, c0, c1, c2, c3, c4, c5, c6, c7, d4⟩ := ND2.out.2.2.1.all hx
        have HC := hide (cnt_succ (fun x => x.block == b && needJ M (liveS s) base x) hx)
        rw [HQ.out] at HC
        obtain ⟨j, hj⟩ : ∃ j, needJ M (liveS s) base x = j := ⟨_, rfl⟩
        rw [hj] at HC
        have HJ := hide hj
        have ba : Below wr.heap.size wr (wr.alloc (.cells #[.int .i64 x.block, .int .i64 x.leaf, .int .i64 x.page.kind, .int .i64 x.page.seq, .int .i64 x.page.tx, .int .i64 x.page.part, .int .i64 x.page.count, .string x.page.text] 116)) := (Below.refl _ _).alloc (Nat.le_refl _) _
        have ND3 := hide (ND2.out.next ba)
        have FA : Hid (FdAt (wr.alloc (.cells #[.int .i64 x.block, .int .i64 x.leaf, .int .i64 x.page.kind, .int .i64 x.page.seq, .int .i64 x.page.tx, .int .i64 x.page.part, .int .i64 x.page.count, .string x.page.text] 116)) wr.heap.size x) := heap_alloc_new _ _
        obtain ⟨y0, y1, y2, y3, y4, y5, y6, y7⟩ := FA.out.cells
        have CN := hide (ineeds BN M x la (liveS s).length lc (liveS s) base _ (by have := HLB.out; omega) ND3.out.2.1 ND3.out.2.2.2)
        rw [HJ.out] at CN
        obtain ⟨xb, xl, pk, pq, px, pp, pc, pt⟩ := x
        unfold fdVal at CN
        simp only at c0 c1 c2 c3 c4 c5 c6 c7 d4 y0 y1 y2 y3 y4 y5 y6 y7 HC CN ND3
        clear hx hj HJ ba FA ND2 HQ
        by_cases hb : (xb == b) = true
        · rw [hb, Bool.true_and] at HC
          go_wp2_with fail
          refine CN.out.mono ?_
          rintro e w4 ⟨rfl, b4⟩
          have ND4 := hide (ND3.out.next b4)
          clear b4 CN ND3
          cases j with
          | true =>
            have HC2 : Hid (((M.take (k + 1)).filter fun x => x.block == b && needJ M (liveS s) base x).length = q + 1) := HC
            clear HC
            go_wp2
            go_roundw
            case rel => exact ⟨k + 1, q + 1, by go_num, by go_num, by omega, by omega, HC2, ND4⟩
            case measure => simp [intOf]; omega
          | false =>
            have HC2 : Hid (((M.take (k + 1)).filter fun x => x.block == b && needJ M (liveS s) base x).length = q) := HC
            clear HC
            go_wp2
            go_roundw
            case rel => exact ⟨k + 1, q, rfl, by go_num, by omega, by omega, HC2, ND4⟩
            case measure => simp [intOf]; omega
        · have hb : (xb == b) = false := by simpa using hb
          rw [hb, Bool.false_and] at HC
          have HC2 : Hid (((M.take (k + 1)).filter fun x => x.block == b && needJ M (liveS s) base x).length = q) := HC
          clear HC CN
          go_wp2
          go_roundw
          case rel => exact ⟨k + 1, q, rfl, by go_num, by omega, by omega, HC2, ND3⟩
          case measure => simp [intOf]; omega
      · have HO : Hid (neededP M (liveS s) base b = q) := by
          have := HQ.out
          rw [List.take_of_length_le (by have := HN.out; omega), ← HNP.out] at this
          exact this
        clear HQ
        go_wp2
        go_ret
        rw [HO.out]
        exact ⟨rfl, ND2.out.1⟩
end Go.Proofs.YtfmnaidhfgmemaaGreatDoor
