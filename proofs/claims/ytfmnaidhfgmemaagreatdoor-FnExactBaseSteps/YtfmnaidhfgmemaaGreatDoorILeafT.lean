import Derived.Test.YtfmnaidhfgmemaaGreatDoorPk6
import Derived.Test.YtfmnaidhfgmemaaGreatDoorPk9
import Derived.Test.YtfmnaidhfgmemaaGreatDoorPk10
import Derived.Test.YtfmnaidhfgmemaaGreatDoorPk1
import Derived.Lib.LazyBuf
import Derived.Laws.IdiomCopy
namespace Go.Proofs.YtfmnaidhfgmemaaGreatDoor
open Go.RowKit
open Words Sums
def cutV (g : Nat) (c : Nat × Nat) : Value := .slice (some ⟨g, c.1, none⟩) c.2 c.2
theorem cutV_one (g : Nat) (c : Nat × Nat) : ∀ u ∈ [cutV g c], u.oneCell' = true := by
  intro u hu; simp at hu; subst hu; rfl
theorem infoBs : (Tryz.prog.info? 110).map (fun i => (i.zero, i.size, i.bytes)) = some (some (.slice none 0 0), 1, 24) := by kernel_rfl
theorem size_u8 (w : World) : (Go.sizeOf 5).run Tryz.prog w = .ok 1 w := by kernel_rfl
theorem elem_bs : Tryz.prog.elem 110 = 5 := by kernel_rfl
theorem under_bs : Tryz.prog.underlying 110 = some (.slice (Tryz.prog.elem 110)) := by kernel_rfl
theorem cut_behind (g off r sz : Nat) (h : sz < r) (W : World) : (Instr.slice 110 (.slice (some ⟨g, off, none⟩) r r) (some (.int .i64 sz)) none none).run Tryz.prog W = .ok (.slice (some ⟨g, off + sz, none⟩) (r - sz) (r - sz)) W := by
  rw [run_slice_l W _ _ _ _ under_bs .i64 _ (by omega) (by omega), elem_bs, size_u8]
  have e : ¬ r = sz := by omega
  have e2 : (sz : Int).toNat = sz := Int.toNat_natCast sz
  simp only [Result.andThen, sliced, e2, Option.map]
  rw [if_neg e, Nat.mul_one]
  congr 3
  simp [Addr.add]
def TxtAt (W : World) (g : Nat) (L : List (Nat × Nat)) (Q : List Pg) : Prop :=
  L.length = Q.length ∧ ∀ (i : Nat) (c : Nat × Nat) (p : Pg), L[i]? = some c → Q[i]? = some p → c.2 = (sealA (pageA p)).size ∧ ∀ (j : Nat) (x : UInt8), (sealA (pageA p)).data.toList[j]? = some x → W.cell? ⟨g, c.1 + j, none⟩ = some (.int .u8 x.toNat)
def LtOut (w : World) (Q : List Pg) (e : Ending) (w' : World) : Prop :=
  Below w.heap.size w w' ∧ ((¬ (∀ p ∈ Q, p.Right) ∧ e = .returned (.tuple #[.slice none 0 0, .bool false])) ∨
    ((∀ p ∈ Q, p.Right) ∧ ∃ g cv L, e = .returned (.tuple #[cv, .bool true]) ∧ w.heap.size ≤ g ∧ TxtAt w' g L Q ∧ w'.ownsRow w.heap.size 110 1 cv Q.length (L.map (cutV g))))
structure LtS (w W : World) (g n off : Nat) (uv : Value) (L : List (Nat × Nat)) (Q : List Pg) : Prop where
  bel : Below w.heap.size w W
  lo : w.heap.size ≤ g
  hi : g < W.heap.size
  there : ∀ j, j < n → (W.cell? ⟨g, j, none⟩).isSome = true
  free : ∀ j, j < n → W.frozen? ⟨g, j, none⟩ = false
  row : W.ownsRow (g + 1) 110 1 uv L.length (L.map (cutV g))
  at_ : ∀ (i : Nat) (c : Nat × Nat), L[i]? = some c → c.1 + c.2 ≤ off ∧ ∃ p, Q[i]? = some p ∧ p.Right ∧ c.2 = (sealA (pageA p)).size ∧ ∀ (j : Nat) (x : UInt8), (sealA (pageA p)).data.toList[j]? = some x → W.cell? ⟨g, c.1 + j, none⟩ = some (.int .u8 x.toNat)
theorem LtS.below {w W W' : World} {g n off : Nat} {uv : Value} {L : List (Nat × Nat)} {Q : List Pg} (h : LtS w W g n off uv L Q) (hb : Below W.heap.size W W') : LtS w W' g n off uv L Q where
  bel := h.bel.trans (hb.mono h.bel.size)
  lo := h.lo
  hi := Nat.lt_of_lt_of_le h.hi hb.size
  there := fun j hj => by rw [hb.cell (p := ⟨g, j, none⟩) h.hi]; exact h.there j hj
  free := fun j hj => by rw [hb.frozen (p := ⟨g, j, none⟩) h.hi]; exact h.free j hj
  row := own_below h.row hb
  at_ := fun i c hc => by
    obtain ⟨h1, p, h2, h3, h4, h5⟩ := h.at_ i c hc
    exact ⟨h1, p, h2, h3, h4, fun j x hx => by rw [hb.cell (p := ⟨g, c.1 + j, none⟩) h.hi]; exact h5 j x hx⟩
theorem grown_cells (g : Nat) : ∀ (vs : List Value) (o : Nat) (w : World), w.grownBy (w.setCells g o vs) (some g)
  | [], _, w => ⟨rfl, rfl, rfl, Nat.le_refl _, fun _ _ _ => rfl⟩
  | v :: r, o, w => by
    have h1 := grown_cell w g o v
    have h2 := grown_cells g r (o + 1) (w.setCell ⟨g, o, none⟩ v)
    exact ⟨h2.os.trans h1.os, h2.tape.trans h1.tape, h2.output.trans h1.output, Nat.le_trans h1.size h2.size, fun i hi hn => (h2.block i (Nat.lt_of_lt_of_le hi h1.size) hn).trans (h1.block i hi hn)⟩
def u8V (t : ByteArray) : List Value := t.data.toList.map fun x => Value.int .u8 (x.toNat : Int)
theorem u8V_len (t : ByteArray) : (u8V t).length = t.size := by unfold u8V; rw [List.length_map]; rfl
theorem LtS.ne {w W : World} {g n off : Nat} {uv : Value} {L : List (Nat × Nat)} {Q : List Pg} (h : LtS w W g n off uv L Q) : uv.ownBlock ≠ some g := fun e => by
  have := (h.row.lt g e).1
  omega
theorem LtS.copied {w W : World} {g n off : Nat} {uv : Value} {L : List (Nat × Nat)} {Q : List Pg} (h : LtS w W g n off uv L Q) (t : ByteArray) (hn : off + t.size ≤ n) :
    LtS w (W.setCells g off (u8V t)) g n off uv L Q ∧ ∀ (j : Nat) (x : UInt8), t.data.toList[j]? = some x → (W.setCells g off (u8V t)).cell? ⟨g, off + j, none⟩ = some (.int .u8 x.toNat) := by
  have hg := grown_cells g (u8V t) off W
  have hl := u8V_len t
  refine ⟨⟨Go.below_setCells h.lo _ _ _ h.bel, h.lo, Nat.lt_of_lt_of_le h.hi hg.size, fun j hj => World.isSome_setCells _ _ _ _ _ (h.there j hj), fun j hj => by rw [World.frozen?_setCells]; exact h.free j hj, h.row.kept hg (.inr h.ne), fun i c hc => ?_⟩, fun j x hx => ?_⟩
  · obtain ⟨h1, p, h2, h3, h4, h5⟩ := h.at_ i c hc
    refine ⟨h1, p, h2, h3, h4, fun j x hx => ?_⟩
    rw [World.cell?_setCells_out g _ _ _ _ (fun _ _ => .inl ?_)]
    · exact h5 j x hx
    · have h6 : j < (sealA (pageA p)).data.toList.length := (List.getElem?_eq_some_iff.1 hx).1
      have h7 : (sealA (pageA p)).size = (sealA (pageA p)).data.toList.length := rfl
      show c.1 + j < off
      omega
  · have h6 := (List.getElem?_eq_some_iff.1 hx).1
    have h7 : t.size = t.data.toList.length := rfl
    have := World.cell?_setCells_in g (u8V t) off W (fun i hi => h.there _ (by omega)) j (by omega)
    rw [this]
    simp only [u8V, List.getElem_map]
    rw [(List.getElem?_eq_some_iff.1 hx).2]
theorem LtS.next {w W W2 : World} {g n off : Nat} {uv u2 : Value} {L : List (Nat × Nat)} {Q : List Pg} {p : Pg} {o : Obj} (h : LtS w W g n off uv L Q) (hr : p.Right) (hp : Q[L.length]? = some p)
    (hc : ∀ (j : Nat) (x : UInt8), (sealA (pageA p)).data.toList[j]? = some x → W.cell? ⟨g, off + j, none⟩ = some (.int .u8 x.toNat)) (hg : (W.alloc o).grownBy W2 uv.ownBlock)
    (ho : W2.ownsRow (g + 1) 110 1 u2 (L.length + 1) (L.map (cutV g) ++ [cutV g (off, (sealA (pageA p)).size)])) : LtS w W2 g n (off + (sealA (pageA p)).size) u2 (L ++ [(off, (sealA (pageA p)).size)]) Q := by
  have ha := (Below.refl W.heap.size W).alloc (Nat.le_refl _) o
  have h1 := h.below ha
  have hk : ∀ a : Addr, a.block = g → W2.cell? a = W.cell? a ∧ W2.frozen? a = W.frozen? a := fun a e => by
    have hb := hg.block g h1.hi (fun q => h.ne q.symm)
    have hb2 := ha.block g h.hi
    exact ⟨World.cell?_of_block (by rw [e]; exact hb.trans hb2), World.frozen?_of_block (by rw [e]; exact hb.trans hb2)⟩
  refine ⟨h1.bel.grown hg h1.bel.size (fun k hk => by have := (h.row.lt k hk).1; have := h.lo; omega), h.lo, Nat.lt_of_lt_of_le h1.hi hg.size, fun j hj => by rw [(hk _ rfl).1]; exact h.there j hj, fun j hj => by rw [(hk _ rfl).2]; exact h.free j hj, ?_, fun i c hi => ?_⟩
  · rw [List.length_append, List.map_append]
    exact ho
  · by_cases hl : i < L.length
    · rw [List.getElem?_append_left hl] at hi
      obtain ⟨h2, q, h3, h4, h5, h6⟩ := h.at_ i c hi
      exact ⟨by omega, q, h3, h4, h5, fun j x hx => by rw [(hk _ rfl).1]; exact h6 j x hx⟩
    · rw [List.getElem?_append_right (by omega)] at hi
      have hi0 : i - L.length = 0 := by
        have := (List.getElem?_eq_some_iff.1 hi).1
        simp at this
        omega
      rw [hi0] at hi
      simp only [List.getElem?_cons_zero, Option.some.injEq] at hi
      subst hi
      have he : i = L.length := by omega
      subst he
      exact ⟨Nat.le_refl _, p, hp, hr, rfl, fun j x hx => by rw [(hk _ rfl).1]; exact hc j x hx⟩
theorem PgRow.at {W : World} {B pb np pcap k : Nat} {Q : List Pg} {p : Pg} (h : W.ownsRow B 92 6 (.slice (some ⟨pb, 0, none⟩) np pcap) np (pgcells (Q.map Pg.tu))) (hk : Q[k]? = some p) : W.cell? ⟨pb, k * 6, none⟩ = some (.int .i64 p.kind) ∧ W.cell? ⟨pb, k * 6 + 1, none⟩ = some (.int .i64 p.seq) ∧ W.cell? ⟨pb, k * 6 + 2, none⟩ = some (.int .i64 p.tx) ∧ W.cell? ⟨pb, k * 6 + 3, none⟩ = some (.int .i64 p.part) ∧ W.cell? ⟨pb, k * 6 + 4, none⟩ = some (.int .i64 p.count) ∧ W.cell? ⟨pb, k * 6 + 5, none⟩ = some (.string p.text) := by
  have hm : (Q.map Pg.tu)[k]? = some p.tu := by rw [List.getElem?_map, hk]; rfl
  have hc := fun (j : Nat) (v : Value) (hj : (pgcell p.tu)[j]? = some v) => World.ownsRow.cells h (g := pb) rfl (k * 6 + j) v (pgcells_at _ k _ hm j v hj)
  have e : ∀ j, (⟨pb, 0, none⟩ : Addr).add j = ⟨pb, j, none⟩ := addr_at pb
  refine ⟨?_, ?_, ?_, ?_, ?_, ?_⟩
  · have := hc 0 _ rfl; rw [e] at this; exact this
  · have := hc 1 _ rfl; rw [e] at this; exact this
  · have := hc 2 _ rfl; rw [e] at this; exact this
  · have := hc 3 _ rfl; rw [e] at this; exact this
  · have := hc 4 _ rfl; rw [e] at this; exact this
  · have := hc 5 _ rfl; rw [e] at this; exact this
theorem LtS.start {w w1 w2 : World} {n c : Nat} {R : List Value} {Q : List Pg} (h1 : w1.ownsRow w.heap.size 5 1 (.slice (some ⟨w.heap.size, 0, none⟩) n n) n R) (g1 : w.grownBy w1 none) (h2 : w2.ownsRow (w.heap.size + 1) 110 1 (.slice (some ⟨w1.heap.size, 0, none⟩) 0 c) 0 []) (g2 : w1.grownBy w2 none) : LtS w w2 w.heap.size n 0 (.slice (some ⟨w1.heap.size, 0, none⟩) 0 c) [] Q := by
  have b1 := (Below.refl w.heap.size w).grown g1 (Nat.le_refl _) (fun k hk => by cases hk)
  have b2 := (Below.refl w1.heap.size w1).grown g2 (Nat.le_refl _) (fun k hk => by cases hk)
  have hl := (h1.lt w.heap.size rfl).2
  refine ⟨b1.trans (b2.mono b1.size), Nat.le_refl _, Nat.lt_of_lt_of_le hl b2.size, fun j hj => ?_, fun j hj => ?_, h2, fun i c hi => by simp at hi⟩
  · rw [b2.cell (p := ⟨w.heap.size, j, none⟩) hl, h1.cellAt j (by omega), List.getElem?_eq_getElem (by rw [h1.1]; omega)]
    rfl
  · rw [b2.frozen (p := ⟨w.heap.size, j, none⟩) hl]
    exact h1.frozenAt j
set_option maxHeartbeats 2000000 in
set_option maxRecDepth 100000 in
theorem ileafTexts (pv : Value) (Q : List Pg) (B : Nat) (w : World) (hQ : Q.length ≤ 100) (hv : HalvIn w) (ho : w.ownsRow B 92 6 pv Q.length (pgcells (Q.map Pg.tu))) : Calls Tryz.prog 75 #[pv] w (LtOut w Q) := by
  obtain ⟨pa, pcap, rfl, -, -, hpf⟩ := frow_form ho
  obtain ⟨np, hnp⟩ : ∃ np, Q.length = np := ⟨_, rfl⟩
  rw [hnp] at ho hQ hpf ⊢
  have HNP := hide hnp
  have HV := hide hv
  have HO := hide ho
  obtain ⟨i0, hi, hz0, hz1, hz2⟩ := info_parts infoByte
  obtain ⟨i1, hi1, hy0, hy1, hy2⟩ := info_parts infoBs
  have I0 := hide hi
  have Z0 := hide hz0
  have Z1 := hide hz1
  have Z2 := hide hz2
  have I1 := hide hi1
  have Y0 := hide hy0
  have Y1 := hide hy1
  have Y2 := hide hy2
  obtain ⟨N, hN⟩ : ∃ N, np * 120 = N := ⟨_, rfl⟩
  have hN2 : (np : Int) * 120 = N := by omega
  have HN := hide hN
  clear hv ho hi hz0 hz1 hz2 hi1 hy0 hy1 hy2 hnp
  go_enter Tryz.func75, Tryz.ntmps75
  go_wp2_with (at_make; refine wpList_make_full _ rfl _ _ 110 rfl w.heap.size 5 i0 (.int .u8 0) 1 Tryz.underlying110 I0.out Z0.out Z1.out .i64 .i64 _ _ N rfl rfl (by omega) (by omega) (by rw [Z2.out]; omega) (by unfold maxLen; omega) (Nat.le_refl _) ?_)
  intro w1 ho1 hg1
  have b1 := (Below.refl w.heap.size w).grown hg1 (Nat.le_refl _) (fun k hk => by cases hk)
  have hz1 := b1.size
  have hl1 := (ho1.lt w.heap.size rfl).2
  go_wp2_with (at_make; refine wpList_make_own _ rfl _ _ 142 rfl (w.heap.size + 1) 110 i1 (.slice none 0 0) 1 Tryz.underlying142 I1.out Y0.out Y1.out .i64 .i64 _ np rfl rfl rfl (by rw [Y2.out]; omega) (by unfold maxLen; omega) (by omega) ?_)
  intro w2 ho2 hg2
  have HS := hide (LtS.start (Q := Q) ho1 hg1 ho2 hg2)
  obtain ⟨g, hgw⟩ : ∃ g, w.heap.size = g := ⟨_, rfl⟩
  obtain ⟨u0, hu0⟩ : ∃ u0, Value.slice (some ⟨w1.heap.size, 0, none⟩) 0 np = u0 := ⟨_, rfl⟩
  rw [hgw, hu0] at HS
  have hNa : N ≤ np * 120 := by omega
  have hNb : np * 120 ≤ N := by omega
  clear b1 hz1 hl1 ho1 hg1 ho2 hg2 hN2 hN I0 Z0 Z1 Z2
  go_wp2
  try rw [hgw]
  try rw [hu0]
  clear hu0 hgw
  go_loopw [4, 5, 20] (fun rv uv iv wr => ∃ (k off r : Nat) (L : List (Nat × Nat)), rv = .slice (some ⟨g, off, none⟩) r r ∧ iv = .int .i64 k ∧ k ≤ np ∧ off + r = N ∧ off ≤ 116 * k ∧ Hid (L.length = k) ∧ Hid (LtS w wr g N off uv L Q)) (fun _ _ iv _ => np - (intOf iv).toNat)
  case atStart => exact ⟨0, 0, N, [], rfl, rfl, Nat.zero_le _, by omega, Nat.le_refl _, rfl, HS⟩
  case round =>
    rename World => wr
    obtain ⟨k, off, r, L, rfl, rfl, hk, hr, hoff, HL, S⟩ := hrel
    clear HS
    have k0 : (0 : Int) ≤ k := by omega
    by_cases hlt : (k : Int) < np
    · obtain ⟨pb, rfl, -, -⟩ := hpf (by omega)
      obtain ⟨p, hp⟩ : ∃ p, Q[k]? = some p := ⟨_, List.getElem?_eq_getElem (by have := HNP.out; omega)⟩
      have HP := hide hp
      obtain ⟨d0, d1, d2, d3, d4, d5⟩ := PgRow.at (own_below HO.out S.out.bel) hp
      clear hp
      obtain ⟨p0, p1, p2, p3, p4, p5⟩ := p
      simp only at d0 d1 d2 d3 d4 d5
      have bA := (Below.refl wr.heap.size wr).alloc (Nat.le_refl _) (.cells #[.int .i64 p0, .int .i64 p1, .int .i64 p2, .int .i64 p3, .int .i64 p4, .string p5] 92)
      have SA := hide (S.out.below bA)
      have CP := hide (ipageText ⟨p0, p1, p2, p3, p4, p5⟩ (wr.alloc (.cells #[.int .i64 p0, .int .i64 p1, .int .i64 p2, .int .i64 p3, .int .i64 p4, .string p5] 92)) (HV.out.on SA.out.bel))
      unfold pgVal at CP
      simp only at CP
      clear bA
      by_cases hr : (Pg.mk p0 p1 p2 p3 p4 p5).Right
      · have e : ptRes ⟨p0, p1, p2, p3, p4, p5⟩ = .tuple #[.string (sealA (pageA ⟨p0, p1, p2, p3, p4, p5⟩)), .bool true] := by unfold ptRes; rw [if_pos hr]
        rw [e] at CP
        obtain ⟨tt, htt⟩ : ∃ tt, sealA (pageA ⟨p0, p1, p2, p3, p4, p5⟩) = tt := ⟨_, rfl⟩
        have hz := (seal_fits hr).2
        rw [htt] at CP hz
        have HR := hide hr
        have HT := hide htt
        clear hr htt e
        go_wp2_with fail
        refine CP.out.mono ?_
        rintro e w3 ⟨rfl, b3⟩
        have S3 := hide (SA.out.below b3)
        clear CP SA S b3 d0 d1 d2 d3 d4 d5
        obtain ⟨S4, hc4⟩ := S3.out.copied tt (by omega)
        unfold u8V at S4 hc4
        have hcp := run_copy_string (P := Tryz.prog) w3 110 9 3 5 g off r r tt Tryz.underlying110 size_u8 (by omega) (fun j hj => S3.out.there _ (by omega)) (fun j hj => S3.out.free _ (by omega))
        have S4' := hide S4
        have HC4 := hide hc4
        clear S4 hc4
        go_wp2_with (at_builtin; refine wpList_append_own _ rfl _ _ 142 rfl (g + 1) 110 i1 (.slice none 0 0) 1 24 Tryz.underlying142 I1.out Y0.out Y1.out Y2.out rfl (by decide) _ _ _ rfl (by exact S4'.out.row.alloc _) ⟨(w3.setCells g off (List.map (fun x => Value.int .u8 x.toNat) tt.data.toList)).heap.size, 0, none⟩ 1 1 [cutV g (off, tt.size)] rfl rfl (by exact one_cell _ _ _) (cutV_one _ _) (by have := HL.out; unfold maxLen; omega) (by have := HL.out; omega) (by have := S4'.out.hi; simp; omega) ?_)
        intro v5 w5 ho5 hg5 _
        have S5 : Hid (LtS w w5 g N (off + tt.size) v5 (L ++ [(off, tt.size)]) Q) := by
          have e := HT.out
          subst e
          exact S4'.out.next HR.out (by rw [HL.out]; exact HP.out) HC4.out hg5 ho5
        have HL5 : Hid ((L ++ [(off, tt.size)]).length = k + 1) := by show _ = _; rw [List.length_append, HL.out]; rfl
        have hcb := cut_behind g off r tt.size (by omega)
        clear ho5 hg5 S4' HC4 S3 hcp
        go_wp2
        go_roundw
        case rel => exact ⟨k + 1, off + tt.size, r - tt.size, _, rfl, by go_num, by omega, by omega, by omega, HL5, S5⟩
        case measure => simp [intOf]; omega
      · have e : ptRes ⟨p0, p1, p2, p3, p4, p5⟩ = .tuple #[.string ⟨#[]⟩, .bool false] := by unfold ptRes; rw [if_neg hr]
        rw [e] at CP
        have HX : Hid (¬ (∀ p ∈ Q, p.Right)) := fun h => hr (h _ (List.mem_of_getElem? HP.out))
        clear hr e
        go_wp2_with fail
        refine CP.out.mono ?_
        rintro e w3 ⟨rfl, b3⟩
        have S3 := hide (SA.out.below b3)
        clear CP SA S b3 d0 d1 d2 d3 d4 d5
        go_wp2
        exact bodyPost_ret (results_tmp2 rfl _ _ _) rfl ⟨S3.out.bel, .inl ⟨HX.out, rfl⟩⟩
    · have hkn : k = np := by omega
      subst hkn
      have HA : Hid (∀ p ∈ Q, p.Right) := fun p hp => by
        obtain ⟨i, hi⟩ := List.getElem?_of_mem hp
        have hl : i < L.length := by have := (List.getElem?_eq_some_iff.1 hi).1; have := HL.out; have := HNP.out; omega
        obtain ⟨-, q, hq, hqr, -⟩ := S.out.at_ i _ (List.getElem?_eq_getElem hl)
        rw [hi] at hq
        cases hq
        exact hqr
      have HT : Hid (TxtAt wr g L Q) := ⟨HL.out.trans HNP.out.symm, fun i c p hc hp => by
        obtain ⟨-, q, hq, -, h1, h2⟩ := S.out.at_ i c hc
        rw [hp] at hq
        cases hq
        exact ⟨h1, h2⟩⟩
      go_wp2
      exact bodyPost_ret (results_tmp2 rfl _ _ _) rfl ⟨S.out.bel, .inr ⟨HA.out, g, _, L, rfl, S.out.lo, HT.out, (by have e := own_down (B := g + 1) S.out.row (B' := w.heap.size) (by have := S.out.lo; omega); rw [HL.out] at e; rw [HNP.out]; exact e)⟩⟩
end Go.Proofs.YtfmnaidhfgmemaaGreatDoor
