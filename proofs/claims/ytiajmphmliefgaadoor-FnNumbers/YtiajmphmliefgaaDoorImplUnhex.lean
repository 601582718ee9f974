/-
  The walk of impl.Unhex.
-/
import Derived.Test.YtiajmphmliefgaaDoorFigs
namespace Go.Proofs.YtiajmphmliefgaaDoor
open Go.RowKit
open Words

theorem pair_byte (a b : Nat) (ha : 0 ≤ val16 a) (hb : 0 ≤ val16 b) : ((UInt8.ofNat (16 * val16 a + val16 b).toNat).toNat : Int) = 16 * val16 a + val16 b := by
  have h1 := val16_bd a
  have h2 := val16_bd b
  rw [UInt8.toNat_ofNat']
  omega

theorem un_cells (s : ByteArray) (m a b : Nat) (h : 2 * m + 1 < s.size) (ha : s[2 * m].toNat = a) (hb : s[2 * m + 1].toNat = b) (va : 0 ≤ val16 a) (vb : 0 ≤ val16 b) :
    bcells (unhexL (s.data.toList.take (2 * m))) ++ [Value.int .u8 (16 * val16 a + val16 b)] = bcells (unhexL (s.data.toList.take (2 * m + 2))) := by
  have hl : 2 * m + 1 < s.data.toList.length := by simpa using h
  have e1 : s.data.toList[2 * m].toNat = a := by rw [← ha]; rfl
  have e2 : s.data.toList[2 * m + 1].toNat = b := by rw [← hb]; rfl
  rw [unhexL_take hl, e1, e2]
  exact bcells_snoc _ _ _ (pair_byte a b va vb)

def uhRes (l : List UInt8) : Value := .tuple #[.string ⟨(unhexL l).toArray⟩, .bool true]
def noText : Value := .tuple #[.string ⟨#[]⟩, .bool false]

theorem figs_16 (s : ByteArray) (w : World) (hs : s.size ≤ 1048576) :
    Calls Tryd.prog 17 #[.string s, .int .i64 16] w fun e w' => (FigsOk 16 s.data.toList ∧ ∃ v, e = .returned (.tuple #[v, .bool true]) ∧ v ≠ .slice none 0 0 ∧ w'.ownsRow w.heap.size 3 1 v s.size (icells (vals s.data.toList)) ∧ Below w.heap.size w w') ∨
      (¬ FigsOk 16 s.data.toList ∧ e = .returned (.tuple #[.slice none 0 0, .bool false]) ∧ Below w.heap.size w w') :=
  figs_any s 16 w hs (by omega)

set_option maxHeartbeats 1000000 in
set_option maxRecDepth 100000 in
theorem implUnhex (s : ByteArray) (n : Nat) (w : World) (hs : s.size ≤ 40000) (hev : s.size = 2 * n) :
    Calls Tryd.prog 14 #[.string s] w fun e w' => (FigsOk 16 s.data.toList ∧ e = .returned (uhRes s.data.toList) ∧ Below w.heap.size w w') ∨ (¬ FigsOk 16 s.data.toList ∧ e = .returned noText ∧ Below w.heap.size w w') := by
  obtain ⟨i0, hi, hz0, hz1, hz2⟩ := info_parts infoByte
  have g : ¬ (40000 : Int) < s.size := by omega
  have g2 : ((s.size : Int) % 2 != 0) = false := by simp; omega
  have HEV := hide hev
  have hev1 : (s.size : Int) ≤ 2 * n := by omega
  have hev2 : 2 * n ≤ (s.size : Int) := by omega
  have hdiv : (s.size : Int) / 2 = n := by omega
  clear hev
  go_enter Tryd.func14, Tryd.ntmps14
  go_wp2_with fail
  refine (figs_16 s _ (by omega)).mono ?_
  rintro e w1 (⟨hok, v, rfl, hnn, hownv, hb1⟩ | ⟨hno, rfl, hb1⟩)
  · have HOK := hide hok
    clear hok
    obtain ⟨gv, capv, rfl, hgv⟩ : ∃ gv capv, v = .slice (some ⟨gv, 0, none⟩) s.size capv ∧ w.heap.size ≤ gv ∧ gv < w1.heap.size := by
      have hlt := hownv.lt
      rcases hownv.2 with ⟨h, _⟩ | ⟨gv, capv, cur, rfl, -⟩
      · exact absurd h hnn
      · exact ⟨gv, capv, rfl, hlt gv rfl⟩
    obtain ⟨hg1, hg2⟩ := hgv
    have hcapv : s.size ≤ capv ∧ capv ≤ maxLen := by
      rcases hownv.2 with ⟨h, _⟩ | ⟨gv', capv', cur, h, -, -, h3, h4, -⟩
      · cases h
      · cases h; exact ⟨h3, h4⟩
    clear hnn
    go_wp2_with (at_make; refine wpList_make_full _ rfl _ _ 22 rfl w.heap.size 5 i0 (.int .u8 0) 1 Tryd.underlying22 hi hz0 hz1 .i64 .i64 _ _ n rfl rfl (by omega) (by omega) (by rw [hz2]; omega) (by unfold maxLen; omega) hb1.size ?_)
    intro w2 hown2 hgrow2
    have hb2 : Below w.heap.size w w2 := hb1.grown hgrow2 hb1.size (fun k hk => by cases hk)
    have hv2 := hownv.kept hgrow2 (.inr (by simp [Value.ownBlock]))
    rw [toList_madeCells_one] at hown2
    have hgz : w.heap.size ≤ w1.heap.size := hb1.size
    clear hgrow2 hownv hb1
    go_wp2
    go_loopw [30] (fun iv wr => ∃ k : Nat, k ≤ n ∧ iv = .int .i64 k ∧ wr.ownsRow w.heap.size 3 1 (.slice (some ⟨gv, 0, none⟩) s.size capv) s.size (icells (vals s.data.toList)) ∧
        wr.ownsRow w.heap.size 5 1 (.slice (some ⟨w1.heap.size, 0, none⟩) n n) n (bcells (unhexL (s.data.toList.take (2 * k))) ++ List.replicate (n - k) (.int .u8 0)) ∧ Below w.heap.size w wr) (fun iv _ => n - (intOf iv).toNat)
    case atStart => exact ⟨0, Nat.zero_le _, rfl, hv2, hown2, hb2⟩
    case round =>
      clear hv2 hown2 hb2
      obtain ⟨k, hk, rfl, hv, ho, hbel⟩ := hrel
      by_cases hlt : (k : Int) < n
      · have h2m : 2 * k + 1 < s.size := by have := HEV.out; omega
        have hl : 2 * k + 1 < s.data.toList.length := by simpa using h2m
        obtain ⟨a, hca⟩ : ∃ c : Nat, s[2 * k].toNat = c := ⟨_, rfl⟩
        obtain ⟨b, hcb⟩ : ∃ c : Nat, s[2 * k + 1].toNat = c := ⟨_, rfl⟩
        have e1 : s.data.toList[2 * k].toNat = a := by rw [← hca]; rfl
        have e2 : s.data.toList[2 * k + 1].toNat = b := by rw [← hcb]; rfl
        have va := (HOK.out _ (List.getElem_mem (show 2 * k < s.data.toList.length by omega)))
        have vb := (HOK.out _ (List.getElem_mem hl))
        rw [e1] at va
        rw [e2] at vb
        have F := un_cells s k a b h2m hca hcb va.1 vb.1
        have z1 := vals_at s.data.toList (2 * k) (by omega)
        have z2 := vals_at s.data.toList (2 * k + 1) hl
        rw [e1] at z1
        rw [e2] at z2
        obtain ⟨x, hx⟩ : ∃ x, val16 a = x := ⟨_, rfl⟩
        obtain ⟨y, hy⟩ : ∃ y, val16 b = y := ⟨_, rfl⟩
        rw [hx] at va z1 F
        rw [hy] at vb z2 F
        have hc1 : wr.cell? ⟨gv, 2 * k, none⟩ = some (.int .i64 x) := by simpa [addr_at] using hv.cells (g := gv) rfl (2 * k) _ z1
        have hc2 : wr.cell? ⟨gv, 2 * k + 1, none⟩ = some (.int .i64 y) := by simpa [addr_at] using hv.cells (g := gv) rfl (2 * k + 1) _ z2
        have hAl : (bcells (unhexL (s.data.toList.take (2 * k)))).length = k := by rw [bcells_len, unhexL_len k _ (by simp; omega)]
        have z3 : (bcells (unhexL (s.data.toList.take (2 * k))) ++ List.replicate (n - k) (Value.int .u8 0))[k]? = some (.int .u8 0) := by
          rw [List.getElem?_append_right (by omega), hAl, Nat.sub_self]
          rw [List.getElem?_replicate]; simp; omega
        have hc3 : wr.cell? ⟨w1.heap.size, k, none⟩ = some (.int .u8 0) := by simpa [addr_at] using ho.cells (g := w1.heap.size) rfl k _ z3
        have hfz := ho.frozenAt k
        have hst := zeros_set (bcells (unhexL (s.data.toList.take (2 * k)))) (.int .u8 0) (.int .u8 (x * 16 + y)) n k hAl (by omega)
        rw [show x * 16 + y = 16 * x + y by omega, F] at hst
        have HST := hide hst
        have q1 : IntKind.i64.wrap (2 * (k : Int)) = 2 * k := by rw [IntKind.wrap_i64]; omega
        have q2 : IntKind.i64.wrap (2 * (k : Int) + 1) = 2 * k + 1 := by rw [IntKind.wrap_i64]; omega
        have q3 : IntKind.i64.wrap (x * 16) = x * 16 := by rw [IntKind.wrap_i64]; omega
        have q4 : IntKind.i64.wrap (x * 16 + y) = x * 16 + y := by rw [IntKind.wrap_i64]; omega
        have q5 : IntKind.u8.wrap (x * 16 + y) = x * 16 + y := by rw [IntKind.wrap_u8]; omega
        have l1 : (0 : Int) ≤ 2 * k := by omega
        have l2 : 2 * (k : Int) < s.size := by omega
        have l3 : (0 : Int) ≤ 2 * k + 1 := by omega
        have l4 : 2 * (k : Int) + 1 < s.size := by omega
        have l5 : (0 : Int) ≤ k := by omega
        have hne : ¬ gv = w1.heap.size := by omega
        have kc1 : ∀ u, (wr.setCell ⟨w1.heap.size, k, none⟩ u).cell? ⟨gv, 2 * k, none⟩ = some (.int .i64 x) := fun u => by rw [World.cell?_of_block (w := wr) (Below.heap_setCell wr _ u gv hne)]; exact hc1
        have kc2 : ∀ u, (wr.setCell ⟨w1.heap.size, k, none⟩ u).cell? ⟨gv, 2 * k + 1, none⟩ = some (.int .i64 y) := fun u => by rw [World.cell?_of_block (w := wr) (Below.heap_setCell wr _ u gv hne)]; exact hc2
        have tn1 : (2 * (k : Int)).toNat = 2 * k := by omega
        have tn2 : (2 * (k : Int) + 1).toNat = 2 * k + 1 := by omega
        clear hst F z1 z2 z3 hAl e1 e2 hl hx hy va vb hca hcb
        go_wp2
        go_region_held3 (fun w' => w'.cell? ⟨gv, 2 * k, none⟩ = some (.int .i64 x) ∧ w'.cell? ⟨gv, 2 * k + 1, none⟩ = some (.int .i64 y)) (first | go_keep | exact ⟨kc1 _, kc2 _⟩) (fail)
        have ho2 : (wr.setCell ⟨w1.heap.size, k, none⟩ (.int .u8 (x * 16 + y))).ownsRow w.heap.size 5 1 (.slice (some ⟨w1.heap.size, 0, none⟩) n n) n (bcells (unhexL (s.data.toList.take (2 * k + 2))) ++ List.replicate (n - (k + 1)) (.int .u8 0)) := by
          rw [show x * 16 + y = 16 * x + y by omega]
          have := (ho.stored k (.int .u8 (16 * x + y))).1
          rw [HST.out] at this
          exact this
        have hv2 := ownsRow_setCell_other hv (a := ⟨w1.heap.size, k, none⟩) (by simpa [Value.ownBlock] using hne) (.int .u8 (x * 16 + y))
        have hb2 := hbel.setCell (p := ⟨w1.heap.size, k, none⟩) hgz (.int .u8 (x * 16 + y))
        clear ho hv hbel hc1 hc2 hc3 hfz kc1 kc2 q1 q2 q3 q4 q5 tn1 tn2 HST
        go_wp2
        go_roundw
        case rel => exact ⟨k + 1, by omega, by go_num, hv2, ho2, hb2.drew⟩
        case measure => simp [intOf]; omega
      · have hke : k = n := by omega
        have et : s.data.toList.take (2 * k) = s.data.toList := List.take_of_length_le (by have := HEV.out; simp; omega)
        have eN : n = (unhexL s.data.toList).length := (unhexL_len n _ (by have := HEV.out; simpa using this)).symm
        rw [et, hke, Nat.sub_self, List.replicate_zero, List.append_nil] at ho
        have hcv : (convert 22 9 (.slice (some ⟨w1.heap.size, 0, none⟩) n n)).run Tryd.prog wr = .ok (.string ⟨(unhexL s.data.toList).toArray⟩) wr := by
          have h2 := conv_own (B := w.heap.size) wr (.slice (some ⟨w1.heap.size, 0, none⟩) n n) (unhexL s.data.toList) (by rw [← eN]; exact ho)
          exact h2
        obtain ⟨l, hl⟩ : ∃ l, l = unhexL s.data.toList := ⟨_, rfl⟩
        rw [← hl] at hcv
        have HL := hide hl
        clear hl et eN ho hv hke
        go_wp2
        go_ret2
        exact .inl ⟨HOK.out, by rw [uhRes, ← HL.out]; rfl, hbel⟩
  · have HN := hide hno
    clear hno
    go_wp2
    go_ret2
    exact .inr ⟨HN.out, rfl, hb1⟩
end Go.Proofs.YtiajmphmliefgaaDoor
