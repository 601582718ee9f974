/-
  impl.lastBase, (impl.Tx).isBase.
-/
import Derived.Test.YtogfdhfmamabiaaTxN
namespace Go.Proofs.Ytogfdhfmamabiaa
open Go.RowKit
open Words

theorem ltell_get {rs : List Xw} {L : List TxR} (h : rs.map xtell = L.map TxR.tu) {k : Nat} {r : Xw} (hr : rs[k]? = some r) : ∃ x, L[k]? = some x ∧ xtell r = x.tu := by
  have e := congrArg (fun l => l[k]?) h
  simp only [List.getElem?_map, hr] at e
  cases hx : L[k]? with
  | none => rw [hx] at e; simp at e
  | some x => rw [hx] at e; simp at e; exact ⟨x, rfl, e⟩
theorem lbase_tell {r : Xw} {x : TxR} (h : xtell r = x.tu) : x.base = match r.2.2.2 with | [] => false | t :: _ => t.1 == 1 := by
  have e : r.2.2.2 = x.recs.map Rc.tu := congrArg (fun z => z.2.2) h
  unfold TxR.base
  rw [e]
  cases x.recs <;> rfl
theorem base_low (L : List TxR) {a : Nat} (h : a ≤ 1) : baseAt L a = 0 := by
  match a, h with
  | 0, _ => rfl
  | 1, _ => simp only [baseAt]; split <;> simp

/-- A transaction's cells: its records' first one tells. -/
def recBase (ls : List (Int × Int × Int × Int)) : Bool := match ls with | [] => false | t :: _ => t.1 == 1

set_option maxHeartbeats 2000000 in
set_option maxRecDepth 100000 in
theorem iisBase (a b : Int) (v : Value) (ls : List (Int × Int × Int × Int)) (w : World) (hl : ls.length ≤ 1048576) (h : RcSl w v ls) :
    Calls Try.prog 50 #[.agg #[.int .i64 a, .int .i64 b, v]] w fun e w' => e = .returned (.bool (recBase ls)) ∧ Below w.heap.size w w' := by
  obtain ⟨ra, rc, rfl, -, hrow⟩ := h
  have HROW := hide hrow
  have LC : Hid ((w.alloc (.cells #[.int .i64 a, .int .i64 b, .slice ra ls.length rc] 31)).heap[w.heap.size]? = some (.cells #[.int .i64 a, .int .i64 b, .slice ra ls.length rc] 31 (0, 0))) := heap_alloc_new w _
  have BA : Hid (Below w.heap.size w (w.alloc (.cells #[.int .i64 a, .int .i64 b, .slice ra ls.length rc] 31))) := (Below.refl _ _).alloc (Nat.le_refl _) _
  have hx2 : (w.alloc (.cells #[.int .i64 a, .int .i64 b, .slice ra ls.length rc] 31)).cell? ⟨w.heap.size, 2, none⟩ = some (.slice ra ls.length rc) := cell_of_row _ _ 2 _ _ _ LC.out
  clear hrow
  cases ls with
  | nil =>
    clear HROW LC
    simp only [List.length_nil] at hx2 BA
    simp only [List.length_nil]
    show Calls _ _ _ _ fun e w' => e = .returned (.bool false) ∧ _
    go_enter Try.func50, Try.ntmps50
    go_wp2_with fail
    generalize w.alloc (.cells #[.int .i64 a, .int .i64 b, .slice ra 0 rc] 31) = wa at BA hx2 ⊢
    go_wp2
    go_ret
    exact ⟨rfl, BA.out⟩
  | cons t ts =>
    obtain ⟨b2, o2, rfl, -, d0, -, -, -⟩ := (HROW.out.below BA.out).at (k := 0) (t := t) rfl
    simp only [Nat.zero_mul, Nat.add_zero] at d0
    have hpos : (0 : Int) < (((t :: ts).length : Nat) : Int) := by simp only [List.length_cons]; omega
    clear HROW LC
    show Calls _ _ _ _ fun e w' => e = .returned (.bool (t.1 == 1)) ∧ _
    generalize (t :: ts).length = n2 at hx2 BA hpos hl d0 ⊢
    obtain ⟨t1, ht1⟩ : ∃ t1, t.1 = t1 := ⟨_, rfl⟩
    rw [ht1] at d0 ⊢
    go_enter Try.func50, Try.ntmps50
    go_wp2_with fail
    generalize w.alloc (.cells #[.int .i64 a, .int .i64 b, .slice (some ⟨b2, o2, none⟩) n2 rc] 31) = wa at BA hx2 d0 ⊢
    cases ht : (t1 == 1) with
    | true =>
      go_wp2
      go_ret
      exact ⟨rfl, BA.out⟩
    | false =>
      go_wp2
      go_ret
      exact ⟨rfl, BA.out⟩

set_option maxHeartbeats 2000000 in
set_option maxRecDepth 100000 in
theorem ilastB (ad : Option Addr) (len cap : Nat) (rs : List Xw) (L : List TxR) (w : World) (hl : len ≤ 1048576) (hll : ∀ r ∈ rs, r.2.2.2.length ≤ 1048576) (hL : rs.map xtell = L.map TxR.tu) (h : TxRd w ad len rs) :
    Calls Try.prog 29 #[.slice ad len cap] w fun e w' => e = .returned (.int .i64 (baseAt L len : Nat)) ∧ Below w.heap.size w w' := by
  have HR := hide h
  have HT := hide hL
  have HLL := hide hll
  have HN := hide (show rs.length = len from h.1)
  clear h hL hll
  go_enter Try.func29, Try.ntmps29
  go_wp2
  go_loopw [3] (fun iv wr => ∃ (a : Nat), a ≤ len ∧ iv = .int .i64 ((a : Int) - 1) ∧ Hid (baseAt L len = baseAt L a) ∧ Hid (Below w.heap.size w wr)) (fun iv _ => (intOf iv).toNat)
  case atStart => exact ⟨len, Nat.le_refl _, by go_num, rfl, Below.refl _ _⟩
  case round =>
    obtain ⟨a, ha, rfl, HB, BW⟩ := hrel
    by_cases hlt : (0 : Int) < (a : Int) - 1
    · obtain ⟨k, rfl⟩ : ∃ k, a = k + 1 := ⟨a - 1, by omega⟩
      have hkl : k < rs.length := by have := HN.out; omega
      obtain ⟨r, hx⟩ : ∃ r, rs[k]? = some r := ⟨_, List.getElem?_eq_getElem hkl⟩
      obtain ⟨x, hxL, hxt⟩ := ltell_get HT.out hx
      obtain ⟨rb, ro, rfl, -, c0, c1, c2⟩ := (HR.out.below BW.out).at hx
      have hsv := (HR.out.below BW.out).2.2.1 r (List.mem_of_getElem? hx)
      have hlr := HLL.out r (List.mem_of_getElem? hx)
      have hbase : x.base = recBase r.2.2.2 := lbase_tell hxt
      have hstep : baseAt L (k + 1) = if x.base then k else baseAt L k := by simp only [baseAt, hxL]
      have CI := hide (iisBase r.1 r.2.1 r.2.2.1 r.2.2.2 wr hlr hsv)
      rw [← hbase] at CI
      have ek : (((k + 1 : Nat) : Int) - 1) = (k : Int) := by omega
      rw [ek] at hlt ⊢
      have k0 : (0 : Int) ≤ k := by omega
      have k1 : (k : Int) < len := by omega
      obtain ⟨q, hq⟩ : ∃ q, x.base = q := ⟨_, rfl⟩
      rw [hq] at hstep CI
      have HS := hide hstep
      obtain ⟨sa, sc, hsf, -⟩ := hsv
      rw [hsf] at c2 CI
      generalize r.1 = r1 at c0 CI
      generalize r.2.1 = r2 at c1 CI
      generalize r.2.2.2.length = r3 at c2 CI
      clear hx hxL hxt hbase hstep hlr hkl hq hsf
      go_wp2_with fail
      refine CI.out.mono ?_
      rintro e w1 ⟨rfl, b1⟩
      have BX : Hid (Below w.heap.size w w1) := BW.out.trans (b1.mono BW.out.size)
      clear CI b1 BW c0 c1 c2
      cases q with
      | true =>
        have HB' : Hid (baseAt L len = k) := by show _ = _; rw [HB.out, HS.out]; rfl
        clear HB HS
        go_wp2
        go_ret
        exact ⟨by rw [HB'.out]; rfl, BX.out⟩
      | false =>
        have HB' : Hid (baseAt L len = baseAt L k) := by show _ = _; rw [HB.out, HS.out]; rfl
        clear HB HS
        go_wp2
        go_roundw
        case rel => exact ⟨k, by omega, by go_num, HB', BX⟩
        case measure => simp [intOf]; omega
    · have HB' : Hid (baseAt L len = 0) := by show _ = _; rw [HB.out]; exact base_low L (by omega)
      clear HB
      go_wp2
      go_ret
      exact ⟨by rw [HB'.out]; rfl, BW.out⟩
end Go.Proofs.Ytogfdhfmamabiaa
