/-
  impl.lastBase.
-/
import Derived.Test.YtcjgjkejhkhknaaTxN
namespace Go.Proofs.Ytcjgjkejhkhknaa
open Go.RowKit
open Words

theorem ltell_get {rs : List Xw} {L : List TxR} (h : rs.map xtell = L.map TxR.tu) {k : Nat} {r : Xw} (hr : rs[k]? = some r) : ∃ x, L[k]? = some x ∧ xtell r = x.tu := by
  have e := congrArg (fun l => l[k]?) h
  simp only [List.getElem?_map, hr] at e
  cases hx : L[k]? with
  | none => rw [hx] at e; simp at e
  | some x => rw [hx] at e; simp at e; exact ⟨x, rfl, e⟩
theorem lbase_tell {r : Xw} {x : TxR} (h : xtell r = x.tu) : x.base = match r.2.2.2 with | [] => false | t :: _ => t.1 == 1 := by
  have e : r.2.2.2 = x.recs.map Rc.tu := congrArg (fun z => z.2.2) h
  unfold TxR.base
  rw [e]
  cases x.recs <;> rfl
theorem base_low (L : List TxR) {a : Nat} (h : a ≤ 1) : baseAt L a = 0 := by
  match a, h with
  | 0, _ => rfl
  | 1, _ => simp only [baseAt]; split <;> simp

set_option maxHeartbeats 2000000 in
set_option maxRecDepth 100000 in
theorem ilastB (ad : Option Addr) (len cap : Nat) (rs : List Xw) (L : List TxR) (w : World) (hl : len ≤ 1048576) (hll : ∀ r ∈ rs, r.2.2.2.length ≤ 1048576) (hL : rs.map xtell = L.map TxR.tu) (h : TxRd w ad len rs) :
    Calls Try.prog 75 #[.slice ad len cap] w fun e w' => e = .returned (.int .i64 (baseAt L len : Nat)) ∧ w' = w := by
  have HR := hide h
  have HT := hide hL
  have HLL := hide hll
  have HN := hide (show rs.length = len from h.1)
  clear h hL hll
  go_enter Try.func75, Try.ntmps75
  go_wp2
  go_loopw [3, 4] (fun iv _ wr => ∃ (a : Nat), a ≤ len ∧ iv = .int .i64 ((a : Int) - 1) ∧ Hid (baseAt L len = baseAt L a) ∧ wr = w) (fun iv _ _ => (intOf iv).toNat)
  case atStart => exact ⟨len, Nat.le_refl _, by go_num, rfl, rfl⟩
  case round =>
    obtain ⟨a, ha, rfl, HB, hwr⟩ := hrel
    have hwr2 := hwr.symm
    subst hwr2
    clear hwr
    by_cases hlt : (0 : Int) < (a : Int) - 1
    · obtain ⟨k, rfl⟩ : ∃ k, a = k + 1 := ⟨a - 1, by omega⟩
      have hkl : k < rs.length := by have := HN.out; omega
      obtain ⟨r, hx⟩ : ∃ r, rs[k]? = some r := ⟨_, List.getElem?_eq_getElem hkl⟩
      obtain ⟨x, hxL, hxt⟩ := ltell_get HT.out hx
      obtain ⟨rb, ro, rfl, -, -, -, c2⟩ := HR.out.at hx
      obtain ⟨ra, rc, hsv, -, hrow⟩ := HR.out.2.2.1 r (List.mem_of_getElem? hx)
      rw [hsv] at c2
      have hlr := HLL.out r (List.mem_of_getElem? hx)
      have hbase := lbase_tell hxt
      have hstep : baseAt L (k + 1) = if x.base then k else baseAt L k := by simp only [baseAt, hxL]
      have ek : (((k + 1 : Nat) : Int) - 1) = (k : Int) := by omega
      rw [ek] at hlt ⊢
      have k0 : (0 : Int) ≤ k := by omega
      have k1 : (k : Int) < len := by omega
      cases hls : r.2.2.2 with
      | nil =>
        rw [hls] at hbase c2
        have HB' : Hid (baseAt L len = baseAt L k) := by show _ = _; rw [HB.out, hstep, hbase]; rfl
        clear hx hxL hxt hsv hrow hbase hstep hlr hls hkl HB
        simp only [List.length_nil] at c2
        go_wp2
        go_roundw
        case rel => exact ⟨k, by omega, by go_num, HB', by first | trivial | rfl⟩
        case measure => simp [intOf]; omega
      | cons t ts =>
        rw [hls] at hbase c2 hrow hlr
        obtain ⟨b2, o2, rfl, -, d0, -, -, -⟩ := hrow.at (k := 0) (t := t) rfl
        simp only [Nat.zero_mul, Nat.add_zero] at d0
        simp only at hbase
        have hpos : (0 : Int) < (((t :: ts).length : Nat) : Int) := by simp only [List.length_cons]; omega
        generalize (t :: ts).length = n2 at c2 hpos hlr
        obtain ⟨t1, ht1⟩ : ∃ t1, t.1 = t1 := ⟨_, rfl⟩
        rw [ht1] at d0 hbase
        cases ht : (t1 == 1) with
        | true =>
          rw [ht] at hbase
          have HB' : Hid (baseAt L len = k) := by show _ = _; rw [HB.out, hstep, hbase]; rfl
          clear hx hxL hxt hsv hrow hbase hstep hls hkl HB ht1
          go_wp2
          go_ret
          exact ⟨by rw [HB'.out]; rfl, rfl⟩
        | false =>
          rw [ht] at hbase
          have HB' : Hid (baseAt L len = baseAt L k) := by show _ = _; rw [HB.out, hstep, hbase]; rfl
          clear hx hxL hxt hsv hrow hbase hstep hls hkl HB ht1
          go_wp2
          go_roundw
          case rel => exact ⟨k, by omega, by go_num, HB', by first | trivial | rfl⟩
          case measure => simp [intOf]; omega
    · have HB' : Hid (baseAt L len = 0) := by show _ = _; rw [HB.out]; exact base_low L (by omega)
      clear HB
      go_wp2
      go_ret
      exact ⟨by rw [HB'.out]; rfl, rfl⟩
end Go.Proofs.Ytcjgjkejhkhknaa
