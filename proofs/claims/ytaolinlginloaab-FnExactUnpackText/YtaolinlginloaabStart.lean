/-
  The walk of the program's first four bytes at a place.
-/
import Derived.Test.YtaolinlginloaabBase
import Derived.Test.YtaolinlginloaabBytes
import Derived.Deep.MidRow
namespace Go.Proofs.Ytaolinlginloaab
open Go.RowKit

theorem info4 : (Try.prog.info? 65).map (·.size) = some 4 := by kernel_rfl
/-- The value of four bytes. -/
def keyV (q : List UInt8) : Value := .agg (bcells q).toArray
theorem bcells_one (l : List UInt8) : ∀ v ∈ bcells l, v.oneCell' = true := by
  intro u hu
  obtain ⟨x, -, rfl⟩ := List.mem_map.1 hu
  rfl
theorem bcells_all (l : List UInt8) : (bcells l).toArray.all (·.oneCell') = true := all_oneCell_toArray (bcells_one l)
theorem bytes_range {w : World} {g : Nat} {l : List UInt8} (h : BytesAt w g l) : w.rangeAt g 0 (bcells l) := by
  intro j v hv
  have hj : j < l.length := by
    have := (List.getElem?_eq_some_iff.1 hv).1
    rwa [bcells_len] at this
  rw [bcells_at l j hj] at hv
  cases hv
  rw [Nat.zero_add]
  exact (h.2 j hj).1
theorem bytes_there {w : World} {g : Nat} {l : List UInt8} (h : BytesAt w g l) : w.there g 0 l.length := by
  intro j hj
  rw [Nat.zero_add, (h.2 j hj).1]
  exact ⟨rfl, (h.2 j hj).2⟩
theorem setCells_size (b : Nat) : ∀ (vs : List Value) (o : Nat) (w : World), (w.setCells b o vs).heap.size = w.heap.size
  | [], _, _ => rfl
  | v :: r, o, w => by rw [World.setCells, setCells_size b r]; simp
theorem below_cells {B b : Nat} {a : World} (hb : B ≤ b) : ∀ (vs : List Value) (o : Nat) (w : World), Below B a w → Below B a (w.setCells b o vs)
  | [], _, _, h => h
  | v :: r, o, w, h => by
    rw [World.setCells]
    exact below_cells hb r _ _ (h.setCell (p := ⟨b, o, none⟩) hb v)
theorem BytesAt.store {w : World} {g : Nat} {l : List UInt8} (h : BytesAt w g l) (l' : List UInt8) (hl : l'.length = l.length) : BytesAt (w.setCells g 0 (bcells l')) g l' := by
  have ht : w.there g 0 (bcells l').length := by rw [bcells_len, hl]; exact bytes_there h
  have hr := World.rangeAt_setCells_same w g 0 (bcells l') ht
  refine ⟨by rw [setCells_size]; exact h.1, fun j hj => ⟨?_, by rw [World.frozen?_setCells]; exact (h.2 j (by omega)).2⟩⟩
  have := hr j _ (bcells_at l' j hj)
  rwa [Nat.zero_add] at this
theorem bytes_made (w : World) (l : List UInt8) (C : Array Value) (t : TypeId) (hC : C.toList = bcells l) : BytesAt (w.alloc (.cells C t)) w.heap.size l := by
  refine ⟨by simp, fun j hj => ⟨?_, by simp⟩⟩
  rw [World.cell?_alloc_mark]
  have : C[j]? = (bcells l)[j]? := by rw [← hC]; simp
  rw [this, bcells_at l j hj]
theorem results_key {fn : Func} {p q : Tmp} (h : fn.results = #[.cell p 65, .tmp q]) (tmps : Array Value) (w : World) (g : Nat) (l : List UInt8)
    (hp : tmps.getD p undef = .pointer (some ⟨g, 0, none⟩)) (hc : BytesAt w g l) (hl : l.length = 4) :
    (results fn tmps).run Try.prog w = .ok (.tuple #[keyV l, tmps.getD q undef]) w := by
  have hp' : tmps[p]?.getD undef = .pointer (some ⟨g, 0, none⟩) := by simpa using hp
  have hl := run_loadVar_mid (P := Try.prog) w g 0 65 (bcells l) _ (bytes_range hc) Try.underlying65 rfl (by rw [bcells_len, hl]; exact info4)
  simp [results, h, hp', asAddr, hl, keyV]
/-- Four bytes are loaded. -/
theorem wpList_load_key {ops : Array Oper} {rest : List Oper} {op : Oper} {a : Act} {w : World} {Q : Exit → Act → World → Prop} (hgd : op.guard = none) (x : Operand) (ho : op.op = .load 65 x)
    (g : Nat) (hx : a.eval x = .pointer (some ⟨g, 0, none⟩)) (l : List UInt8) (hc : BytesAt w g l) (hl : l.length = 4)
    (h : wpList Try.prog ops Q rest (a.put op.dst (keyV l)) w) : wpList Try.prog ops Q (op :: rest) a w :=
  wpList_load_mid hgd 65 x ho g 0 hx (bcells l) _ (bytes_range hc) Try.underlying65 rfl (by rw [bcells_len, hl]; exact info4) h
/-- Four bytes are stored. -/
theorem wpList_store_key {ops : Array Oper} {rest : List Oper} {op : Oper} {a : Act} {w : World} {Q : Exit → Act → World → Prop} (hgd : op.guard = none) (x y : Operand) (ho : op.op = .store 65 x y)
    (g : Nat) (l old : List UInt8) (hx : a.eval x = .pointer (some ⟨g, 0, none⟩)) (hy : a.eval y = keyV l)
    (hc : BytesAt w g old) (hl : l.length = 4) (ho4 : old.length = 4)
    (h : ∀ w', w' = w.setCells g 0 (bcells l) → wpList Try.prog ops Q rest (a.put op.dst undef) w') : wpList Try.prog ops Q (op :: rest) a w :=
  wpList_store_mid hgd 65 x y ho g 0 (bcells l).toArray hx hy (by rw [List.size_toArray, bcells_len, hl, ← ho4]; exact bytes_there hc) (by rw [List.size_toArray, bcells_len, hl]; exact info4) (bcells_all l) (by have := h _ rfl; simpa using this)

/-- The four bytes at a place; four noughts where there are fewer. -/
def fourAt (s : List UInt8) (k : Nat) : List UInt8 := if k + 4 ≤ s.length then (s.drop k).take 4 else [0, 0, 0, 0]
theorem fourAt_len (s : List UInt8) (k : Nat) : (fourAt s k).length = 4 := by
  unfold fourAt
  split
  · rw [List.length_take, List.length_drop]; omega
  · rfl

theorem conv_arr (g n C : Nat) (hn : 4 ≤ n) (W : World) : (Instr.arrayAt 65 (.slice (some ⟨g, 0, none⟩) n C)).run Try.prog W = .ok (.pointer (some ⟨g, 0, none⟩)) W := by
  have : ¬ n < 4 := by omega
  simp [Instr.arrayAt, run_underlying Try.underlying65, this]

set_option maxHeartbeats 400000 in
set_option maxRecDepth 100000 in
theorem start_any (s : ByteArray) (k : Nat) (w : World) (hs : s.size ≤ 64) (hk : k ≤ s.size) :
    Calls Try.prog 39 #[.string s, .int .i64 k] w fun e w' => e = .returned (.tuple #[keyV (fourAt s.data.toList k), .bool (decide (k + 4 ≤ s.size))]) ∧ Below w.heap.size w w' := by
  have hl : s.data.toList.length = s.size := by simp
  go_enter Try.func39, Try.ntmps39
  by_cases hlt : (s.size : Int) - k < 4
  · have hf : fourAt s.data.toList k = [0, 0, 0, 0] := by unfold fourAt; rw [if_neg (by omega)]
    have hd : decide (k + 4 ≤ s.size) = false := decide_eq_false (by omega)
    rw [hf, hd]
    clear hf hd
    have hv := bytes_made w [0, 0, 0, 0] #[Value.int .u8 0, Value.int .u8 0, Value.int .u8 0, Value.int .u8 0] 65 rfl
    go_wp2
    exact bodyPost_ret (results_key rfl _ _ _ _ rfl hv rfl) rfl ⟨rfl, (Below.refl _ _).alloc (Nat.le_refl _) _⟩
  · have hd : decide (k + 4 ≤ s.size) = true := decide_eq_true (by omega)
    rw [hd]
    have hv := hide (bytes_made w [0, 0, 0, 0] #[Value.int .u8 0, Value.int .u8 0, Value.int .u8 0, Value.int .u8 0] 65 rfl)
    obtain ⟨u, hu⟩ : ∃ u : ByteArray, u = s.extract k (k + 4) := ⟨_, rfl⟩
    have hul : u.data.toList = fourAt s.data.toList k := by
      rw [hu, Lib.extract_data]
      unfold fourAt
      rw [if_pos (by omega)]
      simp
    have hsl : ∀ W, (Instr.slice 9 (.string s) (some (.int .i64 (k : Int))) (some (.int .i64 ((k : Int) + 4))) none).run Try.prog W = .ok (.string u) W := by
      intro W
      rw [run_slice_string_if W 9 s .i64 .i64 _ _ Try.underlying9, if_pos (by omega), if_pos (by omega), hu]
      congr 3
    have hus : u.size = 4 := by
      have : u.data.toList.length = u.size := by simp
      rw [← this, hul, fourAt_len]
    obtain ⟨w0, hw0⟩ : ∃ w0, w0 = w.alloc (.cells #[Value.int .u8 0, Value.int .u8 0, Value.int .u8 0, Value.int .u8 0] 65) := ⟨_, rfl⟩
    obtain ⟨C, w1, hcv, hb1, hby⟩ := bytes_new w0 u
    rw [hw0, hus] at hcv
    rw [hul] at hby
    have hca := conv_arr w0.heap.size 4 C (by omega)
    have hsz : w0.heap.size = w.heap.size + 1 := by rw [hw0]; simp
    rw [hsz] at hca hby hb1
    rw [hw0] at hb1
    have hsz2 : (w.alloc (.cells #[Value.int .u8 0, Value.int .u8 0, Value.int .u8 0, Value.int .u8 0] 65)).heap.size = w.heap.size + 1 := by rw [← hw0, hsz]
    rw [hsz2] at hcv
    have HB := hide hb1
    have HY := hide hby
    clear hb1 hby hul hu hd hl hw0 hsz hsz2 w0
    go_wp2_with (first
      | refine wpList_load_key rfl _ rfl _ rfl _ HY.out (fourAt_len _ _) ?_
      | (refine wpList_store_key rfl _ _ rfl w.heap.size _ [0, 0, 0, 0] rfl rfl (hv.out.below HB.out (by simp)) (fourAt_len _ _) rfl ?_; intro w2 hw2; have HW := hide hw2; clear hw2)
      | go_in)
    have h2 := (hv.out.below HB.out (by simp)).store (fourAt s.data.toList k) (fourAt_len _ _)
    have hb2 : Below w.heap.size w w2 := by
      rw [HW.out]
      exact below_cells (Nat.le_refl _) _ _ _ (((Below.refl _ _).alloc (Nat.le_refl _) _).trans (HB.out.mono (by omega)))
    rw [← HW.out] at h2
    exact bodyPost_ret (results_key rfl _ _ _ _ rfl h2 (fourAt_len _ _)) rfl ⟨rfl, hb2⟩
end Go.Proofs.Ytaolinlginloaab
