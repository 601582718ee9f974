/-
  WCells; SpecW; SpecW2; RowW; SpecR2; RMath; Arr
-/
import Derived.Test.YtcjgjkejhkhknabGreatDoorPk0
import Derived.Test.YtcjgjkejhkhknabGreatDoorPk40
import Derived.Laws.BitsAllLaws
import Derived.Deep.MidRow
set_option maxHeartbeats 400000
namespace Go.Proofs.YtcjgjkejhkhknabGreatDoor
open Go.RowKit
open Dig
theorem infoWord : (Tryz.prog.info? 131).map (fun i => (i.zero, i.size, i.bytes)) = some (some (.int .u32 0), 1, 4) := by kernel_rfl
def wcells (l : List Nat) : List Value := l.map fun n : Nat => Value.int .u32 n
theorem wcells_len (l : List Nat) : (wcells l).length = l.length := by simp [wcells]
theorem wcells_at (l : List Nat) (j : Nat) (hj : j < l.length) : (wcells l)[j]? = some (.int .u32 (l[j] : Nat)) := by simp [wcells, hj]
def WordsAt (w : World) (g : Nat) (l : List Nat) : Prop := g < w.heap.size ∧ ∀ j (hj : j < l.length), w.cell? ⟨g, j, none⟩ = some (.int .u32 (l[j] : Nat))
theorem WordsAt.below {w w' : World} {g C : Nat} {l : List Nat} (h : WordsAt w g l) (hb : Below C w w') (hg : g < C) : WordsAt w' g l :=
 ⟨Nat.lt_of_lt_of_le h.1 hb.size, fun j hj => by rw [hb.cell (show g < C from hg)]; exact h.2 j hj⟩
theorem byte_at (s : ByteArray) (j : Nat) (a : Int) (ha : a = j) (hj : j < s.size) (W : World) : (Instr.index 9 (.string s) (.int .i64 a)).run Tryz.prog W = .ok (.int .u8 (((s.data.toList.getD j 0).toNat : Nat) : Int)) W := by
 subst ha
 rw [run_index_string W 9 s .i64 j Tryz.underlying9, dif_pos (by omega)]
 have : s.data.toList.getD j 0 = s[j] := by
  rw [List.getD_eq_getElem?_getD, List.getElem?_eq_getElem (by simpa using hj)]
  rfl
 rw [this]
 rfl
theorem word_drop (l : List UInt8) (i : Nat) : word (l.drop i) = (l.getD i 0).toNat * 16777216 + (l.getD (i + 1) 0).toNat * 65536 + (l.getD (i + 2) 0).toNat * 256 + (l.getD (i + 3) 0).toNat := by
 simp [word, List.getD_eq_getElem?_getD, List.getElem?_drop]
def four4 (x : Nat) : List UInt8 := [UInt8.ofNat (x / 16777216), UInt8.ofNat (x / 65536 % 256), UInt8.ofNat (x / 256 % 256), UInt8.ofNat (x % 256)]
theorem bytesOf_snoc (l : List Nat) (x : Nat) : bytesOf (l ++ [x]) = bytesOf l ++ four4 x := by simp [bytesOf, four4]
theorem bytesOf_len4 (l : List Nat) : (bytesOf l).length = 4 * l.length := by
 induction l with
 | nil => rfl
 | cons a l ih => simp [bytesOf] at ih ⊢; omega
theorem four4_cells (l : List UInt8) (x : Nat) (hx : x < 4294967296) : bcells l ++ [Value.int .u8 ((x : Int) / 16777216), Value.int .u8 ((x : Int) / 65536 % 256), Value.int .u8 ((x : Int) / 256 % 256), Value.int .u8 ((x : Int) % 256)] = bcells (l ++ four4 x) := by
 have h1 : ((UInt8.ofNat (x / 16777216)).toNat : Int) = (x : Int) / 16777216 := by rw [UInt8.toNat_ofNat']; omega
 have h2 : ((UInt8.ofNat (x / 65536 % 256)).toNat : Int) = (x : Int) / 65536 % 256 := by rw [UInt8.toNat_ofNat']; omega
 have h3 : ((UInt8.ofNat (x / 256 % 256)).toNat : Int) = (x : Int) / 256 % 256 := by rw [UInt8.toNat_ofNat']; omega
 have h4 : ((UInt8.ofNat (x % 256)).toNat : Int) = (x : Int) % 256 := by rw [UInt8.toNat_ofNat']; omega
 simp only [bcells, List.map_append, four4, List.map_cons, List.map_nil, h1, h2, h3, h4]
theorem four_cell (w : World) (a b c d : Value) (t : TypeId) : ∀ (j : Nat) (u : Value), [a, b, c, d][j]? = some u → (w.alloc (.cells #[a, b, c, d] t)).cell? ((⟨w.heap.size, 0, none⟩ : Addr).add j) = some u := by
 intro j u hj
 match j, hj with
 | 0, hj => simp at hj; subst hj; simp [Addr.add]
 | 1, hj => simp at hj; subst hj; simp [Addr.add]
 | 2, hj => simp at hj; subst hj; simp [Addr.add]
 | 3, hj => simp at hj; subst hj; simp [Addr.add]
theorem four_u8 (a b c d : Int) : ∀ u ∈ [Value.int .u8 a, Value.int .u8 b, Value.int .u8 c, Value.int .u8 d], u.oneCell' = true := by
 intro u hu
 simp at hu
 rcases hu with h | h | h | h <;> subst h <;> rfl
theorem t1_open (e f g h k w s r : Nat) (hs : sig e 64 2048 33554432 false = s) (hr : ch e f g = r) :
 ∃ y1 y2 y3 y4 : Nat, IntKind.u32.wrap ((h : Int) + s) = y1 ∧ IntKind.u32.wrap ((y1 : Int) + r) = y2 ∧ IntKind.u32.wrap ((y2 : Int) + k) = y3 ∧ IntKind.u32.wrap ((y3 : Int) + w) = y4 ∧ t1 e f g h k w = y4 ∧ y4 < 4294967296 := by
 refine ⟨(h + s) % 4294967296, ((h + s) % 4294967296 + r) % 4294967296, (((h + s) % 4294967296 + r) % 4294967296 + k) % 4294967296, ((((h + s) % 4294967296 + r) % 4294967296 + k) % 4294967296 + w) % 4294967296, ?_, ?_, ?_, ?_, ?_, Nat.mod_lt _ (by omega)⟩
 ·rw [IntKind.wrap_u32']; omega
 ·rw [IntKind.wrap_u32']; omega
 ·rw [IntKind.wrap_u32']; omega
 ·rw [IntKind.wrap_u32']; omega
 ·unfold t1
  rw [hs, hr]
  omega
theorem t2_open (a b c s m : Nat) (hs : sig a 4 8192 4194304 false = s) (hm : maj a b c = m) : ((s : Int) + (m : Int)) % 4294967296 = (t2 a b c : Nat) ∧ t2 a b c < 4294967296 := by
 refine ⟨?_, Nat.mod_lt _ (by omega)⟩
 unfold t2
 rw [hs, hm]
 omega
theorem words_at {w : World} {g : Nat} {l : List Nat} (h : WordsAt w g l) (j x : Nat) (hx : l[j]? = some x) : w.cell? ⟨g, j, none⟩ = some (.int .u32 (x : Nat)) := by
 obtain ⟨h1, h2⟩ := List.getElem?_eq_some_iff.1 hx
 rw [h.2 j h1, h2]
def VAt (w : World) (g : Nat) (l : List Nat) : Prop := WordsAt w g l ∧ ∀ j, w.frozen? ⟨g, j, none⟩ = false
theorem VAt.set {w : World} {g : Nat} {l : List Nat} (h : VAt w g l) (i y : Nat) : VAt (w.setCell ⟨g, i, none⟩ (.int .u32 y)) g (l.set i y) := by
 refine ⟨⟨by simpa using h.1.1, fun j hj => ?_⟩, fun j => by rw [World.frozen?_setCell]; exact h.2 j⟩
 have hj2 : j < l.length := by simpa using hj
 by_cases hij : i = j
 ·subst hij
  rw [World.cell?_setCell_same _ _ _ (h.1.2 i hj2)]
  simp
 ·rw [World.cell?_setCell_other _ _ _ _ (fun e => hij (by injection e)), h.1.2 j hj2]
  simp [hij]
theorem words_set {w : World} {g r i : Nat} {l : List Nat} {u : Value} (h : WordsAt w g l) (hne : r ≠ g) : WordsAt (w.setCell ⟨r, i, none⟩ u) g l :=
 ⟨by simpa using h.1, fun j hj => by rw [World.cell?_setCell_other _ _ _ _ (fun e => hne (by injection e))]; exact h.2 j hj⟩
theorem getD_some (l : List Nat) (n : Nat) (h : n < l.length) : l[n]? = some (l.getD n 0) := by
 rw [List.getD_eq_getElem?_getD, List.getElem?_eq_getElem h]; rfl
theorem info8 : (Tryz.prog.info? 133).map (·.size) = some 8 := by kernel_rfl
def wagg (l : List Nat) : Value := .agg (wcells l).toArray
theorem wcells_one (l : List Nat) : ∀ v ∈ wcells l, v.oneCell' = true := by
 intro u hu
 obtain ⟨x, -, rfl⟩ := List.mem_map.1 hu
 rfl
theorem wcells_all (l : List Nat) : (wcells l).toArray.all (·.oneCell') = true := all_oneCell_toArray (wcells_one l)
theorem wcells_size (l : List Nat) : (wcells l).toArray.size = l.length := by simp [wcells]
theorem words_range {w : World} {g : Nat} {l : List Nat} (h : WordsAt w g l) : w.rangeAt g 0 (wcells l) := by
 intro j v hv
 have hj : j < l.length := by
  have := (List.getElem?_eq_some_iff.1 hv).1
  rwa [wcells_len] at this
 rw [wcells_at l j hj] at hv
 cases hv
 rw [Nat.zero_add]
 exact h.2 j hj
theorem v_there {w : World} {g : Nat} {l : List Nat} (h : VAt w g l) : w.there g 0 l.length := by
 intro j hj
 rw [Nat.zero_add, h.1.2 j hj]
 exact ⟨rfl, h.2 j⟩
theorem setCells_sizeD (b : Nat) : ∀ (vs : List Value) (o : Nat) (w : World), (w.setCells b o vs).heap.size = w.heap.size
 | [], _, _ => rfl
 | v :: r, o, w => by rw [World.setCells, setCells_sizeD b r]; simp
theorem below_cellsD {B b : Nat} {a : World} (hb : B ≤ b) : ∀ (vs : List Value) (o : Nat) (w : World), Below B a w → Below B a (w.setCells b o vs)
 | [], _, _, h => h
 | v :: r, o, w, h => by
  rw [World.setCells]
  exact below_cellsD hb r _ _ (h.setCell (p := ⟨b, o, none⟩) hb v)
theorem VAt.store {w : World} {g : Nat} {l : List Nat} (h : VAt w g l) (l' : List Nat) (hl : l'.length = l.length) : VAt (w.setCells g 0 (wcells l')) g l' := by
 have ht : w.there g 0 (wcells l').length := by rw [wcells_len, hl]; exact v_there h
 have hr := World.rangeAt_setCells_same w g 0 (wcells l') ht
 refine ⟨⟨by rw [setCells_sizeD]; exact h.1.1, fun j hj => ?_⟩, fun j => by rw [World.frozen?_setCells]; exact h.2 j⟩
 have := hr j _ (wcells_at l' j hj)
 rwa [Nat.zero_add] at this
theorem VAt.apart {w : World} {g g' : Nat} {l : List Nat} (h : VAt w g l) (hne : g ≠ g') (vs : List Value) (o : Nat) : VAt (w.setCells g' o vs) g l := by
 refine ⟨⟨by rw [setCells_sizeD]; exact h.1.1, fun j hj => ?_⟩, fun j => by rw [World.frozen?_setCells]; exact h.2 j⟩
 rw [World.cell?_setCells_out g' vs o w ⟨g, j, none⟩ (fun hb _ => absurd hb hne)]
 exact h.1.2 j hj
theorem VAt.below {w w' : World} {g C : Nat} {l : List Nat} (h : VAt w g l) (hb : Below C w w') (hg : g < C) : VAt w' g l :=
 ⟨h.1.below hb hg, fun j => by rw [hb.frozen (show g < C from hg)]; exact h.2 j⟩
theorem VAt.alloc {w : World} {g : Nat} {l : List Nat} (h : VAt w g l) (o : Obj) : VAt (w.alloc o) g l :=
 h.below ((Below.refl w.heap.size w).alloc (Nat.le_refl _) o) h.1.1
theorem VAt.other {w : World} {g r i : Nat} {l : List Nat} {u : Value} (h : VAt w g l) (hne : r ≠ g) : VAt (w.setCell ⟨r, i, none⟩ u) g l :=
 ⟨words_set h.1 hne, fun j => by rw [World.frozen?_setCell]; exact h.2 j⟩
theorem v_new (w : World) (l : List Nat) (C : Array Value) (t : TypeId) (hC : C.toList = wcells l) : VAt (w.alloc (.cells C t)) w.heap.size l := by
 refine ⟨⟨by simp, fun j hj => ?_⟩, fun j => by simp⟩
 rw [World.cell?_alloc_mark]
 have : C[j]? = (wcells l)[j]? := by rw [← hC]; simp
 rw [this, wcells_at l j hj]
theorem wpList_load_words {ops : Array Oper} {rest : List Oper} {op : Oper} {a : Act} {w : World} {Q : Exit → Act → World → Prop} (hgd : op.guard = none) (ty : TypeId) (x : Operand) (ho : op.op = .load ty x)
 (g : Nat) (hx : a.eval x = .pointer (some ⟨g, 0, none⟩)) (l : List Nat) (d : TypeDesc) (hc : WordsAt w g l)
 (hu : Tryz.prog.underlying ty = some d) (hd : d.isRow = true) (hi : (Tryz.prog.info? ty).map (·.size) = some l.length)
 (h : wpList Tryz.prog ops Q rest (a.put op.dst (wagg l)) w) : wpList Tryz.prog ops Q (op :: rest) a w :=
 wpList_load_mid hgd ty x ho g 0 hx (wcells l) d (words_range hc) hu hd (by rw [wcells_len]; exact hi) h
theorem wpList_store_words {ops : Array Oper} {rest : List Oper} {op : Oper} {a : Act} {w : World} {Q : Exit → Act → World → Prop} (hgd : op.guard = none) (ty : TypeId) (x y : Operand) (ho : op.op = .store ty x y)
 (g : Nat) (l old : List Nat) (hx : a.eval x = .pointer (some ⟨g, 0, none⟩)) (hy : a.eval y = wagg l)
 (hc : VAt w g old) (hl : l.length = old.length) (hi : (Tryz.prog.info? ty).map (·.size) = some l.length)
 (h : ∀ w', w' = w.setCells g 0 (wcells l) → wpList Tryz.prog ops Q rest (a.put op.dst undef) w') : wpList Tryz.prog ops Q (op :: rest) a w :=
 wpList_store_mid hgd ty x y ho g 0 (wcells l).toArray hx hy (by rw [wcells_size, hl]; exact v_there hc) (by rw [wcells_size]; exact hi) (wcells_all l) (by have := h _ rfl; simpa using this)
theorem results_words {fn : Func} {p : Tmp} {ty : TypeId} (h : fn.results = #[.cell p ty]) (tmps : Array Value) (w : World) (g : Nat) (l : List Nat) (d : TypeDesc)
 (hp : tmps.getD p undef = .pointer (some ⟨g, 0, none⟩)) (hc : WordsAt w g l) (hu : Tryz.prog.underlying ty = some d) (hd : d.isRow = true) (hi : (Tryz.prog.info? ty).map (·.size) = some l.length) :
 (results fn tmps).run Tryz.prog w = .ok (wagg l) w := by
 have hp' : tmps[p]?.getD undef = .pointer (some ⟨g, 0, none⟩) := by simpa using hp
 have hl := run_loadVar_mid (P := Tryz.prog) w g 0 ty (wcells l) d (words_range hc) hu hd (by rw [wcells_len]; exact hi)
 simp [results, h, hp', asAddr, hl, wagg]
theorem results_words2 {fn : Func} {p q : Tmp} {ty : TypeId} (h : fn.results = #[.cell p ty, .tmp q]) (tmps : Array Value) (w : World) (g : Nat) (l : List Nat) (d : TypeDesc)
 (hp : tmps.getD p undef = .pointer (some ⟨g, 0, none⟩)) (hc : WordsAt w g l) (hu : Tryz.prog.underlying ty = some d) (hd : d.isRow = true) (hi : (Tryz.prog.info? ty).map (·.size) = some l.length) :
 (results fn tmps).run Tryz.prog w = .ok (.tuple #[wagg l, tmps.getD q undef]) w := by
 have hp' : tmps[p]?.getD undef = .pointer (some ⟨g, 0, none⟩) := by simpa using hp
 have hl := run_loadVar_mid (P := Tryz.prog) w g 0 ty (wcells l) d (words_range hc) hu hd (by rw [wcells_len]; exact hi)
 simp [results, h, hp', asAddr, hl, wagg]
theorem firstState_any (w : World) : Calls Tryz.prog 73 #[] w fun e w' => e = .returned (wagg first) ∧ Below w.heap.size w w' := by
 go_enter Tryz.func73, Tryz.ntmps73
 go_wp2
 have hv := v_new w first #[Value.int IntKind.u32 1779033703, Value.int IntKind.u32 3144134277, Value.int IntKind.u32 1013904242, Value.int IntKind.u32 2773480762, Value.int IntKind.u32 1359893119, Value.int IntKind.u32 2600822924, Value.int IntKind.u32 528734635, Value.int IntKind.u32 1541459225] 133 rfl
 exact bodyPost_ret (results_words rfl _ _ _ _ _ rfl hv.1 Tryz.underlying133 rfl info8) rfl ⟨rfl, (Below.refl _ _).alloc (Nat.le_refl _) _⟩
end Go.Proofs.YtcjgjkejhkhknabGreatDoor
