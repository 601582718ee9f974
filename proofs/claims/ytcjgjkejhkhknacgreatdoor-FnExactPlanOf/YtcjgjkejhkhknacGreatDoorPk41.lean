/-
  WCells; SpecW; SpecW2; RowW; SpecR2; RMath; Arr; ImplAB; ImplS; SpecF; SpecR; Keeps; Round
-/
import Derived.Test.YtcjgjkejhkhknacGreatDoorPk0
import Derived.Test.YtcjgjkejhkhknacGreatDoorPk40
import Derived.Laws.BitsAllLaws
import Derived.Deep.MidRow
import Derived.Deep.AppendLies
set_option maxHeartbeats 400000
namespace Go.Proofs.YtcjgjkejhkhknacGreatDoor
open Go.RowKit
open Dig
theorem infoWord : (Tryz.prog.info? 185).map (fun i => (i.zero, i.size, i.bytes)) = some (some (.int .u32 0), 1, 4) := by kernel_rfl
def wcells (l : List Nat) : List Value := l.map fun n : Nat => Value.int .u32 n
theorem wcells_len (l : List Nat) : (wcells l).length = l.length := by simp [wcells]
theorem wcells_at (l : List Nat) (j : Nat) (hj : j < l.length) : (wcells l)[j]? = some (.int .u32 (l[j] : Nat)) := by simp [wcells, hj]
def WordsAt (w : World) (g : Nat) (l : List Nat) : Prop := g < w.heap.size ∧ ∀ j (hj : j < l.length), w.cell? ⟨g, j, none⟩ = some (.int .u32 (l[j] : Nat))
theorem WordsAt.below {w w' : World} {g C : Nat} {l : List Nat} (h : WordsAt w g l) (hb : Below C w w') (hg : g < C) : WordsAt w' g l :=
 ⟨Nat.lt_of_lt_of_le h.1 hb.size, fun j hj => by rw [hb.cell (show g < C from hg)]; exact h.2 j hj⟩
theorem byte_at (s : ByteArray) (j : Nat) (a : Int) (ha : a = j) (hj : j < s.size) (W : World) : (Instr.index 9 (.string s) (.int .i64 a)).run Tryz.prog W = .ok (.int .u8 (((s.data.toList.getD j 0).toNat : Nat) : Int)) W := by
 subst ha
 rw [run_index_string W 9 s .i64 j Tryz.underlying9, dif_pos (by omega)]
 have : s.data.toList.getD j 0 = s[j] := by
  rw [List.getD_eq_getElem?_getD, List.getElem?_eq_getElem (by simpa using hj)]
  rfl
 rw [this]
 rfl
theorem word_drop (l : List UInt8) (i : Nat) : word (l.drop i) = (l.getD i 0).toNat * 16777216 + (l.getD (i + 1) 0).toNat * 65536 + (l.getD (i + 2) 0).toNat * 256 + (l.getD (i + 3) 0).toNat := by
 simp [word, List.getD_eq_getElem?_getD, List.getElem?_drop]
def four4 (x : Nat) : List UInt8 := [UInt8.ofNat (x / 16777216), UInt8.ofNat (x / 65536 % 256), UInt8.ofNat (x / 256 % 256), UInt8.ofNat (x % 256)]
theorem bytesOf_snoc (l : List Nat) (x : Nat) : bytesOf (l ++ [x]) = bytesOf l ++ four4 x := by simp [bytesOf, four4]
theorem bytesOf_len4 (l : List Nat) : (bytesOf l).length = 4 * l.length := by
 induction l with
 | nil => rfl
 | cons a l ih => simp [bytesOf] at ih ⊢; omega
theorem four4_cells (l : List UInt8) (x : Nat) (hx : x < 4294967296) : bcells l ++ [Value.int .u8 ((x : Int) / 16777216), Value.int .u8 ((x : Int) / 65536 % 256), Value.int .u8 ((x : Int) / 256 % 256), Value.int .u8 ((x : Int) % 256)] = bcells (l ++ four4 x) := by
 have h1 : ((UInt8.ofNat (x / 16777216)).toNat : Int) = (x : Int) / 16777216 := by rw [UInt8.toNat_ofNat']; omega
 have h2 : ((UInt8.ofNat (x / 65536 % 256)).toNat : Int) = (x : Int) / 65536 % 256 := by rw [UInt8.toNat_ofNat']; omega
 have h3 : ((UInt8.ofNat (x / 256 % 256)).toNat : Int) = (x : Int) / 256 % 256 := by rw [UInt8.toNat_ofNat']; omega
 have h4 : ((UInt8.ofNat (x % 256)).toNat : Int) = (x : Int) % 256 := by rw [UInt8.toNat_ofNat']; omega
 simp only [bcells, List.map_append, four4, List.map_cons, List.map_nil, h1, h2, h3, h4]
theorem four_cell (w : World) (a b c d : Value) (t : TypeId) : ∀ (j : Nat) (u : Value), [a, b, c, d][j]? = some u → (w.alloc (.cells #[a, b, c, d] t)).cell? ((⟨w.heap.size, 0, none⟩ : Addr).add j) = some u := by
 intro j u hj
 match j, hj with
 | 0, hj => simp at hj; subst hj; simp [Addr.add]
 | 1, hj => simp at hj; subst hj; simp [Addr.add]
 | 2, hj => simp at hj; subst hj; simp [Addr.add]
 | 3, hj => simp at hj; subst hj; simp [Addr.add]
theorem four_u8 (a b c d : Int) : ∀ u ∈ [Value.int .u8 a, Value.int .u8 b, Value.int .u8 c, Value.int .u8 d], u.oneCell' = true := by
 intro u hu
 simp at hu
 rcases hu with h | h | h | h <;> subst h <;> rfl
theorem t1_open (e f g h k w s r : Nat) (hs : sig e 64 2048 33554432 false = s) (hr : ch e f g = r) :
 ∃ y1 y2 y3 y4 : Nat, IntKind.u32.wrap ((h : Int) + s) = y1 ∧ IntKind.u32.wrap ((y1 : Int) + r) = y2 ∧ IntKind.u32.wrap ((y2 : Int) + k) = y3 ∧ IntKind.u32.wrap ((y3 : Int) + w) = y4 ∧ t1 e f g h k w = y4 ∧ y4 < 4294967296 := by
 refine ⟨(h + s) % 4294967296, ((h + s) % 4294967296 + r) % 4294967296, (((h + s) % 4294967296 + r) % 4294967296 + k) % 4294967296, ((((h + s) % 4294967296 + r) % 4294967296 + k) % 4294967296 + w) % 4294967296, ?_, ?_, ?_, ?_, ?_, Nat.mod_lt _ (by omega)⟩
 ·rw [IntKind.wrap_u32']; omega
 ·rw [IntKind.wrap_u32']; omega
 ·rw [IntKind.wrap_u32']; omega
 ·rw [IntKind.wrap_u32']; omega
 ·unfold t1
  rw [hs, hr]
  omega
theorem t2_open (a b c s m : Nat) (hs : sig a 4 8192 4194304 false = s) (hm : maj a b c = m) : ((s : Int) + (m : Int)) % 4294967296 = (t2 a b c : Nat) ∧ t2 a b c < 4294967296 := by
 refine ⟨?_, Nat.mod_lt _ (by omega)⟩
 unfold t2
 rw [hs, hm]
 omega
theorem words_at {w : World} {g : Nat} {l : List Nat} (h : WordsAt w g l) (j x : Nat) (hx : l[j]? = some x) : w.cell? ⟨g, j, none⟩ = some (.int .u32 (x : Nat)) := by
 obtain ⟨h1, h2⟩ := List.getElem?_eq_some_iff.1 hx
 rw [h.2 j h1, h2]
def VAt (w : World) (g : Nat) (l : List Nat) : Prop := WordsAt w g l ∧ ∀ j, w.frozen? ⟨g, j, none⟩ = false
theorem VAt.set {w : World} {g : Nat} {l : List Nat} (h : VAt w g l) (i y : Nat) : VAt (w.setCell ⟨g, i, none⟩ (.int .u32 y)) g (l.set i y) := by
 refine ⟨⟨by simpa using h.1.1, fun j hj => ?_⟩, fun j => by rw [World.frozen?_setCell]; exact h.2 j⟩
 have hj2 : j < l.length := by simpa using hj
 by_cases hij : i = j
 ·subst hij
  rw [World.cell?_setCell_same _ _ _ (h.1.2 i hj2)]
  simp
 ·rw [World.cell?_setCell_other _ _ _ _ (fun e => hij (by injection e)), h.1.2 j hj2]
  simp [hij]
theorem words_set {w : World} {g r i : Nat} {l : List Nat} {u : Value} (h : WordsAt w g l) (hne : r ≠ g) : WordsAt (w.setCell ⟨r, i, none⟩ u) g l :=
 ⟨by simpa using h.1, fun j hj => by rw [World.cell?_setCell_other _ _ _ _ (fun e => hne (by injection e))]; exact h.2 j hj⟩
theorem getD_some (l : List Nat) (n : Nat) (h : n < l.length) : l[n]? = some (l.getD n 0) := by
 rw [List.getD_eq_getElem?_getD, List.getElem?_eq_getElem h]; rfl
theorem info8 : (Tryz.prog.info? 246).map (·.size) = some 8 := by kernel_rfl
def wagg (l : List Nat) : Value := .agg (wcells l).toArray
theorem wcells_one (l : List Nat) : ∀ v ∈ wcells l, v.oneCell' = true := by
 intro u hu
 obtain ⟨x, -, rfl⟩ := List.mem_map.1 hu
 rfl
theorem wcells_all (l : List Nat) : (wcells l).toArray.all (·.oneCell') = true := all_oneCell_toArray (wcells_one l)
theorem wcells_size (l : List Nat) : (wcells l).toArray.size = l.length := by simp [wcells]
theorem words_range {w : World} {g : Nat} {l : List Nat} (h : WordsAt w g l) : w.rangeAt g 0 (wcells l) := by
 intro j v hv
 have hj : j < l.length := by
  have := (List.getElem?_eq_some_iff.1 hv).1
  rwa [wcells_len] at this
 rw [wcells_at l j hj] at hv
 cases hv
 rw [Nat.zero_add]
 exact h.2 j hj
theorem v_there {w : World} {g : Nat} {l : List Nat} (h : VAt w g l) : w.there g 0 l.length := by
 intro j hj
 rw [Nat.zero_add, h.1.2 j hj]
 exact ⟨rfl, h.2 j⟩
theorem setCells_sizeD (b : Nat) : ∀ (vs : List Value) (o : Nat) (w : World), (w.setCells b o vs).heap.size = w.heap.size
 | [], _, _ => rfl
 | v :: r, o, w => by rw [World.setCells, setCells_sizeD b r]; simp
theorem below_cellsD {B b : Nat} {a : World} (hb : B ≤ b) : ∀ (vs : List Value) (o : Nat) (w : World), Below B a w → Below B a (w.setCells b o vs)
 | [], _, _, h => h
 | v :: r, o, w, h => by
  rw [World.setCells]
  exact below_cellsD hb r _ _ (h.setCell (p := ⟨b, o, none⟩) hb v)
theorem VAt.store {w : World} {g : Nat} {l : List Nat} (h : VAt w g l) (l' : List Nat) (hl : l'.length = l.length) : VAt (w.setCells g 0 (wcells l')) g l' := by
 have ht : w.there g 0 (wcells l').length := by rw [wcells_len, hl]; exact v_there h
 have hr := World.rangeAt_setCells_same w g 0 (wcells l') ht
 refine ⟨⟨by rw [setCells_sizeD]; exact h.1.1, fun j hj => ?_⟩, fun j => by rw [World.frozen?_setCells]; exact h.2 j⟩
 have := hr j _ (wcells_at l' j hj)
 rwa [Nat.zero_add] at this
theorem VAt.apart {w : World} {g g' : Nat} {l : List Nat} (h : VAt w g l) (hne : g ≠ g') (vs : List Value) (o : Nat) : VAt (w.setCells g' o vs) g l := by
 refine ⟨⟨by rw [setCells_sizeD]; exact h.1.1, fun j hj => ?_⟩, fun j => by rw [World.frozen?_setCells]; exact h.2 j⟩
 rw [World.cell?_setCells_out g' vs o w ⟨g, j, none⟩ (fun hb _ => absurd hb hne)]
 exact h.1.2 j hj
theorem VAt.below {w w' : World} {g C : Nat} {l : List Nat} (h : VAt w g l) (hb : Below C w w') (hg : g < C) : VAt w' g l :=
 ⟨h.1.below hb hg, fun j => by rw [hb.frozen (show g < C from hg)]; exact h.2 j⟩
theorem VAt.alloc {w : World} {g : Nat} {l : List Nat} (h : VAt w g l) (o : Obj) : VAt (w.alloc o) g l :=
 h.below ((Below.refl w.heap.size w).alloc (Nat.le_refl _) o) h.1.1
theorem VAt.other {w : World} {g r i : Nat} {l : List Nat} {u : Value} (h : VAt w g l) (hne : r ≠ g) : VAt (w.setCell ⟨r, i, none⟩ u) g l :=
 ⟨words_set h.1 hne, fun j => by rw [World.frozen?_setCell]; exact h.2 j⟩
theorem v_new (w : World) (l : List Nat) (C : Array Value) (t : TypeId) (hC : C.toList = wcells l) : VAt (w.alloc (.cells C t)) w.heap.size l := by
 refine ⟨⟨by simp, fun j hj => ?_⟩, fun j => by simp⟩
 rw [World.cell?_alloc_mark]
 have : C[j]? = (wcells l)[j]? := by rw [← hC]; simp
 rw [this, wcells_at l j hj]
theorem wpList_load_words {ops : Array Oper} {rest : List Oper} {op : Oper} {a : Act} {w : World} {Q : Exit → Act → World → Prop} (hgd : op.guard = none) (ty : TypeId) (x : Operand) (ho : op.op = .load ty x)
 (g : Nat) (hx : a.eval x = .pointer (some ⟨g, 0, none⟩)) (l : List Nat) (d : TypeDesc) (hc : WordsAt w g l)
 (hu : Tryz.prog.underlying ty = some d) (hd : d.isRow = true) (hi : (Tryz.prog.info? ty).map (·.size) = some l.length)
 (h : wpList Tryz.prog ops Q rest (a.put op.dst (wagg l)) w) : wpList Tryz.prog ops Q (op :: rest) a w :=
 wpList_load_mid hgd ty x ho g 0 hx (wcells l) d (words_range hc) hu hd (by rw [wcells_len]; exact hi) h
theorem wpList_store_words {ops : Array Oper} {rest : List Oper} {op : Oper} {a : Act} {w : World} {Q : Exit → Act → World → Prop} (hgd : op.guard = none) (ty : TypeId) (x y : Operand) (ho : op.op = .store ty x y)
 (g : Nat) (l old : List Nat) (hx : a.eval x = .pointer (some ⟨g, 0, none⟩)) (hy : a.eval y = wagg l)
 (hc : VAt w g old) (hl : l.length = old.length) (hi : (Tryz.prog.info? ty).map (·.size) = some l.length)
 (h : ∀ w', w' = w.setCells g 0 (wcells l) → wpList Tryz.prog ops Q rest (a.put op.dst undef) w') : wpList Tryz.prog ops Q (op :: rest) a w :=
 wpList_store_mid hgd ty x y ho g 0 (wcells l).toArray hx hy (by rw [wcells_size, hl]; exact v_there hc) (by rw [wcells_size]; exact hi) (wcells_all l) (by have := h _ rfl; simpa using this)
theorem results_words {fn : Func} {p : Tmp} {ty : TypeId} (h : fn.results = #[.cell p ty]) (tmps : Array Value) (w : World) (g : Nat) (l : List Nat) (d : TypeDesc)
 (hp : tmps.getD p undef = .pointer (some ⟨g, 0, none⟩)) (hc : WordsAt w g l) (hu : Tryz.prog.underlying ty = some d) (hd : d.isRow = true) (hi : (Tryz.prog.info? ty).map (·.size) = some l.length) :
 (results fn tmps).run Tryz.prog w = .ok (wagg l) w := by
 have hp' : tmps[p]?.getD undef = .pointer (some ⟨g, 0, none⟩) := by simpa using hp
 have hl := run_loadVar_mid (P := Tryz.prog) w g 0 ty (wcells l) d (words_range hc) hu hd (by rw [wcells_len]; exact hi)
 simp [results, h, hp', asAddr, hl, wagg]
theorem results_words2 {fn : Func} {p q : Tmp} {ty : TypeId} (h : fn.results = #[.cell p ty, .tmp q]) (tmps : Array Value) (w : World) (g : Nat) (l : List Nat) (d : TypeDesc)
 (hp : tmps.getD p undef = .pointer (some ⟨g, 0, none⟩)) (hc : WordsAt w g l) (hu : Tryz.prog.underlying ty = some d) (hd : d.isRow = true) (hi : (Tryz.prog.info? ty).map (·.size) = some l.length) :
 (results fn tmps).run Tryz.prog w = .ok (.tuple #[wagg l, tmps.getD q undef]) w := by
 have hp' : tmps[p]?.getD undef = .pointer (some ⟨g, 0, none⟩) := by simpa using hp
 have hl := run_loadVar_mid (P := Tryz.prog) w g 0 ty (wcells l) d (words_range hc) hu hd (by rw [wcells_len]; exact hi)
 simp [results, h, hp', asAddr, hl, wagg]
theorem firstState_any (w : World) : Calls Tryz.prog 170 #[] w fun e w' => e = .returned (wagg first) ∧ Below w.heap.size w w' := by
 go_enter Tryz.func170, Tryz.ntmps170
 go_wp2
 have hv := v_new w first #[Value.int IntKind.u32 1779033703, Value.int IntKind.u32 3144134277, Value.int IntKind.u32 1013904242, Value.int IntKind.u32 2773480762, Value.int IntKind.u32 1359893119, Value.int IntKind.u32 2600822924, Value.int IntKind.u32 528734635, Value.int IntKind.u32 1541459225] 246 rfl
 exact bodyPost_ret (results_words rfl _ _ _ _ _ rfl hv.1 Tryz.underlying246 rfl info8) rfl ⟨rfl, (Below.refl _ _).alloc (Nat.le_refl _) _⟩
theorem appendWord_any (v : Value) (l : List UInt8) (x base : Nat) (w : World) (hx : x < 4294967296) (hl : l.length ≤ 1000000) (hown : w.ownsRow base 5 1 v l.length (bcells l)) (hB : base ≤ w.heap.size) :
 Calls Tryz.prog 210 #[v, .int .u32 x] w fun e w' => ∃ v' : Value, e = .returned v' ∧ w'.ownsRow base 5 1 v' (l ++ four4 x).length (bcells (l ++ four4 x)) ∧ Below base w w' := by
 obtain ⟨i0, hi, hz0, hz1, hz2⟩ := info_parts infoByte
 have HO := hide hown
 clear hown
 go_enter Tryz.func210, Tryz.ntmps210
 go_wp2_with (at_builtin; refine wpList_append_own _ rfl _ _ 107 rfl base 5 i0 (.int .u8 0) 1 1 Tryz.underlying107 hi hz0 hz1 hz2 rfl (by decide) _ _ _ rfl (by exact HO.out.alloc _) ⟨w.heap.size, 0, none⟩ 4 4 [Value.int .u8 _, Value.int .u8 _, Value.int .u8 _, Value.int .u8 _] rfl rfl (by exact four_cell _ _ _ _ _ _) (four_u8 _ _ _ _) (by unfold maxLen; omega) (by omega) (by simp; omega) ?_)
 intro v' w2 hown2 hgrow _
 have hb2 : Below base w w2 := own_grown (Below.refl base w) hB HO.out hgrow
 rw [four4_cells _ x hx] at hown2
 have HN : Hid (w2.ownsRow base 5 1 v' (l ++ four4 x).length (bcells (l ++ four4 x))) := by
  show World.ownsRow _ _ _ _ _ _ _
  rw [List.length_append]; exact hown2
 clear hown2 hgrow HO
 go_wp2
 go_ret
 exact ⟨_, rfl, HN.out, hb2⟩
theorem idx8 (l : List Nat) (k x : Nat) (hl : l.length = 8) (hx : l[k]? = some x) (W : World) : (Instr.index 246 (wagg l) (.int .i64 (k : Int))).run Tryz.prog W = .ok (.int .u32 x) W := by
 have hk : k < 8 := by rw [← hl]; exact (List.getElem?_eq_some_iff.1 hx).1
 have hc : (wcells l)[k]? = some (.int .u32 x) := by
  obtain ⟨h1, h2⟩ := List.getElem?_eq_some_iff.1 hx
  rw [wcells_at l k h1, h2]
 obtain ⟨i0, hi, hz0, hz1, hz2⟩ := info_parts infoWord
 simp [Instr.index, run_underlying Tryz.underlying246, asIntOf, wagg, part, sizeOf, typeInfo, hi, hz1, isAgg, run_underlying Tryz.underlying185, hk, hc]
theorem bytesOf_take (l : List Nat) (k x : Nat) (hx : l[k]? = some x) : bytesOf (l.take (k + 1)) = bytesOf (l.take k) ++ four4 x := by
 obtain ⟨h1, h2⟩ := List.getElem?_eq_some_iff.1 hx
 rw [← bytesOf_snoc, ← h2, ← List.take_succ_eq_append_getElem h1]
theorem asBytes_anyD (l : List Nat) (w : World) (h : St l) :
 Calls Tryz.prog 196 #[wagg l] w fun e w' => e = .returned (.string ⟨(bytesOf l).toArray⟩) ∧ Below w.heap.size w w' := by
 obtain ⟨i0, hi, hz0, hz1, hz2⟩ := info_parts infoByte
 have hl8 := h.1
 have HL := hide h.2
 obtain ⟨a, b, c, d, e, f, g, i, hL, -⟩ := h.open
 have hw8 : wagg l = .agg #[.int .u32 a, .int .u32 b, .int .u32 c, .int .u32 d, .int .u32 e, .int .u32 f, .int .u32 g, .int .u32 i] := by rw [hL]; rfl
 rw [hw8]
 have EL := hide hL
 clear h hw8 hL
 go_enter Tryz.func196, Tryz.ntmps196
 go_wp2_with (at_make; refine wpList_make_own _ rfl _ _ 107 rfl (w.heap.size + 1) 5 i0 (.int .u8 0) 1 Tryz.underlying107 hi hz0 hz1 .i64 .i64 _ 32 rfl rfl rfl (by rw [hz2]; omega) (by unfold maxLen; omega) (by simp) ?_)
 intro w1 hown hgrow
 have hv0 := v_new w l #[.int .u32 a, .int .u32 b, .int .u32 c, .int .u32 d, .int .u32 e, .int .u32 f, .int .u32 g, .int .u32 i] 246 (by rw [EL.out]; rfl)
 have hb1 : Below (w.heap.size + 1) (w.alloc (.cells #[.int .u32 a, .int .u32 b, .int .u32 c, .int .u32 d, .int .u32 e, .int .u32 f, .int .u32 g, .int .u32 i] 246)) w1 := (Below.refl _ _).grown hgrow (by simp) (fun k hk => by cases hk)
 have HV := hide (hv0.below hb1 (by omega))
 have HB : Hid (Below w.heap.size w w1) := ((Below.refl _ _).alloc (Nat.le_refl _) _).trans (hb1.mono (by omega))
 have hs1 : w.heap.size + 1 ≤ w1.heap.size := by have := hb1.size; simpa using this
 have HO := hide hown
 clear hown hgrow hv0 hb1 EL
 go_wp2_with (refine wpList_load_words rfl _ _ rfl w.heap.size rfl l _ HV.out.1 Tryz.underlying246 rfl (by rw [hl8]; exact info8) ?_)
 go_loopw [3, 8] (fun out iv wr => ∃ k : Nat, k ≤ 8 ∧ iv = .int .i64 k ∧ Hid (wr.ownsRow (w.heap.size + 1) 5 1 out (bytesOf (l.take k)).length (bcells (bytesOf (l.take k)))) ∧ Below w.heap.size w wr ∧ w.heap.size + 1 ≤ wr.heap.size) (fun _ iv _ => 8 - (intOf iv).toNat)
 case atStart => exact ⟨0, by omega, rfl, HO, HB.out, hs1⟩
 case round =>
  obtain ⟨k, hk, rfl, HR, hbel, hszr⟩ := hrel
  by_cases hlt : (k : Int) < 8
  ·obtain ⟨x, hx⟩ : ∃ x, l[k]? = some x := ⟨_, List.getElem?_eq_getElem (by omega)⟩
   have hix := idx8 l k x hl8 hx
   have hx32 := HL.out x (List.mem_of_getElem? hx)
   have F := hide (bytesOf_take l k x hx)
   have hlen : (bytesOf (l.take k)).length ≤ 1000000 := by rw [bytesOf_len4]; simp; omega
   generalize bytesOf (l.take k) = bk at HR F hlen
   clear hx
   go_wp2_with fail
   refine (appendWord_any _ bk x (w.heap.size + 1) _ hx32 hlen HR.out hszr).mono ?_
   rintro e w2 ⟨v', rfl, hown2, hb2⟩
   rw [← F.out] at hown2
   have HR2 := hide hown2
   have hb3 : Below w.heap.size w w2 := hbel.trans (hb2.mono (by omega))
   have hs3 : w.heap.size + 1 ≤ w2.heap.size := by have := hb2.size; omega
   clear hown2 hb2 HR hbel F hix
   go_wp2
   go_roundw
   case rel => exact ⟨k + 1, by omega, by go_num, HR2, hb3, hs3⟩
   case measure => simp [intOf]; omega
  ·have e8 : k = 8 := by omega
   subst e8
   have hcv : (convert 107 9 u3).run Tryz.prog wr = .ok (.string ⟨(bytesOf l).toArray⟩) wr := by
    have := HR.out
    rw [List.take_of_length_le (by omega)] at this
    exact conv_own wr _ _ this
   clear HR HL
   obtain ⟨r, hr⟩ : ∃ r, bytesOf l = r := ⟨_, rfl⟩
   rw [hr] at hcv
   have HR := hide hr
   clear hr
   go_wp2
   go_ret
   exact ⟨by rw [HR.out]; rfl, hbel⟩
theorem wordAt_any (s : ByteArray) (i : Nat) (w : World) (hs : s.size ≤ maxLen) (hi : i + 4 ≤ s.size) :
 Calls Tryz.prog 213 #[.string s, .int .i64 i] w fun e w' => e = .returned (.int .u32 (word (s.data.toList.drop i) : Nat)) ∧ Below w.heap.size w w' := by
 unfold maxLen at hs
 have f0 := byte_at s i (i : Int) rfl (by omega)
 have f1 := byte_at s (i + 1) ((i : Int) + 1) (by omega) (by omega)
 have f2 := byte_at s (i + 2) ((i : Int) + 2) (by omega) (by omega)
 have f3 := byte_at s (i + 3) ((i : Int) + 3) (by omega) (by omega)
 have E := word_drop s.data.toList i
 have b0 : (s.data.toList.getD i 0).toNat < 256 := UInt8.toNat_lt _
 have b1 : (s.data.toList.getD (i + 1) 0).toNat < 256 := UInt8.toNat_lt _
 have b2 : (s.data.toList.getD (i + 2) 0).toNat < 256 := UInt8.toNat_lt _
 have b3 : (s.data.toList.getD (i + 3) 0).toNat < 256 := UInt8.toNat_lt _
 generalize (s.data.toList.getD i 0).toNat = c0 at *
 generalize (s.data.toList.getD (i + 1) 0).toNat = c1 at *
 generalize (s.data.toList.getD (i + 2) 0).toNat = c2 at *
 generalize (s.data.toList.getD (i + 3) 0).toNat = c3 at *
 rw [← four_or c0 c1 c2 c3 b1 b2 b3] at E
 have g1 : IntKind.i64.wrap ((i : Int) + 1) = (i : Int) + 1 := by rw [IntKind.wrap_i64]; omega
 have g2 : IntKind.i64.wrap ((i : Int) + 2) = (i : Int) + 2 := by rw [IntKind.wrap_i64]; omega
 have g3 : IntKind.i64.wrap ((i : Int) + 3) = (i : Int) + 3 := by rw [IntKind.wrap_i64]; omega
 have k0 : IntKind.u32.wrap (c0 : Int) = c0 := by rw [IntKind.wrap_u32']; omega
 have k1 : IntKind.u32.wrap (c1 : Int) = c1 := by rw [IntKind.wrap_u32']; omega
 have k2 : IntKind.u32.wrap (c2 : Int) = c2 := by rw [IntKind.wrap_u32']; omega
 have k3 : IntKind.u32.wrap (c3 : Int) = c3 := by rw [IntKind.wrap_u32']; omega
 obtain ⟨d0, e0⟩ : ∃ d, d = c0 * 16777216 := ⟨_, rfl⟩
 obtain ⟨d1, e1⟩ : ∃ d, d = c1 * 65536 := ⟨_, rfl⟩
 obtain ⟨d2, e2⟩ : ∃ d, d = c2 * 256 := ⟨_, rfl⟩
 rw [← e0, ← e1, ← e2] at E
 have o1 := u32_or_nat d0 d1 (by omega) (by omega)
 have l1 : d0 ||| d1 < 4294967296 := Nat.or_lt_two_pow (n := 32) (show d0 < 4294967296 by omega) (show d1 < 4294967296 by omega)
 have o2 := u32_or_nat (d0 ||| d1) d2 l1 (by omega)
 have l2 : d0 ||| d1 ||| d2 < 4294967296 := Nat.or_lt_two_pow (n := 32) l1 (show d2 < 4294967296 by omega)
 have o3 := u32_or_nat (d0 ||| d1 ||| d2) c3 l2 (by omega)
 rw [← E] at o3
 clear E
 generalize word (s.data.toList.drop i) = x at o3 ⊢
 generalize d0 ||| d1 ||| d2 = y2 at o2 o3
 generalize d0 ||| d1 = y1 at o1 o2
 have m0 : IntKind.u32.wrap ((c0 : Int) * 16777216) = (d0 : Int) := by rw [IntKind.wrap_u32']; omega
 have m1 : IntKind.u32.wrap ((c1 : Int) * 65536) = (d1 : Int) := by rw [IntKind.wrap_u32']; omega
 have m2 : IntKind.u32.wrap ((c2 : Int) * 256) = (d2 : Int) := by rw [IntKind.wrap_u32']; omega
 clear e0 e1 e2 l1 l2
 go_enter Tryz.func213, Tryz.ntmps213
 go_wp2
 go_quiet (fail)
 go_wp2
 go_ret
 exact ⟨rfl, below_drewN (Below.refl _ _) _⟩
theorem wordAt_int (s : ByteArray) (z : Int) (i : Nat) (hz : z = i) (w : World) (hs : s.size ≤ maxLen) (hi : i + 4 ≤ s.size) :
 Calls Tryz.prog 213 #[.string s, .int .i64 z] w fun e w' => e = .returned (.int .u32 (word (s.data.toList.drop i) : Nat)) ∧ Below w.heap.size w w' := by
 subst hz
 exact wordAt_any s i w hs hi
theorem fill_set (A : List Nat) (n k x : Nat) (hA : A.length = k) (hk : k < n) : (A ++ List.replicate (n - k) 0).set k x = (A ++ [x]) ++ List.replicate (n - (k + 1)) 0 := by
 obtain ⟨d, hd⟩ : ∃ d, n - k = d + 1 := ⟨n - k - 1, by omega⟩
 have hd2 : n - (k + 1) = d := by omega
 rw [hd, hd2, List.set_append_right _ _ (by omega), hA, Nat.sub_self, List.replicate_succ]
 simp
theorem fill_len (A : List Nat) (n k : Nat) (hA : A.length = k) (hk : k ≤ n) : (A ++ List.replicate (n - k) 0).length = n := by
 simp; omega
theorem next_open (L : List Nat) (t : Nat) (ht : L.length = t) (h16 : 16 ≤ t) (hL : ∀ x ∈ L, x < 4294967296) :
 ∃ (a2 a7 a15 a16 x2 x7 x15 x16 s2 s15 y1 y2 y3 : Nat), a2 < t ∧ a7 < t ∧ a15 < t ∧ a16 < t ∧ (t : Int) - 2 = a2 ∧ (t : Int) - 7 = a7 ∧ (t : Int) - 15 = a15 ∧ (t : Int) - 16 = a16 ∧
  L[a2]? = some x2 ∧ L[a7]? = some x7 ∧ L[a15]? = some x15 ∧ L[a16]? = some x16 ∧ x2 < 4294967296 ∧ x15 < 4294967296 ∧
  sig x2 131072 524288 1024 true = s2 ∧ sig x15 128 262144 8 true = s15 ∧ IntKind.u32.wrap ((s2 : Int) + x7) = y1 ∧ IntKind.u32.wrap ((y1 : Int) + s15) = y2 ∧ IntKind.u32.wrap ((y2 : Int) + x16) = y3 ∧ next L = y3 := by
 have g : ∀ k, 2 ≤ k → k ≤ 16 → L[t - k]? = some (L.getD (t - k) 0) ∧ L.getD (t - k) 0 < 4294967296 := by
  intro k h1 h2
  have hlt : t - k < L.length := by omega
  rw [List.getD_eq_getElem?_getD, List.getElem?_eq_getElem hlt]
  exact ⟨rfl, hL _ (List.getElem_mem _)⟩
 refine ⟨t - 2, t - 7, t - 15, t - 16, L.getD (t - 2) 0, L.getD (t - 7) 0, L.getD (t - 15) 0, L.getD (t - 16) 0, _, _,
  (sig (L.getD (t - 2) 0) 131072 524288 1024 true + L.getD (t - 7) 0) % 4294967296,
  ((sig (L.getD (t - 2) 0) 131072 524288 1024 true + L.getD (t - 7) 0) % 4294967296 + sig (L.getD (t - 15) 0) 128 262144 8 true) % 4294967296,
  (((sig (L.getD (t - 2) 0) 131072 524288 1024 true + L.getD (t - 7) 0) % 4294967296 + sig (L.getD (t - 15) 0) 128 262144 8 true) % 4294967296 + L.getD (t - 16) 0) % 4294967296,
  by omega, by omega, by omega, by omega, by omega, by omega, by omega, by omega,
  (g 2 (by omega) (by omega)).1, (g 7 (by omega) (by omega)).1, (g 15 (by omega) (by omega)).1, (g 16 (by omega) (by omega)).1, (g 2 (by omega) (by omega)).2, (g 15 (by omega) (by omega)).2, rfl, rfl, ?_, ?_, ?_, ?_⟩
 ·rw [IntKind.wrap_u32']; omega
 ·rw [IntKind.wrap_u32']; omega
 ·rw [IntKind.wrap_u32']; omega
 ·unfold next
  rw [ht]
  omega
end Go.Proofs.YtcjgjkejhkhknacGreatDoor
