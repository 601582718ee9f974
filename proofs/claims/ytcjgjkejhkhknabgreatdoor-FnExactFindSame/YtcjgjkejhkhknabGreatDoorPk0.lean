/-
  Base; Own; Kept2; Tk; MtConv; HexMath; DecMath; MarkTx; Flt; OwnC; SliL; TrMath; KnN; TrMath2; LkN; ILeaf; IKids; PartL; EqArr; ILink; FlP
-/
import Derived.Test.YtcjgjkejhkhknabGreatDoorRows
import Derived.WalkKit
import Derived.WalkSpells
import Derived.WalkLawsBesides
import Derived.WalkSmall
import Derived.OwnWalk
import Derived.OneCell
import Derived.Lib.Slices
import Derived.Lib.Strings
import Derived.Laws.IdiomStrings
import Derived.Laws.DeepStrings4
import Derived.Deep.RegionWith
import Derived.Deep.RegionHeld3
import Derived.Deep.QuietTactic
import Derived.Deep.AppendLies
import Derived.BigQuiet
import Derived.WalkMore
import Derived.Lib.ItoaNum
import Derived.Lib.ItoaMem
import Derived.Lib.ItoaLen
import Derived.Deep.MidRow
import Derived.Laws.StructEq
import Derived.LaidEqlPtr
namespace Go.Proofs.YtcjgjkejhkhknabGreatDoor
open Go.RowKit
theorem infoByte : (Tryz.prog.info? 5).map (fun i => (i.zero, i.size, i.bytes)) = some (some (.int .u8 0), 1, 1) := by kernel_rfl
theorem hide {p : Prop} (h : p) : Hid p := h
def bcells (l : List UInt8) : List Value := l.map fun b => Value.int .u8 b.toNat
theorem bcells_len (l : List UInt8) : (bcells l).length = l.length := by simp [bcells]
theorem bcells_snoc (l : List UInt8) (c : UInt8) (x : Int) (h : (c.toNat : Int) = x) : bcells l ++ [Value.int .u8 x] = bcells (l ++ [c]) := by
 subst h; simp [bcells]
theorem bcells_at (l : List UInt8) (j : Nat) (hj : j < l.length) : (bcells l)[j]? = some (.int .u8 (l[j].toNat : Int)) := by
 simp [bcells, hj]
theorem one_cell (w : World) (x : Value) (t : TypeId) : ∀ (j : Nat) (u : Value), [x][j]? = some u → (w.alloc (.cells #[x] t)).cell? ((⟨w.heap.size, 0, none⟩ : Addr).add j) = some u := by
 intro j u hj
 match j, hj with
 | 0, hj => simp at hj; subst hj; simp [Addr.add]
theorem one_u8 (x : Int) : ∀ u ∈ [Value.int .u8 x], u.oneCell' = true := by
 intro u hu; simp at hu; subst hu; rfl
theorem own_grown {B : Nat} {w wr w2 : World} {v : Value} {n : Nat} {xs : List Value} {e : TypeId} {o : Obj} (hb : Below B w wr) (hB : B ≤ wr.heap.size)
 (hown : wr.ownsRow B e 1 v n xs) (hg : (wr.alloc o).grownBy w2 v.ownBlock) : Below B w w2 :=
 (hb.alloc hB _).grown hg (by simp; omega) (fun k hk => (hown.lt k hk).1)
theorem conv_own {B : Nat} (wr : World) (v : Value) (l : List UInt8) (h : wr.ownsRow B 5 1 v l.length (bcells l)) : (convert 191 9 v).run Tryz.prog wr = .ok (.string ⟨l.toArray⟩) wr := by
 have hown := h
 rcases h.2 with ⟨rfl, h0⟩ | ⟨g, cap, cur, rfl, -, -, -, -, -, -⟩
 ·have : l = [] := List.length_eq_zero_iff.1 h0
  subst this
  rw [run_convert_bytes_string wr 191 9 5 none 0 0 Tryz.underlying191 Tryz.underlying5 Tryz.underlying9]
  rfl
 ·exact run_convert_bytes_back (P := Tryz.prog) wr 191 9 5 ⟨g, 0, none⟩ cap l Tryz.underlying191 Tryz.underlying5 Tryz.underlying9 (fun j hj => hown.cells (g := g) rfl j _ (bcells_at l j hj))
theorem infoInt : (Tryz.prog.info? 3).map (fun i => (i.zero, i.size, i.bytes)) = some (some (.int .i64 0), 1, 8) := by kernel_rfl
def icells (l : List Int) : List Value := l.map fun n => Value.int .i64 n
theorem icells_at (l : List Int) (j : Nat) (hj : j < l.length) : (icells l)[j]? = some (.int .i64 l[j]) := by simp [icells, hj]
theorem one_i64 (x : Int) : ∀ u ∈ [Value.int .i64 x], u.oneCell' = true := by
 intro u hu; simp at hu; subst hu; rfl
theorem addr_at (g j : Nat) : (⟨g, 0, none⟩ : Addr).add j = ⟨g, j, none⟩ := by
 simp only [Addr.add]
 split <;> simp_all
theorem own_below {w w' : World} {base : Nat} {e : TypeId} {size : Nat} {v : Value} {n : Nat} {xs : List Value} (h : w.ownsRow base e size v n xs) (hb : Below w.heap.size w w') : w'.ownsRow base e size v n xs := by
 obtain ⟨h1, h2⟩ := h
 refine ⟨h1, ?_⟩
 rcases h2 with h | ⟨g, cap, cur, a1, a2, a3, a4⟩
 ·exact .inl h
 ·have hg : g < w.heap.size := (Array.getElem?_eq_some_iff.1 a3).1
  exact .inr ⟨g, cap, cur, a1, a2, by rw [hb.block g hg]; exact a3, a4⟩
theorem own_lower {w : World} {base C : Nat} {e : TypeId} {size : Nat} {v : Value} {n : Nat} {xs : List Value} (h : w.ownsRow base e size v n xs) (hC : C ≤ base) : w.ownsRow C e size v n xs := by
 obtain ⟨h1, h2⟩ := h
 refine ⟨h1, ?_⟩
 rcases h2 with h | ⟨g, cap, cur, a1, a2, a3⟩
 ·exact .inl h
 ·exact .inr ⟨g, cap, cur, a1, by omega, a3⟩
def Kept2 (w w' : World) (ok : Nat → Prop) : Prop := w'.os = w.os ∧ w'.tape = w.tape ∧ w'.output = w.output ∧ w.heap.size ≤ w'.heap.size ∧ ∀ i, i < w.heap.size → ok i → w'.heap[i]? = w.heap[i]?
theorem Kept2.refl (w : World) (ok : Nat → Prop) : Kept2 w w ok := ⟨rfl, rfl, rfl, Nat.le_refl _, fun _ _ _ => rfl⟩
theorem Kept2.trans {a b c : World} {ok : Nat → Prop} (h : Kept2 a b ok) (k : Kept2 b c ok) : Kept2 a c ok :=
 ⟨k.1.trans h.1, k.2.1.trans h.2.1, k.2.2.1.trans h.2.2.1, Nat.le_trans h.2.2.2.1 k.2.2.2.1, fun i hi ho => (k.2.2.2.2 i (Nat.lt_of_lt_of_le hi h.2.2.2.1) ho).trans (h.2.2.2.2 i hi ho)⟩
theorem Kept2.grown {a b : World} {ok : Nat → Prop} {row : Option Nat} (h : a.grownBy b row) (hr : ∀ j, row = some j → ¬ ok j) : Kept2 a b ok :=
 ⟨h.os, h.tape, h.output, h.size, fun i hi ho => h.block i hi (fun e => hr i e.symm ho)⟩
theorem Kept2.below {a b : World} {ok : Nat → Prop} (h : Below a.heap.size a b) : Kept2 a b ok := ⟨h.os, h.tape, h.output, h.size, fun i hi _ => h.block i hi⟩
theorem Kept2.down {a b : World} {ok : Nat → Prop} {B : Nat} (h : Kept2 a b ok) (hB : B ≤ a.heap.size) (ho : ∀ i, i < B → ok i) : Below B a b := ⟨h.1, h.2.1, h.2.2.1, h.2.2.2.1, fun i hi => h.2.2.2.2 i (Nat.lt_of_lt_of_le hi hB) (ho i hi)⟩
theorem grown_old {a b : World} (h : Below a.heap.size a b) (row : Option Nat) : a.grownBy b row := ⟨h.os, h.tape, h.output, h.size, fun i hi _ => h.block i hi⟩
def Loc (lo hi : Nat) (P : World → Prop) : Prop := ∀ w w' : World, (∀ g, lo ≤ g → g < hi → w'.heap[g]? = w.heap[g]?) → P w → P w'
abbrev Hold := Nat × Nat × (World → Prop)
def Tk (w wi : World) (hs : List Hold) : Prop := Below w.heap.size w wi ∧ ∀ h ∈ hs, h.2.1 ≤ wi.heap.size ∧ Loc h.1 h.2.1 h.2.2 ∧ h.2.2 wi
theorem Tk.start (w : World) : Tk w w [] := ⟨Below.refl _ _, fun _ h => by cases h⟩
theorem Tk.below {w wi wj : World} {hs : List Hold} (h : Tk w wi hs) (hb : Below wi.heap.size wi wj) : Tk w wj hs := by
 refine ⟨h.1.trans (hb.mono h.1.size), fun x hx => ?_⟩
 obtain ⟨h1, h2, h3⟩ := h.2 x hx
 have := hb.size
 exact ⟨by omega, h2, h2 wi wj (fun g _ hg => hb.block g (by omega)) h3⟩
theorem Tk.drew {w wi : World} {hs : List Hold} (h : Tk w wi hs) : Tk w wi.drew hs := h.below (Below.refl _ _).drew
theorem Tk.get {w wi : World} {hs : List Hold} (h : Tk w wi hs) (n : Nat) {lo hi : Nat} {P : World → Prop} (hn : hs[n]? = some (lo, hi, P)) : P wi := (h.2 _ (List.mem_of_getElem? hn)).2.2
theorem Tk.hi {w wi : World} {hs : List Hold} (h : Tk w wi hs) (n : Nat) {lo hi : Nat} {P : World → Prop} (hn : hs[n]? = some (lo, hi, P)) : hi ≤ wi.heap.size := (h.2 _ (List.mem_of_getElem? hn)).1
theorem Tk.add {w wi wj : World} {hs : List Hold} (h : Tk w wi hs) (hb : Below wi.heap.size wi wj) {P : World → Prop} (hl : Loc wi.heap.size wj.heap.size P) (hp : P wj) : Tk w wj ((wi.heap.size, wj.heap.size, P) :: hs) := by
 obtain ⟨h1, h2⟩ := h.below hb
 refine ⟨h1, fun x hx => ?_⟩
 rcases List.mem_cons.1 hx with rfl | hx
 ·exact ⟨Nat.le_refl _, hl, hp⟩
 ·exact h2 x hx
def Cel (b : Nat) (cs : Array Value) (t : TypeId) : World → Prop := fun W => W.heap[b]? = some (.cells cs t (0, 0))
theorem Cel.loc (b : Nat) (cs : Array Value) (t : TypeId) : Loc b (b + 1) (Cel b cs t) := fun _ _ hk h => (hk b (Nat.le_refl _) (by omega)).trans h
theorem Tk.cell {w wi : World} {hs : List Hold} (h : Tk w wi hs) (cs : Array Value) (t : TypeId) : Tk w (wi.alloc (.cells cs t)) ((wi.heap.size, wi.heap.size + 1, Cel wi.heap.size cs t) :: hs) := by
 have hz : (wi.alloc (.cells cs t)).heap.size = wi.heap.size + 1 := by simp
 have := h.add ((Below.refl _ _).alloc (Nat.le_refl _) (.cells cs t)) (P := Cel wi.heap.size cs t) (by rw [hz]; exact Cel.loc _ _ _) (heap_alloc_new wi _)
 rw [hz] at this
 exact this
theorem Tk.at {w wi : World} {hs : List Hold} (h : Tk w wi hs) (n : Nat) {lo hi b : Nat} {cs : Array Value} {t : TypeId} (k : Nat) {v : Value} (hn : hs[n]? = some (lo, hi, Cel b cs t)) (hk : cs[k]? = some v) : wi.cell? ⟨b, k, none⟩ = some v := by
 rw [cell_of_row _ _ k _ _ _ (h.get n hn)]
 exact hk
theorem Tk.drop {w wi : World} {hs hs' : List Hold} (h : Tk w wi hs) (hh : ∀ x ∈ hs', x ∈ hs) : Tk w wi hs' := ⟨h.1, fun x hx => h.2 x (hh x hx)⟩
theorem mt_conv (w : World) (c : UInt8) (x : Int) (h : (c.toNat : Int) = x) :
 (convert 191 9 (.slice (some ⟨w.heap.size, 0, none⟩) 1 1)).run Tryz.prog (w.alloc (.cells #[.int .u8 x] 5)) = .ok (.string ⟨#[c]⟩) (w.alloc (.cells #[.int .u8 x] 5)) := by
 subst h
 exact run_convert_bytes_back (P := Tryz.prog) (w.alloc (.cells #[.int .u8 c.toNat] 5)) 191 9 5 ⟨w.heap.size, 0, none⟩ 1 [c] Tryz.underlying191 Tryz.underlying5 Tryz.underlying9
  (fun j hj => by
   have : j = 0 := by simpa using hj
   subst this
   exact one_cell w _ 5 0 _ rfl)
def Flt (t : TypeId) (g : Nat) (xs : List Value) : World → Prop := fun W => ∃ cs : Array Value, W.heap[g]? = some (.cells cs t (0, 0)) ∧ ∀ (i : Nat) (v : Value), xs[i]? = some v → cs[i]? = some v
theorem Flt.loc (t : TypeId) (g : Nat) (xs : List Value) : Loc g (g + 1) (Flt t g xs) := by
 rintro w w' hk ⟨cs, h1, h2⟩
 exact ⟨cs, (hk g (Nat.le_refl _) (by omega)).trans h1, h2⟩
theorem Flt.cell {t : TypeId} {g : Nat} {xs : List Value} {w : World} (h : Flt t g xs w) {k : Nat} {v : Value} (hk : xs[k]? = some v) : w.cell? ⟨g, k, none⟩ = some v := by
 obtain ⟨cs, h1, h2⟩ := h
 rw [cell_of_row _ _ k _ _ _ h1]
 exact h2 k v hk
def Sli (t : TypeId) (lo hi : Nat) (v : Value) (n : Nat) (xs : List Value) : World → Prop := fun W => (v = .slice none 0 0 ∧ n = 0) ∨ ∃ g cap, v = .slice (some ⟨g, 0, none⟩) n cap ∧ lo ≤ g ∧ g < hi ∧ Flt t g xs W
theorem Sli.loc (t : TypeId) (lo hi : Nat) (v : Value) (n : Nat) (xs : List Value) : Loc lo hi (Sli t lo hi v n xs) := by
 rintro w w' hk (h | ⟨g, cap, h1, h2, h3, h4⟩)
 ·exact Or.inl h
 ·exact Or.inr ⟨g, cap, h1, h2, h3, Flt.loc t g xs w w' (fun q q1 q2 => hk q (by omega) (by omega)) h4⟩
theorem Sli.form {t : TypeId} {lo hi n : Nat} {v : Value} {xs : List Value} {w : World} (h : Sli t lo hi v n xs w) : ∃ ad cap, v = .slice ad n cap ∧ (0 < n → ∃ g, ad = some ⟨g, 0, none⟩ ∧ lo ≤ g ∧ g < hi) := by
 rcases h with ⟨h1, h2⟩ | ⟨g, cap, h1, h2, h3, -⟩
 ·exact ⟨none, 0, by rw [h1, h2], fun h => by omega⟩
 ·exact ⟨_, cap, h1, fun _ => ⟨g, rfl, h2, h3⟩⟩
theorem Sli.flt {t : TypeId} {lo hi n g cap : Nat} {xs : List Value} {w : World} (h : Sli t lo hi (.slice (some ⟨g, 0, none⟩) n cap) n xs w) : Flt t g xs w := by
 rcases h with ⟨h1, -⟩ | ⟨g', cap', h1, -, -, h4⟩
 ·cases h1
 ·injection h1 with a
  injection a with a
  injection a with a
  subst a
  exact h4
theorem Sli.of {t : TypeId} {size lo n : Nat} {v : Value} {xs : List Value} {w : World} (h : w.ownsRow lo t size v n xs) : Sli t lo w.heap.size v n xs w := by
 have hlt := h.lt
 rcases h.2 with ⟨h1, h2⟩ | ⟨g, cap, cur, rfl, h2, h3, h4, h5, h6, h7⟩
 ·exact Or.inl ⟨h1, h2⟩
 ·refine Or.inr ⟨g, cap, rfl, h2, (hlt g rfl).2, cur, h3, fun i x hx => ?_⟩
  rw [← h7] at hx
  obtain ⟨h8, h9⟩ := List.getElem?_eq_some_iff.1 hx
  rw [List.getElem_take] at h9
  rw [List.length_take] at h8
  rw [← Array.getElem?_toList, List.getElem?_eq_some_iff]
  exact ⟨by omega, h9⟩
theorem row_set {w : World} {g : Nat} {cs : Array Value} {t : TypeId} (h : w.heap[g]? = some (.cells cs t (0, 0))) (i : Nat) (u : Value) : (w.setCell ⟨g, i, none⟩ u).heap[g]? = some (.cells (cs.setIfInBounds i u) t (0, 0)) := by
 rw [setCell_eq_setRow w g i cs t (0, 0) u h]
 exact setRow_heap w g cs _ t _ h
theorem row_set_ne {w : World} {g g' : Nat} {o : Obj} (h : w.heap[g]? = some o) (hn : g ≠ g') (i : Nat) (u : Value) : (w.setCell ⟨g', i, none⟩ u).heap[g]? = some o := (Below.heap_setCell _ _ _ _ hn).trans h
theorem own_down {w : World} {B B' : Nat} {e : TypeId} {size n : Nat} {v : Value} {xs : List Value} (h : w.ownsRow B e size v n xs) (hb : B' ≤ B) : w.ownsRow B' e size v n xs := by
 obtain ⟨h1, h2⟩ := h
 refine ⟨h1, ?_⟩
 rcases h2 with h | ⟨g, cap, cur, rfl, a2, a3⟩
 ·exact .inl h
 ·exact .inr ⟨g, cap, cur, rfl, by omega, a3⟩
theorem own_cell {w : World} {B : Nat} {e : TypeId} {size n : Nat} {v : Value} {xs : List Value} (h : w.ownsRow B e size v n xs) {g : Nat} (hg : g < B) (i : Nat) (u : Value) : (w.setCell ⟨g, i, none⟩ u).ownsRow B e size v n xs := by
 obtain ⟨h1, h2⟩ := h
 refine ⟨h1, ?_⟩
 rcases h2 with h | ⟨g', cap, cur, rfl, a2, a3, a4⟩
 ·exact .inl h
 ·exact .inr ⟨g', cap, cur, rfl, a2, row_set_ne a3 (by omega) _ _, a4⟩
theorem own_block_lt {w : World} {B : Nat} {e : TypeId} {size n : Nat} {v : Value} {xs : List Value} (h : w.ownsRow B e size v n xs) : ∀ g, v.ownBlock = some g → B ≤ g ∧ g < w.heap.size := by
 intro g hg
 exact h.lt g hg
theorem fown_set {w : World} {base : Nat} {e : TypeId} {size n : Nat} {v : Value} {xs : List Value} {g cap : Nat} (h : w.ownsRow base e size v n xs) (hv : v = .slice (some ⟨g, 0, none⟩) n cap) (k : Nat) (u : Value) :
 (w.setCell ⟨g, k, none⟩ u).ownsRow base e size v n (xs.set k u) := by
 obtain ⟨h1, h2⟩ := h
 refine ⟨by simpa using h1, ?_⟩
 rcases h2 with ⟨h3, -⟩ | ⟨g', cap', cur, h3, h4, h5, h6, h7, h8, h9⟩
 ·rw [hv] at h3; cases h3
 ·right
  have hg : g' = g := by rw [hv] at h3; injection h3 with a; simp at a; exact a.symm
  subst hg
  refine ⟨g', cap', cur.setIfInBounds k u, h3, h4, ?_, h6, h7, by simpa using h8, ?_⟩
  ·rw [setCell_eq_setRow w g' k cur e (0, 0) u h5]
   exact setRow_heap w g' cur _ e _ h5
  ·rw [Array.toList_setIfInBounds, List.take_set, h9]
theorem grown_cell (w : World) (g k : Nat) (u : Value) : w.grownBy (w.setCell ⟨g, k, none⟩ u) (some g) :=
 ⟨rfl, rfl, rfl, by simp [World.setCell], fun i _ hi => Below.heap_setCell _ _ _ _ (fun e => hi (by rw [e]))⟩
end Go.Proofs.YtcjgjkejhkhknabGreatDoor
namespace Go.Proofs.YtcjgjkejhkhknabGreatDoor
namespace Words
structure Kn where
 leaf : Bool
 kids : List Int
def kidAt (l : List Kn) (r : Int) (k : Nat) : Int := ((l[r.toNat]?).bind (fun x => x.kids[k]?)).getD 0
def putLf (l : List Kn) (r : Int) (s : Nat) (n : Int) : Kn := ⟨true, ((if r < 0 then [0, 0, 0, 0] else if kidAt l r (s / 4) < 0 then [0, 0, 0, 0] else ((l[(kidAt l r (s / 4)).toNat]?).map Kn.kids).getD [])).set (s % 4) n⟩
def putTop (l : List Kn) (r : Int) (s : Nat) : Kn := ⟨false, (if r < 0 then [-1, -1, -1, -1] else ((l[r.toNat]?).map Kn.kids).getD []).set (s / 4) (l.length : Int)⟩
end Words
end Go.Proofs.YtcjgjkejhkhknabGreatDoor
namespace Go.Proofs.YtcjgjkejhkhknabGreatDoor
open Go.RowKit
open Words
def IRow (w : World) (a : Option Addr) (len : Nat) (ls : List Int) : Prop :=
 ls.length = len ∧ len ≤ maxLen ∧ (0 < len → ∃ b off, a = some ⟨b, off, none⟩ ∧ b < w.heap.size ∧ ∀ i t, ls[i]? = some t → w.cell? ⟨b, off + i, none⟩ = some (.int .i64 t))
theorem IRow.below {w w' : World} {a : Option Addr} {len : Nat} {ls : List Int} (h : IRow w a len ls) (hb : Below w.heap.size w w') : IRow w' a len ls := by
 obtain ⟨h1, h2, h4⟩ := h
 refine ⟨h1, h2, fun h0 => ?_⟩
 obtain ⟨b, off, e, hl, hc⟩ := h4 h0
 have hs := hb.size
 exact ⟨b, off, e, by omega, fun i t ht => (hb.cell (show b < w.heap.size from hl)).trans (hc i t ht)⟩
theorem IRow.at {w : World} {a : Option Addr} {len : Nat} {ls : List Int} (h : IRow w a len ls) {k : Nat} {t : Int} (hk : ls[k]? = some t) :
 ∃ b off, a = some ⟨b, off, none⟩ ∧ b < w.heap.size ∧ w.cell? ⟨b, off + k, none⟩ = some (.int .i64 t) := by
 obtain ⟨h1, -, h4⟩ := h
 have hl := (List.getElem?_eq_some_iff.1 hk).1
 obtain ⟨b, off, e, hb, hc⟩ := h4 (by omega)
 exact ⟨b, off, e, hb, hc k t hk⟩
theorem icells_get {l : List Int} {k : Nat} {x : Int} (h : l[k]? = some x) : (icells l)[k]? = some (.int .i64 x) := by
 obtain ⟨h1, h2⟩ := List.getElem?_eq_some_iff.1 h
 rw [icells_at l k h1, h2]
def ISl (W : World) (v : Value) (ls : List Int) : Prop := ∃ a c, v = .slice a ls.length c ∧ (a = none → c = 0) ∧ IRow W a ls.length ls
theorem ISl.of {lo hi : Nat} {v : Value} {ls : List Int} {W : World} (h : Sli 3 lo hi v ls.length (icells ls) W) (hm : ls.length ≤ maxLen) (hh : hi ≤ W.heap.size) : ISl W v ls := by
 rcases h with ⟨rfl, h0⟩ | ⟨g, cap, rfl, h1, h2, h3⟩
 ·exact ⟨none, 0, by rw [h0], fun _ => rfl, rfl, hm, fun h => by omega⟩
 ·refine ⟨_, _, rfl, (fun e => by cases e), rfl, hm, fun _ => ⟨g, 0, rfl, by omega, fun i t hi => ?_⟩⟩
  simpa using h3.cell (icells_get hi)
def nn (k : Int) : Int := if k < 0 then 0 else k
end Go.Proofs.YtcjgjkejhkhknabGreatDoor
namespace Go.Proofs.YtcjgjkejhkhknabGreatDoor
abbrev Bk := Bool × Int × List (Int × ByteArray)
def readF (bs : List Bk) (b leaf : Int) : ByteArray × Bool := match bs[b.toNat]? with
 | none => (⟨#[]⟩, false)
 | some r => match r.2.2[leaf.toNat]? with
  | none => (⟨#[]⟩, false)
  | some t => if 0 ≤ b ∧ 0 ≤ leaf ∧ t.1 = 1 then (t.2, true) else (⟨#[]⟩, false)
end Go.Proofs.YtcjgjkejhkhknabGreatDoor
