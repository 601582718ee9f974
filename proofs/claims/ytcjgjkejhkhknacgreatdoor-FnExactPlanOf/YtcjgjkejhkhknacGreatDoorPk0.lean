/-
  Base; Own; Kept2; Tk; MtConv; HexMath; DecMath; MarkTx; Flt; OwnC; SliL; TrMath
-/
import Derived.Test.YtcjgjkejhkhknacGreatDoorRows
import Derived.WalkKit
import Derived.WalkSpells
import Derived.WalkLawsBesides
import Derived.WalkSmall
import Derived.OwnWalk
import Derived.OneCell
import Derived.Lib.Slices
import Derived.Lib.Strings
import Derived.Laws.IdiomStrings
import Derived.Laws.DeepStrings4
import Derived.Deep.RegionWith
import Derived.Deep.RegionHeld3
import Derived.Deep.QuietTactic
import Derived.Deep.AppendLies
import Derived.BigQuiet
import Derived.WalkMore
import Derived.Lib.ItoaNum
import Derived.Lib.ItoaMem
import Derived.Lib.ItoaLen
import Derived.Deep.MidRow
set_option maxHeartbeats 400000
set_option maxRecDepth 100000
namespace Go.Proofs.YtcjgjkejhkhknacGreatDoor
open Go.RowKit
theorem infoByte : (Tryz.prog.info? 5).map (fun i => (i.zero, i.size, i.bytes)) = some (some (.int .u8 0), 1, 1) := by kernel_rfl
theorem hide {p : Prop} (h : p) : Hid p := h
def bcells (l : List UInt8) : List Value := l.map fun b => Value.int .u8 b.toNat
theorem bcells_len (l : List UInt8) : (bcells l).length = l.length := by simp [bcells]
theorem bcells_snoc (l : List UInt8) (c : UInt8) (x : Int) (h : (c.toNat : Int) = x) : bcells l ++ [Value.int .u8 x] = bcells (l ++ [c]) := by
 subst h; simp [bcells]
theorem bcells_at (l : List UInt8) (j : Nat) (hj : j < l.length) : (bcells l)[j]? = some (.int .u8 (l[j].toNat : Int)) := by
 simp [bcells, hj]
theorem one_cell (w : World) (x : Value) (t : TypeId) : ∀ (j : Nat) (u : Value), [x][j]? = some u → (w.alloc (.cells #[x] t)).cell? ((⟨w.heap.size, 0, none⟩ : Addr).add j) = some u := by
 intro j u hj
 match j, hj with
 | 0, hj => simp at hj; subst hj; simp [Addr.add]
theorem one_u8 (x : Int) : ∀ u ∈ [Value.int .u8 x], u.oneCell' = true := by
 intro u hu; simp at hu; subst hu; rfl
theorem own_grown {B : Nat} {w wr w2 : World} {v : Value} {n : Nat} {xs : List Value} {e : TypeId} {o : Obj} (hb : Below B w wr) (hB : B ≤ wr.heap.size)
 (hown : wr.ownsRow B e 1 v n xs) (hg : (wr.alloc o).grownBy w2 v.ownBlock) : Below B w w2 :=
 (hb.alloc hB _).grown hg (by simp; omega) (fun k hk => (hown.lt k hk).1)
theorem conv_own {B : Nat} (wr : World) (v : Value) (l : List UInt8) (h : wr.ownsRow B 5 1 v l.length (bcells l)) : (convert 107 9 v).run Tryz.prog wr = .ok (.string ⟨l.toArray⟩) wr := by
 have hown := h
 rcases h.2 with ⟨rfl, h0⟩ | ⟨g, cap, cur, rfl, -, -, -, -, -, -⟩
 ·have : l = [] := List.length_eq_zero_iff.1 h0
  subst this
  rw [run_convert_bytes_string wr 107 9 5 none 0 0 Tryz.underlying107 Tryz.underlying5 Tryz.underlying9]
  rfl
 ·exact run_convert_bytes_back (P := Tryz.prog) wr 107 9 5 ⟨g, 0, none⟩ cap l Tryz.underlying107 Tryz.underlying5 Tryz.underlying9 (fun j hj => hown.cells (g := g) rfl j _ (bcells_at l j hj))
theorem infoInt : (Tryz.prog.info? 3).map (fun i => (i.zero, i.size, i.bytes)) = some (some (.int .i64 0), 1, 8) := by kernel_rfl
def icells (l : List Int) : List Value := l.map fun n => Value.int .i64 n
theorem icells_snoc (l : List Int) (x : Int) : icells l ++ [Value.int .i64 x] = icells (l ++ [x]) := by simp [icells]
theorem icells_at (l : List Int) (j : Nat) (hj : j < l.length) : (icells l)[j]? = some (.int .i64 l[j]) := by simp [icells, hj]
theorem one_i64 (x : Int) : ∀ u ∈ [Value.int .i64 x], u.oneCell' = true := by
 intro u hu; simp at hu; subst hu; rfl
theorem addr_at (g j : Nat) : (⟨g, 0, none⟩ : Addr).add j = ⟨g, j, none⟩ := by
 simp only [Addr.add]
 split <;> simp_all
theorem own_below {w w' : World} {base : Nat} {e : TypeId} {size : Nat} {v : Value} {n : Nat} {xs : List Value} (h : w.ownsRow base e size v n xs) (hb : Below w.heap.size w w') : w'.ownsRow base e size v n xs := by
 obtain ⟨h1, h2⟩ := h
 refine ⟨h1, ?_⟩
 rcases h2 with h | ⟨g, cap, cur, a1, a2, a3, a4⟩
 ·exact .inl h
 ·have hg : g < w.heap.size := (Array.getElem?_eq_some_iff.1 a3).1
  exact .inr ⟨g, cap, cur, a1, a2, by rw [hb.block g hg]; exact a3, a4⟩
theorem own_lower {w : World} {base C : Nat} {e : TypeId} {size : Nat} {v : Value} {n : Nat} {xs : List Value} (h : w.ownsRow base e size v n xs) (hC : C ≤ base) : w.ownsRow C e size v n xs := by
 obtain ⟨h1, h2⟩ := h
 refine ⟨h1, ?_⟩
 rcases h2 with h | ⟨g, cap, cur, a1, a2, a3⟩
 ·exact .inl h
 ·exact .inr ⟨g, cap, cur, a1, by omega, a3⟩
def Kept2 (w w' : World) (ok : Nat → Prop) : Prop := w'.os = w.os ∧ w'.tape = w.tape ∧ w'.output = w.output ∧ w.heap.size ≤ w'.heap.size ∧ ∀ i, i < w.heap.size → ok i → w'.heap[i]? = w.heap[i]?
theorem Kept2.refl (w : World) (ok : Nat → Prop) : Kept2 w w ok := ⟨rfl, rfl, rfl, Nat.le_refl _, fun _ _ _ => rfl⟩
theorem Kept2.trans {a b c : World} {ok : Nat → Prop} (h : Kept2 a b ok) (k : Kept2 b c ok) : Kept2 a c ok :=
 ⟨k.1.trans h.1, k.2.1.trans h.2.1, k.2.2.1.trans h.2.2.1, Nat.le_trans h.2.2.2.1 k.2.2.2.1, fun i hi ho => (k.2.2.2.2 i (Nat.lt_of_lt_of_le hi h.2.2.2.1) ho).trans (h.2.2.2.2 i hi ho)⟩
theorem Kept2.grown {a b : World} {ok : Nat → Prop} {row : Option Nat} (h : a.grownBy b row) (hr : ∀ j, row = some j → ¬ ok j) : Kept2 a b ok :=
 ⟨h.os, h.tape, h.output, h.size, fun i hi ho => h.block i hi (fun e => hr i e.symm ho)⟩
theorem Kept2.below {a b : World} {ok : Nat → Prop} (h : Below a.heap.size a b) : Kept2 a b ok := ⟨h.os, h.tape, h.output, h.size, fun i hi _ => h.block i hi⟩
theorem Kept2.down {a b : World} {ok : Nat → Prop} {B : Nat} (h : Kept2 a b ok) (hB : B ≤ a.heap.size) (ho : ∀ i, i < B → ok i) : Below B a b := ⟨h.1, h.2.1, h.2.2.1, h.2.2.2.1, fun i hi => h.2.2.2.2 i (Nat.lt_of_lt_of_le hi hB) (ho i hi)⟩
theorem grown_old {a b : World} (h : Below a.heap.size a b) (row : Option Nat) : a.grownBy b row := ⟨h.os, h.tape, h.output, h.size, fun i hi _ => h.block i hi⟩
def Loc (lo hi : Nat) (P : World → Prop) : Prop := ∀ w w' : World, (∀ g, lo ≤ g → g < hi → w'.heap[g]? = w.heap[g]?) → P w → P w'
abbrev Hold := Nat × Nat × (World → Prop)
def Tk (w wi : World) (hs : List Hold) : Prop := Below w.heap.size w wi ∧ ∀ h ∈ hs, h.2.1 ≤ wi.heap.size ∧ Loc h.1 h.2.1 h.2.2 ∧ h.2.2 wi
theorem Tk.start (w : World) : Tk w w [] := ⟨Below.refl _ _, fun _ h => by cases h⟩
theorem Tk.below {w wi wj : World} {hs : List Hold} (h : Tk w wi hs) (hb : Below wi.heap.size wi wj) : Tk w wj hs := by
 refine ⟨h.1.trans (hb.mono h.1.size), fun x hx => ?_⟩
 obtain ⟨h1, h2, h3⟩ := h.2 x hx
 have := hb.size
 exact ⟨by omega, h2, h2 wi wj (fun g _ hg => hb.block g (by omega)) h3⟩
theorem Tk.drew {w wi : World} {hs : List Hold} (h : Tk w wi hs) : Tk w wi.drew hs := h.below (Below.refl _ _).drew
theorem Tk.get {w wi : World} {hs : List Hold} (h : Tk w wi hs) (n : Nat) {lo hi : Nat} {P : World → Prop} (hn : hs[n]? = some (lo, hi, P)) : P wi := (h.2 _ (List.mem_of_getElem? hn)).2.2
theorem Tk.hi {w wi : World} {hs : List Hold} (h : Tk w wi hs) (n : Nat) {lo hi : Nat} {P : World → Prop} (hn : hs[n]? = some (lo, hi, P)) : hi ≤ wi.heap.size := (h.2 _ (List.mem_of_getElem? hn)).1
theorem Tk.add {w wi wj : World} {hs : List Hold} (h : Tk w wi hs) (hb : Below wi.heap.size wi wj) {P : World → Prop} (hl : Loc wi.heap.size wj.heap.size P) (hp : P wj) : Tk w wj ((wi.heap.size, wj.heap.size, P) :: hs) := by
 obtain ⟨h1, h2⟩ := h.below hb
 refine ⟨h1, fun x hx => ?_⟩
 rcases List.mem_cons.1 hx with rfl | hx
 ·exact ⟨Nat.le_refl _, hl, hp⟩
 ·exact h2 x hx
theorem Tk.put {w wi : World} {hs : List Hold} (h : Tk w wi hs) {lo hi : Nat} {P : World → Prop} (hh : hi ≤ wi.heap.size) (hl : Loc lo hi P) (hp : P wi) : Tk w wi ((lo, hi, P) :: hs) := by
 refine ⟨h.1, fun x hx => ?_⟩
 rcases List.mem_cons.1 hx with rfl | hx
 ·exact ⟨hh, hl, hp⟩
 ·exact h.2 x hx
def Cel (b : Nat) (cs : Array Value) (t : TypeId) : World → Prop := fun W => W.heap[b]? = some (.cells cs t (0, 0))
theorem Cel.loc (b : Nat) (cs : Array Value) (t : TypeId) : Loc b (b + 1) (Cel b cs t) := fun _ _ hk h => (hk b (Nat.le_refl _) (by omega)).trans h
theorem Tk.cell {w wi : World} {hs : List Hold} (h : Tk w wi hs) (cs : Array Value) (t : TypeId) : Tk w (wi.alloc (.cells cs t)) ((wi.heap.size, wi.heap.size + 1, Cel wi.heap.size cs t) :: hs) := by
 have hz : (wi.alloc (.cells cs t)).heap.size = wi.heap.size + 1 := by simp
 have := h.add ((Below.refl _ _).alloc (Nat.le_refl _) (.cells cs t)) (P := Cel wi.heap.size cs t) (by rw [hz]; exact Cel.loc _ _ _) (heap_alloc_new wi _)
 rw [hz] at this
 exact this
theorem Tk.at {w wi : World} {hs : List Hold} (h : Tk w wi hs) (n : Nat) {lo hi b : Nat} {cs : Array Value} {t : TypeId} (k : Nat) {v : Value} (hn : hs[n]? = some (lo, hi, Cel b cs t)) (hk : cs[k]? = some v) : wi.cell? ⟨b, k, none⟩ = some v := by
 rw [cell_of_row _ _ k _ _ _ (h.get n hn)]
 exact hk
theorem Tk.fr {w wi : World} {hs : List Hold} (h : Tk w wi hs) (n : Nat) {lo hi b : Nat} {cs : Array Value} {t : TypeId} (k : Nat) (hn : hs[n]? = some (lo, hi, Cel b cs t)) : wi.frozen? ⟨b, k, none⟩ = false := frozen_of_row _ _ k _ _ (h.get n hn)
theorem Tk.drop {w wi : World} {hs hs' : List Hold} (h : Tk w wi hs) (hh : ∀ x ∈ hs', x ∈ hs) : Tk w wi hs' := ⟨h.1, fun x hx => h.2 x (hh x hx)⟩
def Apt (lo hi i : Nat) : Prop := ¬ (lo ≤ i ∧ i < hi)
theorem Tk.touch {w wi wj : World} {hs hs' : List Hold} {lo hi : Nat} {Q : World → Prop} (h : Tk w wi hs) (hk : Kept2 wi wj (Apt lo hi)) (hlo : w.heap.size ≤ lo) (hhi : hi ≤ wi.heap.size) (hl : Loc lo hi Q) (hq : Q wj)
 (hh : ∀ x ∈ hs', x ∈ hs ∧ (x.2.1 ≤ lo ∨ hi ≤ x.1)) : Tk w wj ((lo, hi, Q) :: hs') := by
 have hs := hk.2.2.2.1
 have hs1 := h.1.size
 refine ⟨h.1.trans (hk.down h.1.size (fun i hi' hq => by omega)), fun x hx => ?_⟩
 rcases List.mem_cons.1 hx with rfl | hx
 ·exact ⟨by show hi ≤ _; omega, hl, hq⟩
 ·obtain ⟨hx1, hx2⟩ := hh x hx
  obtain ⟨h1, h2, h3⟩ := h.2 x hx1
  exact ⟨by omega, h2, h2 wi wj (fun g g1 g2 => hk.2.2.2.2 g (by omega) (fun hz => by omega)) h3⟩
theorem Tk.spoil {w wi wj : World} {hs hs' : List Hold} {lo hi : Nat} (h : Tk w wi hs) (hk : Kept2 wi wj (Apt lo hi)) (hlo : w.heap.size ≤ lo) (hhi : hi ≤ wi.heap.size) (hh : ∀ x ∈ hs', x ∈ hs ∧ (x.2.1 ≤ lo ∨ hi ≤ x.1)) : Tk w wj hs' :=
 (h.touch hk hlo hhi (Q := fun _ => True) (fun _ _ _ _ => trivial) trivial hh).drop (fun _ hx => List.mem_cons_of_mem _ hx)
theorem Tk.celln {w wi : World} {hs : List Hold} (h : Tk w wi hs) {n : Nat} (hn : wi.heap.size = n) (cs : Array Value) (t : TypeId) : Tk w (wi.alloc (.cells cs t)) ((n, n + 1, Cel n cs t) :: hs) := by
 subst hn
 exact h.cell cs t
theorem alloc_size {w : World} {n : Nat} (hn : w.heap.size = n) (o : Obj) : (w.alloc o).heap.size = n + 1 := by simp [hn]
theorem Tk.two (w : World) (c1 c2 : Array Value) (t1 t2 : TypeId) : Tk w ((w.alloc (.cells c1 t1)).alloc (.cells c2 t2)) [(w.heap.size + 1, w.heap.size + 1 + 1, Cel (w.heap.size + 1) c2 t2), (w.heap.size, w.heap.size + 1, Cel w.heap.size c1 t1)] :=
 ((Tk.start w).celln rfl c1 t1).celln (alloc_size rfl _) c2 t2
theorem Tk.three (w : World) (c1 c2 c3 : Array Value) (t1 t2 t3 : TypeId) : Tk w (((w.alloc (.cells c1 t1)).alloc (.cells c2 t2)).alloc (.cells c3 t3)) [(w.heap.size + 1 + 1, w.heap.size + 1 + 1 + 1, Cel (w.heap.size + 1 + 1) c3 t3), (w.heap.size + 1, w.heap.size + 1 + 1, Cel (w.heap.size + 1) c2 t2), (w.heap.size, w.heap.size + 1, Cel w.heap.size c1 t1)] :=
 (Tk.two w c1 c2 t1 t2).celln (alloc_size (alloc_size rfl _) _) c3 t3
theorem mt_conv (w : World) (c : UInt8) (x : Int) (h : (c.toNat : Int) = x) :
 (convert 107 9 (.slice (some ⟨w.heap.size, 0, none⟩) 1 1)).run Tryz.prog (w.alloc (.cells #[.int .u8 x] 5)) = .ok (.string ⟨#[c]⟩) (w.alloc (.cells #[.int .u8 x] 5)) := by
 subst h
 exact run_convert_bytes_back (P := Tryz.prog) (w.alloc (.cells #[.int .u8 c.toNat] 5)) 107 9 5 ⟨w.heap.size, 0, none⟩ 1 [c] Tryz.underlying107 Tryz.underlying5 Tryz.underlying9
  (fun j hj => by
   have : j = 0 := by simpa using hj
   subst this
   exact one_cell w _ 5 0 _ rfl)
theorem mt_cons (c : UInt8) (l : List UInt8) : Value.string (⟨#[c]⟩ ++ ⟨l.toArray⟩) = .string ⟨(c :: l).toArray⟩ := by
 rw [show (#[c] : Array UInt8) = [c].toArray from rfl, ByteArray.mk_append_mk]; rfl
end Go.Proofs.YtcjgjkejhkhknacGreatDoor
namespace Go.Proofs.YtcjgjkejhkhknacGreatDoor.Words
def figZ (x : Int) : Int := if x < 10 then 48 + x else 97 + x - 10
def fig (x : Nat) : UInt8 := UInt8.ofNat (figZ x).toNat
theorem figZ_bd (x : Int) (h0 : 0 ≤ x) (h1 : x < 16) : 48 ≤ figZ x ∧ figZ x ≤ 102 := by unfold figZ; split <;> omega
theorem fig_nat (x : Nat) (h1 : x < 16) : ((fig x).toNat : Int) = figZ x := by
 have := figZ_bd x (by omega) (by omega)
 unfold fig
 rw [UInt8.toNat_ofNat']
 omega
end Go.Proofs.YtcjgjkejhkhknacGreatDoor.Words
namespace Go.Proofs.YtcjgjkejhkhknacGreatDoor.Words
open Go.Lib (decDigits itoa)
def pre (m : Nat) : List UInt8 := if m = 0 then [] else decDigits m
theorem pre_zero : pre 0 = [] := rfl
theorem pre_pos (m : Nat) (h : 0 < m) : pre m = decDigits m := by rw [pre, if_neg (by omega)]
theorem pre_step (m : Nat) (h : 0 < m) : pre m = pre (m / 10) ++ [fig (m % 10)] := by
 have hf : fig (m % 10) = UInt8.ofNat (48 + m % 10) := by
  unfold fig figZ
  rw [if_pos (by omega)]
  congr 1
 rw [pre_pos m h, decDigits]
 by_cases h10 : m < 10
 ·rw [dif_pos h10, show m / 10 = 0 by omega, pre_zero, hf, Nat.mod_eq_of_lt h10]; rfl
 ·rw [dif_neg h10, pre_pos (m / 10) (by omega), hf]
theorem dacc_step {m u : Nat} {acc : List UInt8} (h : pre m ++ acc = decDigits u) (hm : 0 < m) : pre (m / 10) ++ (fig (m % 10) :: acc) = decDigits u := by
 rw [← h, pre_step m hm]; simp
theorem dacc_len {m u : Nat} {acc : List UInt8} (h : pre m ++ acc = decDigits u) (hu : u ≤ 9223372036854775808) : acc.length ≤ 21 := by
 have h1 := congrArg List.length h
 have h2 : (decDigits u).length ≤ 21 := by
  by_cases h0 : u = 0
  ·subst h0
   have := Go.Lib.itoa_length_le 0 (by omega) (by omega)
   rw [show (0 : Int) = ((0 : Nat) : Int) from rfl, Go.Lib.itoa_nonneg] at this
   exact this
  ·have := Go.Lib.itoa_length_le (-(u : Int)) (by omega) (by omega)
   rw [Go.Lib.itoa_neg u (by omega)] at this
   simp at this
   omega
 simp at h1
 omega
end Go.Proofs.YtcjgjkejhkhknacGreatDoor.Words
namespace Go.Proofs.YtcjgjkejhkhknacGreatDoor
open Go.RowKit
open Words
open Go.Lib (decDigits)
def markL (k : Nat) : List UInt8 := 109 :: decDigits k
theorem fig48 (m : Nat) : ((fig (m % 10)).toNat : Int) = 48 + (m : Int) % 10 := by
 rw [fig_nat (m % 10) (by omega)]
 unfold figZ
 rw [if_pos (by omega)]
 omega
theorem markText_any (k : Nat) (w : World) (hk : 0 < k) (hk2 : k ≤ 1000000000000) :
 Calls Tryz.prog 112 #[.int .i64 k] w fun e w' => e = .returned (.string ⟨(markL k).toArray⟩) ∧ Below w.heap.size w w' := by
 have g1 : ¬ (k : Int) ≤ 0 := by omega
 go_enter Tryz.func112, Tryz.ntmps112
 go_wp2
 go_loopw [0, 3] (fun nv sv wr => ∃ (m : Nat) (acc : List UInt8), nv = .int .i64 m ∧ m ≤ k ∧ Hid (pre m ++ acc = decDigits k) ∧ sv = .string ⟨acc.toArray⟩ ∧ Below w.heap.size w wr) (fun nv _ _ => (intOf nv).toNat)
 case atStart => exact ⟨k, [], rfl, Nat.le_refl _, by show _ = _; rw [pre_pos k hk, List.append_nil], rfl, Below.refl _ _⟩
 case round =>
  obtain ⟨m, acc, rfl, hm, hacc, rfl, hbel⟩ := hrel
  have hsz := hbel.size
  have hal := dacc_len hacc.out (by omega)
  by_cases hm0 : m = 0
  ·subst hm0
   have E : Hid (acc = decDigits k) := hacc
   go_wp2
   go_ret
   exact ⟨by rw [markL, ← E.out]; exact congrArg Ending.returned (mt_cons 109 acc), hbel⟩
  ·have t1 : (0 : Int) < m := by omega
   have A2 : Hid (pre (m / 10) ++ (fig (m % 10) :: acc) = decDigits k) := dacc_step hacc.out (by omega)
   have hcv := mt_conv wr (fig (m % 10)) _ (fig48 m)
   clear hacc hm0
   go_wp2
   go_roundw
   case rel => exact ⟨m / 10, fig (m % 10) :: acc, by go_num, by omega, A2, mt_cons _ _, hbel.alloc (by omega) _⟩
   case measure => simp [intOf]; omega
theorem markText_int (x : Int) (n : Nat) (hx : x = n) (w : World) (h0 : 0 < n) (h1 : n ≤ 1000000000000) :
 Calls Tryz.prog 112 #[.int .i64 x] w fun e w' => e = .returned (.string ⟨(markL n).toArray⟩) ∧ Below w.heap.size w w' := by
 subst hx
 exact markText_any n w h0 h1
end Go.Proofs.YtcjgjkejhkhknacGreatDoor
namespace Go.Proofs.YtcjgjkejhkhknacGreatDoor
open Go.RowKit
def Flt (t : TypeId) (g : Nat) (xs : List Value) : World → Prop := fun W => ∃ cs : Array Value, W.heap[g]? = some (.cells cs t (0, 0)) ∧ ∀ (i : Nat) (v : Value), xs[i]? = some v → cs[i]? = some v
theorem Flt.loc (t : TypeId) (g : Nat) (xs : List Value) : Loc g (g + 1) (Flt t g xs) := by
 rintro w w' hk ⟨cs, h1, h2⟩
 exact ⟨cs, (hk g (Nat.le_refl _) (by omega)).trans h1, h2⟩
theorem Flt.cell {t : TypeId} {g : Nat} {xs : List Value} {w : World} (h : Flt t g xs w) {k : Nat} {v : Value} (hk : xs[k]? = some v) : w.cell? ⟨g, k, none⟩ = some v := by
 obtain ⟨cs, h1, h2⟩ := h
 rw [cell_of_row _ _ k _ _ _ h1]
 exact h2 k v hk
theorem Flt.frozen {t : TypeId} {g : Nat} {xs : List Value} {w : World} (h : Flt t g xs w) (o : Nat) : w.frozen? ⟨g, o, none⟩ = false := by
 obtain ⟨cs, h1, -⟩ := h
 exact frozen_of_row _ _ o _ _ h1
theorem Flt.below {t : TypeId} {g : Nat} {xs : List Value} {w w' : World} (h : Flt t g xs w) (hb : Below w.heap.size w w') : Flt t g xs w' := by
 have hlt : g < w.heap.size := by obtain ⟨cs, h1, -⟩ := h; exact (Array.getElem?_eq_some_iff.1 h1).1
 exact Flt.loc t g xs w w' (fun q q1 q2 => hb.block q (by omega)) h
theorem Flt.set {t : TypeId} {g : Nat} {xs : List Value} {w : World} (h : Flt t g xs w) (k : Nat) (u : Value) : Flt t g (xs.set k u) (w.setCell ⟨g, k, none⟩ u) := by
 obtain ⟨cs, h1, h2⟩ := h
 refine ⟨cs.setIfInBounds k u, ?_, fun i v hv => ?_⟩
 ·rw [setCell_eq_setRow w g k cs t (0, 0) u h1]
  exact setRow_heap w g cs _ t _ h1
 ·rw [List.getElem?_set] at hv
  rw [Array.getElem?_setIfInBounds]
  by_cases e : k = i
  ·rw [if_pos e] at hv ⊢
   by_cases hl : k < xs.length
   ·rw [if_pos hl] at hv
    obtain ⟨x, hx⟩ : ∃ x, xs[k]? = some x := ⟨_, List.getElem?_eq_getElem hl⟩
    have := (Array.getElem?_eq_some_iff.1 (h2 k x hx)).1
    rw [if_pos this]
    exact hv
   ·rw [if_neg hl] at hv
    cases hv
  ·rw [if_neg e] at hv ⊢
   exact h2 i v hv
theorem Flt.step {t : TypeId} {g k : Nat} {xs M : List Value} {w : World} {u : Value} (h : Flt t g (M.take k ++ xs.drop k) w) (hu : M[k]? = some u) (hl : M.length = xs.length) : Flt t g (M.take (k + 1) ++ xs.drop (k + 1)) (w.setCell ⟨g, k, none⟩ u) := by
 obtain ⟨hk, e⟩ := List.getElem?_eq_some_iff.1 hu
 have := h.set k u
 rw [List.set_append_right _ _ (by rw [List.length_take]; omega), List.length_take, Nat.min_eq_left (by omega), Nat.sub_self, List.drop_eq_getElem_cons (by omega), List.set_cons_zero] at this
 rw [List.take_succ_eq_append_getElem hk, e, List.append_assoc]
 exact this
theorem Flt.old {t : TypeId} {g k : Nat} {xs M : List Value} {w : World} {u : Value} (h : Flt t g (M.take k ++ xs.drop k) w) (hu : xs[k]? = some u) (hl : M.length = xs.length) : w.cell? ⟨g, k, none⟩ = some u := by
 obtain ⟨hk, e⟩ := List.getElem?_eq_some_iff.1 hu
 refine h.cell ?_
 rw [List.getElem?_append_right (by rw [List.length_take]; omega), List.length_take, Nat.min_eq_left (by omega), Nat.sub_self, List.getElem?_drop]
 simpa using hu
def Sli (t : TypeId) (lo hi : Nat) (v : Value) (n : Nat) (xs : List Value) : World → Prop := fun W => (v = .slice none 0 0 ∧ n = 0) ∨ ∃ g cap, v = .slice (some ⟨g, 0, none⟩) n cap ∧ lo ≤ g ∧ g < hi ∧ Flt t g xs W
theorem Sli.loc (t : TypeId) (lo hi : Nat) (v : Value) (n : Nat) (xs : List Value) : Loc lo hi (Sli t lo hi v n xs) := by
 rintro w w' hk (h | ⟨g, cap, h1, h2, h3, h4⟩)
 ·exact Or.inl h
 ·exact Or.inr ⟨g, cap, h1, h2, h3, Flt.loc t g xs w w' (fun q q1 q2 => hk q (by omega) (by omega)) h4⟩
theorem Sli.form {t : TypeId} {lo hi n : Nat} {v : Value} {xs : List Value} {w : World} (h : Sli t lo hi v n xs w) : ∃ ad cap, v = .slice ad n cap ∧ (0 < n → ∃ g, ad = some ⟨g, 0, none⟩ ∧ lo ≤ g ∧ g < hi) := by
 rcases h with ⟨h1, h2⟩ | ⟨g, cap, h1, h2, h3, -⟩
 ·exact ⟨none, 0, by rw [h1, h2], fun h => by omega⟩
 ·exact ⟨_, cap, h1, fun _ => ⟨g, rfl, h2, h3⟩⟩
theorem Sli.flt {t : TypeId} {lo hi n g cap : Nat} {xs : List Value} {w : World} (h : Sli t lo hi (.slice (some ⟨g, 0, none⟩) n cap) n xs w) : Flt t g xs w := by
 rcases h with ⟨h1, -⟩ | ⟨g', cap', h1, -, -, h4⟩
 ·cases h1
 ·injection h1 with a
  injection a with a
  injection a with a
  subst a
  exact h4
theorem Sli.of {t : TypeId} {size lo n : Nat} {v : Value} {xs : List Value} {w : World} (h : w.ownsRow lo t size v n xs) : Sli t lo w.heap.size v n xs w := by
 have hlt := h.lt
 rcases h.2 with ⟨h1, h2⟩ | ⟨g, cap, cur, rfl, h2, h3, h4, h5, h6, h7⟩
 ·exact Or.inl ⟨h1, h2⟩
 ·refine Or.inr ⟨g, cap, rfl, h2, (hlt g rfl).2, cur, h3, fun i x hx => ?_⟩
  rw [← h7] at hx
  obtain ⟨h8, h9⟩ := List.getElem?_eq_some_iff.1 hx
  rw [List.getElem_take] at h9
  rw [List.length_take] at h8
  rw [← Array.getElem?_toList, List.getElem?_eq_some_iff]
  exact ⟨by omega, h9⟩
def mkv (s : Bool) (k : Nat) : Value := if s then .string ⟨(markL k).toArray⟩ else .int .i64 (k : Int)
def mkFlat (pat : List Bool) (k0 n : Nat) : List Value := (List.range (n * pat.length)).map (fun i => mkv (pat.getD (i % pat.length) false) (k0 + i))
theorem mkFlat_len (pat : List Bool) (k0 n : Nat) : (mkFlat pat k0 n).length = n * pat.length := by simp [mkFlat]
theorem mkFlat_at (pat : List Bool) (k0 n i j : Nat) (s : Bool) (hi : i < n) (hs : pat[j]? = some s) : (mkFlat pat k0 n)[i * pat.length + j]? = some (mkv s (k0 + (i * pat.length + j))) := by
 have hj := (List.getElem?_eq_some_iff.1 hs).1
 have hlt : i * pat.length + j < n * pat.length := by
  have : (i + 1) * pat.length ≤ n * pat.length := Nat.mul_le_mul_right _ (by omega)
  rw [Nat.succ_mul] at this
  omega
 have hm : (i * pat.length + j) % pat.length = j := by
  rw [Nat.add_comm, Nat.add_mul_mod_self_right]
  exact Nat.mod_eq_of_lt hj
 simp only [mkFlat, List.getElem?_map, List.getElem?_range hlt, Option.map_some, hm, List.getD_eq_getElem?_getD, hs, Option.getD_some]
theorem row_set {w : World} {g : Nat} {cs : Array Value} {t : TypeId} (h : w.heap[g]? = some (.cells cs t (0, 0))) (i : Nat) (u : Value) : (w.setCell ⟨g, i, none⟩ u).heap[g]? = some (.cells (cs.setIfInBounds i u) t (0, 0)) := by
 rw [setCell_eq_setRow w g i cs t (0, 0) u h]
 exact setRow_heap w g cs _ t _ h
theorem row_set_ne {w : World} {g g' : Nat} {o : Obj} (h : w.heap[g]? = some o) (hn : g ≠ g') (i : Nat) (u : Value) : (w.setCell ⟨g', i, none⟩ u).heap[g]? = some o := (Below.heap_setCell _ _ _ _ hn).trans h
theorem own_down {w : World} {B B' : Nat} {e : TypeId} {size n : Nat} {v : Value} {xs : List Value} (h : w.ownsRow B e size v n xs) (hb : B' ≤ B) : w.ownsRow B' e size v n xs := by
 obtain ⟨h1, h2⟩ := h
 refine ⟨h1, ?_⟩
 rcases h2 with h | ⟨g, cap, cur, rfl, a2, a3⟩
 ·exact .inl h
 ·exact .inr ⟨g, cap, cur, rfl, by omega, a3⟩
theorem own_cell {w : World} {B : Nat} {e : TypeId} {size n : Nat} {v : Value} {xs : List Value} (h : w.ownsRow B e size v n xs) {g : Nat} (hg : g < B) (i : Nat) (u : Value) : (w.setCell ⟨g, i, none⟩ u).ownsRow B e size v n xs := by
 obtain ⟨h1, h2⟩ := h
 refine ⟨h1, ?_⟩
 rcases h2 with h | ⟨g', cap, cur, rfl, a2, a3, a4⟩
 ·exact .inl h
 ·exact .inr ⟨g', cap, cur, rfl, a2, row_set_ne a3 (by omega) _ _, a4⟩
theorem own_block_lt {w : World} {B : Nat} {e : TypeId} {size n : Nat} {v : Value} {xs : List Value} (h : w.ownsRow B e size v n xs) : ∀ g, v.ownBlock = some g → B ≤ g ∧ g < w.heap.size := by
 intro g hg
 exact h.lt g hg
theorem fown_set {w : World} {base : Nat} {e : TypeId} {size n : Nat} {v : Value} {xs : List Value} {g cap : Nat} (h : w.ownsRow base e size v n xs) (hv : v = .slice (some ⟨g, 0, none⟩) n cap) (k : Nat) (u : Value) :
 (w.setCell ⟨g, k, none⟩ u).ownsRow base e size v n (xs.set k u) := by
 obtain ⟨h1, h2⟩ := h
 refine ⟨by simpa using h1, ?_⟩
 rcases h2 with ⟨h3, -⟩ | ⟨g', cap', cur, h3, h4, h5, h6, h7, h8, h9⟩
 ·rw [hv] at h3; cases h3
 ·right
  have hg : g' = g := by rw [hv] at h3; injection h3 with a; simp at a; exact a.symm
  subst hg
  refine ⟨g', cap', cur.setIfInBounds k u, h3, h4, ?_, h6, h7, by simpa using h8, ?_⟩
  ·rw [setCell_eq_setRow w g' k cur e (0, 0) u h5]
   exact setRow_heap w g' cur _ e _ h5
  ·rw [Array.toList_setIfInBounds, List.take_set, h9]
theorem grown_cell (w : World) (g k : Nat) (u : Value) : w.grownBy (w.setCell ⟨g, k, none⟩ u) (some g) :=
 ⟨rfl, rfl, rfl, by simp [World.setCell], fun i _ hi => Below.heap_setCell _ _ _ _ (fun e => hi (by rw [e]))⟩
theorem Sli.up {t : TypeId} {lo hi hi' n : Nat} {v : Value} {xs : List Value} {w : World} (h : Sli t lo hi v n xs w) (hh : hi ≤ hi') : Sli t lo hi' v n xs w := by
 rcases h with h | ⟨g, cap, e, h1, h2, h3⟩
 ·exact .inl h
 ·exact .inr ⟨g, cap, e, h1, by omega, h3⟩
theorem Sli.dn {t : TypeId} {lo lo' hi n : Nat} {v : Value} {xs : List Value} {w : World} (h : Sli t lo hi v n xs w) (hh : lo' ≤ lo) : Sli t lo' hi v n xs w := by
 rcases h with h | ⟨g, cap, e, h1, h2, h3⟩
 ·exact .inl h
 ·exact .inr ⟨g, cap, e, by omega, h2, h3⟩
theorem Sli.blw {t : TypeId} {lo hi n : Nat} {v : Value} {xs : List Value} {w w' : World} (h : Sli t lo hi v n xs w) (hb : Below w.heap.size w w') : Sli t lo hi v n xs w' := by
 rcases h with h | ⟨g, cap, e, h1, h2, h3⟩
 ·exact .inl h
 ·exact .inr ⟨g, cap, e, h1, h2, h3.below hb⟩
theorem Sli.lt {t : TypeId} {lo hi n : Nat} {v : Value} {xs : List Value} {w : World} (h : Sli t lo hi v n xs w) : ∀ g, v.ownBlock = some g → lo ≤ g ∧ g < hi ∧ ∃ cs, w.heap[g]? = some (.cells cs t (0, 0)) := by
 intro g hg
 rcases h with ⟨rfl, -⟩ | ⟨g', cap, rfl, h1, h2, cs, h3, -⟩
 ·cases hg
 ·simp only [Value.ownBlock, Option.some.injEq] at hg
  subst hg
  exact ⟨h1, h2, cs, h3⟩
theorem Sli.grown {t : TypeId} {lo hi n : Nat} {v : Value} {xs : List Value} {w y : World} {row : Option Nat} (h : Sli t lo hi v n xs w) (hg : w.grownBy y row) (hr : ∀ g, v.ownBlock = some g → row ≠ some g) : Sli t lo hi v n xs y := by
 rcases h with h | ⟨g, cap, rfl, h1, h2, cs, h3, h4⟩
 ·exact .inl h
 ·exact .inr ⟨g, cap, rfl, h1, h2, cs, (hg.block g (Array.getElem?_eq_some_iff.1 h3).1 (fun e => hr g rfl e.symm)).trans h3, h4⟩
theorem own_kind {w : World} {B : Nat} {e : TypeId} {size n : Nat} {v : Value} {xs : List Value} (h : w.ownsRow B e size v n xs) : ∀ g, v.ownBlock = some g → B ≤ g ∧ g < w.heap.size ∧ ∃ cs, w.heap[g]? = some (.cells cs e (0, 0)) := by
 intro g hg
 obtain ⟨h1, h2⟩ := h.lt g hg
 rcases h.2 with ⟨rfl, -⟩ | ⟨g', cap, cur, rfl, -, q, -⟩
 ·cases hg
 ·simp only [Value.ownBlock, Option.some.injEq] at hg
  subst hg
  exact ⟨h1, h2, _, q⟩
end Go.Proofs.YtcjgjkejhkhknacGreatDoor
namespace Go.Proofs.YtcjgjkejhkhknacGreatDoor
namespace Words
structure Kn where
 leaf : Bool
 kids : List Int
def knLeaf (l : List Kn) (n : Int) : Bool := match l[n.toNat]? with
 | some y => y.leaf
 | none => false
def kidB (l : List Kn) (i : Nat) (lf : Bool) (n : Int) : Bool := if lf then decide (0 ≤ n) else (decide (n = -1) || (decide (0 ≤ n) && decide (n < i) && knLeaf l n))
def knB (l : List Kn) (i : Nat) (x : Kn) : Bool := decide (x.kids.length = 4) && x.kids.all (kidB l i x.leaf)
def arK (l : List Kn) : Nat → Bool
 | 0 => true
 | k + 1 => arK l k && (match l[k]? with | some x => knB l k x | none => true)
def arB (l : List Kn) : Bool := arK l l.length
theorem arK_succ {l : List Kn} {k : Nat} {x : Kn} (h : l[k]? = some x) : arK l (k + 1) = (arK l k && knB l k x) := by rw [arK, h]
theorem arK_le {l : List Kn} {j k : Nat} (h : j ≤ k) (hk : arK l k = true) : arK l j = true := by
 induction k with
 | zero => have : j = 0 := by omega
           subst this; exact hk
 | succ k ih =>
  rw [arK, Bool.and_eq_true] at hk
  by_cases e : j = k + 1
  ·subst e; rw [arK, Bool.and_eq_true]; exact hk
  ·exact ih (by omega) hk.1
theorem arB_at {l : List Kn} (h : arB l = true) {i : Nat} {x : Kn} (hi : l[i]? = some x) : knB l i x = true := by
 have hl := (List.getElem?_eq_some_iff.1 hi).1
 have := arK_le (show i + 1 ≤ l.length by omega) h
 rw [arK_succ hi, Bool.and_eq_true] at this
 exact this.2
theorem arB_bad {l : List Kn} {i : Nat} {x : Kn} (hi : l[i]? = some x) (hx : knB l i x = false) : arB l = false := by
 cases h : arB l with
 | false => rfl
 | true => rw [arB_at h hi] at hx; cases hx
theorem knB_bad {l : List Kn} {i k : Nat} {x : Kn} {n : Int} (hk : x.kids[k]? = some n) (hn : kidB l i x.leaf n = false) : knB l i x = false := by
 cases h : knB l i x with
 | false => rfl
 | true =>
  rw [knB, Bool.and_eq_true, List.all_eq_true] at h
  rw [h.2 n (List.mem_of_getElem? hk)] at hn
  cases hn
theorem knB_len {l : List Kn} {i : Nat} {x : Kn} (h : knB l i x = true) : x.kids.length = 4 := by
 rw [knB, Bool.and_eq_true] at h
 simpa using h.1
theorem knB_kid {l : List Kn} {i k : Nat} {x : Kn} {n : Int} (h : knB l i x = true) (hk : x.kids[k]? = some n) : kidB l i x.leaf n = true := by
 rw [knB, Bool.and_eq_true, List.all_eq_true] at h
 exact h.2 n (List.mem_of_getElem? hk)
theorem knLeaf_some {l : List Kn} {n : Int} {y : Kn} (h : l[n.toNat]? = some y) : knLeaf l n = y.leaf := by rw [knLeaf, h]
theorem knLeaf_lt {l : List Kn} {n : Int} (h : knLeaf l n = true) : ∃ y, l[n.toNat]? = some y ∧ y.leaf = true := by
 rw [knLeaf] at h
 split at h
 ·rename_i y hy; exact ⟨y, hy, h⟩
 ·cases h
def rootB (l : List Kn) (r : Int) : Bool := decide (r = -1) || (decide (0 ≤ r) && decide (r < l.length) && !knLeaf l r)
theorem rootB_pos {l : List Kn} {r : Int} (h : rootB l r = true) (h0 : 0 ≤ r) : ∃ x, l[r.toNat]? = some x ∧ x.leaf = false := by
 unfold rootB at h
 simp only [Bool.or_eq_true, Bool.and_eq_true, decide_eq_true_eq, Bool.not_eq_true'] at h
 rcases h with h | ⟨⟨h1, h2⟩, h3⟩
 ·omega
 ·refine ⟨_, List.getElem?_eq_getElem (show r.toNat < l.length by omega), ?_⟩
  rw [knLeaf_some (List.getElem?_eq_getElem (show r.toNat < l.length by omega))] at h3
  exact h3
def kidAt (l : List Kn) (r : Int) (k : Nat) : Int := ((l[r.toNat]?).bind (fun x => x.kids[k]?)).getD 0
theorem kidAt_some {l : List Kn} {r : Int} {k : Nat} {x : Kn} {n : Int} (h : l[r.toNat]? = some x) (hk : x.kids[k]? = some n) : kidAt l r k = n := by
 rw [kidAt, h, Option.bind_some, hk, Option.getD_some]
def getP (l : List Kn) (r : Int) (s : Nat) : Int := if r < 0 then 0 else if kidAt l r (s / 4) < 0 then 0 else kidAt l (kidAt l r (s / 4)) (s % 4)
def askB (l : List Kn) (r s : Int) : Bool := arB l && rootB l r && (decide (0 ≤ s) && decide (s ≤ 15))
def getT (l : List Kn) (r s : Int) : Int := if askB l r s then getP l r s.toNat else 0
def allT (l : List Kn) (r : Int) : List Int := (List.range 16).map (fun s : Nat => getT l r s)
theorem inner_kid {l : List Kn} (h : arB l = true) {r : Int} {x : Kn} (hx : l[r.toNat]? = some x) (hl : x.leaf = false) {k : Nat} (hk : k < 4) : ∃ n, x.kids[k]? = some n ∧ (n = -1 ∨ 0 ≤ n ∧ n < r.toNat ∧ ∃ y, l[n.toNat]? = some y ∧ y.leaf = true ∧ y.kids.length = 4) := by
 have hb := arB_at h hx
 have h4 := knB_len hb
 refine ⟨_, List.getElem?_eq_getElem (by omega), ?_⟩
 have hn := knB_kid hb (List.getElem?_eq_getElem (show k < x.kids.length by omega))
 rw [kidB, hl] at hn
 simp only [Bool.false_eq_true, if_false, Bool.or_eq_true, Bool.and_eq_true, decide_eq_true_eq] at hn
 rcases hn with hn | ⟨⟨h1, h2⟩, h3⟩
 ·exact .inl hn
 ·obtain ⟨y, hy, hyl⟩ := knLeaf_lt h3
  exact .inr ⟨h1, h2, y, hy, hyl, knB_len (arB_at h hy)⟩
theorem leaf_kid {l : List Kn} (h : arB l = true) {i : Nat} {x : Kn} (hx : l[i]? = some x) (hl : x.leaf = true) {k : Nat} (hk : k < 4) : ∃ n, x.kids[k]? = some n ∧ 0 ≤ n := by
 have hb := arB_at h hx
 have h4 := knB_len hb
 refine ⟨_, List.getElem?_eq_getElem (by omega), ?_⟩
 have hn := knB_kid hb (List.getElem?_eq_getElem (show k < x.kids.length by omega))
 rw [kidB, hl] at hn
 simpa using hn
def putLf (l : List Kn) (r : Int) (s : Nat) (n : Int) : Kn := ⟨true, ((if r < 0 then [0, 0, 0, 0] else if kidAt l r (s / 4) < 0 then [0, 0, 0, 0] else ((l[(kidAt l r (s / 4)).toNat]?).map Kn.kids).getD [])).set (s % 4) n⟩
def putTop (l : List Kn) (r : Int) (s : Nat) : Kn := ⟨false, (if r < 0 then [-1, -1, -1, -1] else ((l[r.toNat]?).map Kn.kids).getD []).set (s / 4) (l.length : Int)⟩
end Words
end Go.Proofs.YtcjgjkejhkhknacGreatDoor
