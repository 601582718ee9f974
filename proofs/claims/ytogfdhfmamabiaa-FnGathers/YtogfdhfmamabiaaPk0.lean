/-
  Base; Draw
-/
import Derived.Test.YtogfdhfmamabiaaRows
import Derived.WalkKit
import Derived.WalkSpells
import Derived.WalkLawsBesides
import Derived.WalkSmall
import Derived.OwnWalk
import Derived.OneCell
import Derived.Lib.Slices
import Derived.Lib.Strings
import Derived.Laws.IdiomStrings
import Derived.Laws.DeepStrings4
import Derived.Deep.RegionWith
import Derived.Deep.RegionHeld3
import Derived.Deep.QuietTactic
import Derived.Deep.AppendLies
import Derived.BigQuiet
import Derived.WalkMore
import Derived.Laws.Bits128
/-
  Small facts that every walk of this seat uses: bytes and numbers in rows that the call owns, cells, what is hidden from a walk.
-/
namespace Go.Proofs.Ytogfdhfmamabiaa
open Go.RowKit

theorem infoByte : (Try.prog.info? 5).map (fun i => (i.zero, i.size, i.bytes)) = some (some (.int .u8 0), 1, 1) := by kernel_rfl

theorem hide {p : Prop} (h : p) : Hid p := h
theorem unhide {p : Prop} (h : Hid p) : p := h

/-- The cells of bytes. -/
def bcells (l : List UInt8) : List Value := l.map fun b => Value.int .u8 b.toNat
theorem bcells_len (l : List UInt8) : (bcells l).length = l.length := by simp [bcells]
theorem bcells_snoc (l : List UInt8) (c : UInt8) (x : Int) (h : (c.toNat : Int) = x) : bcells l ++ [Value.int .u8 x] = bcells (l ++ [c]) := by
  subst h; simp [bcells]
theorem bcells_at (l : List UInt8) (j : Nat) (hj : j < l.length) : (bcells l)[j]? = some (.int .u8 (l[j].toNat : Int)) := by
  simp [bcells, hj]
theorem one_cell (w : World) (x : Value) (t : TypeId) : ∀ (j : Nat) (u : Value), [x][j]? = some u → (w.alloc (.cells #[x] t)).cell? ((⟨w.heap.size, 0, none⟩ : Addr).add j) = some u := by
  intro j u hj
  match j, hj with
  | 0, hj => simp at hj; subst hj; simp [Addr.add]
theorem one_u8 (x : Int) : ∀ u ∈ [Value.int .u8 x], u.oneCell' = true := by
  intro u hu; simp at hu; subst hu; rfl
theorem own_grown {B : Nat} {w wr w2 : World} {v : Value} {n : Nat} {xs : List Value} {e : TypeId} {o : Obj} (hb : Below B w wr) (hB : B ≤ wr.heap.size)
    (hown : wr.ownsRow B e 1 v n xs) (hg : (wr.alloc o).grownBy w2 v.ownBlock) : Below B w w2 :=
  (hb.alloc hB _).grown hg (by simp; omega) (fun k hk => (hown.lt k hk).1)
theorem own_grown2 {B : Nat} {w wr w2 : World} {v : Value} {n : Nat} {xs : List Value} {e : TypeId} {o : Obj} (hb : Below B w wr) (hB : B ≤ wr.heap.size)
    (hown : wr.ownsRow B e 1 v n xs) (hg : (wr.alloc o).drew.grownBy w2 v.ownBlock) : Below B w w2 :=
  own_grown (o := o) hb hB hown ⟨hg.os, hg.tape, hg.output, hg.size, hg.block⟩

theorem conv_own {B : Nat} (wr : World) (v : Value) (l : List UInt8) (h : wr.ownsRow B 5 1 v l.length (bcells l)) : (convert 22 9 v).run Try.prog wr = .ok (.string ⟨l.toArray⟩) wr := by
  have hown := h
  rcases h.2 with ⟨rfl, h0⟩ | ⟨g, cap, cur, rfl, -, -, -, -, -, -⟩
  · have : l = [] := List.length_eq_zero_iff.1 h0
    subst this
    rw [run_convert_bytes_string wr 22 9 5 none 0 0 Try.underlying22 Try.underlying5 Try.underlying9]
    rfl
  · exact run_convert_bytes_back (P := Try.prog) wr 22 9 5 ⟨g, 0, none⟩ cap l Try.underlying22 Try.underlying5 Try.underlying9 (fun j hj => hown.cells (g := g) rfl j _ (bcells_at l j hj))

theorem infoInt : (Try.prog.info? 3).map (fun i => (i.zero, i.size, i.bytes)) = some (some (.int .i64 0), 1, 8) := by kernel_rfl
def icells (l : List Int) : List Value := l.map fun n => Value.int .i64 n
theorem icells_snoc (l : List Int) (x : Int) : icells l ++ [Value.int .i64 x] = icells (l ++ [x]) := by simp [icells]
theorem icells_at (l : List Int) (j : Nat) (hj : j < l.length) : (icells l)[j]? = some (.int .i64 l[j]) := by simp [icells, hj]
theorem one_i64 (x : Int) : ∀ u ∈ [Value.int .i64 x], u.oneCell' = true := by
  intro u hu; simp at hu; subst hu; rfl

theorem addr_at (g j : Nat) : (⟨g, 0, none⟩ : Addr).add j = ⟨g, j, none⟩ := by
  simp only [Addr.add]
  split <;> simp_all

theorem zeros_set (A : List Value) (z u : Value) (n k : Nat) (hA : A.length = k) (hk : k < n) :
    (A ++ List.replicate (n - k) z).set k u = (A ++ [u]) ++ List.replicate (n - (k + 1)) z := by
  obtain ⟨d, hd⟩ : ∃ d, n - k = d + 1 := ⟨n - k - 1, by omega⟩
  have hd2 : n - (k + 1) = d := by omega
  rw [hd, hd2, List.set_append_right _ _ (by omega), hA, Nat.sub_self, List.replicate_succ]
  simp

end Go.Proofs.Ytogfdhfmamabiaa

/-
  The cursor that the drawn laws draw by: what each draw gives, and what it touches.
-/
namespace Go.Proofs.Ytogfdhfmamabiaa
open Go.RowKit

theorem i64_and255 (n : Int) : bits .and .i64 n 255 = n % 256 := by
  have h255 : (BitVec.ofInt 64 255).toNat = 2 ^ 8 - 1 := by decide
  have key : (BitVec.ofInt 64 n &&& BitVec.ofInt 64 255).toNat = (n % ((2 ^ 64 : Nat) : Int)).toNat % 2 ^ 8 := by
    rw [BitVec.toNat_and, BitVec.toNat_ofInt, h255, Nat.and_two_pow_sub_one_eq_mod]
  show IntKind.i64.wrap ((BitVec.ofInt 64 n &&& BitVec.ofInt 64 255).toNat : Nat) = n % 256
  rw [key, IntKind.wrap_i64]
  omega

/-- The bytes that came in, all below block B. -/
def CodeIn (w : World) (ad : Option Addr) (len B : Nat) : Prop :=
  ∀ j, j < len → ∃ b off, ad = some ⟨b, off, none⟩ ∧ b < B ∧ ∃ c : Nat, c < 256 ∧ w.cell? ⟨b, off + j, none⟩ = some (.int .u8 c)
theorem CodeIn.on {w w' : World} {ad : Option Addr} {len B C : Nat} (h : CodeIn w ad len B) (hb : Below C w w') (hB : B ≤ C) : CodeIn w' ad len B := by
  intro j hj
  obtain ⟨b, off, h1, h2, c, h3, h4⟩ := h j hj
  exact ⟨b, off, h1, h2, c, h3, by rw [hb.cell (show b < C by omega)]; exact h4⟩

/-- The cursor in block p: over these bytes, at some place, with some number. -/
def CurIn (w : World) (p : Nat) (ad : Option Addr) (len cap : Nat) : Prop :=
  w.cell? ⟨p, 0, none⟩ = some (.slice ad len cap) ∧ (∃ i : Nat, i ≤ len ∧ w.cell? ⟨p, 1, none⟩ = some (.int .i64 i)) ∧ (∃ h : Int, w.cell? ⟨p, 2, none⟩ = some (.int .i64 h)) ∧
  w.frozen? ⟨p, 1, none⟩ = false ∧ w.frozen? ⟨p, 2, none⟩ = false ∧ p < w.heap.size
theorem CurIn.below {w w' : World} {p : Nat} {ad : Option Addr} {len cap C : Nat} (h : CurIn w p ad len cap) (hb : Below C w w') (hp : p < C) : CurIn w' p ad len cap := by
  obtain ⟨h1, ⟨i, hi, h2⟩, ⟨x, h3⟩, h4, h5, h6⟩ := h
  exact ⟨by rw [hb.cell (show p < C by omega)]; exact h1, ⟨i, hi, by rw [hb.cell (show p < C by omega)]; exact h2⟩, ⟨x, by rw [hb.cell (show p < C by omega)]; exact h3⟩,
    by rw [hb.frozen (show p < C by omega)]; exact h4, by rw [hb.frozen (show p < C by omega)]; exact h5, Nat.lt_of_lt_of_le h6 hb.size⟩

theorem grown_trans {w1 w2 w3 : World} {r : Option Nat} (h : w1.grownBy w2 r) (k : w2.grownBy w3 r) : w1.grownBy w3 r :=
  ⟨k.os.trans h.os, k.tape.trans h.tape, k.output.trans h.output, Nat.le_trans h.size k.size, fun j hj hr => (k.block j (Nat.lt_of_lt_of_le hj h.size) hr).trans (h.block j hj hr)⟩
theorem grown_refl (w : World) (r : Option Nat) : w.grownBy w r := ⟨rfl, rfl, rfl, Nat.le_refl _, fun _ _ _ => rfl⟩
theorem grown_set (w : World) (p : Nat) (o : Nat) (v : Value) : w.grownBy (w.setCell ⟨p, o, none⟩ v) (some p) :=
  ⟨rfl, rfl, rfl, by simp, fun k _ hk => heap_setCell_other w ⟨p, o, none⟩ k v (fun e => hk (by simp [e]))⟩
theorem grown_drewN (w : World) (n : Nat) (r : Option Nat) : w.grownBy (w.drewN n) r := ⟨rfl, rfl, rfl, Nat.le_refl _, fun _ _ _ => rfl⟩
theorem grown_below {B p : Nat} {w w' : World} (h : w.grownBy w' (some p)) (hp : B ≤ p) (hB : B ≤ w.heap.size) : Below B w w' :=
  (Below.refl _ _).grown h hB (fun k hk => by cases hk; exact hp)

set_option maxHeartbeats 1000000 in
set_option maxRecDepth 100000 in
theorem byte_any (p : Nat) (ad : Option Addr) (len cap B : Nat) (w : World) (hl : len ≤ 1048576) (hc : CurIn w p ad len cap) (hd : CodeIn w ad len B) (hB : B ≤ p) :
    Calls Try.prog 52 #[.pointer (some ⟨p, 0, none⟩)] w fun e w' => ∃ x : Int, e = .returned (.int .i64 x) ∧ 0 ≤ x ∧ x < 256 ∧ w.grownBy w' (some p) ∧ CurIn w' p ad len cap := by
  obtain ⟨h1, ⟨i, hi, h2⟩, ⟨x, h3⟩, h4, h5, h6⟩ := hc
  have HD := hide hd
  clear hd
  go_enter Try.func52, Try.ntmps52
  go_wp2
  have hand := i64_and255
  have cc0 : (w.setCell ⟨p, 2, none⟩ (.int .i64 (wrap64 (wrap64 (x * 6364136223846793005) + 1442695040888963407)))).cell? ⟨p, 0, none⟩ = some (.slice ad len cap) := by
    rw [World.cell?_setCell_other _ _ _ _ (by simp)]; exact h1
  have cc1 : (w.setCell ⟨p, 2, none⟩ (.int .i64 (wrap64 (wrap64 (x * 6364136223846793005) + 1442695040888963407)))).cell? ⟨p, 1, none⟩ = some (.int .i64 i) := by
    rw [World.cell?_setCell_other _ _ _ _ (by simp)]; exact h2
  have cc2 := World.cell?_setCell_same w ⟨p, 2, none⟩ (.int .i64 (wrap64 (wrap64 (x * 6364136223846793005) + 1442695040888963407))) h3
  have ff1 : (w.setCell ⟨p, 2, none⟩ (.int .i64 (wrap64 (wrap64 (x * 6364136223846793005) + 1442695040888963407)))).frozen? ⟨p, 1, none⟩ = false := by simpa using h4
  have ff2 : (w.setCell ⟨p, 2, none⟩ (.int .i64 (wrap64 (wrap64 (x * 6364136223846793005) + 1442695040888963407)))).frozen? ⟨p, 2, none⟩ = false := by simpa using h5
  have hg := grown_set w p 2 (.int .i64 (wrap64 (wrap64 (x * 6364136223846793005) + 1442695040888963407)))
  generalize w.setCell ⟨p, 2, none⟩ (.int .i64 (wrap64 (wrap64 (x * 6364136223846793005) + 1442695040888963407))) = W at *
  generalize wrap64 (wrap64 (x * 6364136223846793005) + 1442695040888963407) = y at *
  go_region_held3 (fun w' => w'.cell? ⟨p, 2, none⟩ = some (.int .i64 y)) (go_keep) (fail)
  obtain ⟨z, hz⟩ : ∃ z, bits BinOp.xor IntKind.i64 (y / 8589934592) (y / 35184372088832) % 256 = z := ⟨_, rfl⟩
  have z0 : 0 ≤ z := by omega
  have z1 : z < 256 := by omega
  rw [hz]
  have hgs := hg.size
  have hpW : p < W.heap.size := by omega
  by_cases hlt : (i : Int) < len
  · obtain ⟨b, off, rfl, hbB, c, hc8, hcell⟩ := HD.out i (by omega)
    have hcW : W.cell? ⟨b, off + i, none⟩ = some (.int .u8 c) := by
      rw [World.cell?_of_block (w := w) (hg.block b (by omega) (by simp; omega))]; exact hcell
    have i0 : (0 : Int) ≤ i := by omega
    have r1 : IntKind.i64.wrap (c : Int) = c := by rw [IntKind.wrap_i64]; omega
    have r2 : IntKind.i64.wrap (z + c) = z + c := by rw [IntKind.wrap_i64]; omega
    clear hz hcell h1 h2 h3 h4 h5
    go_wp2
    go_region_held3 (fun w' => w'.cell? ⟨p, 0, none⟩ = some (.slice (some ⟨b, off, none⟩) len cap) ∧ w'.cell? ⟨p, 1, none⟩ = some (.int .i64 i)) (go_keep) (fail)
    go_wp2
    go_region_held3 (fun w' => w'.cell? ⟨p, 0, none⟩ = some (.slice (some ⟨b, off, none⟩) len cap) ∧ w'.cell? ⟨p, 1, none⟩ = some (.int .i64 i) ∧ w'.cell? ⟨b, off + i, none⟩ = some (.int .u8 c)) (go_keep) (fail)
    go_wp2
    go_ret
    have k := grown_set W p 1 (.int .i64 ((i : Int) + 1))
    have s0 : (W.setCell ⟨p, 1, none⟩ (.int .i64 ((i : Int) + 1))).cell? ⟨p, 0, none⟩ = some (.slice (some ⟨b, off, none⟩) len cap) := by
      rw [World.cell?_setCell_other _ _ _ _ (by simp)]; exact cc0
    have s1 := World.cell?_setCell_same W ⟨p, 1, none⟩ (.int .i64 ((i : Int) + 1)) cc1
    have s2 : (W.setCell ⟨p, 1, none⟩ (.int .i64 ((i : Int) + 1))).cell? ⟨p, 2, none⟩ = some (.int .i64 y) := by
      rw [World.cell?_setCell_other _ _ _ _ (by simp)]; exact cc2
    have f1 : (W.setCell ⟨p, 1, none⟩ (.int .i64 ((i : Int) + 1))).frozen? ⟨p, 1, none⟩ = false := by simpa using ff1
    have f2 : (W.setCell ⟨p, 1, none⟩ (.int .i64 ((i : Int) + 1))).frozen? ⟨p, 2, none⟩ = false := by simpa using ff2
    have ks := k.size
    exact ⟨(z + c) % 256, rfl, by omega, by omega, grown_trans hg ⟨k.os, k.tape, k.output, k.size, k.block⟩, s0, ⟨i + 1, by omega, s1⟩, ⟨y, s2⟩, f1, f2, Nat.lt_of_lt_of_le hpW ks⟩
  · clear hz h1 h2 h3 h4 h5
    go_wp2
    go_region_held3 (fun w' => w'.cell? ⟨p, 0, none⟩ = some (.slice ad len cap) ∧ w'.cell? ⟨p, 1, none⟩ = some (.int .i64 i)) (go_keep) (fail)
    go_wp2
    go_ret
    exact ⟨z, rfl, z0, z1, grown_trans hg (grown_drewN W 2 _), cc0, ⟨i, hi, cc1⟩, ⟨y, cc2⟩, ff1, ff2, hpW⟩

/-- What a draw leaves: the cursor is there, and only its block and new ones have turned. -/
def Drawn (w w' : World) (p : Nat) (ad : Option Addr) (len cap : Nat) : Prop := w.grownBy w' (some p) ∧ CurIn w' p ad len cap
theorem Drawn.code {w w' : World} {p B : Nat} {ad : Option Addr} {len cap : Nat} (h : Drawn w w' p ad len cap) (hd : CodeIn w ad len B) (hB : B ≤ p) (hp : p < w.heap.size) : CodeIn w' ad len B :=
  hd.on (grown_below h.1 hB (by omega)) (Nat.le_refl _)
theorem Drawn.trans {w1 w2 w3 : World} {p : Nat} {ad : Option Addr} {len cap : Nat} (h : Drawn w1 w2 p ad len cap) (k : Drawn w2 w3 p ad len cap) : Drawn w1 w3 p ad len cap := ⟨grown_trans h.1 k.1, k.2⟩
theorem Drawn.refl {w : World} {p : Nat} {ad : Option Addr} {len cap : Nat} (h : CurIn w p ad len cap) : Drawn w w p ad len cap := ⟨grown_refl _ _, h⟩

end Go.Proofs.Ytogfdhfmamabiaa
