/-
  Base; DecI; Math; Math2; PgMath; PgV; SIn; SPageOk
-/
import Derived.Test.YtfmnaidhfgmemaaGreatDoorRows
import Derived.WalkKit
import Derived.WalkSpells
import Derived.WalkLawsBesides
import Derived.WalkSmall
import Derived.OwnWalk
import Derived.OneCell
import Derived.Lib.Slices
import Derived.Lib.Strings
import Derived.Laws.IdiomStrings
import Derived.Laws.DeepStrings4
import Derived.Deep.RegionWith
import Derived.Deep.RegionHeld3
import Derived.Deep.QuietTactic
import Derived.Deep.AppendLies
import Derived.BigQuiet
import Derived.WalkMore
namespace Go.Proofs.YtfmnaidhfgmemaaGreatDoor
open Go.RowKit
theorem infoByte : (Tryz.prog.info? 5).map (fun i => (i.zero, i.size, i.bytes)) = some (some (.int .u8 0), 1, 1) := by kernel_rfl
theorem hide {p : Prop} (h : p) : Hid p := h
def bcells (l : List UInt8) : List Value := l.map fun b => Value.int .u8 b.toNat
theorem bcells_snoc (l : List UInt8) (c : UInt8) (x : Int) (h : (c.toNat : Int) = x) : bcells l ++ [Value.int .u8 x] = bcells (l ++ [c]) := by
  subst h; simp [bcells]
theorem bcells_at (l : List UInt8) (j : Nat) (hj : j < l.length) : (bcells l)[j]? = some (.int .u8 (l[j].toNat : Int)) := by
  simp [bcells, hj]
theorem one_cell (w : World) (x : Value) (t : TypeId) : ∀ (j : Nat) (u : Value), [x][j]? = some u → (w.alloc (.cells #[x] t)).cell? ((⟨w.heap.size, 0, none⟩ : Addr).add j) = some u := by
  intro j u hj
  match j, hj with
  | 0, hj => simp at hj; subst hj; simp [Addr.add]
theorem one_u8 (x : Int) : ∀ u ∈ [Value.int .u8 x], u.oneCell' = true := by
  intro u hu; simp at hu; subst hu; rfl
theorem own_grown {B : Nat} {w wr w2 : World} {v : Value} {n : Nat} {xs : List Value} {e : TypeId} {o : Obj} (hb : Below B w wr) (hB : B ≤ wr.heap.size)
    (hown : wr.ownsRow B e 1 v n xs) (hg : (wr.alloc o).grownBy w2 v.ownBlock) : Below B w w2 :=
  (hb.alloc hB _).grown hg (by simp; omega) (fun k hk => (hown.lt k hk).1)
theorem infoInt : (Tryz.prog.info? 3).map (fun i => (i.zero, i.size, i.bytes)) = some (some (.int .i64 0), 1, 8) := by kernel_rfl
def icells (l : List Int) : List Value := l.map fun n => Value.int .i64 n
theorem icells_snoc (l : List Int) (x : Int) : icells l ++ [Value.int .i64 x] = icells (l ++ [x]) := by simp [icells]
theorem icells_at (l : List Int) (j : Nat) (hj : j < l.length) : (icells l)[j]? = some (.int .i64 l[j]) := by simp [icells, hj]
theorem one_i64 (x : Int) : ∀ u ∈ [Value.int .i64 x], u.oneCell' = true := by
  intro u hu; simp at hu; subst hu; rfl
theorem addr_at (g j : Nat) : (⟨g, 0, none⟩ : Addr).add j = ⟨g, j, none⟩ := by
  simp only [Addr.add]
  split <;> simp_all
end Go.Proofs.YtfmnaidhfgmemaaGreatDoor

namespace Go.Proofs.YtfmnaidhfgmemaaGreatDoor
theorem dcY {p : Prop} {d : Decidable p} (h : p) : @decide p d = true := decide_eq_true h
theorem dcN {p : Prop} {d : Decidable p} (h : ¬ p) : @decide p d = false := decide_eq_false h
theorem dcE {p q : Prop} {d : Decidable p} {e : Decidable q} (h : p ↔ q) : @decide p d = @decide q e := decide_eq_decide.2 h
theorem dcT {p : Prop} {d : Decidable p} : (@decide p d = true) = p := decide_eq_true_eq
end Go.Proofs.YtfmnaidhfgmemaaGreatDoor

namespace Go.Proofs.YtfmnaidhfgmemaaGreatDoor.Words
def varF : Nat → Nat → List UInt8
  | 0, n => [UInt8.ofNat n]
  | f + 1, n => if n < 128 then [UInt8.ofNat n] else UInt8.ofNat (n % 128 + 128) :: varF f (n / 128)
def varL (n : Nat) : List UInt8 := varF n n
theorem varF_fuel : ∀ (f g n : Nat), n ≤ f → n ≤ g → varF f n = varF g n := by
  intro f
  induction f with
  | zero =>
    intro g n hf hg
    have : n = 0 := by omega
    subst this
    cases g <;> simp [varF]
  | succ f ih =>
    intro g n hf hg
    cases g with
    | zero =>
      have : n = 0 := by omega
      subst this
      simp [varF]
    | succ g =>
      simp only [varF]
      split
      · rfl
      · rw [ih g (n / 128) (by omega) (by omega)]
theorem varL_low (n : Nat) (h : n < 128) : varL n = [UInt8.ofNat n] := by
  unfold varL
  cases n with
  | zero => rfl
  | succ n => simp [varF, h]
theorem varL_high (n : Nat) (h : 128 ≤ n) : varL n = UInt8.ofNat (n % 128 + 128) :: varL (n / 128) := by
  unfold varL
  cases n with
  | zero => omega
  | succ n =>
    rw [varF, if_neg (by omega)]
    rw [varF_fuel n ((n + 1) / 128) ((n + 1) / 128) (by omega) (Nat.le_refl _)]
theorem varL_len (n : Nat) (h : n < 9223372036854775808) : 0 < (varL n).length ∧ (varL n).length ≤ 9 := by
  have low : ∀ n, n < 128 → (varL n).length = 1 := fun n h => by rw [varL_low n h]; rfl
  have step : ∀ (k : Nat) (b : Nat), (∀ n, n < b → 0 < (varL n).length ∧ (varL n).length ≤ k) → 128 ≤ 128 * b → ∀ n, n < 128 * b → 0 < (varL n).length ∧ (varL n).length ≤ k + 1 := by
    intro k b ih _ n hn
    by_cases h1 : n < 128
    · rw [low n h1]; omega
    · rw [varL_high n (by omega), List.length_cons]
      have := ih (n / 128) (by omega)
      omega
  have h1 : ∀ n, n < 128 → 0 < (varL n).length ∧ (varL n).length ≤ 1 := fun n h => by rw [low n h]; omega
  have h2 := step 1 128 h1 (by omega)
  have h3 := step 2 (128 * 128) h2 (by omega)
  have h4 := step 3 (128 * (128 * 128)) h3 (by omega)
  have h5 := step 4 (128 * (128 * (128 * 128))) h4 (by omega)
  have h6 := step 5 (128 * (128 * (128 * (128 * 128)))) h5 (by omega)
  have h7 := step 6 (128 * (128 * (128 * (128 * (128 * 128))))) h6 (by omega)
  have h8 := step 7 (128 * (128 * (128 * (128 * (128 * (128 * 128)))))) h7 (by omega)
  have h9 := step 8 (128 * (128 * (128 * (128 * (128 * (128 * (128 * 128))))))) h8 (by omega)
  exact h9 n (by omega)
end Go.Proofs.YtfmnaidhfgmemaaGreatDoor.Words

namespace Go.Proofs.YtfmnaidhfgmemaaGreatDoor.Words
end Go.Proofs.YtfmnaidhfgmemaaGreatDoor.Words

namespace Go.Proofs.YtfmnaidhfgmemaaGreatDoor.Words
structure Pg where
  kind : Int
  seq : Int
  tx : Int
  part : Int
  count : Int
  text : ByteArray
def Pg.Right (p : Pg) : Prop :=
  (p.kind = 1 ∧ p.count = 1 ∧ p.part = 0 ∨ p.kind = 2 ∧ 1 ≤ p.count ∧ p.count ≤ 9 ∧ 0 ≤ p.part ∧ p.part < p.count) ∧ 1 ≤ p.seq ∧ p.seq ≤ 1000000000 ∧ 1 ≤ p.tx ∧ p.tx ≤ 1000000000 ∧ (p.text.size : Int) ≤ 90
abbrev Pg.decR (p : Pg) : Decidable p.Right := by unfold Pg.Right; exact inferInstance
def varA (n : Nat) : ByteArray := ⟨(varL n).toArray⟩
def byteA (n : Nat) : ByteArray := ⟨#[UInt8.ofNat n]⟩
def pageA (p : Pg) : ByteArray := ((((byteA p.kind.toNat ++ varA p.seq.toNat) ++ varA p.tx.toNat) ++ varA p.part.toNat) ++ varA p.count.toNat) ++ p.text
theorem pageA_list (p : Pg) : (pageA p).data.toList = UInt8.ofNat p.kind.toNat :: (varL p.seq.toNat ++ (varL p.tx.toNat ++ (varL p.part.toNat ++ (varL p.count.toNat ++ p.text.data.toList)))) := by
  simp [pageA, byteA, varA, ByteArray.data_append]
theorem pageA_size (p : Pg) (h : p.Right) : (pageA p).size ≤ 127 := by
  obtain ⟨h1, h2, h3, h4, h5, h6⟩ := h
  have a := (varL_len p.seq.toNat (by omega)).2
  have b := (varL_len p.tx.toNat (by omega)).2
  have c := (varL_len p.part.toNat (by omega)).2
  have d := (varL_len p.count.toNat (by omega)).2
  have e : (pageA p).size = (pageA p).data.toList.length := rfl
  have f : p.text.size = p.text.data.toList.length := rfl
  rw [e, pageA_list]
  simp only [List.length_cons, List.length_append]
  omega
theorem ba_ext {a b : ByteArray} (h : a.data.toList = b.data.toList) : a = b := ByteArray.ext (Array.toList_inj.1 h)
end Go.Proofs.YtfmnaidhfgmemaaGreatDoor.Words

namespace Go.Proofs.YtfmnaidhfgmemaaGreatDoor
open Go.RowKit
open Words
def pgVal (p : Pg) : Value := .agg #[.int .i64 p.kind, .int .i64 p.seq, .int .i64 p.tx, .int .i64 p.part, .int .i64 p.count, .string p.text]
end Go.Proofs.YtfmnaidhfgmemaaGreatDoor

namespace Go.Proofs.YtfmnaidhfgmemaaGreatDoor
open Go.RowKit
set_option maxHeartbeats 400000 in
set_option maxRecDepth 100000 in
theorem sin_b (x lo hi : Int) (b : Bool) (w : World) (h : (lo ≤ x ∧ x ≤ hi ∧ b = true) ∨ ((x < lo ∨ lo ≤ x ∧ ¬ x ≤ hi) ∧ b = false)) :
    Calls Tryz.prog 69 #[.int .i64 x, .int .i64 lo, .int .i64 hi] w fun e w' => e = .returned (.bool b) ∧ w' = w := by
  rcases h with ⟨h1, h2, rfl⟩ | ⟨h1 | ⟨h1, h2⟩, rfl⟩
  all_goals
    go_enter Tryz.func69, Tryz.ntmps69
    go_wp2
    go_ret
    exact ⟨rfl, rfl⟩
theorem sin_any (x lo hi : Int) (w : World) :
    Calls Tryz.prog 69 #[.int .i64 x, .int .i64 lo, .int .i64 hi] w fun e w' => e = .returned (.bool (decide (lo ≤ x ∧ x ≤ hi))) ∧ w' = w := by
  apply sin_b
  by_cases h : lo ≤ x ∧ x ≤ hi
  · exact .inl ⟨h.1, h.2, decide_eq_true h⟩
  · exact .inr ⟨by omega, decide_eq_false h⟩
end Go.Proofs.YtfmnaidhfgmemaaGreatDoor

namespace Go.Proofs.YtfmnaidhfgmemaaGreatDoor
open Go.RowKit
open Words
theorem right_spec (k s x q c : Int) (t : ByteArray) : (Pg.mk k s x q c t).Right ↔ (1 ≤ k ∧ k ≤ 2) ∧ (1 ≤ s ∧ s ≤ 1000000000) ∧ (1 ≤ x ∧ x ≤ 1000000000) ∧ (1 ≤ c ∧ c ≤ 9) ∧ (0 ≤ q ∧ q ≤ c - 1) ∧ (t.size : Int) ≤ 90 ∧ (k = 2 ∨ c = 1) := by
  unfold Pg.Right
  simp only
  omega
theorem cell_new6 (w w1 : World) (a b c d e f : Value) (ty : TypeId) (hb : Below (w.alloc (.cells #[a, b, c, d, e, f] ty)).heap.size (w.alloc (.cells #[a, b, c, d, e, f] ty)) w1) :
    w1.cell? ⟨w.heap.size, 0, none⟩ = some a ∧ w1.cell? ⟨w.heap.size, 1, none⟩ = some b ∧ w1.cell? ⟨w.heap.size, 2, none⟩ = some c ∧ w1.cell? ⟨w.heap.size, 3, none⟩ = some d ∧ w1.cell? ⟨w.heap.size, 4, none⟩ = some e ∧ w1.cell? ⟨w.heap.size, 5, none⟩ = some f := by
  refine ⟨?_, ?_, ?_, ?_, ?_, ?_⟩ <;> (rw [hb.cell (by simp)]; simp)
set_option maxHeartbeats 1000000 in
set_option maxRecDepth 100000 in
theorem spageOk (p : Pg) (w : World) :
    Calls Tryz.prog 90 #[pgVal p] w fun e w' => e = .returned (.bool (@decide p.Right p.decR)) ∧ Below w.heap.size w w' := by
  obtain ⟨k, s, x, q, c, t⟩ := p
  have HE := hide (right_spec k s x q c t)
  have HB := hide ((Below.refl w.heap.size w).alloc (Nat.le_refl _) (.cells #[.int .i64 k, .int .i64 s, .int .i64 x, .int .i64 q, .int .i64 c, .string t] 92))
  unfold pgVal
  simp only
  by_cases a1 : 1 ≤ k ∧ k ≤ 2
  · by_cases a2 : 1 ≤ s ∧ s ≤ 1000000000
    · by_cases a3 : 1 ≤ x ∧ x ≤ 1000000000
      · by_cases a4 : 1 ≤ c ∧ c ≤ 9
        · have ew : IntKind.i64.wrap (c - 1) = c - 1 := by rw [IntKind.wrap_i64]; omega
          by_cases a5 : 0 ≤ q ∧ q ≤ c - 1
          · by_cases a6 : 90 < (t.size : Int)
            · go_enter Tryz.func90, Tryz.ntmps90
              go_wp2_with fail
              refine (sin_b k 1 2 true _ (.inl ⟨a1.1, a1.2, rfl⟩)).mono ?_
              rintro e w1 ⟨rfl, rfl⟩
              go_wp2_with fail
              refine (sin_b s 1 1000000000 true _ (.inl ⟨a2.1, a2.2, rfl⟩)).mono ?_
              rintro e w1 ⟨rfl, rfl⟩
              go_wp2_with fail
              refine (sin_b x 1 1000000000 true _ (.inl ⟨a3.1, a3.2, rfl⟩)).mono ?_
              rintro e w1 ⟨rfl, rfl⟩
              go_wp2_with fail
              refine (sin_b c 1 9 true _ (.inl ⟨a4.1, a4.2, rfl⟩)).mono ?_
              rintro e w1 ⟨rfl, rfl⟩
              go_wp2_with fail
              refine (sin_b q 0 (c - 1) true _ (.inl ⟨a5.1, a5.2, rfl⟩)).mono ?_
              rintro e w1 ⟨rfl, rfl⟩
              go_wp2
              go_ret
              exact ⟨by rw [dcN (fun h => by have := HE.out.1 h; omega)]; rfl, HB.out⟩
            · by_cases a7 : (k == 2) = true
              · go_enter Tryz.func90, Tryz.ntmps90
                go_wp2_with fail
                refine (sin_b k 1 2 true _ (.inl ⟨a1.1, a1.2, rfl⟩)).mono ?_
                rintro e w1 ⟨rfl, rfl⟩
                go_wp2_with fail
                refine (sin_b s 1 1000000000 true _ (.inl ⟨a2.1, a2.2, rfl⟩)).mono ?_
                rintro e w1 ⟨rfl, rfl⟩
                go_wp2_with fail
                refine (sin_b x 1 1000000000 true _ (.inl ⟨a3.1, a3.2, rfl⟩)).mono ?_
                rintro e w1 ⟨rfl, rfl⟩
                go_wp2_with fail
                refine (sin_b c 1 9 true _ (.inl ⟨a4.1, a4.2, rfl⟩)).mono ?_
                rintro e w1 ⟨rfl, rfl⟩
                go_wp2_with fail
                refine (sin_b q 0 (c - 1) true _ (.inl ⟨a5.1, a5.2, rfl⟩)).mono ?_
                rintro e w1 ⟨rfl, rfl⟩
                go_wp2
                go_ret
                exact ⟨by simp at a7; rw [dcY (HE.out.2 (by omega))]; rfl, HB.out⟩
              · have a7 : (k == 2) = false := by simpa using a7
                go_enter Tryz.func90, Tryz.ntmps90
                go_wp2_with fail
                refine (sin_b k 1 2 true _ (.inl ⟨a1.1, a1.2, rfl⟩)).mono ?_
                rintro e w1 ⟨rfl, rfl⟩
                go_wp2_with fail
                refine (sin_b s 1 1000000000 true _ (.inl ⟨a2.1, a2.2, rfl⟩)).mono ?_
                rintro e w1 ⟨rfl, rfl⟩
                go_wp2_with fail
                refine (sin_b x 1 1000000000 true _ (.inl ⟨a3.1, a3.2, rfl⟩)).mono ?_
                rintro e w1 ⟨rfl, rfl⟩
                go_wp2_with fail
                refine (sin_b c 1 9 true _ (.inl ⟨a4.1, a4.2, rfl⟩)).mono ?_
                rintro e w1 ⟨rfl, rfl⟩
                go_wp2_with fail
                refine (sin_b q 0 (c - 1) true _ (.inl ⟨a5.1, a5.2, rfl⟩)).mono ?_
                rintro e w1 ⟨rfl, rfl⟩
                go_wp2
                go_ret
                refine ⟨?_, HB.out⟩
                simp at a7
                have e : @decide (Pg.mk k s x q c t).Right (Pg.mk k s x q c t).decR = (c == 1) := by
                  by_cases b : c = 1
                  · rw [dcY (HE.out.2 (by omega))]; simp [b]
                  · rw [dcN (fun h => by have := HE.out.1 h; omega)]; simp [b]
                rw [e]
                rfl
          · go_enter Tryz.func90, Tryz.ntmps90
            go_wp2_with fail
            refine (sin_b k 1 2 true _ (.inl ⟨a1.1, a1.2, rfl⟩)).mono ?_
            rintro e w1 ⟨rfl, rfl⟩
            go_wp2_with fail
            refine (sin_b s 1 1000000000 true _ (.inl ⟨a2.1, a2.2, rfl⟩)).mono ?_
            rintro e w1 ⟨rfl, rfl⟩
            go_wp2_with fail
            refine (sin_b x 1 1000000000 true _ (.inl ⟨a3.1, a3.2, rfl⟩)).mono ?_
            rintro e w1 ⟨rfl, rfl⟩
            go_wp2_with fail
            refine (sin_b c 1 9 true _ (.inl ⟨a4.1, a4.2, rfl⟩)).mono ?_
            rintro e w1 ⟨rfl, rfl⟩
            go_wp2_with fail
            refine (sin_b q 0 (c - 1) false _ (.inr ⟨by omega, rfl⟩)).mono ?_
            rintro e w1 ⟨rfl, rfl⟩
            go_wp2
            go_ret
            exact ⟨by rw [dcN (fun h => by have := HE.out.1 h; omega)]; rfl, HB.out⟩
        · go_enter Tryz.func90, Tryz.ntmps90
          go_wp2_with fail
          refine (sin_b k 1 2 true _ (.inl ⟨a1.1, a1.2, rfl⟩)).mono ?_
          rintro e w1 ⟨rfl, rfl⟩
          go_wp2_with fail
          refine (sin_b s 1 1000000000 true _ (.inl ⟨a2.1, a2.2, rfl⟩)).mono ?_
          rintro e w1 ⟨rfl, rfl⟩
          go_wp2_with fail
          refine (sin_b x 1 1000000000 true _ (.inl ⟨a3.1, a3.2, rfl⟩)).mono ?_
          rintro e w1 ⟨rfl, rfl⟩
          go_wp2_with fail
          refine (sin_b c 1 9 false _ (.inr ⟨by omega, rfl⟩)).mono ?_
          rintro e w1 ⟨rfl, rfl⟩
          go_wp2
          go_ret
          exact ⟨by rw [dcN (fun h => by have := HE.out.1 h; omega)]; rfl, HB.out⟩
      · go_enter Tryz.func90, Tryz.ntmps90
        go_wp2_with fail
        refine (sin_b k 1 2 true _ (.inl ⟨a1.1, a1.2, rfl⟩)).mono ?_
        rintro e w1 ⟨rfl, rfl⟩
        go_wp2_with fail
        refine (sin_b s 1 1000000000 true _ (.inl ⟨a2.1, a2.2, rfl⟩)).mono ?_
        rintro e w1 ⟨rfl, rfl⟩
        go_wp2_with fail
        refine (sin_b x 1 1000000000 false _ (.inr ⟨by omega, rfl⟩)).mono ?_
        rintro e w1 ⟨rfl, rfl⟩
        go_wp2
        go_ret
        exact ⟨by rw [dcN (fun h => by have := HE.out.1 h; omega)]; rfl, HB.out⟩
    · go_enter Tryz.func90, Tryz.ntmps90
      go_wp2_with fail
      refine (sin_b k 1 2 true _ (.inl ⟨a1.1, a1.2, rfl⟩)).mono ?_
      rintro e w1 ⟨rfl, rfl⟩
      go_wp2_with fail
      refine (sin_b s 1 1000000000 false _ (.inr ⟨by omega, rfl⟩)).mono ?_
      rintro e w1 ⟨rfl, rfl⟩
      go_wp2
      go_ret
      exact ⟨by rw [dcN (fun h => by have := HE.out.1 h; omega)]; rfl, HB.out⟩
  · go_enter Tryz.func90, Tryz.ntmps90
    go_wp2_with fail
    refine (sin_b k 1 2 false _ (.inr ⟨by omega, rfl⟩)).mono ?_
    rintro e w1 ⟨rfl, rfl⟩
    go_wp2
    go_ret
    exact ⟨by rw [dcN (fun h => by have := HE.out.1 h; omega)]; rfl, HB.out⟩
end Go.Proofs.YtfmnaidhfgmemaaGreatDoor
