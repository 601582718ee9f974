/-
  LawEvF; OpAk; OpEv; Vars
-/
import Derived.Test.YtiicghepilbgfaaGreatDoorPk48
import Derived.Test.YtiicghepilbgfaaGreatDoorIRtK
import Derived.Test.YtiicghepilbgfaaGreatDoorPk0
import Derived.ProofKit
import Derived.OpenShut
import Derived.ShutString
import Derived.Deep.Strs
import Derived.Deep.Slices
import Derived.ChangeVars
/-
  impl.EventOk; FnExactEventOk.
-/
namespace Go.Proofs.YtiicghepilbgfaaGreatDoor
open Go.RowKit
open Words Sums

set_option maxHeartbeats 1000000 in
set_option maxRecDepth 100000 in
theorem ievOk : EvOkC 8 := by
  intro q c wh tn w
  obtain ⟨k, v, s, o, t⟩ := q
  unfold evV
  simp only
  have bA : Below w.heap.size w (w.alloc (.cells #[.int .i64 k, .int .i64 v, .int .i64 s, .int .i64 o, .string t, .bool c, .int .i64 wh, .bool tn] 30)) := (Below.refl _ _).alloc (Nat.le_refl _) _
  have gA : (w.alloc (.cells #[.int .i64 k, .int .i64 v, .int .i64 s, .int .i64 o, .string t, .bool c, .int .i64 wh, .bool tn] 30)).heap[w.heap.size]? = some (.cells #[.int .i64 k, .int .i64 v, .int .i64 s, .int .i64 o, .string t, .bool c, .int .i64 wh, .bool tn] 30 (0, 0)) := heap_alloc_new _ _
  obtain ⟨R, hR⟩ : ∃ R, akB ⟨k, v, s, o, t⟩ = R := ⟨_, rfl⟩
  have HR := hide hR
  have HB := hide bA
  have HG := hide gA
  rw [hR]
  clear bA gA hR
  go_enter Tryz.func8, Tryz.ntmps8
  go_wp2_with fail
  have CS := iaskOk ⟨k, v, s, o, t⟩ (w.alloc (.cells #[.int .i64 k, .int .i64 v, .int .i64 s, .int .i64 o, .string t, .bool c, .int .i64 wh, .bool tn] 30))
  rw [HR.out] at CS
  unfold akV at CS
  simp only at CS
  refine CS.mono ?_
  rintro e w1 ⟨rfl, b1⟩
  have B1 := hide (HB.out.trans (b1.mono HB.out.size))
  have G1 := hide ((b1.block _ (Array.getElem?_eq_some_iff.1 HG.out).1).trans HG.out)
  have c6 := cell_of_row _ _ 6 _ _ _ G1.out
  simp at c6
  clear b1 CS HB HG HR G1
  cases R with
  | false =>
    go_wp2
    go_ret
    exact ⟨rfl, B1.out⟩
  | true =>
    go_wp2
    go_ret
    exact ⟨by simp, B1.out⟩
theorem lawEv_card (k v s o : Int) (t : ByteArray) (c : Bool) (wh : Int) (tn : Bool) {w : World} (ht : t.size ≤ maxLen) (_ : World) :
    Calls Tryz.prog 3 #[.agg #[.int .i64 k, .int .i64 v, .int .i64 s, .int .i64 o, .string t, .bool c, .int .i64 wh, .bool tn]] w fun e w' => e = .returned (.bool true) ∧ Below w.heap.size w w' := lawEv_of k v s o t c wh tn w ht ievOk
end Go.Proofs.YtiicghepilbgfaaGreatDoor

/-
  A Ask that comes in as an argument, and a row of them.
-/
namespace Go.Proofs.YtiicghepilbgfaaGreatDoor
open Go.ChangeShapes Go.WideShapes Go.ChangeAt Go.RowKit Go.Deep
set_option maxRecDepth 100000

/-- Elements that came in, each in 5 cells. -/
def AkRow (w : World) (a : Option Addr) (len : Nat) (ls : List (Int × Int × Int × Int × ByteArray)) : Prop :=
  ls.length = len ∧ len ≤ maxLen ∧ (∀ t ∈ ls, t.2.2.2.2.size ≤ maxLen) ∧ (0 < len → ∃ b off, a = some ⟨b, off, none⟩ ∧ b < w.heap.size ∧ ∀ i t, ls[i]? = some t → w.cell? ⟨b, off + i * 5, none⟩ = some (.int .i64 t.1) ∧ w.cell? ⟨b, off + i * 5 + 1, none⟩ = some (.int .i64 t.2.1) ∧ w.cell? ⟨b, off + i * 5 + 2, none⟩ = some (.int .i64 t.2.2.1) ∧ w.cell? ⟨b, off + i * 5 + 3, none⟩ = some (.int .i64 t.2.2.2.1) ∧ w.cell? ⟨b, off + i * 5 + 4, none⟩ = some (.string t.2.2.2.2))
theorem AkRow.below {w w' : World} {a : Option Addr} {len : Nat} {ls : List (Int × Int × Int × Int × ByteArray)} (h : AkRow w a len ls) (hb : Below w.heap.size w w') : AkRow w' a len ls := by
  obtain ⟨h1, h2, h3, h4⟩ := h
  refine ⟨h1, h2, h3, fun h0 => ?_⟩
  obtain ⟨b, off, e, hl, hc⟩ := h4 h0
  have hs := hb.size
  refine ⟨b, off, e, by omega, fun i t ht => ?_⟩
  obtain ⟨c0, c1, c2, c3, c4⟩ := hc i t ht
  exact ⟨(hb.cell (show b < w.heap.size from hl)).trans c0, (hb.cell (show b < w.heap.size from hl)).trans c1, (hb.cell (show b < w.heap.size from hl)).trans c2, (hb.cell (show b < w.heap.size from hl)).trans c3, (hb.cell (show b < w.heap.size from hl)).trans c4⟩

section
variable {H : Type} {enc : TypeId × Value → H} {w : World} {base : Nat} {sp : Nat → Bool} {held : Bool}
theorem cells9Ak : Tryz.prog.cellsOf 9 = 1 := by kernel_rfl
theorem cells3Ak : Tryz.prog.cellsOf 3 = 1 := by kernel_rfl
theorem cells4Ak : Tryz.prog.cellsOf 4 = 1 := by kernel_rfl
theorem cellsAk : Tryz.prog.cellsOf 23 = 5 := by kernel_rfl
theorem addrAk (b off j : Nat) : (⟨b, off, none⟩ : Addr).add j = ⟨b, off + j, none⟩ := by
  simp only [Addr.add]
  split <;> simp_all
theorem trodAk {P : Program} {t : TypeId} {f0 f1 f2 f3 f4 : Field} {fuel : Nat} {cs : List Value} {x : DataW H × List MemPlace} (ht : P.underlying t = some (.struct #[f0, f1, f2, f3, f4])) (h : DataW.trod enc P w base sp held fuel t cs = some x) :
    ∃ y0 y1 y2 y3 y4 n, DataW.trod enc P w base sp held n f0.type ((cs.drop f0.offset).take (P.cellsOf f0.type)) = some y0 ∧ DataW.trod enc P w base sp held n f1.type ((cs.drop f1.offset).take (P.cellsOf f1.type)) = some y1 ∧ DataW.trod enc P w base sp held n f2.type ((cs.drop f2.offset).take (P.cellsOf f2.type)) = some y2 ∧ DataW.trod enc P w base sp held n f3.type ((cs.drop f3.offset).take (P.cellsOf f3.type)) = some y3 ∧ DataW.trod enc P w base sp held n f4.type ((cs.drop f4.offset).take (P.cellsOf f4.type)) = some y4 := by
  obtain ⟨xs, n, _, rfl, hl, hlen, hf⟩ := DataW.trod_struct ht h
  match xs, hlen with
  | [y0, y1, y2, y3, y4], _ => exact ⟨y0, y1, y2, y3, y4, n, by simpa using hf 0 f0 rfl, by simpa using hf 1 f1 rfl, by simpa using hf 2 f2 rfl, by simpa using hf 3 f3 rfl, by simpa using hf 4 f4 rfl⟩

theorem open_ak {r : Reach} {b0 : Nat} {v : Value} {d : DataW H} {ps : List MemPlace} (hval : Value.okWide Tryz.prog w r b0 23 v) (hd : DataW.Trod enc Tryz.prog w base sp held 23 v d ps) :
    ∃ (x0 : Int) (x1 : Int) (x2 : Int) (x3 : Int) (x4 : ByteArray), v = .agg #[.int .i64 x0, .int .i64 x1, .int .i64 x2, .int .i64 x3, .string x4] ∧ x4.size ≤ maxLen := by
  obtain ⟨cs, rfl, hcs⟩ := okWide_struct Tryz.underlying23 hval
  obtain ⟨fuel, hf⟩ := hd
  obtain ⟨y0, y1, y2, y3, y4, n, h0, h1, h2, h3, h4⟩ := trodAk Tryz.underlying23 hf
  rw [cellsAk] at hcs
  simp only [cells3Ak, cells9Ak, Value.cells] at h0 h1 h2 h3 h4
  match cs, hcs with
  | ⟨[u0, u1, u2, u3, u4]⟩, _ =>
    obtain ⟨k0, e0, -, -⟩ := DataW.trod_int Tryz.underlying3 h0
    obtain ⟨k1, e1, -, -⟩ := DataW.trod_int Tryz.underlying3 h1
    obtain ⟨k2, e2, -, -⟩ := DataW.trod_int Tryz.underlying3 h2
    obtain ⟨k3, e3, -, -⟩ := DataW.trod_int Tryz.underlying3 h3
    obtain ⟨k4, e4, -, z4⟩ := DataW.trod_string Tryz.underlying9 h4
    simp at e0 e1 e2 e3 e4
    subst e0 e1 e2 e3 e4
    exact ⟨k0, k1, k2, k3, k4, rfl, z4⟩
end
end Go.Proofs.YtiicghepilbgfaaGreatDoor

/-
  An Event that comes in as an argument.
-/
namespace Go.Proofs.YtiicghepilbgfaaGreatDoor
open Go.ChangeShapes Go.WideShapes Go.ChangeAt Go.RowKit Go.Deep
set_option maxRecDepth 100000

section
variable {H : Type} {enc : TypeId × Value → H} {w : World} {base : Nat} {sp : Nat → Bool} {held : Bool}
theorem trodEv4 {P : Program} {t : TypeId} {f0 f1 f2 f3 : Field} {fuel : Nat} {cs : List Value} {x : DataW H × List MemPlace} (ht : P.underlying t = some (.struct #[f0, f1, f2, f3])) (h : DataW.trod enc P w base sp held fuel t cs = some x) :
    ∃ y0 y1 y2 y3 n, DataW.trod enc P w base sp held n f0.type ((cs.drop f0.offset).take (P.cellsOf f0.type)) = some y0 ∧ DataW.trod enc P w base sp held n f1.type ((cs.drop f1.offset).take (P.cellsOf f1.type)) = some y1 ∧ DataW.trod enc P w base sp held n f2.type ((cs.drop f2.offset).take (P.cellsOf f2.type)) = some y2 ∧ DataW.trod enc P w base sp held n f3.type ((cs.drop f3.offset).take (P.cellsOf f3.type)) = some y3 := by
  obtain ⟨xs, n, _, rfl, hl, hlen, hf⟩ := DataW.trod_struct ht h
  match xs, hlen with
  | [y0, y1, y2, y3], _ => exact ⟨y0, y1, y2, y3, n, by simpa using hf 0 f0 rfl, by simpa using hf 1 f1 rfl, by simpa using hf 2 f2 rfl, by simpa using hf 3 f3 rfl⟩
theorem open_event {r : Reach} {b0 : Nat} {v : Value} {d : DataW H} {ps : List MemPlace} (hval : Value.okWide Tryz.prog w r b0 25 v) (hd : DataW.Trod enc Tryz.prog w base sp held 25 v d ps) :
    ∃ (k a s o : Int) (t : ByteArray) (c : Bool) (wh : Int) (tn : Bool), v = .agg #[.int .i64 k, .int .i64 a, .int .i64 s, .int .i64 o, .string t, .bool c, .int .i64 wh, .bool tn] ∧ t.size ≤ maxLen := by
  obtain ⟨cs, rfl, hcs⟩ := okWide_struct Tryz.underlying25 hval
  obtain ⟨fuel, hf⟩ := hd
  obtain ⟨z0, z1, z2, z3, m, g0, g1, g2, g3⟩ := trodEv4 Tryz.underlying25 hf
  have hz : Tryz.prog.cellsOf 25 = 8 := by kernel_rfl
  rw [hz] at hcs
  simp only [cellsAk, cells3Ak, cells4Ak, Value.cells] at g0 g1 g2 g3
  match cs, hcs with
  | ⟨[u0, u1, u2, u3, u4, u5, u6, u7]⟩, _ =>
    simp at g0 g1 g2 g3
    obtain ⟨y0, y1, y2, y3, y4, n, h0, h1, h2, h3, h4⟩ := trodAk Tryz.underlying23 g0
    simp only [cells3Ak, cells9Ak] at h0 h1 h2 h3 h4
    obtain ⟨k0, e0, -, -⟩ := DataW.trod_int Tryz.underlying3 h0
    obtain ⟨k1, e1, -, -⟩ := DataW.trod_int Tryz.underlying3 h1
    obtain ⟨k2, e2, -, -⟩ := DataW.trod_int Tryz.underlying3 h2
    obtain ⟨k3, e3, -, -⟩ := DataW.trod_int Tryz.underlying3 h3
    obtain ⟨k4, e4, -, z4⟩ := DataW.trod_string Tryz.underlying9 h4
    obtain ⟨k5, e5, -, -⟩ := DataW.trod_bool Tryz.underlying4 g1
    obtain ⟨k6, e6, -, -⟩ := DataW.trod_int Tryz.underlying3 g2
    obtain ⟨k7, e7, -, -⟩ := DataW.trod_bool Tryz.underlying4 g3
    simp at e0 e1 e2 e3 e4 e5 e6 e7
    subst e0 e1 e2 e3 e4 e5 e6 e7
    exact ⟨k0, k1, k2, k3, k4, k5, k6, k7, rfl, z4⟩
end
end Go.Proofs.YtiicghepilbgfaaGreatDoor

/-
  Package variables that are arrays of integers, where a row names them: they read behind the call as they did ahead of it.
-/
namespace Go.Proofs.YtiicghepilbgfaaGreatDoor
open Go.ChangeShapes Go.RowKit

theorem trod_ints {H : Type} {enc : TypeId × Value → H} {P : Program} {t e : TypeId} {n : Nat} {k : IntKind} (ht : P.underlying t = some (.array n e)) (he : P.underlying e = some (.int k))
    (V V' : World) (b b' : Nat) (sp sp' : Nat → Bool) (held : Bool) (fuel : Nat) (cs : List Value) :
    DataW.trod enc P V b sp held fuel t cs = DataW.trod enc P V' b' sp' held fuel t cs := by
  cases fuel with
  | zero => rfl
  | succ fuel =>
    have h : ∀ x : List Value, DataW.trod enc P V b sp held fuel e x = DataW.trod enc P V' b' sp' held fuel e x := by
      intro x
      cases fuel with
      | zero => rfl
      | succ fuel =>
        simp only [DataW.trod, he]
        rcases x with _ | ⟨v, _ | ⟨v2, r⟩⟩
        · rfl
        · cases v <;> rfl
        · cases v <;> rfl
    simp only [DataW.trod, ht, h]

theorem vars_length {H : Type} {enc : TypeId × Value → H} {P : Program} {W : World} {sp : Nat → Bool} : ∀ {ns : List String} {gs : List (DataW H)} {q : List MemPlace}, DataW.TrodVars enc P W sp ns gs q → gs.length = ns.length
  | [], [], _, _ => rfl
  | [], _ :: _, _, h => by simp [DataW.TrodVars] at h
  | _ :: _, [], _, h => by simp [DataW.TrodVars] at h
  | _ :: _, _ :: _, _, h => by
    obtain ⟨_, _, _, _, _, _, _, _, _, _, hs, _⟩ := h
    simp [vars_length hs]

theorem vars_nil {H : Type} {enc : TypeId × Value → H} {P : Program} {W W' : World} {sp sp' : Nat → Bool} (gs : List (DataW H)) (q : List MemPlace) (h : DataW.TrodVars enc P W sp [] gs q) : DataW.TrodVars enc P W' sp' [] gs q := by
  cases gs with
  | nil => exact h
  | cons => simp [DataW.TrodVars] at h

theorem vars_cons {H : Type} {enc : TypeId × Value → H} {P : Program} {W W' : World} {sp sp' : Nat → Bool} {n : String} {ns : List String} {g : Nat} {t e : TypeId} {m : Nat} {k : IntKind}
    (hg : P.globalNamed n = some g) (hty : (P.globals[g]?).map (·.type) = some t) (ht : P.underlying t = some (.array m e)) (he : P.underlying e = some (.int k)) (hb : Below W.heap.size W W')
    (rest : ∀ gs q, DataW.TrodVars enc P W sp ns gs q → DataW.TrodVars enc P W' sp' ns gs q) (gs : List (DataW H)) (q : List MemPlace) (h : DataW.TrodVars enc P W sp (n :: ns) gs q) : DataW.TrodVars enc P W' sp' (n :: ns) gs q := by
  cases gs with
  | nil => simp [DataW.TrodVars] at h
  | cons d ds =>
    obtain ⟨g', t', cs, fuel, p, q', h1, h2, h3, h4, hs, rfl⟩ := h
    obtain rfl := Option.some.inj (hg.symm.trans h1)
    obtain rfl := Option.some.inj (hty.symm.trans h2)
    have hlt : g < W.heap.size := by
      rcases Nat.lt_or_ge g W.heap.size with h' | h'
      · exact h'
      · unfold World.var? at h3
        simp [hg, Array.getElem?_eq_none h'] at h3
    refine ⟨g, t, cs, fuel, p, q', h1, h2, var?_below hb hg hlt h3, ?_, rest _ _ hs, rfl⟩
    rw [trod_ints ht he W' W 0 0 sp' sp]
    exact h4
end Go.Proofs.YtiicghepilbgfaaGreatDoor
