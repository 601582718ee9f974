/-
  FdD; EqRc; ToRcS; EqPgS; MkRc; MkPg; TkRp
-/
import Derived.Test.YtddekdgbfnjhdacPk13
import Derived.Test.YtddekdgbfnjhdacPk1
import Derived.Test.YtddekdgbfnjhdacPk15
import Derived.Test.YtddekdgbfnjhdacTxRow
import Derived.Test.YtddekdgbfnjhdacTxN
import Derived.Test.YtddekdgbfnjhdacSTxP
import Derived.Test.YtddekdgbfnjhdacPk11
import Derived.Test.YtddekdgbfnjhdacPk14
import Derived.Deep.RegionHeld3
import Derived.Test.YtddekdgbfnjhdacPk18
import Derived.Deep.DeepCutAuto
/-
  What the draw of pages holds: its cursor, the row of what it found, records, pages.
-/
namespace Go.Proofs.Ytddekdgbfnjhdac
open Go.RowKit
open Words

theorem own_other {t t' : TypeId} (hne : t ≠ t') {W y : World} {B size n B' size' n' : Nat} {v u : Value} {xs ys : List Value} (h : W.ownsRow B t size v n xs) (hu : W.ownsRow B' t' size' u n' ys) (hg : W.grownBy y u.ownBlock) : y.ownsRow B t size v n xs :=
  own_kept h (fun i hi e => hg.block i hi (fun e2 => by
    obtain ⟨-, -, cs, q⟩ := own_kind h i e
    obtain ⟨-, -, cs', q'⟩ := own_kind hu i e2.symm
    rw [q] at q'
    injection q' with q'
    injection q' with _ q'
    exact hne q'))
theorem sli_other {t t' : TypeId} (hne : t ≠ t') {W y : World} {lo hi n B' size' n' : Nat} {v u : Value} {xs ys : List Value} (h : Sli t lo hi v n xs W) (hu : W.ownsRow B' t' size' u n' ys) (hg : W.grownBy y u.ownBlock) : Sli t lo hi v n xs y :=
  h.grown hg (fun i e e2 => by
    obtain ⟨-, -, cs, q⟩ := h.lt i e
    obtain ⟨-, -, cs', q'⟩ := own_kind hu i e2
    rw [q] at q'
    injection q' with q'
    injection q' with _ q'
    exact hne q')
theorem own_draw {W x : World} {p B size n : Nat} {t : TypeId} {v : Value} {xs : List Value} (h : W.ownsRow B t size v n xs) (hg : W.grownBy x (some p)) (hp : p < B) : x.ownsRow B t size v n xs :=
  own_kept h (fun i hi e => hg.block i hi (fun e2 => by have := (h.lt i e).1; injection e2 with e2; omega))
theorem sli_draw {W x : World} {p lo hi n : Nat} {t : TypeId} {v : Value} {xs : List Value} (h : Sli t lo hi v n xs W) (hg : W.grownBy x (some p)) (hp : p < lo) : Sli t lo hi v n xs x :=
  h.grown hg (fun i e e2 => by have := (h.lt i e).1; injection e2 with e2; omega)

/-- The cursor, and the row of what was found so far. -/
def FS (w W : World) (p : Nat) (ad : Option Addr) (len cap : Nat) (ov : Value) (zs : List Fnd) : Prop := Drawn w W p ad len cap ∧ W.ownsRow w.heap.size 68 8 ov zs.length (fcells zs)
theorem FS.drawn {w W x : World} {p : Nat} {ad : Option Addr} {len cap : Nat} {ov : Value} {zs : List Fnd} (h : FS w W p ad len cap ov zs) (d : Drawn W x p ad len cap) (hp : p < w.heap.size) : FS w x p ad len cap ov zs := ⟨h.1.trans d, own_draw h.2 d.1 hp⟩
theorem FS.below {w W x : World} {p : Nat} {ad : Option Addr} {len cap : Nat} {ov : Value} {zs : List Fnd} (h : FS w W p ad len cap ov zs) (b : Below W.heap.size W x) (hp : p < w.heap.size) : FS w x p ad len cap ov zs := ⟨h.1.below (b.mono h.1.1.size) hp, own_below h.2 b⟩
theorem FS.out {w W y : World} {p : Nat} {ad : Option Addr} {len cap : Nat} {ov u' : Value} {zs zs' : List Fnd} (h : FS w W p ad len cap ov zs) (hp : p < w.heap.size) (hg : W.grownBy y ov.ownBlock) (ho : y.ownsRow w.heap.size 68 8 u' zs'.length (fcells zs')) : FS w y p ad len cap u' zs' :=
  ⟨h.1.below ((Below.refl _ _).grown hg h.1.1.size (fun k hk => (h.2.lt k hk).1)) hp, ho⟩
/-- And a row of records. -/
def FR (w W : World) (p : Nat) (ad : Option Addr) (len cap : Nat) (ov : Value) (zs : List Fnd) (uv : Value) (l : List Rc) : Prop := FS w W p ad len cap ov zs ∧ W.ownsRow w.heap.size 53 4 uv l.length (rccells (l.map Rc.tu))
theorem FR.drawn {w W x : World} {p : Nat} {ad : Option Addr} {len cap : Nat} {ov uv : Value} {zs : List Fnd} {l : List Rc} (h : FR w W p ad len cap ov zs uv l) (d : Drawn W x p ad len cap) (hp : p < w.heap.size) : FR w x p ad len cap ov zs uv l := ⟨h.1.drawn d hp, own_draw h.2 d.1 hp⟩
theorem FR.below {w W x : World} {p : Nat} {ad : Option Addr} {len cap : Nat} {ov uv : Value} {zs : List Fnd} {l : List Rc} (h : FR w W p ad len cap ov zs uv l) (b : Below W.heap.size W x) (hp : p < w.heap.size) : FR w x p ad len cap ov zs uv l := ⟨h.1.below b hp, own_below h.2 b⟩
/-- A row of records has grown that was none of the found's. -/
theorem FS.recs {w W y : World} {p : Nat} {ad : Option Addr} {len cap : Nat} {ov vv u' : Value} {zs : List Fnd} {n : Nat} {xs : List Value} {l' : List Rc} (h : FS w W p ad len cap ov zs) (hp : p < w.heap.size) (hr : W.ownsRow w.heap.size 53 4 vv n xs) (hg : W.grownBy y vv.ownBlock) (ho : y.ownsRow w.heap.size 53 4 u' l'.length (rccells (l'.map Rc.tu))) : FR w y p ad len cap ov zs u' l' :=
  ⟨⟨h.1.below ((Below.refl _ _).grown hg h.1.1.size (fun k hk => (hr.lt k hk).1)) hp, own_other (by decide) h.2 hr hg⟩, ho⟩
/-- And a row of pages. -/
def FP (w W : World) (p : Nat) (ad : Option Addr) (len cap : Nat) (ov : Value) (zs : List Fnd) (pv : Value) (n : Nat) (M : List (Int × Int × Int × Int × Int × ByteArray)) : Prop := FS w W p ad len cap ov zs ∧ Sli 65 w.heap.size W.heap.size pv n (pgcells M) W
theorem FP.drawn {w W x : World} {p : Nat} {ad : Option Addr} {len cap : Nat} {ov pv : Value} {zs : List Fnd} {n : Nat} {M : List (Int × Int × Int × Int × Int × ByteArray)} (h : FP w W p ad len cap ov zs pv n M) (d : Drawn W x p ad len cap) (hp : p < w.heap.size) : FP w x p ad len cap ov zs pv n M := ⟨h.1.drawn d hp, (sli_draw h.2 d.1 hp).up d.1.size⟩
theorem FP.below {w W x : World} {p : Nat} {ad : Option Addr} {len cap : Nat} {ov pv : Value} {zs : List Fnd} {n : Nat} {M : List (Int × Int × Int × Int × Int × ByteArray)} (h : FP w W p ad len cap ov zs pv n M) (b : Below W.heap.size W x) (hp : p < w.heap.size) : FP w x p ad len cap ov zs pv n M := ⟨h.1.below b hp, (h.2.blw b).up b.size⟩
theorem FP.out {w W y : World} {p : Nat} {ad : Option Addr} {len cap : Nat} {ov u' pv : Value} {zs zs' : List Fnd} {n : Nat} {M : List (Int × Int × Int × Int × Int × ByteArray)} (h : FP w W p ad len cap ov zs pv n M) (hp : p < w.heap.size) (hg : W.grownBy y ov.ownBlock) (ho : y.ownsRow w.heap.size 68 8 u' zs'.length (fcells zs')) : FP w y p ad len cap u' zs' pv n M :=
  ⟨h.1.out hp hg ho, (sli_other (by decide) h.2 h.1.2 hg).up hg.size⟩
/-- Whatever records come, the pages are few and small. -/
theorem txOut_small (seq tx : Int) (l : List Rc) : (txOut seq tx l).length ≤ 9 ∧ ∀ p ∈ txOut seq tx l, p.text.size ≤ 90 ∧ 0 ≤ p.count ∧ p.count ≤ 9 := by
  unfold txOut
  split
  · rename_i h
    refine ⟨by rw [txPgs_len]; exact h.2.1, fun p hp => ?_⟩
    obtain ⟨i, hi⟩ := List.mem_iff_getElem?.1 hp
    obtain ⟨g, hg, rfl⟩ := txPgs_at hi
    refine ⟨?_, ?_, ?_⟩
    · show (recsB g).size ≤ 90
      rw [recsB_size]
      exact pk_small l h.1 g (List.mem_of_getElem? hg)
    · show (0 : Int) ≤ (((pkG l).length : Nat) : Int); omega
    · show (((pkG l).length : Nat) : Int) ≤ 9; have := h.2.1; omega
  · exact ⟨by simp, fun p hp => by cases hp⟩
theorem FR.pages {w W : World} {p : Nat} {ad : Option Addr} {len cap : Nat} {ov : Value} {zs : List Fnd} {g c : Nat} {l : List Rc} (h : FR w W p ad len cap ov zs (.slice (some ⟨g, 0, none⟩) l.length c) l) (hp : p < w.heap.size) (hl : l.length ≤ 1048576) (seq tx : Int) :
    Calls Try.prog 32 #[.int .i64 seq, .int .i64 tx, .slice (some ⟨g, 0, none⟩) l.length c] W fun e w' => ∃ pa pc n M ok, e = .returned (.tuple #[.slice pa n pc, .bool ok]) ∧ n ≤ 9 ∧ M.length = n ∧ (∀ t ∈ M, t.2.2.2.2.2.size ≤ 90 ∧ 0 ≤ t.2.2.2.2.1 ∧ t.2.2.2.2.1 ≤ 9) ∧ FP w w' p ad len cap ov zs (.slice pa n pc) n M := by
  obtain ⟨a, c', e, hr⟩ := RcRow.of_own (by rw [List.length_map]) h.2
  injection e with e1 e2 e3
  rw [← e1] at hr
  refine (stxPages seq tx (some ⟨g, 0, none⟩) l.length c l W hl hr).mono ?_
  rintro e w' ⟨uv, rfl, ho, hb⟩
  have hq := txOut_small seq tx l
  have hs := Sli.of ho
  obtain ⟨pa, pc, rfl, -⟩ := hs.form
  refine ⟨pa, pc, _, (txOut seq tx l).map Pg.tu, _, rfl, hq.1, by rw [List.length_map], ?_, h.1.below hb hp, hs.dn h.1.1.1.size⟩
  intro t ht
  obtain ⟨q, hq2, rfl⟩ := List.mem_map.1 ht
  exact hq.2 q hq2
end Go.Proofs.Ytddekdgbfnjhdac

/-
  The laws' own toRec, eqRec and eqRecS.
-/
namespace Go.Proofs.Ytddekdgbfnjhdac
open Go.RowKit

end Go.Proofs.Ytddekdgbfnjhdac

/-
  The laws' own szRecS and toRecS.
-/
namespace Go.Proofs.Ytddekdgbfnjhdac
open Go.RowKit

theorem rccells_put (ls : List (Int × Int × Int × Int)) (R : List Value) (j : Nat) (x0 : Int) (x1 : Int) (x2 : Int) (x3 : Int) (hj : ls[j]? = some (x0, x1, x2, x3)) (hR : R.length = ls.length * 4) :
    ((((rccells (ls.take j) ++ R.drop (j * 4)).set (j * 4) (.int .i64 x0)).set (j * 4 + 1) (.int .i64 x1)).set (j * 4 + 2) (.int .i64 x2)).set (j * 4 + 3) (.int .i64 x3) = rccells (ls.take (j + 1)) ++ R.drop ((j + 1) * 4) := by
  obtain ⟨hj1, hj2⟩ := List.getElem?_eq_some_iff.1 hj
  have hm : (rccells (ls.take j)).length = j * 4 := by rw [rccells_len, List.length_take]; congr 1; omega
  have e2 : rccells [(x0, x1, x2, x3)] = [.int .i64 x0, .int .i64 x1, .int .i64 x2, .int .i64 x3] := rfl
  have e3 : ls.take (j + 1) = ls.take j ++ [(x0, x1, x2, x3)] := by rw [List.take_succ_eq_append_getElem hj1, hj2]
  rw [e3, rccells_app, e2, List.set_append_right _ _ (by omega), List.set_append_right _ _ (by omega), List.set_append_right _ _ (by omega), List.set_append_right _ _ (by omega), hm, Nat.sub_self, Nat.add_sub_cancel_left, Nat.add_sub_cancel_left, Nat.add_sub_cancel_left, List.append_assoc]
  rw [List.drop_eq_getElem_cons (show j * 4 < R.length by omega), List.drop_eq_getElem_cons (show j * 4 + 1 < R.length by omega), List.drop_eq_getElem_cons (show j * 4 + 2 < R.length by omega), List.drop_eq_getElem_cons (show j * 4 + 3 < R.length by omega), show (j + 1) * 4 = j * 4 + 1 + 1 + 1 + 1 by omega]
  rfl
end Go.Proofs.Ytddekdgbfnjhdac

/-
  The laws' own eqPageS.
-/
namespace Go.Proofs.Ytddekdgbfnjhdac
open Go.RowKit

end Go.Proofs.Ytddekdgbfnjhdac

/-
  Rows of records: marked.
-/
namespace Go.Proofs.Ytddekdgbfnjhdac
open Go.RowKit

/-- What the cells of one element are: numbers, and texts. -/
def patRc : List Bool := [false, false, false, false]
end Go.Proofs.Ytddekdgbfnjhdac

/-
  Rows of pages: marked, held.
-/
namespace Go.Proofs.Ytddekdgbfnjhdac
open Go.RowKit

/-- What the cells of one element are: numbers, and texts. -/
def patPg : List Bool := [false, false, false, false, false, true]
end Go.Proofs.Ytddekdgbfnjhdac

/-
  What the laws hold: rows of records, rows of pages.
-/
namespace Go.Proofs.Ytddekdgbfnjhdac
open Go.RowKit
open Words

theorem Sli.rcrow {lo hi n c : Nat} {ad : Option Addr} {M : List (Int × Int × Int × Int)} {W : World} (h : Sli 53 lo hi (.slice ad n c) n (rccells M) W) (hn : M.length = n) (hm : n ≤ 1048576) (hh : hi ≤ W.heap.size) : RcRow W ad n M := by
  refine ⟨hn, by unfold maxLen; omega, by simp, fun h0 => ?_⟩
  rcases h with ⟨e, rfl⟩ | ⟨g, cap, e, h1, h2, h3⟩
  · omega
  · injection e with e1 e2 e3
    refine ⟨g, 0, e1, by omega, fun i t hi => ?_⟩
    have hc := fun j v hj => h3.cell (rccells_at M i t hi j v hj)
    refine ⟨?_, ?_, ?_, ?_⟩
    · simpa using hc 0 _ rfl
    · simpa using hc 1 _ rfl
    · simpa using hc 2 _ rfl
    · simpa using hc 3 _ rfl
theorem txp_tk {f : Nat} {args : Array Value} {w wi : World} {hs : List Hold} {Q : List Pg} {ok : Bool} {M : List (Int × Int × Int × Int × Int × ByteArray)} {n : Nat} (C : Calls Try.prog f args wi (PgOut wi Q ok)) (T : Tk w wi hs) (hM : Q.map Pg.tu = M) (hn : M.length = n) :
    Calls Try.prog f args wi fun e w' => ∃ ad c, e = .returned (.tuple #[.slice ad n c, .bool ok]) ∧ Tk w w' ((wi.heap.size, w'.heap.size, Sli 65 wi.heap.size w'.heap.size (.slice ad n c) n (pgcells M)) :: hs) ∧ wi.heap.size ≤ w'.heap.size := by
  refine C.mono ?_
  rintro e w' ⟨uv, rfl, ho, hb⟩
  have el : Q.length = n := by rw [← hn, ← hM]; simp
  rw [hM, el] at ho
  have hs := Sli.of ho
  obtain ⟨ad, c, rfl, -⟩ := hs.form
  exact ⟨ad, c, rfl, T.add hb (Sli.loc _ _ _ _ _ _) hs, hb.size⟩
end Go.Proofs.Ytddekdgbfnjhdac
