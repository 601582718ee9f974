/-
  What the draw of pages holds: its cursor, the row of what it found, records, pages.
-/
import Derived.Test.YtogfdhfmamabiaaPk13
import Derived.Test.YtogfdhfmamabiaaPk1
import Derived.Test.YtogfdhfmamabiaaPk15
import Derived.Test.YtogfdhfmamabiaaPk17
import Derived.Test.YtogfdhfmamabiaaTxN
import Derived.Test.YtogfdhfmamabiaaSTxP
namespace Go.Proofs.Ytogfdhfmamabiaa
open Go.RowKit
open Words

theorem own_otherF {t t' : TypeId} (hne : t ≠ t') {W y : World} {B size n B' size' n' : Nat} {v u : Value} {xs ys : List Value} (h : W.ownsRow B t size v n xs) (hu : W.ownsRow B' t' size' u n' ys) (hg : W.grownBy y u.ownBlock) : y.ownsRow B t size v n xs :=
  own_kept h (fun i hi e => hg.block i hi (fun e2 => by
    obtain ⟨-, -, cs, q⟩ := own_kind h i e
    obtain ⟨-, -, cs', q'⟩ := own_kind hu i e2.symm
    rw [q] at q'
    injection q' with q'
    injection q' with _ q'
    exact hne q'))
theorem sli_other {t t' : TypeId} (hne : t ≠ t') {W y : World} {lo hi n B' size' n' : Nat} {v u : Value} {xs ys : List Value} (h : Sli t lo hi v n xs W) (hu : W.ownsRow B' t' size' u n' ys) (hg : W.grownBy y u.ownBlock) : Sli t lo hi v n xs y :=
  h.grown hg (fun i e e2 => by
    obtain ⟨-, -, cs, q⟩ := h.lt i e
    obtain ⟨-, -, cs', q'⟩ := own_kind hu i e2
    rw [q] at q'
    injection q' with q'
    injection q' with _ q'
    exact hne q')
theorem own_draw {W x : World} {p B size n : Nat} {t : TypeId} {v : Value} {xs : List Value} (h : W.ownsRow B t size v n xs) (hg : W.grownBy x (some p)) (hp : p < B) : x.ownsRow B t size v n xs :=
  own_kept h (fun i hi e => hg.block i hi (fun e2 => by have := (h.lt i e).1; injection e2 with e2; omega))
theorem sli_draw {W x : World} {p lo hi n : Nat} {t : TypeId} {v : Value} {xs : List Value} (h : Sli t lo hi v n xs W) (hg : W.grownBy x (some p)) (hp : p < lo) : Sli t lo hi v n xs x :=
  h.grown hg (fun i e e2 => by have := (h.lt i e).1; injection e2 with e2; omega)

/-- The cursor, and the row of what was found so far. -/
def FdSt (w W : World) (p : Nat) (ad : Option Addr) (len cap : Nat) (ov : Value) (zs : List Fnd) : Prop := Drawn w W p ad len cap ∧ W.ownsRow w.heap.size 42 8 ov zs.length (fcells zs)
theorem FdSt.drawn {w W x : World} {p : Nat} {ad : Option Addr} {len cap : Nat} {ov : Value} {zs : List Fnd} (h : FdSt w W p ad len cap ov zs) (d : Drawn W x p ad len cap) (hp : p < w.heap.size) : FdSt w x p ad len cap ov zs := ⟨h.1.trans d, own_draw h.2 d.1 hp⟩
theorem FdSt.below {w W x : World} {p : Nat} {ad : Option Addr} {len cap : Nat} {ov : Value} {zs : List Fnd} (h : FdSt w W p ad len cap ov zs) (b : Below W.heap.size W x) (hp : p < w.heap.size) : FdSt w x p ad len cap ov zs := ⟨h.1.below (b.mono h.1.1.size) hp, own_below h.2 b⟩
theorem FdSt.out {w W y : World} {p : Nat} {ad : Option Addr} {len cap : Nat} {ov u' : Value} {zs zs' : List Fnd} (h : FdSt w W p ad len cap ov zs) (hp : p < w.heap.size) (hg : W.grownBy y ov.ownBlock) (ho : y.ownsRow w.heap.size 42 8 u' zs'.length (fcells zs')) : FdSt w y p ad len cap u' zs' :=
  ⟨h.1.below ((Below.refl _ _).grown hg h.1.1.size (fun k hk => (h.2.lt k hk).1)) hp, ho⟩
/-- And a row of records. -/
def FR (w W : World) (p : Nat) (ad : Option Addr) (len cap : Nat) (ov : Value) (zs : List Fnd) (uv : Value) (l : List Rc) : Prop := FdSt w W p ad len cap ov zs ∧ W.ownsRow w.heap.size 34 4 uv l.length (rccells (l.map Rc.tu))
theorem FR.drawn {w W x : World} {p : Nat} {ad : Option Addr} {len cap : Nat} {ov uv : Value} {zs : List Fnd} {l : List Rc} (h : FR w W p ad len cap ov zs uv l) (d : Drawn W x p ad len cap) (hp : p < w.heap.size) : FR w x p ad len cap ov zs uv l := ⟨h.1.drawn d hp, own_draw h.2 d.1 hp⟩
theorem FR.below {w W x : World} {p : Nat} {ad : Option Addr} {len cap : Nat} {ov uv : Value} {zs : List Fnd} {l : List Rc} (h : FR w W p ad len cap ov zs uv l) (b : Below W.heap.size W x) (hp : p < w.heap.size) : FR w x p ad len cap ov zs uv l := ⟨h.1.below b hp, own_below h.2 b⟩
/-- A row of records has grown that was none of the found's. -/
theorem FdSt.recs {w W y : World} {p : Nat} {ad : Option Addr} {len cap : Nat} {ov vv u' : Value} {zs : List Fnd} {n : Nat} {xs : List Value} {l' : List Rc} (h : FdSt w W p ad len cap ov zs) (hp : p < w.heap.size) (hr : W.ownsRow w.heap.size 34 4 vv n xs) (hg : W.grownBy y vv.ownBlock) (ho : y.ownsRow w.heap.size 34 4 u' l'.length (rccells (l'.map Rc.tu))) : FR w y p ad len cap ov zs u' l' :=
  ⟨⟨h.1.below ((Below.refl _ _).grown hg h.1.1.size (fun k hk => (hr.lt k hk).1)) hp, own_otherF (by decide) h.2 hr hg⟩, ho⟩
/-- And a row of pages. -/
def FP (w W : World) (p : Nat) (ad : Option Addr) (len cap : Nat) (ov : Value) (zs : List Fnd) (pv : Value) (n : Nat) (M : List (Int × Int × Int × Int × Int × ByteArray)) : Prop := FdSt w W p ad len cap ov zs ∧ Sli 40 w.heap.size W.heap.size pv n (pgcells M) W
theorem FP.drawn {w W x : World} {p : Nat} {ad : Option Addr} {len cap : Nat} {ov pv : Value} {zs : List Fnd} {n : Nat} {M : List (Int × Int × Int × Int × Int × ByteArray)} (h : FP w W p ad len cap ov zs pv n M) (d : Drawn W x p ad len cap) (hp : p < w.heap.size) : FP w x p ad len cap ov zs pv n M := ⟨h.1.drawn d hp, (sli_draw h.2 d.1 hp).up d.1.size⟩
theorem FP.below {w W x : World} {p : Nat} {ad : Option Addr} {len cap : Nat} {ov pv : Value} {zs : List Fnd} {n : Nat} {M : List (Int × Int × Int × Int × Int × ByteArray)} (h : FP w W p ad len cap ov zs pv n M) (b : Below W.heap.size W x) (hp : p < w.heap.size) : FP w x p ad len cap ov zs pv n M := ⟨h.1.below b hp, (h.2.blw b).up b.size⟩
theorem FP.out {w W y : World} {p : Nat} {ad : Option Addr} {len cap : Nat} {ov u' pv : Value} {zs zs' : List Fnd} {n : Nat} {M : List (Int × Int × Int × Int × Int × ByteArray)} (h : FP w W p ad len cap ov zs pv n M) (hp : p < w.heap.size) (hg : W.grownBy y ov.ownBlock) (ho : y.ownsRow w.heap.size 42 8 u' zs'.length (fcells zs')) : FP w y p ad len cap u' zs' pv n M :=
  ⟨h.1.out hp hg ho, (sli_other (by decide) h.2 h.1.2 hg).up hg.size⟩
/-- Whatever records come, the pages are few and small. -/
theorem txOut_small (seq tx : Int) (l : List Rc) : (txOut seq tx l).length ≤ 9 ∧ ∀ p ∈ txOut seq tx l, p.text.size ≤ 90 ∧ 0 ≤ p.count ∧ p.count ≤ 9 := by
  unfold txOut
  split
  · rename_i h
    refine ⟨by rw [txPgs_len]; exact h.2.1, fun p hp => ?_⟩
    obtain ⟨i, hi⟩ := List.mem_iff_getElem?.1 hp
    obtain ⟨g, hg, rfl⟩ := txPgs_at hi
    refine ⟨?_, ?_, ?_⟩
    · show (recsB g).size ≤ 90
      rw [recsB_size]
      exact pk_small l h.1 g (List.mem_of_getElem? hg)
    · show (0 : Int) ≤ (((pkG l).length : Nat) : Int); omega
    · show (((pkG l).length : Nat) : Int) ≤ 9; have := h.2.1; omega
  · exact ⟨by simp, fun p hp => by cases hp⟩
theorem FR.pages {w W : World} {p : Nat} {ad : Option Addr} {len cap : Nat} {ov : Value} {zs : List Fnd} {g c : Nat} {l : List Rc} (h : FR w W p ad len cap ov zs (.slice (some ⟨g, 0, none⟩) l.length c) l) (hp : p < w.heap.size) (hl : l.length ≤ 1048576) (seq tx : Int) :
    Calls Try.prog 41 #[.int .i64 seq, .int .i64 tx, .slice (some ⟨g, 0, none⟩) l.length c] W fun e w' => ∃ pa pc n M ok, e = .returned (.tuple #[.slice pa n pc, .bool ok]) ∧ n ≤ 9 ∧ M.length = n ∧ (∀ t ∈ M, t.2.2.2.2.2.size ≤ 90 ∧ 0 ≤ t.2.2.2.2.1 ∧ t.2.2.2.2.1 ≤ 9) ∧ FP w w' p ad len cap ov zs (.slice pa n pc) n M := by
  obtain ⟨a, c', e, hr⟩ := RcRow.of_own (by rw [List.length_map]) h.2
  injection e with e1 e2 e3
  rw [← e1] at hr
  refine (stxPages seq tx (some ⟨g, 0, none⟩) l.length c l W (Nat.le_trans hl (by decide)) hr).mono ?_
  rintro e w' ⟨uv, rfl, ho, hb⟩
  have hq := txOut_small seq tx l
  have hs := Sli.of ho
  obtain ⟨pa, pc, rfl, -⟩ := hs.form
  refine ⟨pa, pc, _, (txOut seq tx l).map Pg.tu, _, rfl, hq.1, by rw [List.length_map], ?_, h.1.below hb hp, hs.dn h.1.1.1.size⟩
  intro t ht
  obtain ⟨q, hq2, rfl⟩ := List.mem_map.1 ht
  exact hq.2 q hq2
end Go.Proofs.Ytogfdhfmamabiaa
