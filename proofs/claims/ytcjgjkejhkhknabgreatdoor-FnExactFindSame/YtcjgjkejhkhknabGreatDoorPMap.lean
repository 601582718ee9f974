/-
  PMap
-/
import Derived.Test.YtcjgjkejhkhknabGreatDoorPk0
import Derived.Maps.GroupsBeside
import Derived.WideKeyEntry
import Derived.DeepKeys4
namespace Go.Proofs.YtcjgjkejhkhknabGreatDoor
open Go.RowKit Go.Maps Go.WideElems Go.MapKept
open Go.WideMaps (KeyLaw)
open Go.ChangeMaps (setBlock heap_setBlock_same heap_setBlock_other)
section
variable {H : Type} {P : Program} {k : TypeId} {w w0 : World} {base : Nat} {e : TypeId} {q : IntKind} {b n : Nat} {D : DataW H} {t E : TypeId}
theorem setBlock_inj {w : World} {b : Nat} {o o1 o2 : Obj} (hb : w.heap[b]? = some o) (h : setBlock w b o1 = setBlock w b o2) : o1 = o2 := by
 have hlt : b < w.heap.size := (Array.getElem?_eq_some_iff.1 hb).1
 have := congrArg (fun x : World => x.heap[b]?) h
 simpa [setBlock, hlt] using this
theorem upd_same (K : KeyLaw P k) (ht : P.underlying t = some (.map k E)) {es : Array MapEntry} {clock : Nat} (hb : w.heap[b]? = some (.map es clock)) (hb0 : w0.heap[b]? = some (.map es clock))
 {R : Value → Option (DataW H × List MemPlace)} (F : Fit P k R es clock) {key val : Value} {kl : Lit} (hkey : keyOf P k key = some kl) {o : Obj}
 (h : (Instr.mapUpdate t (.map (some b)) key val).run P w = .ok () (setBlock w b o)) : (Instr.mapUpdate t (.map (some b)) key val).run P w0 = .ok () (setBlock w0 b o) := by
 obtain ⟨s1, s2, s3⟩ := F.stamped
 rcases K.find w hkey es.toList F.keys with ⟨h1, h2⟩ | ⟨j, e0, h1, h2, h3⟩
 ·rcases K.find w0 hkey es.toList F.keys with ⟨g1, g2⟩ | ⟨j', e0', g1, g2, g3⟩
  ·have e1 : (Instr.mapUpdate t (.map (some b)) key val).run P w = .ok () (setBlock w b (.map (es.push ⟨key, val, clock⟩) (clock + 1))) := by
    simp [Instr.mapUpdate, run_underlying ht, MapKept.run_getObj_map hb, K.check w false hkey, h1, MapKept.run_setObj_map _ hb, Result.andThen, setBlock]
   rw [h] at e1
   obtain rfl := setBlock_inj hb (by simpa using e1)
   simp [Instr.mapUpdate, run_underlying ht, MapKept.run_getObj_map hb0, K.check w0 false hkey, g1, MapKept.run_setObj_map _ hb0, Result.andThen, setBlock]
  ·exact absurd g3 (h2 _ (List.mem_of_getElem? g2))
 ·rcases K.find w0 hkey es.toList F.keys with ⟨g1, g2⟩ | ⟨j', e0', g1, g2, g3⟩
  ·exact absurd h3 (g2 _ (List.mem_of_getElem? h2))
  ·have hjj : j = j' := by
    obtain ⟨a1, a2⟩ := List.getElem?_eq_some_iff.1 h2
    obtain ⟨b1, b2⟩ := List.getElem?_eq_some_iff.1 g2
    have := (List.getElem?_inj (i := j) (j := j') (by simpa using a1) s3).1 (by rw [List.getElem?_map, List.getElem?_map, h2, g2, Option.map_some, Option.map_some, h3, g3])
    exact this
   subst hjj
   have hj : es[j]? = some e0 := by simpa using h2
   have e1 : (Instr.mapUpdate t (.map (some b)) key val).run P w = .ok () (setBlock w b (.map (es.modify j (fun e' => { e' with key := key, val := val })) clock)) := by
    simp [Instr.mapUpdate, run_underlying ht, MapKept.run_getObj_map hb, K.check w false hkey, h1, hj, h3, K.stays w hkey, MapKept.run_setObj_map _ hb, Result.andThen, setBlock]
   rw [h] at e1
   obtain rfl := setBlock_inj hb (by simpa using e1)
   have g2' : e0' = e0 := by rw [h2] at g2; simpa using g2.symm
   subst g2'
   simp [Instr.mapUpdate, run_underlying ht, MapKept.run_getObj_map hb0, K.check w0 false hkey, g1, hj, h3, K.stays w0 hkey, MapKept.run_setObj_map _ hb0, Result.andThen, setBlock]
theorem grown_setB {w : World} {b : Nat} {es : Array MapEntry} {clock : Nat} (o' : Obj) (hb : w.heap[b]? = some (.map es clock)) : w.grownBy (setBlock w b o') (some b) :=
 ⟨rfl, rfl, rfl, by simp [setBlock], fun i _ hi => heap_setBlock_other hb _ (fun e1 => hi (by rw [e1]))⟩
def EntryBack (w1 : World) (P : Program) (t k : TypeId) (base : Nat) (e : TypeId) (q : IntKind) (b n : Nat) (D : DataW H) (kl : Lit) (v : Value) (st : Nat) (No : Nat → Prop) : Prop :=
 ∀ (w2 : World) (v' : Value) (zs' : List Int), w1.grownBy w2 v.ownBlock → w2.ownsInts base e q v' zs' → zs'.length ≤ n + 1 → (v'.ownBlock = v.ownBlock ∨ ∃ g, v'.ownBlock = some g ∧ w1.heap.size ≤ g) → (∀ g, v'.ownBlock = some g → ¬ No g) →
  ∃ w3, (Instr.entryStore t (.map (some b)) (goInt st) v').run P w2 = .ok () w3 ∧ w3.ownsGroups P k base e q b (n + 1) (D.put kl (rowDatum q v' zs')) ∧ w2.grownBy w3 (some b) ∧ w3.Shuns b No
theorem entry_groups {key : Value} {kl : Lit} {No : Nat → Prop} (h : w.ownsGroups P k base e q b n D) (K : KeyLaw P k) (ht : P.underlying t = some (.map k E)) (hz : ∀ u : World, (zeroValue E).run P u = .ok (.slice none 0 0) u) (hn : n < maxLen) (hkey : keyOf P k key = some kl) (hsh : w.Shuns b No) :
 ∃ (v : Value) (zs : List Int) (st : Nat) (w1 : World), (Instr.mapEntry t (.map (some b)) key).run P w = .ok (.tuple #[v, goInt st]) w1 ∧ D.atKey kl .nil = rowDatum q v zs ∧ w1.ownsInts base e q v zs ∧ zs.length ≤ n ∧ w.grownBy w1 (some b) ∧ w1.heap.size = w.heap.size ∧
  (∀ g, v.ownBlock = some g → ¬ No g) ∧ EntryBack w1 P t k base e q b n D kl v st No := by
 have K' := Keyed.of_law K
 have hown := h
 obtain ⟨v, zs, hrun, hat, hoi, hzl, hback⟩ := h.at K' ht (hz w) hn hkey
 obtain ⟨es, clock, hb, F, hs, hD, hbb, hlen, hap⟩ := h
 obtain ⟨v0, st, es1, clock1, hent, hv0, hst⟩ := entry_then_store K ht hz hb F hkey
 have hblt : b < w.heap.size := (Array.getElem?_eq_some_iff.1 hb).1
 have hvv : v0 = v := by
  rcases Maps.fit_look false K' ht (hz w) hb F hkey with ⟨hrun', hno, _⟩ | ⟨e0, y, hm0, h3, hrun', _, _, _⟩
  ·rw [hrun] at hrun'
   obtain rfl : v = .slice none 0 0 := by simpa using hrun'
   rcases hv0 with ⟨e1, hm1, hk1, rfl⟩ | ⟨_, rfl⟩
   ·exact absurd hk1 (hno e1 hm1)
   ·rfl
  ·rw [hrun] at hrun'
   obtain rfl : v = e0.val := by simpa using hrun'
   rcases hv0 with ⟨e1, hm1, hk1, rfl⟩ | ⟨hno, rfl⟩
   ·obtain ⟨_, _, s3⟩ := F.stamped
    obtain ⟨i, hi, rfl⟩ := List.getElem_of_mem hm1
    obtain ⟨i', hi', rfl⟩ := List.getElem_of_mem hm0
    have : i = i' := (List.getElem?_inj (by simpa using hi) s3).1 (by rw [List.getElem?_map, List.getElem?_map, List.getElem?_eq_getElem hi, List.getElem?_eq_getElem hi', Option.map_some, Option.map_some, hk1, h3])
    subst this
    rfl
   ·exact absurd h3 (hno e0 hm0)
 subst hvv
 have hvb : v0.ownBlock ≠ some b := fun e1 => by have := (hoi.1.lt b e1).1; omega
 have hg1 : w.grownBy (setBlock w b (.map es1 clock1)) (some b) := grown_setB _ hb
 refine ⟨v0, zs, st, setBlock w b (.map es1 clock1), hent, hat, hoi.kept hg1 (Or.inr hvb), hzl, hg1, by simp [setBlock], ?_, ?_⟩
 ·intro g hg
  rcases hv0 with ⟨e1, hm1, _, rfl⟩ | ⟨_, rfl⟩
  ·exact hsh es clock hb e1 hm1 g hg
  ·cases hg
 ·intro w2 v' zs' hg hown' hl' hloc hno
  have hsz1 : (setBlock w b (.map es1 clock1)).heap.size = w.heap.size := by simp [setBlock]
  have hb2 : w2.heap[b]? = some (.map es1 clock1) := (hg.block b (by rw [hsz1]; exact hblt) (fun e1 => hvb e1.symm)).trans (heap_setBlock_same hb _)
  obtain ⟨es', clock', hstore, hupd⟩ := hst w2 v' hb2
  have hv'b : v'.ownBlock ≠ some b := fun e1 => by have := (hown'.1.lt b e1).1; omega
  -- the world with the map as it was
  have hg2 : w2.grownBy (setBlock w2 b (.map es clock)) (some b) := grown_setB _ hb2
  have hb3 : (setBlock w2 b (.map es clock)).heap[b]? = some (.map es clock) := heap_setBlock_same hb2 _
  have hgw : w.grownBy (setBlock w2 b (.map es clock)) v0.ownBlock := by
   refine ⟨hg.os, hg.tape, hg.output, ?_, fun i hi hne => ?_⟩
   ·have := hg.size
    rw [hsz1] at this
    simpa [setBlock] using this
   ·by_cases hib : i = b
    ·subst hib
     rw [hb3, hb]
    ·rw [heap_setBlock_other hb2 _ hib, hg.block i (by rw [hsz1]; exact hi) hne, heap_setBlock_other hb _ hib]
  obtain ⟨w3, hrun3, hown3, hg3⟩ := hback (setBlock w2 b (.map es clock)) v' zs' hgw (hown'.kept hg2 (Or.inr hv'b)) hl' (by rw [hsz1] at hloc; exact hloc)
  have hu3 := upd_same (w0 := setBlock w2 b (.map es clock)) K ht hb hb3 F hkey hupd
  rw [hrun3] at hu3
  obtain rfl : w3 = setBlock (setBlock w2 b (.map es clock)) b (.map es' clock') := by simpa using hu3
  have hss : setBlock (setBlock w2 b (.map es clock)) b (.map es' clock') = setBlock w2 b (.map es' clock') := by
   unfold setBlock
   simp
  rw [hss] at hown3
  refine ⟨_, hstore, hown3, grown_setB _ hb2, ?_⟩
  obtain ⟨es2, clock2, hb4, hwho⟩ := stored_who (R := rowElem (H := H) w base e q) K' ht hb3 F (Nat.lt_of_le_of_lt hs hn) hkey hrun3
  rw [hss, heap_setBlock_same hb2] at hb4
  intro es5 clock5 hb5 y hy g hyg
  rw [heap_setBlock_same hb2] at hb5
  obtain ⟨rfl, rfl⟩ : es' = es5 ∧ clock' = clock5 := by simpa using hb5
  obtain ⟨rfl, rfl⟩ : es' = es2 ∧ clock' = clock2 := by simpa using hb4
  rcases hwho y hy with ⟨hy0, _⟩ | ⟨_, hval⟩
  ·exact hsh es clock hb y hy0 g hyg
  ·exact hno g (hval ▸ hyg)
end
end Go.Proofs.YtcjgjkejhkhknabGreatDoor
