/-
  A leaf of a flash is written; the results of a function that answers a flash and a bool.
-/
import Derived.Test.YthkkefbhcmhijaaFSnoc
import Derived.Test.YthkkefbhcmhijaaPq4
namespace Go.Proofs.Ythkkefbhcmhijaa
open Go.RowKit

theorem results_flash2 {fn : Func} {p q : Tmp} (h : fn.results = #[.cell p 26, .tmp q]) (tmps : Array Value) (w : World) (g : Nat) (v : Value)
    (hp : tmps.getD p undef = .pointer (some ⟨g, 0, none⟩)) (hg : w.heap[g]? = some (.cells #[v] 26 (0, 0))) :
    (results fn tmps).run Try.prog w = .ok (.tuple #[.agg #[v], tmps.getD q undef]) w := by
  have hp' : tmps[p]?.getD undef = .pointer (some ⟨g, 0, none⟩) := by simpa using hp
  have hl := run_loadVar_row (P := Try.prog) w g 26 26 #[v] (0, 0) _ hg Try.underlying26 rfl infoFlash1
  simp [results, h, hp', asAddr, hl]

theorem modify_tell (ss : List Rw) (k : Nat) (r : Rw) (f : Bk → Bk) (h : ss[k]? = some r) (r' : Rw) (hr : tellOf r' = f (tellOf r)) : (ss.set k r').map tellOf = (ss.map tellOf).modify k f := by
  apply List.ext_getElem?
  intro i
  rw [List.getElem?_map, List.getElem?_modify, List.getElem?_map]
  by_cases hi : k = i
  · subst hi
    have := (List.getElem?_eq_some_iff.1 h).1
    rw [List.getElem?_set_self this, h]
    simp [hr]
  · rw [List.getElem?_set_ne hi]
    simp [hi]
theorem leaf_not_flash {w : World} {B gl n m cap : Nat} {xs : List Value} (h : w.ownsRow B 41 2 (.slice (some ⟨gl, 0, none⟩) n cap) m xs) : ∀ i cs, w.heap[i]? = some (.cells cs 26 (0, 0)) → i ≠ gl := by
  intro i cs hi e
  subst e
  rcases h.2 with ⟨h1, -⟩ | ⟨g, cap, cur, h1, -, h2, -⟩
  · cases h1
  · injection h1 with a1
    simp at a1
    subst a1
    rw [hi] at h2
    simp at h2
theorem FlashOf.put {w : World} {B : Nat} {ud : Option Addr} {n ucap : Nat} {bs : List Bk} {k j : Nat} {b : Bk} (h : FlashOf w B (.slice ud n ucap) bs) (hk : bs[k]? = some b) (hj : j < b.2.2.length) :
    ∃ gu gl lcap, ud = some ⟨gu, 0, none⟩ ∧ w.cell? ⟨gu, k * 3 + 2, none⟩ = some (.slice (some ⟨gl, 0, none⟩) b.2.2.length lcap) ∧ (∃ x, w.cell? ⟨gl, j * 2, none⟩ = some x) ∧ (∃ x, w.cell? ⟨gl, j * 2 + 1, none⟩ = some x) ∧
      w.frozen? ⟨gl, j * 2, none⟩ = false ∧ w.frozen? ⟨gl, j * 2 + 1, none⟩ = false ∧ B ≤ gl ∧ B ≤ gu ∧ (∀ i cs, w.heap[i]? = some (.cells cs 26 (0, 0)) → i ≠ gl) ∧
      ∀ (z : Int) (t : ByteArray), FlashOf ((w.setCell ⟨gl, j * 2, none⟩ (.int .i64 z)).setCell ⟨gl, j * 2 + 1, none⟩ (.string t)) B (.slice ud n ucap) (bs.modify k (fun r => (r.1, r.2.1, r.2.2.set j (z, t)))) := by
  obtain ⟨ss, rfl, hs⟩ := h
  rw [List.getElem?_map] at hk
  obtain ⟨r, hr, rfl⟩ := Option.map_eq_some_iff.1 hk
  obtain ⟨ud', ucap', e, -, -, u3⟩ := frow_form hs.1
  injection e with e1 e2 e3
  subst e1 e2 e3
  have hkl := (List.getElem?_eq_some_iff.1 hr).1
  obtain ⟨gu, rfl, hgu, -⟩ := u3 (by omega)
  obtain ⟨x, y, u, ls⟩ := r
  have hlf := hs.2.2.1 _ (List.mem_of_getElem? hr)
  simp only [tellOf] at hj hlf ⊢
  obtain ⟨ld, lcap, rfl, -, -, l3⟩ := frow_form hlf.1
  obtain ⟨gl, rfl, hgl, -⟩ := l3 (by omega)
  obtain ⟨-, -, c3⟩ := kown_cells (k := k) (t := cellOf (x, y, .slice (some ⟨gl, 0, none⟩) ls.length lcap, ls)) hs.1 (by rw [List.getElem?_map, hr]; rfl)
  obtain ⟨t0, ht⟩ : ∃ t0, ls[j]? = some t0 := ⟨ls[j], List.getElem?_eq_getElem hj⟩
  obtain ⟨d1, d2⟩ := lown_cells hlf.1 ht
  refine ⟨gu, gl, lcap, rfl, c3, ⟨_, d1⟩, ⟨_, d2⟩, hlf.1.frozenAt _, hlf.1.frozenAt _, hgl, hgu, leaf_not_flash hlf.1, fun z t => ⟨ss.set k (x, y, .slice (some ⟨gl, 0, none⟩) ls.length lcap, ls.set j (z, t)), modify_tell ss k _ _ hr _ rfl, ?_⟩⟩
  have g1 := grown_cell w gl (j * 2) (.int .i64 z)
  have g2 := grown_cell (w.setCell ⟨gl, j * 2, none⟩ (.int .i64 z)) gl (j * 2 + 1) (.string t)
  have gg : w.grownBy ((w.setCell ⟨gl, j * 2, none⟩ (.int .i64 z)).setCell ⟨gl, j * 2 + 1, none⟩ (.string t)) (some gl) :=
    ⟨g2.os.trans g1.os, g2.tape.trans g1.tape, g2.output.trans g1.output, Nat.le_trans g1.size g2.size, fun i hi hn => (g2.block i (Nat.lt_of_lt_of_le hi g1.size) hn).trans (g1.block i hi hn)⟩
  have o1 := fown_set (fown_set hlf.1 rfl (j * 2) (.int .i64 z)) rfl (j * 2 + 1) (.string t)
  rw [(lcells_upd ls j t0 ht).1 z, (lcells_upd (ls.set j (z, t0.2)) j (z, t0.2) (by rw [List.getElem?_set_self hj])).2 t, List.set_set] at o1
  have := hs.leaves (k := k) (ls' := ls.set j (z, t)) hr gg ⟨by rw [List.length_set]; exact o1, hlf.2⟩
  simpa [World.setCell] using this
theorem put_len {B : Nat} {w : World} {v : Value} {bs : List Bk} (h : FlashOf w B v bs) (n : Nat) (a : Option Addr) (c : Nat) (hv : v = .slice a n c) : bs.length = n := by
  obtain ⟨a', c', e⟩ := h.form
  rw [hv] at e
  injection e with e1 e2 e3
  exact e2.symm
theorem cell_two {w : World} {gl gu i j k : Nat} {u v x : Value} (h : w.cell? ⟨gu, k, none⟩ = some x) (hne : gu ≠ gl) : ((w.setCell ⟨gl, i, none⟩ u).setCell ⟨gl, j, none⟩ v).cell? ⟨gu, k, none⟩ = some x := by
  have hlt := World.block_lt_of_cell? w _ h
  have hn : some gu ≠ some gl := fun e => hne (by injection e)
  have h1 := (grown_cell w gl i u).cell_far ⟨gu, k, none⟩ hlt hn
  have h2 := (grown_cell (w.setCell ⟨gl, i, none⟩ u) gl j v).cell_far ⟨gu, k, none⟩ (by simpa [World.setCell] using hlt) hn
  exact h2.trans (h1.trans h)
end Go.Proofs.Ythkkefbhcmhijaa
