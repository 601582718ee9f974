/-
  What the laws hold: rows of transactions.
-/
import Derived.Test.YtogfdhfmamabiaaTxEq
import Derived.Test.YtogfdhfmamabiaaTxMk2
import Derived.Test.YtogfdhfmamabiaaTxTo
namespace Go.Proofs.Ytogfdhfmamabiaa
open Go.RowKit
open Words

/-- Where the marks of a row of transactions end. -/
def tend : Nat → List (Int × Int × List (Int × Int × Int × Int)) → Nat
  | k, [] => k
  | k, t :: l => tend (k + 2 + t.2.2.length * 4) l
theorem tend_eq : ∀ (l : List (Int × Int × List (Int × Int × Int × Int))) (k : Nat), tend k l = k + 2 * l.length + 4 * (l.map (fun t => t.2.2.length)).sum := by
  intro l
  induction l with
  | nil => intro k; simp [tend]
  | cons t l ih => intro k; rw [tend, ih, List.length_cons, List.map_cons, List.sum_cons]; omega
theorem yend_tend : ∀ (rs : List Xw) (k : Nat), yend k (rs.map yOf) = tend k (rs.map xtell) := by
  intro rs
  induction rs with
  | nil => intro k; rfl
  | cons r rs ih => intro k; simp only [List.map_cons, yend, tend, ih]; rfl
def OkM (M : List (Int × Int × List (Int × Int × Int × Int))) : Prop := M.length ≤ 1048576 ∧ (∀ t ∈ M, t.2.2.length ≤ 1048576) ∧ tend 1 M ≤ 1000000000
theorem mem_sum {α : Type} {l : List α} {f : α → Nat} {x : α} (h : x ∈ l) : f x ≤ (l.map f).sum := by
  induction l with
  | nil => cases h
  | cons q l ih =>
    rw [List.map_cons, List.sum_cons]
    rcases List.mem_cons.1 h with e | e
    · subst e; omega
    · have := ih e; omega
theorem OkM.of {M : List (Int × Int × List (Int × Int × Int × Int))} (h1 : M.length ≤ 1048576) (h2 : (M.map (fun t => t.2.2.length)).sum ≤ 1048576) : OkM M :=
  ⟨h1, fun t ht => Nat.le_trans (mem_sum (f := fun t => t.2.2.length) ht) h2, by rw [tend_eq]; omega⟩
/-- A row that is marked. -/
def MTx (lo hi : Nat) (v : Value) (m : Nat) : World → Prop := fun W => ∃ ys : List Yw, ys.length ≤ 1048576 ∧ (∀ y ∈ ys, y.2.2.2.1 ≤ 1048576) ∧ yend 1 ys = m ∧ YIn lo hi v (ymk 1 ys) W
theorem MTx.loc (lo hi : Nat) (v : Value) (m : Nat) : Loc lo hi (MTx lo hi v m) := by
  rintro w w' hk ⟨ys, h1, h2, h3, h4⟩
  exact ⟨ys, h1, h2, h3, YIn.loc _ _ _ _ w w' hk h4⟩
theorem tx_of_tu (M : List (Int × Int × List (Int × Int × Int × Int))) : ∃ L : List TxR, L.map TxR.tu = M :=
  ⟨M.map (fun t => ⟨t.1, t.2.1, t.2.2.map (fun x => ⟨x.1, x.2.1, x.2.2.1, x.2.2.2⟩)⟩), by
    rw [List.map_map]
    refine (List.map_congr_left (fun t _ => ?_)).trans (List.map_id _)
    show (t.1, t.2.1, (t.2.2.map (fun x => (⟨x.1, x.2.1, x.2.2.1, x.2.2.2⟩ : Rc))).map Rc.tu) = t
    rw [List.map_map]
    have : t.2.2.map (Rc.tu ∘ fun x => (⟨x.1, x.2.1, x.2.2.1, x.2.2.2⟩ : Rc)) = t.2.2 := (List.map_congr_left (fun x _ => rfl)).trans (List.map_id _)
    rw [this]⟩
theorem txout_tk {f : Nat} {args : Array Value} {w wi : World} {hs : List Hold} {L : List TxR} {M : List (Int × Int × List (Int × Int × Int × Int))} {n : Nat} (C : Calls Try.prog f args wi (TxOut wi L)) (T : Tk w wi hs) (hM : L.map TxR.tu = M) (hn : M.length = n) :
    Calls Try.prog f args wi fun e w' => ∃ ad c, e = .returned (.slice ad n c) ∧ Tk w w' ((wi.heap.size, w'.heap.size, Txs wi.heap.size w'.heap.size (.slice ad n c) M) :: hs) ∧ wi.heap.size ≤ w'.heap.size := by
  refine C.mono ?_
  rintro e w' ⟨uv, rs, rfl, hx, ht, hb⟩
  have hl : rs.length = n := by have := congrArg List.length ht; simp only [List.length_map] at this; rw [this, ← hn, ← hM, List.length_map]
  obtain ⟨ad, c, rfl⟩ := hx.form
  rw [hl] at hx ⊢
  exact ⟨ad, c, rfl, T.add hb (Txs.loc _ _ _ _) ⟨rs, by rw [ht, hM], hx.txs⟩, hb.size⟩
theorem totx_tk {w wi : World} {hs : List Hold} {a : Option Addr} {len cap : Nat} {rs : List Xw} {M : List (Int × Int × List (Int × Int × Int × Int))} (T : Tk w wi hs) (H : TxRd w a len rs) (hl : len ≤ 1048576) (hll : ∀ r ∈ rs, r.2.2.2.length ≤ 1048576) (hM : rs.map xtell = M) :
    Calls Try.prog 17 #[.slice a len cap] wi fun e w' => ∃ g : Nat, e = .returned (.slice (some ⟨g, 0, none⟩) len len) ∧ Tk w w' ((wi.heap.size, w'.heap.size, Txs wi.heap.size w'.heap.size (.slice (some ⟨g, 0, none⟩) len len) M) :: hs) ∧ wi.heap.size ≤ w'.heap.size := by
  refine (toTxs_any a len cap rs wi hl hll (H.below T.1)).mono ?_
  rintro e w' ⟨g, ss, rfl, hx, ht, hb⟩
  exact ⟨g, rfl, T.add hb (Txs.loc _ _ _ _) ⟨ss, by rw [ht, hM], hx.txs⟩, hb.size⟩
theorem eqtx_tk {w wi : World} {hs : List Hold} {a b : Value} {M : List (Int × Int × List (Int × Int × Int × Int))} {l1 h1 l2 h2 : Nat} (T : Tk w wi hs) (n1 n2 : Nat) (ho : OkM M) (e1 : hs[n1]? = some (l1, h1, Txs l1 h1 a M)) (e2 : hs[n2]? = some (l2, h2, Txs l2 h2 b M)) :
    Calls Try.prog 18 #[a, b] wi fun e w' => e = .returned (.bool true) ∧ Tk w w' hs ∧ wi.heap.size ≤ w'.heap.size := by
  obtain ⟨rs, hr, hx⟩ := T.get n1 e1
  obtain ⟨ss, hs', hy⟩ := T.get n2 e2
  have hlr : rs.length ≤ 1048576 := by have := congrArg List.length hr; simp only [List.length_map] at this; rw [this]; exact ho.1
  have hll : ∀ r ∈ rs, r.2.2.2.length ≤ 1048576 := by
    intro r hr2
    have := ho.2.1 (xtell r) (by rw [← hr]; exact List.mem_map.2 ⟨r, hr2, rfl⟩)
    exact this
  refine (eqTxs_same a b rs ss l1 h1 l2 h2 wi (by omega) (fun r hr => by have := hll r hr; omega) hx hy (by rw [hr, hs'])).mono ?_
  rintro e w' ⟨rfl, hb⟩
  exact ⟨rfl, T.below hb, hb.size⟩
theorem marktx_tk {w wi : World} {hs hs' : List Hold} {a : Value} {M : List (Int × Int × List (Int × Int × Int × Int))} {m l1 h1 : Nat} (T : Tk w wi hs) (n1 : Nat) (ho : OkM M) (hm : tend 1 M = m) (hlo : w.heap.size ≤ l1) (e1 : hs[n1]? = some (l1, h1, Txs l1 h1 a M)) (hh : ∀ x ∈ hs', x ∈ hs ∧ (x.2.1 ≤ l1 ∨ h1 ≤ x.1)) :
    Calls Try.prog 19 #[a, .int .i64 1] wi fun e w' => e = .returned (.int .i64 (m : Int)) ∧ Tk w w' ((l1, h1, MTx l1 h1 a m) :: hs') ∧ wi.heap.size ≤ w'.heap.size := by
  obtain ⟨rs, hr, hx⟩ := T.get n1 e1
  have hlr : (rs.map yOf).length ≤ 1048576 := by have := congrArg List.length hr; simp only [List.length_map] at this ⊢; rw [this]; exact ho.1
  have hll : ∀ y ∈ rs.map yOf, y.2.2.2.1 ≤ 1048576 ∧ y.2.2.2.2.length = y.2.2.2.1 * 4 := by
    intro y hy
    obtain ⟨r, hr2, rfl⟩ := List.mem_map.1 hy
    have := ho.2.1 (xtell r) (by rw [← hr]; exact List.mem_map.2 ⟨r, hr2, rfl⟩)
    exact ⟨this, rccells_len _⟩
  have he : yend 1 (rs.map yOf) = m := by rw [yend_tend, hr, hm]
  refine (markTxs_any l1 h1 a (rs.map yOf) wi hlr hll (by rw [he, ← hm]; exact ho.2.2) (T.hi n1 e1) hx.y).mono ?_
  rintro e w' ⟨rfl, hy, hk⟩
  rw [he]
  exact ⟨rfl, T.touch hk.out hlo (T.hi n1 e1) (MTx.loc _ _ _ _) ⟨rs.map yOf, hlr, fun y hy => (hll y hy).1, he, hy.out⟩ hh, hk.out.2.2.2.1⟩
theorem marktx_sp {w wi : World} {hs hs' : List Hold} {a : Value} {M : List (Int × Int × List (Int × Int × Int × Int))} {m l1 h1 : Nat} (T : Tk w wi hs) (n1 : Nat) (ho : OkM M) (hm : tend 1 M = m) (hlo : w.heap.size ≤ l1) (e1 : hs[n1]? = some (l1, h1, Txs l1 h1 a M)) (hh : ∀ x ∈ hs', x ∈ hs ∧ (x.2.1 ≤ l1 ∨ h1 ≤ x.1)) :
    Calls Try.prog 19 #[a, .int .i64 1] wi fun e w' => e = .returned (.int .i64 (m : Int)) ∧ Tk w w' hs' ∧ wi.heap.size ≤ w'.heap.size := by
  refine (marktx_tk T n1 ho hm hlo e1 hh).mono ?_
  rintro e w' ⟨rfl, h2, h3⟩
  exact ⟨rfl, h2.drop (fun x hx => List.mem_cons_of_mem _ hx), h3⟩
theorem heldtx_tk {w wi : World} {hs : List Hold} {a : Value} {m l1 h1 : Nat} (T : Tk w wi hs) (n1 : Nat) (hm : m ≤ 1000000000) (e1 : hs[n1]? = some (l1, h1, MTx l1 h1 a m)) :
    Calls Try.prog 20 #[a, .int .i64 1] wi fun e w' => e = .returned (.int .i64 (m : Int)) ∧ Tk w w' hs ∧ wi.heap.size ≤ w'.heap.size := by
  obtain ⟨ys, h2, h3, h4, h5⟩ := T.get n1 e1
  refine (heldTxs_any l1 h1 a ys wi h2 h3 (by omega) (T.hi n1 e1) h5).mono ?_
  rintro e w' ⟨rfl, hb⟩
  rw [h4]
  exact ⟨rfl, T.below hb, hb.size⟩
end Go.Proofs.Ytogfdhfmamabiaa
