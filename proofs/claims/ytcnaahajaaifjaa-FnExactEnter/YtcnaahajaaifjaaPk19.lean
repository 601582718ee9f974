/-
  ToStoT; TkIs; EqRc; MkRc; StoTk2; GsM; SnewS; SEnv
-/
import Derived.Test.YtcnaahajaaifjaaPk18
import Derived.Test.YtcnaahajaaifjaaPk2
import Derived.Test.YtcnaahajaaifjaaKnMk
import Derived.Test.YtcnaahajaaifjaaPk14
import Derived.Test.YtcnaahajaaifjaaPk1
import Derived.Deep.RegionHeld3
import Derived.Deep.DeepCutAuto
import Derived.Test.YtcnaahajaaifjaaPk16
/-
  toStore, held.
-/
namespace Go.Proofs.Ytcnaahajaaifjaa
open Go.RowKit
open Words

theorem tosto_tk {w wi : World} {hs : List Hold} {va : Option Addr} {vl vc : Nat} {ad : Option Addr} {len cap : Nat} {nx : Int} {vs : List (Int × Int)} {rs : List Kw} {s : Sto} (T : Tk w wi hs) (H : VlRow w va vl vs) (K : KnRd w ad len rs) (hvl : vl ≤ 1048576) (hl : len ≤ 1048576) (hll : ∀ r ∈ rs, r.2.2.length ≤ 1048576) (hM : s = ⟨vs, rs.map ktell, nx⟩) :
    Calls Try.prog 29 #[.agg #[.slice va vl vc, .slice ad len cap, .int .i64 nx]] wi fun e w' => ∃ g1 g2 : Nat, e = .returned (.agg #[.slice (some ⟨g1, 0, none⟩) vl vl, .slice (some ⟨g2, 0, none⟩) len len, .int .i64 nx]) ∧ Tk w w' ((wi.heap.size, w'.heap.size, Sts wi.heap.size w'.heap.size (.agg #[.slice (some ⟨g1, 0, none⟩) vl vl, .slice (some ⟨g2, 0, none⟩) len len, .int .i64 nx]) s) :: hs) ∧ wi.heap.size ≤ w'.heap.size := by
  refine (toSto_any va vl vc ad len cap nx vs rs wi hvl hl hll (H.below T.1) (K.below T.1)).mono ?_
  rintro e w' ⟨g1, g2, rfl, h⟩
  subst hM
  exact ⟨g1, g2, rfl, T.add h.blw (Sts.loc _ _ _ _) h.sts, h.blw.size⟩
end Go.Proofs.Ytcnaahajaaifjaa

/-
  What the laws hold: rows of numbers.
-/
namespace Go.Proofs.Ytcnaahajaaifjaa
open Go.RowKit
open Words

/-- A row of numbers in the blocks lo to hi. -/
def IsH (lo hi : Nat) (v : Value) (n : Nat) (l : List Int) : World → Prop := Sli 3 lo hi v n (icells l)
theorem IsH.loc (lo hi : Nat) (v : Value) (n : Nat) (l : List Int) : Loc lo hi (IsH lo hi v n l) := Sli.loc _ _ _ _ _ _
/-- The same, marked. -/
def IsM (lo hi : Nat) (v : Value) (n : Nat) : World → Prop := Sli 3 lo hi v n (mkFlat patI 1 n)
theorem IsM.loc (lo hi : Nat) (v : Value) (n : Nat) : Loc lo hi (IsM lo hi v n) := Sli.loc _ _ _ _ _ _
theorem eqis_tk {w wi : World} {hs : List Hold} {a b : Value} {l : List Int} {n l1 h1 l2 h2 : Nat} (T : Tk w wi hs) (n1 n2 : Nat) (hn : l.length = n) (hm : n ≤ 1048576) (e1 : hs[n1]? = some (l1, h1, IsH l1 h1 a n l)) (e2 : hs[n2]? = some (l2, h2, IsH l2 h2 b n l)) :
    Calls Try.prog 154 #[a, b] wi fun e w' => e = .returned (.bool true) ∧ Tk w w' hs ∧ wi.heap.size ≤ w'.heap.size := by
  refine (eqIs_same a b l n l1 h1 l2 h2 wi hn (by omega) (T.get n1 e1) (T.get n2 e2)).mono ?_
  rintro e w' ⟨rfl, hb⟩
  exact ⟨rfl, T.below hb, hb.size⟩
theorem markis_tk {w wi : World} {hs hs' : List Hold} {a : Value} {l : List Int} {n m l1 h1 : Nat} (T : Tk w wi hs) (n1 : Nat) (hn : l.length = n) (hn2 : n ≤ 1048576) (hm : 1 + n = m) (hlo : w.heap.size ≤ l1) (e1 : hs[n1]? = some (l1, h1, IsH l1 h1 a n l)) (hh : ∀ x ∈ hs', x ∈ hs ∧ (x.2.1 ≤ l1 ∨ h1 ≤ x.1)) :
    Calls Try.prog 137 #[a, .int .i64 1] wi fun e w' => e = .returned (.int .i64 (m : Int)) ∧ Tk w w' ((l1, h1, IsM l1 h1 a n) :: hs') ∧ wi.heap.size ≤ w'.heap.size := by
  have hx : Sli 3 l1 h1 a n (icells l) wi := T.get n1 e1
  refine (markIs_any l1 h1 a n 1 (icells l) wi (by omega) (by simp [icells, hn]) (by omega) (by omega) hx).mono ?_
  rintro e w' ⟨rfl, hs2, hk⟩
  rw [hm]
  have hk2 : Kept2 wi w' (Apt l1 h1) := ⟨hk.out.1, hk.out.2.1, hk.out.2.2.1, hk.out.2.2.2.1, fun i hi ho => hk.out.2.2.2.2 i hi (fun e => by
    have := hx.lt i e
    exact ho ⟨this.1, this.2.1⟩)⟩
  exact ⟨rfl, T.touch hk2 hlo (T.hi n1 e1) (IsM.loc _ _ _ _) hs2.out hh, hk.out.2.2.2.1⟩
theorem markis_sp {w wi : World} {hs hs' : List Hold} {a : Value} {l : List Int} {n m l1 h1 : Nat} (T : Tk w wi hs) (n1 : Nat) (hn : l.length = n) (hn2 : n ≤ 1048576) (hm : 1 + n = m) (hlo : w.heap.size ≤ l1) (e1 : hs[n1]? = some (l1, h1, IsH l1 h1 a n l)) (hh : ∀ x ∈ hs', x ∈ hs ∧ (x.2.1 ≤ l1 ∨ h1 ≤ x.1)) :
    Calls Try.prog 137 #[a, .int .i64 1] wi fun e w' => e = .returned (.int .i64 (m : Int)) ∧ Tk w w' hs' ∧ wi.heap.size ≤ w'.heap.size := by
  refine (markis_tk T n1 hn hn2 hm hlo e1 hh).mono ?_
  rintro e w' ⟨rfl, h2, h3⟩
  exact ⟨rfl, h2.drop (fun x hx => List.mem_cons_of_mem _ hx), h3⟩
theorem heldis_tk {w wi : World} {hs : List Hold} {a : Value} {n m l1 h1 : Nat} (T : Tk w wi hs) (n1 : Nat) (hn2 : n ≤ 1048576) (hm : 1 + n = m) (e1 : hs[n1]? = some (l1, h1, IsM l1 h1 a n)) :
    Calls Try.prog 138 #[a, .int .i64 1] wi fun e w' => e = .returned (.int .i64 (m : Int)) ∧ Tk w w' hs ∧ wi.heap.size ≤ w'.heap.size := by
  refine (heldIs_any l1 h1 a n 1 wi (by omega) (by omega) (by omega) (T.get n1 e1)).mono ?_
  rintro e w' ⟨rfl, hb⟩
  rw [hm]
  exact ⟨rfl, T.below hb, hb.size⟩
end Go.Proofs.Ytcnaahajaaifjaa

/-
  The laws' own toRec, eqRec and eqRecS.
-/
namespace Go.Proofs.Ytcnaahajaaifjaa
open Go.RowKit

set_option maxHeartbeats 400000 in
set_option maxRecDepth 100000 in
theorem toRc_any (x0 : Int) (x1 : Int) (x2 : Int) (x3 : Int) (w : World) :
    Calls Try.prog 30 #[.agg #[.int .i64 x0, .int .i64 x1, .int .i64 x2, .int .i64 x3]] w fun e w' => e = .returned (.agg #[.int .i64 x0, .int .i64 x1, .int .i64 x2, .int .i64 x3]) ∧ Below w.heap.size w w' := by
  go_enter Try.func30, Try.ntmps30
  go_wp2
  have h1 := heap_alloc_new (w.alloc (.cells #[.int .i64 x0, .int .i64 x1, .int .i64 x2, .int .i64 x3] 57)) (.cells #[.int .i64 x0, .int .i64 x1, .int .i64 x2, .int .i64 x3] 31)
  have hs : (w.alloc (.cells #[.int .i64 x0, .int .i64 x1, .int .i64 x2, .int .i64 x3] 57)).heap.size = w.heap.size + 1 := by simp
  rw [hs] at h1
  have h2 := (Below.heap_alloc ((w.alloc (.cells #[.int .i64 x0, .int .i64 x1, .int .i64 x2, .int .i64 x3] 57)).alloc (.cells #[.int .i64 x0, .int .i64 x1, .int .i64 x2, .int .i64 x3] 31)) (.cells #[.int .i64 x0, .int .i64 x1, .int .i64 x2, .int .i64 x3] 31) (w.heap.size + 1) (by simp)).trans h1
  exact bodyPost_ret (results_cell_row rfl _ _ (w.heap.size + 1) 31 _ (0, 0) _ rfl h2 Try.underlying31 rfl infoRcz) rfl ⟨rfl, (((Below.refl _ _).alloc (Nat.le_refl _) _).alloc (by simp) _).alloc (by simp; omega) _⟩
end Go.Proofs.Ytcnaahajaaifjaa

/-
  Rows of records: marked.
-/
namespace Go.Proofs.Ytcnaahajaaifjaa
open Go.RowKit

/-- What the cells of one element are: numbers, and texts. -/
def patRc : List Bool := [false, false, false, false]
end Go.Proofs.Ytcnaahajaaifjaa

/-
  What the laws hold: rows of numbers and of records, great ones too.
-/
namespace Go.Proofs.Ytcnaahajaaifjaa
open Go.RowKit
open Words

theorem eqiw_tk {w wi : World} {hs : List Hold} {a b : Value} {l : List Int} {n l1 h1 l2 h2 : Nat} (T : Tk w wi hs) (n1 n2 : Nat) (hn : l.length = n) (hm : n ≤ 100000000) (e1 : hs[n1]? = some (l1, h1, IsH l1 h1 a n l)) (e2 : hs[n2]? = some (l2, h2, IsH l2 h2 b n l)) :
    Calls Try.prog 154 #[a, b] wi fun e w' => e = .returned (.bool true) ∧ Tk w w' hs ∧ wi.heap.size ≤ w'.heap.size := by
  refine (eqIs_same a b l n l1 h1 l2 h2 wi hn (by omega) (T.get n1 e1) (T.get n2 e2)).mono ?_
  rintro e w' ⟨rfl, hb⟩
  exact ⟨rfl, T.below hb, hb.size⟩
theorem markiw_tk {w wi : World} {hs hs' : List Hold} {a : Value} {l : List Int} {n m l1 h1 : Nat} (T : Tk w wi hs) (n1 : Nat) (hn : l.length = n) (hn2 : n ≤ 100000000) (hm : 1 + n = m) (hlo : w.heap.size ≤ l1) (e1 : hs[n1]? = some (l1, h1, IsH l1 h1 a n l)) (hh : ∀ x ∈ hs', x ∈ hs ∧ (x.2.1 ≤ l1 ∨ h1 ≤ x.1)) :
    Calls Try.prog 137 #[a, .int .i64 1] wi fun e w' => e = .returned (.int .i64 (m : Int)) ∧ Tk w w' ((l1, h1, IsM l1 h1 a n) :: hs') ∧ wi.heap.size ≤ w'.heap.size := by
  have hx : Sli 3 l1 h1 a n (icells l) wi := T.get n1 e1
  refine (markIs_any l1 h1 a n 1 (icells l) wi (by omega) (by simp [icells, hn]) (by omega) (by omega) hx).mono ?_
  rintro e w' ⟨rfl, hs2, hk⟩
  rw [hm]
  have hk2 : Kept2 wi w' (Apt l1 h1) := ⟨hk.out.1, hk.out.2.1, hk.out.2.2.1, hk.out.2.2.2.1, fun i hi ho => hk.out.2.2.2.2 i hi (fun e => by
    have := hx.lt i e
    exact ho ⟨this.1, this.2.1⟩)⟩
  exact ⟨rfl, T.touch hk2 hlo (T.hi n1 e1) (IsM.loc _ _ _ _) hs2.out hh, hk.out.2.2.2.1⟩
theorem heldiw_tk {w wi : World} {hs : List Hold} {a : Value} {n m l1 h1 : Nat} (T : Tk w wi hs) (n1 : Nat) (hn2 : n ≤ 100000000) (hm : 1 + n = m) (e1 : hs[n1]? = some (l1, h1, IsM l1 h1 a n)) :
    Calls Try.prog 138 #[a, .int .i64 1] wi fun e w' => e = .returned (.int .i64 (m : Int)) ∧ Tk w w' hs ∧ wi.heap.size ≤ w'.heap.size := by
  refine (heldIs_any l1 h1 a n 1 wi (by omega) (by omega) (by omega) (T.get n1 e1)).mono ?_
  rintro e w' ⟨rfl, hb⟩
  rw [hm]
  exact ⟨rfl, T.below hb, hb.size⟩
/-- A row of records in the blocks lo to hi; marked. -/
def RcH (lo hi : Nat) (v : Value) (n : Nat) (l : List Rc) : World → Prop := Sli 31 lo hi v n (rccells (l.map Rc.tu))
theorem RcH.loc (lo hi : Nat) (v : Value) (n : Nat) (l : List Rc) : Loc lo hi (RcH lo hi v n l) := Sli.loc _ _ _ _ _ _
def RcM (lo hi : Nat) (v : Value) (n : Nat) : World → Prop := Sli 31 lo hi v n (mkFlat patRc 1 n)
theorem RcM.loc (lo hi : Nat) (v : Value) (n : Nat) : Loc lo hi (RcM lo hi v n) := Sli.loc _ _ _ _ _ _
end Go.Proofs.Ytcnaahajaaifjaa

/-
  A call that answers a store into a cell of its own, whichever came first.
-/
namespace Go.Proofs.Ytcnaahajaaifjaa
open Go.RowKit
open Words

theorem vcap_le {a : Option Addr} {n c : Nat} {k x : Value} (h : VCap (.agg #[.slice a n c, k, x])) : n ≤ c := by
  obtain ⟨a', n', c', k', x', e, hh⟩ := h
  injection e with e
  injection e with e
  simp only [List.cons.injEq, and_true] at e
  obtain ⟨e, -⟩ := e
  injection e with e1 e2 e3
  omega
theorem bel_tr {w w1 w2 : World} {B : Nat} (h : Below B w w1) (hB : B ≤ w1.heap.size) (b : Below w1.heap.size w1 w2) : Below B w w2 := h.trans (b.mono hB)
theorem bel3 {w W : World} {B c : Nat} (h : Below B w W) (hc : B ≤ c) (a b d : Value) : Below B w (((W.setCell ⟨c, 0, none⟩ a).setCell ⟨c, 1, none⟩ b).setCell ⟨c, 2, none⟩ d) := ((h.setCell (p := ⟨c, 0, none⟩) hc a).setCell (p := ⟨c, 1, none⟩) hc b).setCell (p := ⟨c, 2, none⟩) hc d
/-- The cell, the store, and all that was held before. -/
def Gs (w wr : World) (hs : List Hold) (s0 c : Nat) (a b : Value) (R : Sto) : Prop := ∃ lo hi, s0 ≤ lo ∧ s0 ≤ c ∧ (c + 1 ≤ lo ∨ hi ≤ c) ∧ Tk w wr ((c, c + 1, Cel c #[a, b, .int .i64 R.next] 29) :: (lo, hi, Sts lo hi (.agg #[a, b, .int .i64 R.next]) R) :: hs)
theorem Gs.late {w wS W w3 : World} {hs : List Hold} {a b : Value} {R : Sto} (T : Tk w wS hs) (hb : Below wS.heap.size wS w3) (f : StOut W R (.agg #[a, b, .int .i64 R.next]) w3) (h : wS.heap.size ≤ W.heap.size) : Gs w (w3.alloc (.cells #[a, b, .int .i64 R.next] 29)) hs wS.heap.size w3.heap.size a b R := by
  have T1 := (T.below hb).put (Nat.le_refl _) (Sts.loc W.heap.size w3.heap.size (.agg #[a, b, .int .i64 R.next]) R) f.sts
  exact ⟨W.heap.size, w3.heap.size, h, hb.size, Or.inr (Nat.le_refl _), T1.celln rfl _ _⟩
theorem Gs.early {w wS W w3 : World} {hs : List Hold} {c : Nat} {a b z0 z1 z2 : Value} {R : Sto} (T : Tk w wS hs) (hb : Below wS.heap.size wS w3) (f : StOut W R (.agg #[a, b, .int .i64 R.next]) w3) (hc : w3.heap[c]? = some (.cells #[z0, z1, z2] 29 (0, 0))) (h0 : wS.heap.size ≤ c) (h1 : c < W.heap.size) :
    Gs w (((w3.setCell ⟨c, 0, none⟩ a).setCell ⟨c, 1, none⟩ b).setCell ⟨c, 2, none⟩ (.int .i64 R.next)) hs wS.heap.size c a b R := by
  have hlt := (Array.getElem?_eq_some_iff.1 hc).1
  have hz := T.1.size
  have hq : ∀ q, q ≠ c → (((w3.setCell ⟨c, 0, none⟩ a).setCell ⟨c, 1, none⟩ b).setCell ⟨c, 2, none⟩ (.int .i64 R.next)).heap[q]? = w3.heap[q]? := fun q q1 => (Below.heap_setCell _ _ _ _ q1).trans ((Below.heap_setCell _ _ _ _ q1).trans (Below.heap_setCell _ _ _ _ q1))
  have T1 := (T.below hb).put (Nat.le_refl _) (Sts.loc W.heap.size w3.heap.size (.agg #[a, b, .int .i64 R.next]) R) f.sts
  refine ⟨W.heap.size, w3.heap.size, by omega, h0, Or.inl h1, T1.touch (lo := c) (hi := c + 1) ⟨rfl, rfl, rfl, by simp [World.setCell], fun i _ hi => hq i (fun e => hi (by omega))⟩ (by omega) hlt (Cel.loc _ _ _) (sto_row3 hc) (fun x hx => ?_)⟩
  rcases List.mem_cons.1 hx with rfl | hx
  · exact ⟨List.mem_of_getElem? (i := 0) rfl, Or.inr h1⟩
  · exact ⟨List.mem_cons_of_mem _ hx, Or.inl (Nat.le_trans (T.2 x hx).1 h0)⟩
end Go.Proofs.Ytcnaahajaaifjaa

/-
  spec.StoreNew.
-/
namespace Go.Proofs.Ytcnaahajaaifjaa
open Go.RowKit
open Words

set_option maxHeartbeats 400000 in
set_option maxRecDepth 100000 in
theorem snewS : NewC 78 := by
  intro w
  have FIN : Hid (StOut w stoNew (.agg #[.slice none 0 0, .slice none 0 0, .int .i64 1]) (w.alloc (.cells #[.slice none 0 0, .slice none 0 0, .int .i64 1] 29))) := by
    have hb : Below w.heap.size w (w.alloc (.cells #[.slice none 0 0, .slice none 0 0, .int .i64 1] 29)) := (Below.refl _ _).alloc (Nat.le_refl _) _
    have hz := hb.size
    refine ⟨_, _, w.heap.size, w.heap.size, w.heap.size, w.heap.size, rfl, .inl ⟨rfl, rfl⟩, ⟨[], rfl, .inl ⟨rfl, rfl⟩, (fun _ h => by cases h), List.Pairwise.nil, by show (0 : Nat) ≤ _; omega⟩, Nat.le_refl _, hz, Nat.le_refl _, hz, .inl (Nat.le_refl _), hb⟩
  have R := hide (heap_alloc_new w (.cells #[.slice none 0 0, .slice none 0 0, .int .i64 1] 29))
  go_enter Try.func78, Try.ntmps78
  go_wp2
  exact bodyPost_ret (results_cell_row rfl _ _ w.heap.size 29 _ (0, 0) _ rfl R.out Try.underlying29 rfl infoSto) rfl ⟨_, rfl, FIN.out⟩
end Go.Proofs.Ytcnaahajaaifjaa

/-
  A store and a record as arguments, a store as the answer's cell: what stays while a call goes on.
-/
namespace Go.Proofs.Ytcnaahajaaifjaa
open Go.RowKit
open Words

def EnvS (w w0 : World) (z : Nat) (a b c : Value) (r : Rc) : Prop :=
  w.heap.size = z ∧ Below w.heap.size w w0 ∧ w0.heap[z]? = some (.cells #[a, b, c] 29 (0, 0)) ∧ w0.heap[z + 1]? = some (.cells #[.int .i64 r.kind, .int .i64 r.vol, .int .i64 r.arg, .int .i64 r.chunk] 31 (0, 0)) ∧ w0.heap[z + 1 + 1]? = some (.cells #[.slice none 0 0, .slice none 0 0, .int .i64 0] 29 (0, 0))
theorem EnvS.lt {w w0 : World} {z : Nat} {a b c : Value} {r : Rc} (h : EnvS w w0 z a b c r) : z + 1 + 1 < w0.heap.size := (Array.getElem?_eq_some_iff.1 h.2.2.2.2).1
theorem EnvS.on {w w0 W : World} {z : Nat} {a b c : Value} {r : Rc} (h : EnvS w w0 z a b c r) (H : Below w0.heap.size w0 W) : EnvS w W z a b c r := by
  have := h.lt
  obtain ⟨h1, h2, h3, h4, h5⟩ := h
  exact ⟨h1, h2.trans (H.mono h2.size), (H.block z (by omega)).trans h3, (H.block (z + 1) (by omega)).trans h4, (H.block (z + 1 + 1) this).trans h5⟩
theorem EnvS.sc {w W : World} {z : Nat} {a b c : Value} {r : Rc} (h : EnvS w W z a b c r) : W.cell? ⟨z, 0, none⟩ = some a ∧ W.cell? ⟨z, 1, none⟩ = some b ∧ W.cell? ⟨z, 2, none⟩ = some c :=
  ⟨cell_of_row _ _ 0 _ _ _ h.2.2.1, cell_of_row _ _ 1 _ _ _ h.2.2.1, cell_of_row _ _ 2 _ _ _ h.2.2.1⟩
theorem EnvS.rc {w W : World} {z : Nat} {a b c : Value} {r : Rc} (h : EnvS w W z a b c r) : W.cell? ⟨z + 1, 0, none⟩ = some (.int .i64 r.kind) ∧ W.cell? ⟨z + 1, 1, none⟩ = some (.int .i64 r.vol) ∧ W.cell? ⟨z + 1, 2, none⟩ = some (.int .i64 r.arg) ∧ W.cell? ⟨z + 1, 3, none⟩ = some (.int .i64 r.chunk) :=
  ⟨cell_of_row _ _ 0 _ _ _ h.2.2.2.1, cell_of_row _ _ 1 _ _ _ h.2.2.2.1, cell_of_row _ _ 2 _ _ _ h.2.2.2.1, cell_of_row _ _ 3 _ _ _ h.2.2.2.1⟩
theorem EnvS.rf {w W : World} {z : Nat} {a b c : Value} {r : Rc} (h : EnvS w W z a b c r) : W.cell? ⟨z + 1 + 1, 0, none⟩ = some (.slice none 0 0) ∧ W.cell? ⟨z + 1 + 1, 1, none⟩ = some (.slice none 0 0) ∧ W.cell? ⟨z + 1 + 1, 2, none⟩ = some (.int .i64 0) ∧ W.frozen? ⟨z + 1 + 1, 0, none⟩ = false ∧ W.frozen? ⟨z + 1 + 1, 1, none⟩ = false ∧ W.frozen? ⟨z + 1 + 1, 2, none⟩ = false :=
  ⟨cell_of_row _ _ 0 _ _ _ h.2.2.2.2, cell_of_row _ _ 1 _ _ _ h.2.2.2.2, cell_of_row _ _ 2 _ _ _ h.2.2.2.2, frozen_of_row _ _ 0 _ _ h.2.2.2.2, frozen_of_row _ _ 1 _ _ h.2.2.2.2, frozen_of_row _ _ 2 _ _ h.2.2.2.2⟩
/-- What an answer of a store and a yes or no is, its row of volumes with room for them. -/
def EnOut2 (w : World) (p : Sto × Bool) (e : Ending) (w' : World) : Prop := ∃ u, e = .returned (.tuple #[u, .bool p.2]) ∧ StOut w p.1 u w' ∧ VCap u
theorem EnOut2.out {w w' : World} {p : Sto × Bool} {e : Ending} (h : EnOut2 w p e w') : EnOut w p e w' := by
  obtain ⟨u, h1, h2, -⟩ := h
  exact ⟨u, h1, h2⟩
/-- A store that is answered by way of the answer's cells. -/
theorem EnvS.fin {w W w' : World} {z : Nat} {a b c u : Value} {r : Rc} {s : Sto} {p : Sto × Bool} {ok : Bool} (h : EnvS w W z a b c r) (he : p = (s, ok)) (hu : StOut W s u w') (hc : VCap u) : ∃ ua ul uc ub um ud, u = .agg #[.slice ua ul uc, .slice ub um ud, .int .i64 s.next] ∧ EnvS w w' z a b c r ∧ (((w'.setCell ⟨z + 1 + 1, 0, none⟩ (.slice ua ul uc)).setCell ⟨z + 1 + 1, 1, none⟩ (.slice ub um ud)).setCell ⟨z + 1 + 1, 2, none⟩ (.int .i64 s.next)).heap[z + 1 + 1]? = some (.cells #[.slice ua ul uc, .slice ub um ud, .int .i64 s.next] 29 (0, 0)) ∧ EnOut2 w p (.returned (.tuple #[.agg #[.slice ua ul uc, .slice ub um ud, .int .i64 s.next], .bool ok])) (((w'.setCell ⟨z + 1 + 1, 0, none⟩ (.slice ua ul uc)).setCell ⟨z + 1 + 1, 1, none⟩ (.slice ub um ud)).setCell ⟨z + 1 + 1, 2, none⟩ (.int .i64 s.next)) := by
  obtain ⟨ua, ul, uc, ub, um, ud, rfl⟩ := hu.form
  have h2 := h.on hu.blw
  refine ⟨ua, ul, uc, ub, um, ud, rfl, h2, sto_row3 h2.2.2.2.2, ?_⟩
  rw [he]
  have h3 := h.lt
  have h4 := h.1
  exact ⟨_, rfl, hu.set3 (w0 := w) h.2.1 (g := z + 1 + 1) h3 (by omega), hc⟩
/-- A store in a cell and a yes or no, answered. -/
theorem res_st2 {fn : Func} {p q : Tmp} (h : fn.results = #[.cell p 29, .tmp q]) (tmps : Array Value) (w : World) (g : Nat) (a b c : Value)
    (hp : tmps.getD p undef = .pointer (some ⟨g, 0, none⟩)) (hg : w.heap[g]? = some (.cells #[a, b, c] 29 (0, 0))) :
    (results fn tmps).run Try.prog w = .ok (.tuple #[.agg #[a, b, c], tmps.getD q undef]) w := by
  have hp' : tmps[p]?.getD undef = .pointer (some ⟨g, 0, none⟩) := by simpa using hp
  have hl := run_loadVar_row (P := Try.prog) w g 29 29 #[a, b, c] (0, 0) _ hg Try.underlying29 rfl infoSto
  simp [results, h, hp', asAddr, hl]
theorem scopy_in {v : Value} {s : Sto} {w : World} (h : StIn w v s) : Calls Try.prog 47 #[v] w fun e w' => ∃ u, e = .returned u ∧ StOut w s u w' ∧ VCap u := by
  obtain ⟨va, vl, vc, ad, len, cap, rs, rfl, hks, hvl, hl, hll, hvc, h, hk⟩ := h
  have := scopyS va vl vc ad len cap s.next s.vols rs w hvl (by omega) hll hvc h hk
  rw [← hks] at this
  exact this
theorem vfilter_take {l : List (Int × Int)} {k : Nat} {v : Int × Int} {f : Int × Int → Bool} (h : l[k]? = some v) : (l.take (k + 1)).filter f = (l.take k).filter f ++ (if f v = true then [v] else []) := by
  rw [List.take_add_one, h, List.filter_append]
  simp [List.filter_cons]
theorem vl_snoc (l : List (Int × Int)) (a b : Int) : vlcells l ++ [Value.int .i64 a, Value.int .i64 b] = vlcells (l ++ [(a, b)]) := by
  rw [vlcells_app]
  rfl
theorem vl_new (W : World) (a b : Int) : ∀ (j : Nat) (u : Value), [Value.int .i64 a, Value.int .i64 b][j]? = some u → (W.alloc (.cells #[.int .i64 a, .int .i64 b] 49)).cell? ((⟨W.heap.size, 0, none⟩ : Addr).add j) = some u := by
  intro j u hj
  rw [addr_at, cell_of_row _ _ j _ _ _ (heap_alloc_new W (.cells #[.int .i64 a, .int .i64 b] 49))]
  match j, hj with
  | 0, hj | 1, hj => simpa using hj
theorem vl_one (a b : Int) : ∀ u ∈ [Value.int .i64 a, Value.int .i64 b], u.oneCell' = true := by
  intro u hu
  simp at hu
  rcases hu with h | h <;> subst h <;> rfl
end Go.Proofs.Ytcnaahajaaifjaa
