/-
  GsM; DPl; TkStD; Big
-/
import Derived.Test.YtmpmdacfibgepadPk23
import Derived.Test.YtmpmdacfibgepadPk10
import Derived.Test.YtmpmdacfibgepadPk26
import Derived.Test.YtmpmdacfibgepadDrSR
import Derived.Test.YtmpmdacfibgepadPk0
/-
  A call that answers a store into a cell of its own, whichever came first.
-/
namespace Go.Proofs.Ytmpmdacfibgepad
open Go.RowKit
open Words

theorem vcap_le {a : Option Addr} {n c : Nat} {k x : Value} (h : VCap (.agg #[.slice a n c, k, x])) : n ≤ c := by
  obtain ⟨a', n', c', k', x', e, hh⟩ := h
  injection e with e
  injection e with e
  simp only [List.cons.injEq, and_true] at e
  obtain ⟨e, -⟩ := e
  injection e with e1 e2 e3
  omega
theorem bel_tr {w w1 w2 : World} {B : Nat} (h : Below B w w1) (hB : B ≤ w1.heap.size) (b : Below w1.heap.size w1 w2) : Below B w w2 := h.trans (b.mono hB)
theorem bel3 {w W : World} {B c : Nat} (h : Below B w W) (hc : B ≤ c) (a b d : Value) : Below B w (((W.setCell ⟨c, 0, none⟩ a).setCell ⟨c, 1, none⟩ b).setCell ⟨c, 2, none⟩ d) := ((h.setCell (p := ⟨c, 0, none⟩) hc a).setCell (p := ⟨c, 1, none⟩) hc b).setCell (p := ⟨c, 2, none⟩) hc d
/-- The cell, the store, and all that was held before. -/
def Gs (w wr : World) (hs : List Hold) (s0 c : Nat) (a b : Value) (R : Sto) : Prop := ∃ lo hi, s0 ≤ lo ∧ s0 ≤ c ∧ (c + 1 ≤ lo ∨ hi ≤ c) ∧ Tk w wr ((c, c + 1, Cel c #[a, b, .int .i64 R.next] 45) :: (lo, hi, Sts lo hi (.agg #[a, b, .int .i64 R.next]) R) :: hs)
theorem Gs.late {w wS W w3 : World} {hs : List Hold} {a b : Value} {R : Sto} (T : Tk w wS hs) (hb : Below wS.heap.size wS w3) (f : StOut W R (.agg #[a, b, .int .i64 R.next]) w3) (h : wS.heap.size ≤ W.heap.size) : Gs w (w3.alloc (.cells #[a, b, .int .i64 R.next] 45)) hs wS.heap.size w3.heap.size a b R := by
  have T1 := (T.below hb).put (Nat.le_refl _) (Sts.loc W.heap.size w3.heap.size (.agg #[a, b, .int .i64 R.next]) R) f.sts
  exact ⟨W.heap.size, w3.heap.size, h, hb.size, Or.inr (Nat.le_refl _), T1.celln rfl _ _⟩
theorem Gs.early {w wS W w3 : World} {hs : List Hold} {c : Nat} {a b z0 z1 z2 : Value} {R : Sto} (T : Tk w wS hs) (hb : Below wS.heap.size wS w3) (f : StOut W R (.agg #[a, b, .int .i64 R.next]) w3) (hc : w3.heap[c]? = some (.cells #[z0, z1, z2] 45 (0, 0))) (h0 : wS.heap.size ≤ c) (h1 : c < W.heap.size) :
    Gs w (((w3.setCell ⟨c, 0, none⟩ a).setCell ⟨c, 1, none⟩ b).setCell ⟨c, 2, none⟩ (.int .i64 R.next)) hs wS.heap.size c a b R := by
  have hlt := (Array.getElem?_eq_some_iff.1 hc).1
  have hz := T.1.size
  have hq : ∀ q, q ≠ c → (((w3.setCell ⟨c, 0, none⟩ a).setCell ⟨c, 1, none⟩ b).setCell ⟨c, 2, none⟩ (.int .i64 R.next)).heap[q]? = w3.heap[q]? := fun q q1 => (Below.heap_setCell _ _ _ _ q1).trans ((Below.heap_setCell _ _ _ _ q1).trans (Below.heap_setCell _ _ _ _ q1))
  have T1 := (T.below hb).put (Nat.le_refl _) (Sts.loc W.heap.size w3.heap.size (.agg #[a, b, .int .i64 R.next]) R) f.sts
  refine ⟨W.heap.size, w3.heap.size, by omega, h0, Or.inl h1, T1.touch (lo := c) (hi := c + 1) ⟨rfl, rfl, rfl, by simp [World.setCell], fun i _ hi => hq i (fun e => hi (by omega))⟩ (by omega) hlt (Cel.loc _ _ _) (sto_row3 hc) (fun x hx => ?_)⟩
  rcases List.mem_cons.1 hx with rfl | hx
  · exact ⟨List.mem_of_getElem? (i := 0) rfl, Or.inr h1⟩
  · exact ⟨List.mem_cons_of_mem _ hx, Or.inl (Nat.le_trans (T.2 x hx).1 h0)⟩
end Go.Proofs.Ytmpmdacfibgepad

/-
  The draw of twelve places.
-/
namespace Go.Proofs.Ytmpmdacfibgepad
open Go.RowKit

theorem CodeIn.up {w : World} {ad : Option Addr} {len B C : Nat} (h : CodeIn w ad len B) (hB : B ≤ C) : CodeIn w ad len C := by
  intro j hj
  obtain ⟨b, off, h1, h2, c⟩ := h j hj
  exact ⟨b, off, h1, by omega, c⟩
/-- Twelve numbers below 10000, in a new block. -/
def Placed (w : World) (e : Ending) (w' : World) : Prop :=
  ∃ (g cp : Nat) (l : List Int), e = .returned (.slice (some ⟨g, 0, none⟩) 12 cp) ∧ w.heap.size ≤ g ∧ g < w'.heap.size ∧ l.length = 12 ∧ (∀ x ∈ l, 0 ≤ x ∧ x < 10000) ∧ (∀ j (hj : j < l.length), w'.cell? ⟨g, j, none⟩ = some (.int .i64 l[j])) ∧ Below w.heap.size w w'

set_option maxHeartbeats 400000 in
set_option maxRecDepth 100000 in
theorem places_any (ad : Option Addr) (len cap : Nat) (w : World) (hl : len ≤ 1048576) (hd : CodeIn w ad len w.heap.size) :
    Calls Try.prog 15 #[.slice ad len cap] w fun e w' => Placed w e w' := by
  obtain ⟨i0, hi, hz0, hz1, hz2⟩ := info_parts infoInt
  have HD := hide hd
  clear hd
  go_enter Try.func15, Try.ntmps15
  go_wp2_with fail
  refine (new_any ad len cap w.heap.size _ hl HD.out).mono ?_
  rintro e w1 ⟨p, rfl, hp, hc, hb⟩
  have HC := hide hc
  have hs := hb.size
  have hpw := hc.2.2.2.2.2
  have HD1 := hide (HD.out.on hb (Nat.le_refl _))
  clear hc
  go_wp2_with fail
  refine (byte_any p ad len cap w.heap.size _ hl HC.out HD1.out hp).mono ?_
  rintro e w2 ⟨x, rfl, x0, x1, g1, c1⟩
  have hb2 : Below w.heap.size w w2 := hb.trans (grown_below g1 hp hs)
  have HD2 := hide (Drawn.code ⟨g1, c1⟩ HD1.out hp hpw)
  have HC2 := hide c1
  have hp2 := c1.2.2.2.2.2
  have hs2 := hb2.size
  clear g1 c1 hb HC HD1 HD
  go_wp2
  go_loopw [4, 5] (fun out iv wr => ∃ l : List Int, l.length ≤ 12 ∧ iv = .int .i64 l.length ∧ Hid (∀ x ∈ l, 0 ≤ x ∧ x < 10000) ∧ wr.ownsRow w2.heap.size 3 1 out l.length (icells l) ∧ w2.heap.size ≤ wr.heap.size ∧ Hid (Drawn w2 wr p ad len cap)) (fun _ iv _ => 12 - (intOf iv).toNat)
  case atStart => exact ⟨[], by simp, rfl, (by intro x hx; cases hx), World.ownsRow_made w2 #[] 0 (Nat.le_refl _) (by unfold maxLen; omega) (by simp), by simp, Drawn.below (Drawn.refl HC2.out) ((Below.refl _ _).alloc (Nat.le_refl _) _) hp2⟩
  case round =>
    obtain ⟨l, ht, rfl, hall, hown, hsz, hdr⟩ := hrel
    by_cases hlt : (l.length : Int) < 12
    · have HDr := hide (hdr.out.code HD2.out hp hp2)
      go_wp2_with fail
      refine (below_any 10000 p ad len cap w.heap.size _ (by omega) hl hdr.out.2 HDr.out hp).mono ?_
      rintro e w3 ⟨x, rfl, x0, x1, _, D⟩
      have x2 := x1 (by omega)
      have hlow := hown.lt
      have hown1 := hown.kept D.1 (.inr (fun h => by have := hlow p h; omega))
      have D1 : Hid (Drawn w2 w3 p ad len cap) := hdr.out.trans D
      have hs1 := D.1.size
      clear D hown hdr HDr x1
      go_wp2_with (at_builtin; refine wpList_append_own _ rfl _ _ 50 rfl w2.heap.size 3 i0 (.int .i64 0) 1 8 Try.underlying50 hi hz0 hz1 hz2 rfl (by decide) _ _ _ rfl (by exact hown1.alloc _) ⟨w3.heap.size, 0, none⟩ 1 1 [Value.int .i64 _] rfl rfl (by exact one_cell _ _ _) (one_i64 _) (by unfold maxLen; omega) (by omega) (by simp; omega) ?_)
      intro v' w4 hown2 hgrow _
      have hb4 : Below w2.heap.size w3 w4 := own_grown (Below.refl _ _) (by omega) hown1 hgrow
      have D2 : Hid (Drawn w2 w4 p ad len cap) := D1.out.below hb4 hp2
      rw [icells_snoc l x] at hown2
      have hs4 := hb4.size
      have hall2 : Hid (∀ y ∈ l ++ [x], 0 ≤ y ∧ y < 10000) := by
        intro y hy
        rcases List.mem_append.1 hy with h | h
        · exact hall.out y h
        · simp at h; subst h; exact ⟨x0, x2⟩
      clear hown1 hgrow hb4 D1 hall
      go_wp2
      go_roundw
      case rel => exact ⟨l ++ [x], by simp; omega, by simp, hall2, by simpa using hown2, by omega, D2⟩
      case measure => simp [intOf]; omega
    · have e12 : l.length = 12 := by omega
      have hb5 : Below w.heap.size w wr := hb2.trans (grown_below hdr.out.1 hp hs2)
      rw [e12] at hown
      have hlow := hown.lt
      have hcs := hown
      rcases hown.2 with ⟨-, h0⟩ | ⟨g, cp, cur, rfl, -, -, -, -, -, -⟩
      · omega
      · have hlt := hlow g rfl
        have hge : w.heap.size ≤ g := by omega
        have hgw : g < wr.heap.size := hlt.2
        have hcell : ∀ j (hj : j < l.length), wr.cell? ⟨g, j, none⟩ = some (.int .i64 l[j]) := by
          intro j hj
          have := hcs.cells (g := g) rfl j _ (icells_at l j hj)
          rw [addr_at] at this
          exact this
        have HO := hide hcell
        have E := hide e12
        clear e12 hcell hcs hown hlow
        go_wp2
        go_ret
        exact ⟨g, cp, l, rfl, hge, hgw, E.out, hall.out, HO.out, hb5⟩
end Go.Proofs.Ytmpmdacfibgepad

/-
  The functions on stores over what a drawn law holds.
-/
namespace Go.Proofs.Ytmpmdacfibgepad
open Go.RowKit
open Words

theorem drn_fit {s : Sto} (h : s.Drn) : s.Fit := right_fit h.1
theorem dsr_tk {w wi : World} {hs : List Hold} {ad : Option Addr} {len cap : Nat} (T : Tk w wi hs) (hl : len ≤ 1048576) (hd : CodeIn w ad len w.heap.size) :
    Calls Try.prog 14 #[.slice ad len cap] wi fun e w' => ∃ (va : Option Addr) (vl vc : Nat) (kd : Option Addr) (kl kc : Nat) (s : Sto) (kind vol arg chunk : Int), e = .returned (.tuple #[.agg #[.slice va vl vc, .slice kd kl kc, .int .i64 s.next], .agg #[.int .i64 kind, .int .i64 vol, .int .i64 arg, .int .i64 chunk]]) ∧ (s.Drn ∧ vol ≤ 3 ∧ vl = s.vols.length ∧ kl = s.kns.length ∧ vl ≤ vc) ∧ Tk w w' ((wi.heap.size, w'.heap.size, Sts wi.heap.size w'.heap.size (.agg #[.slice va vl vc, .slice kd kl kc, .int .i64 s.next]) s) :: hs) ∧ wi.heap.size ≤ w'.heap.size := by
  refine (drawSR ad len cap wi hl ((hd.on T.1 (Nat.le_refl _)).up T.1.size)).mono ?_
  rintro e w' ⟨u, s, ⟨kind, vol, arg, chunk⟩, rfl, h1, h2, h3, h4, hb⟩
  obtain ⟨va, vc, kd, kc, rfl⟩ := h4.form
  exact ⟨va, _, vc, kd, _, kc, s, kind, vol, arg, chunk, rfl, ⟨h1, h2, rfl, rfl, vcap_le h3⟩, T.add hb (Sts.loc _ _ _ _) h4, hb.size⟩
theorem gent_tk {f : Nat} (HC : EnterC f) {w wi : World} {hs : List Hold} {lo hi : Nat} {v : Value} {s R1 : Sto} {R2 : Bool} {kind vol arg chunk : Int} (hR : enterS s ⟨kind, vol, arg, chunk⟩ = (R1, R2)) (T : Tk w wi hs) (n1 : Nat) (ho : s.Fit) (e1 : hs[n1]? = some (lo, hi, Sts lo hi v s)) :
    Calls Try.prog f #[v, .agg #[.int .i64 kind, .int .i64 vol, .int .i64 arg, .int .i64 chunk]] wi fun e w' => ∃ x xl xc y yl yc, e = .returned (.tuple #[.agg #[.slice x xl xc, .slice y yl yc, .int .i64 R1.next], .bool R2]) ∧ (xl = R1.vols.length ∧ yl = R1.kns.length) ∧ Tk w w' ((wi.heap.size, w'.heap.size, Sts wi.heap.size w'.heap.size (.agg #[.slice x xl xc, .slice y yl yc, .int .i64 R1.next]) R1) :: hs) ∧ wi.heap.size ≤ w'.heap.size := by
  refine (HC v s ⟨kind, vol, arg, chunk⟩ wi ((T.get n1 e1).rd ho (T.hi n1 e1))).mono ?_
  rintro e w' ⟨u, rfl, hu⟩
  rw [hR] at hu
  simp only at hu
  obtain ⟨x, xc, y, yc, rfl⟩ := hu.sts.form
  rw [hR]
  exact ⟨x, _, xc, y, _, yc, rfl, ⟨rfl, rfl⟩, T.add hu.blw (Sts.loc _ _ _ _) hu.sts, hu.blw.size⟩
theorem sent_tk {w wi : World} {hs : List Hold} {lo hi vl vc : Nat} {va : Option Addr} {k x0 : Value} {s R1 : Sto} {R2 : Bool} {kind vol arg chunk : Int} (hR : enterS s ⟨kind, vol, arg, chunk⟩ = (R1, R2)) (T : Tk w wi hs) (n1 : Nat) (ho : s.Fit) (hc : vl ≤ vc) (e1 : hs[n1]? = some (lo, hi, Sts lo hi (.agg #[.slice va vl vc, k, x0]) s)) :
    Calls Try.prog 22 #[.agg #[.slice va vl vc, k, x0], .agg #[.int .i64 kind, .int .i64 vol, .int .i64 arg, .int .i64 chunk]] wi fun e w' => ∃ x xl xc y yl yc, e = .returned (.tuple #[.agg #[.slice x xl xc, .slice y yl yc, .int .i64 R1.next], .bool R2]) ∧ (xl = R1.vols.length ∧ yl = R1.kns.length) ∧ Tk w w' ((wi.heap.size, w'.heap.size, Sts wi.heap.size w'.heap.size (.agg #[.slice x xl xc, .slice y yl yc, .int .i64 R1.next]) R1) :: hs) ∧ wi.heap.size ≤ w'.heap.size := by
  refine (senter _ s ⟨kind, vol, arg, chunk⟩ wi ((T.get n1 e1).rd ho (T.hi n1 e1)) ⟨_, _, _, _, _, rfl, hc⟩).mono ?_
  rintro e w' ⟨u, rfl, hu, -⟩
  rw [hR] at hu
  simp only at hu
  obtain ⟨x, xc, y, yc, rfl⟩ := hu.sts.form
  rw [hR]
  exact ⟨x, _, xc, y, _, yc, rfl, ⟨rfl, rfl⟩, T.add hu.blw (Sts.loc _ _ _ _) hu.sts, hu.blw.size⟩
/-- Records that lie in a row somewhere. -/
theorem rows_of {W : World} {g : Nat} {l : List Rc} (hl : l.length ≤ 1048576) (h : Flt 47 g (rccells (l.map Rc.tu)) W) : RcRow W (some ⟨g, 0, none⟩) l.length (l.map Rc.tu) := by
  refine ⟨by rw [List.length_map], by unfold maxLen; omega, by simp, fun h0 => ⟨g, 0, rfl, ?_, fun i t hi => ?_⟩⟩
  · obtain ⟨cs, h1, -⟩ := h
    exact (Array.getElem?_eq_some_iff.1 h1).1
  · have hc := fun j v hj => h.cell (rccells_at (l.map Rc.tu) i t hi j v hj)
    exact ⟨by simpa using hc 0 _ rfl, by simpa using hc 1 _ rfl, by simpa using hc 2 _ rfl, by simpa using hc 3 _ rfl⟩
theorem gena_tk {f : Nat} (HC : EnterAllC f) {w wi : World} {hs : List Hold} {lo hi n c : Nat} {a : Option Addr} {v : Value} {s R1 : Sto} {R2 : Bool} {l : List Rc} (hR : enterAllS s l = (R1, R2)) (hm : n ≤ 1048576) (hr : RcRow wi a n (l.map Rc.tu)) (T : Tk w wi hs) (n1 : Nat) (ho : s.Fit) (e1 : hs[n1]? = some (lo, hi, Sts lo hi v s)) :
    Calls Try.prog f #[v, .slice a n c] wi fun e w' => ∃ x xl xc y yl yc, e = .returned (.tuple #[.agg #[.slice x xl xc, .slice y yl yc, .int .i64 R1.next], .bool R2]) ∧ (xl = R1.vols.length ∧ yl = R1.kns.length) ∧ Tk w w' ((wi.heap.size, w'.heap.size, Sts wi.heap.size w'.heap.size (.agg #[.slice x xl xc, .slice y yl yc, .int .i64 R1.next]) R1) :: hs) ∧ wi.heap.size ≤ w'.heap.size := by
  refine (HC v s a n c l wi (by omega) ((T.get n1 e1).rd ho (T.hi n1 e1)) hr).mono ?_
  rintro e w' ⟨u, rfl, hu⟩
  rw [hR] at hu
  simp only at hu
  obtain ⟨x, xc, y, yc, rfl⟩ := hu.sts.form
  rw [hR]
  exact ⟨x, _, xc, y, _, yc, rfl, ⟨rfl, rfl⟩, T.add hu.blw (Sts.loc _ _ _ _) hu.sts, hu.blw.size⟩
theorem gsam_tk {f : Nat} (HC : SameC f) {w wi : World} {hs : List Hold} {lo hi l2 h2 : Nat} {v u : Value} {s t : Sto} {b : Bool} (hb : sameS s t = b) (T : Tk w wi hs) (n1 n2 : Nat) (ho : s.Fit) (ht : t.Fit) (e1 : hs[n1]? = some (lo, hi, Sts lo hi v s)) (e2 : hs[n2]? = some (l2, h2, Sts l2 h2 u t)) :
    Calls Try.prog f #[v, u] wi fun e w' => e = .returned (.bool b) ∧ Tk w w' hs ∧ wi.heap.size ≤ w'.heap.size := by
  refine (HC v s u t wi ((T.get n1 e1).rd ho (T.hi n1 e1)) ((T.get n2 e2).rd ht (T.hi n2 e2))).mono ?_
  rintro e w' ⟨rfl, hbl⟩
  rw [hb]
  exact ⟨rfl, T.below hbl, hbl.size⟩
theorem gsok_tk {f : Nat} (HC : OkC f) {w wi : World} {hs : List Hold} {lo hi : Nat} {v : Value} {s : Sto} {b : Bool} (hb : stoB s = b) (T : Tk w wi hs) (n1 : Nat) (ho : s.Fit) (e1 : hs[n1]? = some (lo, hi, Sts lo hi v s)) :
    Calls Try.prog f #[v] wi fun e w' => e = .returned (.bool b) ∧ Tk w w' hs ∧ wi.heap.size ≤ w'.heap.size := by
  refine (HC v s wi ((T.get n1 e1).rd ho (T.hi n1 e1))).mono ?_
  rintro e w' ⟨rfl, hbl⟩
  rw [hb]
  exact ⟨rfl, T.below hbl, hbl.size⟩
theorem gchk_tk {f : Nat} (HC : ChunkC f) {w wi : World} {hs : List Hold} {lo hi : Nat} {v : Value} {s : Sto} {vol sec b : Int} (hb : chunkS s vol sec = b) (T : Tk w wi hs) (n1 : Nat) (ho : s.Fit) (e1 : hs[n1]? = some (lo, hi, Sts lo hi v s)) :
    Calls Try.prog f #[v, .int .i64 vol, .int .i64 sec] wi fun e w' => e = .returned (.int .i64 b) ∧ Tk w w' hs ∧ wi.heap.size ≤ w'.heap.size := by
  refine (HC v s vol sec wi ((T.get n1 e1).rd ho (T.hi n1 e1))).mono ?_
  rintro e w' ⟨rfl, hbl⟩
  rw [hb]
  exact ⟨rfl, T.below hbl, hbl.size⟩
theorem gref_tk {f : Nat} (HC : RefsC f) {w wi : World} {hs : List Hold} {lo hi b : Nat} {v : Value} {s : Sto} {c : Int} (hb : refsS s c = b) (T : Tk w wi hs) (n1 : Nat) (ho : s.Fit) (e1 : hs[n1]? = some (lo, hi, Sts lo hi v s)) :
    Calls Try.prog f #[v, .int .i64 c] wi fun e w' => e = .returned (.int .i64 (b : Int)) ∧ Tk w w' hs ∧ wi.heap.size ≤ w'.heap.size := by
  refine (HC v s c wi ((T.get n1 e1).rd ho (T.hi n1 e1))).mono ?_
  rintro e w' ⟨rfl, hbl⟩
  rw [hb]
  exact ⟨rfl, T.below hbl, hbl.size⟩
theorem gnew_tk {f : Nat} (HC : NewC f) {w wi : World} {hs : List Hold} (T : Tk w wi hs) :
    Calls Try.prog f #[] wi fun e w' => ∃ x xc y yc, e = .returned (.agg #[.slice x 0 xc, .slice y 0 yc, .int .i64 1]) ∧ Tk w w' ((wi.heap.size, w'.heap.size, Sts wi.heap.size w'.heap.size (.agg #[.slice x 0 xc, .slice y 0 yc, .int .i64 1]) stoNew) :: hs) ∧ wi.heap.size ≤ w'.heap.size := by
  refine (HC wi).mono ?_
  rintro e w' ⟨u, rfl, hu⟩
  obtain ⟨x, xc, y, yc, rfl⟩ := hu.sts.form
  exact ⟨x, xc, y, yc, rfl, T.add hu.blw (Sts.loc _ _ _ _) hu.sts, hu.blw.size⟩
end Go.Proofs.Ytmpmdacfibgepad

/-
  The laws' own look at a code that is too long.
-/
namespace Go.Proofs.Ytmpmdacfibgepad
open Go.RowKit

theorem big_any (ad : Option Addr) (len cap : Nat) (w : World) :
    Calls Try.prog 7 #[.slice ad len cap] w fun e w' => e = .returned (.bool (decide ((1048576 : Int) < len))) ∧ w' = w := by
  by_cases h : (1048576 : Int) < len
  all_goals
    go_enter Try.func7, Try.ntmps7
    go_wp2
    go_ret
    exact ⟨by simp [h], rfl⟩
end Go.Proofs.Ytmpmdacfibgepad
