/-
  DrRcs; SameRc; Big; TkRd
-/
import Derived.Test.YtogfdhfmamabiaaPk13
import Derived.Test.YtogfdhfmamabiaaPk25
import Derived.Test.YtogfdhfmamabiaaPk11
import Derived.Test.YtogfdhfmamabiaaPk14
import Derived.Deep.QuietTactic
import Derived.BigQuiet
import Derived.Test.YtogfdhfmamabiaaPk0
import Derived.Test.YtogfdhfmamabiaaPk23
import Derived.Test.YtogfdhfmamabiaaTxMath2
import Derived.Test.YtogfdhfmamabiaaTxN
/-
  The draw of records: spec.DrawRecords.
-/
namespace Go.Proofs.Ytogfdhfmamabiaa
open Go.RowKit
open Words

/-- Right records, in a row of their own. -/
def RecsIn (w : World) (e : Ending) (w' : World) : Prop := ∃ (g c : Nat) (l : List Rc), e = .returned (.slice (some ⟨g, 0, none⟩) l.length c) ∧ l.length ≤ 8 ∧ (∀ r ∈ l, r.Right) ∧ w'.ownsRow w.heap.size 34 4 (.slice (some ⟨g, 0, none⟩) l.length c) l.length (rccells (l.map Rc.tu)) ∧ Below w.heap.size w w'

set_option maxHeartbeats 400000 in
set_option maxRecDepth 100000 in
theorem drawRecords (ad : Option Addr) (len cap : Nat) (w : World) (hl : len ≤ 1048576) (hd : CodeIn w ad len w.heap.size) :
    Calls Try.prog 13 #[.slice ad len cap] w (RecsIn w) := by
  have HD := hide hd
  clear hd
  go_enter Try.func13, Try.ntmps13
  go_wp2_with fail
  refine (new_any ad len cap w.heap.size _ hl HD.out).mono ?_
  rintro e w1 ⟨p, rfl, hp, hc, hb⟩
  have HC := hide hc
  have HB := hide hb
  have hs := hb.size
  have HD1 := hide (HD.out.on hb (Nat.le_refl _))
  clear hc hb HD
  go_wp2_with fail
  refine (drecs p ad len cap w.heap.size _ hl HC.out HD1.out hp).mono ?_
  rintro e w2 ⟨g, c, l, rfl, h8, hr, ho, d2⟩
  have HO := hide (own_lower ho hs)
  have HB2 := hide (HB.out.trans (grown_below d2.1 hp hs))
  have HR := hide hr
  clear ho d2 hr
  go_wp2_with fail
  go_ret
  exact ⟨g, c, l, rfl, h8, HR.out, HO.out, HB2.out⟩
end Go.Proofs.Ytogfdhfmamabiaa

/-
  The laws' own sameRecs.
-/
namespace Go.Proofs.Ytogfdhfmamabiaa
open Go.RowKit

set_option maxHeartbeats 1000000 in
set_option maxRecDepth 100000 in
theorem sameRcsQ (a b : Value) (M : List (Int × Int × Int × Int)) (B1 C1 B2 C2 : Nat) (w : World) (hM : M.length ≤ 1000000000000000000) (ha : Sli 34 B1 C1 a M.length (rccells M) w) (hb : Sli 34 B2 C2 b M.length (rccells M) w) :
    Calls Try.prog 11 #[a, b] w fun e w' => e = .returned (.bool true) ∧ ∃ m, w' = w.drewN m := by
  obtain ⟨ad, capa, rfl, a3⟩ := ha.form
  obtain ⟨bd, capb, rfl, b3⟩ := hb.form
  obtain ⟨n, hn⟩ : ∃ n, M.length = n := ⟨_, rfl⟩
  have HN := hide hn
  have HSA := hide ha
  have HSB := hide hb
  rw [hn] at hM a3 b3 HSA HSB ⊢
  have A3 := hide a3
  have B3 := hide b3
  clear a3 b3 ha hb hn
  have nn : ((n : Int) != n) = false := by simp
  go_enter Try.func11, Try.ntmps11
  go_wp2
  go_loopw [5] (fun iv wr => ∃ k q : Nat, k ≤ n ∧ iv = .int .i64 k ∧ wr = w.drewN q) (fun iv _ => n - (intOf iv).toNat)
  case atStart => exact ⟨0, 0, Nat.zero_le _, rfl, rfl⟩
  case round =>
    obtain ⟨k, q, hk, rfl, rfl⟩ := hrel
    have HW : Hid (Below w.heap.size w (w.drewN q)) := below_drewN (Below.refl _ _) q
    by_cases hlt : (k : Int) < n
    · obtain ⟨ga, e, _, _⟩ := A3.out (by omega)
      subst e
      obtain ⟨gb, e, _, _⟩ := B3.out (by omega)
      subst e
      have hkl : k < M.length := by have := HN.out; omega
      obtain ⟨x0, x1, x2, x3, hx⟩ : ∃ x0 x1 x2 x3, M[k]? = some (x0, x1, x2, x3) := ⟨M[k].1, M[k].2.1, M[k].2.2.1, M[k].2.2.2, List.getElem?_eq_getElem hkl⟩
      have GA := HSA.out.flt
      have GB := HSB.out.flt
      have c0 : w.cell? ⟨ga, k * 4, none⟩ = some (.int .i64 x0) := GA.cell (rccells_at M k _ hx 0 _ rfl)
      have d0 : w.cell? ⟨gb, k * 4, none⟩ = some (.int .i64 x0) := GB.cell (rccells_at M k _ hx 0 _ rfl)
      have c1 : w.cell? ⟨ga, k * 4 + 1, none⟩ = some (.int .i64 x1) := GA.cell (rccells_at M k _ hx 1 _ rfl)
      have d1 : w.cell? ⟨gb, k * 4 + 1, none⟩ = some (.int .i64 x1) := GB.cell (rccells_at M k _ hx 1 _ rfl)
      have c2 : w.cell? ⟨ga, k * 4 + 2, none⟩ = some (.int .i64 x2) := GA.cell (rccells_at M k _ hx 2 _ rfl)
      have d2 : w.cell? ⟨gb, k * 4 + 2, none⟩ = some (.int .i64 x2) := GB.cell (rccells_at M k _ hx 2 _ rfl)
      have c3 : w.cell? ⟨ga, k * 4 + 3, none⟩ = some (.int .i64 x3) := GA.cell (rccells_at M k _ hx 3 _ rfl)
      have d3 : w.cell? ⟨gb, k * 4 + 3, none⟩ = some (.int .i64 x3) := GB.cell (rccells_at M k _ hx 3 _ rfl)
      have k0 : (0 : Int) ≤ k := by omega
      clear hx hkl GA GB
      go_wp2
      go_quiet (fail)
      go_wp2
      go_roundw
      case rel => exact ⟨k + 1, _, by omega, by go_num, rfl⟩
      case measure => simp [intOf]; omega
    · go_wp2
      go_ret
      exact ⟨rfl, q, rfl⟩
theorem sameRcs (a b : Value) (M : List (Int × Int × Int × Int)) (B1 C1 B2 C2 : Nat) (w : World) (hM : M.length ≤ 1000000000000000000) (ha : Sli 34 B1 C1 a M.length (rccells M) w) (hb : Sli 34 B2 C2 b M.length (rccells M) w) :
    Calls Try.prog 11 #[a, b] w fun e w' => e = .returned (.bool true) ∧ Below w.heap.size w w' := by
  refine (sameRcsQ a b M B1 C1 B2 C2 w hM ha hb).mono ?_
  rintro e w' ⟨rfl, m, rfl⟩
  exact ⟨rfl, below_drewN (Below.refl _ _) _⟩
end Go.Proofs.Ytogfdhfmamabiaa

/-
  The laws' own look at a code that is too long.
-/
namespace Go.Proofs.Ytogfdhfmamabiaa
open Go.RowKit

theorem big_any (ad : Option Addr) (len cap : Nat) (w : World) :
    Calls Try.prog 6 #[.slice ad len cap] w fun e w' => e = .returned (.bool (decide ((1048576 : Int) < len))) ∧ w' = w := by
  by_cases h : (1048576 : Int) < len
  all_goals
    go_enter Try.func6, Try.ntmps6
    go_wp2
    go_ret
    exact ⟨by simp [h], rfl⟩
end Go.Proofs.Ytogfdhfmamabiaa

/-
  What the drawn laws on transactions hold.
-/
namespace Go.Proofs.Ytogfdhfmamabiaa
open Go.RowKit
open Words

theorem code_up2 {w : World} {ad : Option Addr} {len B C : Nat} (h : CodeIn w ad len B) (hB : B ≤ C) : CodeIn w ad len C := by
  intro j hj
  obtain ⟨b, off, h1, h2, c⟩ := h j hj
  exact ⟨b, off, h1, by omega, c⟩
theorem code_onR {w W : World} {ad : Option Addr} {len : Nat} (h : CodeIn w ad len w.heap.size) (hb : Below w.heap.size w W) : CodeIn W ad len W.heap.size := code_up2 (h.on hb (Nat.le_refl _)) hb.size
def mkF (p : Pg) : Fnd := ⟨0, 0, p⟩
theorem mkF_page (Q : List Pg) : (Q.map mkF).map Fnd.page = Q := by rw [List.map_map]; exact (List.map_congr_left (fun _ _ => rfl)).trans (List.map_id _)
theorem fd_new (W : World) (x : Fnd) (g : Nat) (hg : W.heap.size = g) : ∀ (j : Nat) (u : Value), (fdCells x)[j]? = some u → (W.alloc (.cells #[.int .i64 x.block, .int .i64 x.leaf, .int .i64 x.page.kind, .int .i64 x.page.seq, .int .i64 x.page.tx, .int .i64 x.page.part, .int .i64 x.page.count, .string x.page.text] 42)).cell? ((⟨g, 0, none⟩ : Addr).add j) = some u := by
  intro j u hj
  subst hg
  match j, hj with
  | 0, hj | 1, hj | 2, hj | 3, hj | 4, hj | 5, hj | 6, hj | 7, hj =>
    simp [fdCells] at hj
    subst hj
    simp [Addr.add]
/-- Records that fit into nine pages. -/
theorem many_ok {l : List Rc} {n : Nat} (seq tx : Int) (hs : 1 ≤ seq ∧ seq ≤ 1000) (ht : 1 ≤ tx ∧ tx ≤ 1000) (hl : l.length ≤ n) (hn : n ≤ 119) (h2 : ∀ r ∈ l, r.Right) (h3 : (recsL l).length ≤ 152 + 4 * l.length) : TxOk seq tx l := by
  have := pk_fill l h2
  have hg : (pkG l).length ≤ 9 := by simp only [pkG, List.length_append, List.length_cons, List.length_nil]; omega
  exact ⟨h2, hg, hs.1, by omega, ht.1, by omega⟩
theorem txOut_ok {seq tx : Int} {l : List Rc} (h : TxOk seq tx l) : txOut seq tx l = txPgs seq tx l ∧ @decide (TxOk seq tx l) (decTx seq tx l) = true := ⟨if_pos h, dcY h⟩
theorem txPgs_small {seq tx : Int} {l : List Rc} (h : TxOk seq tx l) : (txPgs seq tx l).length ≤ 9 ∧ ∀ p ∈ txPgs seq tx l, p.text.size ≤ 90 := by
  refine ⟨by rw [txPgs_len]; exact h.2.1, fun p hp => ?_⟩
  obtain ⟨i, hi⟩ := List.mem_iff_getElem?.1 hp
  obtain ⟨g, hg, rfl⟩ := txPgs_at hi
  show (recsB g).size ≤ 90
  rw [recsB_size]
  exact pk_small l h.1 g (List.mem_of_getElem? hg)
theorem sumF_bound {Q : List Pg} (h : ∀ p ∈ Q, p.text.size ≤ 90) : sumF (fun p => p.text.size) Q ≤ 90 * Q.length := by
  unfold sumF
  induction Q with
  | nil => simp
  | cons p Q ih =>
    have h1 := h p (by simp)
    have h2 := ih (fun q hq => h q (by simp [hq]))
    rw [List.map_cons, List.sum_cons, List.length_cons]
    omega
theorem many_tk {w wi : World} {hs : List Hold} {ad : Option Addr} {len cap : Nat} (T : Tk w wi hs) (hl : len ≤ 1048576) (hd : CodeIn w ad len w.heap.size) :
    Calls Try.prog 12 #[.slice ad len cap] wi fun e w' => ∃ (g c n : Nat) (l : List Rc), e = .returned (.slice (some ⟨g, 0, none⟩) n c) ∧ (n ≤ 119 ∧ l.length = n ∧ (∀ r ∈ l, r.Right) ∧ (recsL l).length ≤ 152 + 4 * l.length) ∧ Tk w w' ((wi.heap.size, w'.heap.size, Sli 34 wi.heap.size w'.heap.size (.slice (some ⟨g, 0, none⟩) n c) n (rccells (l.map Rc.tu))) :: hs) ∧ wi.heap.size ≤ w'.heap.size := by
  refine (drawMany ad len cap wi hl (code_onR hd T.1)).mono ?_
  rintro e w' ⟨g, c, l, rfl, h1, h2, h3, ho, hb⟩
  exact ⟨g, c, l.length, l, rfl, ⟨h1, rfl, h2, h3⟩, T.add hb (Sli.loc _ _ _ _ _ _) (Sli.of ho), hb.size⟩
theorem recs_tk {w wi : World} {hs : List Hold} {ad : Option Addr} {len cap : Nat} (T : Tk w wi hs) (hl : len ≤ 1048576) (hd : CodeIn w ad len w.heap.size) :
    Calls Try.prog 13 #[.slice ad len cap] wi fun e w' => ∃ (g c n : Nat) (l : List Rc), e = .returned (.slice (some ⟨g, 0, none⟩) n c) ∧ (n ≤ 8 ∧ l.length = n ∧ (∀ r ∈ l, r.Right) ∧ (recsL l).length ≤ 152 + 4 * l.length) ∧ Tk w w' ((wi.heap.size, w'.heap.size, Sli 34 wi.heap.size w'.heap.size (.slice (some ⟨g, 0, none⟩) n c) n (rccells (l.map Rc.tu))) :: hs) ∧ wi.heap.size ≤ w'.heap.size := by
  refine (drawRecords ad len cap wi hl (code_onR hd T.1)).mono ?_
  rintro e w' ⟨g, c, l, rfl, h1, h2, ho, hb⟩
  exact ⟨g, c, l.length, l, rfl, ⟨h1, rfl, h2, by have := (recsL_len l h2).2; omega⟩, T.add hb (Sli.loc _ _ _ _ _ _) (Sli.of ho), hb.size⟩
theorem same_tkR {w wi : World} {hs : List Hold} {a b : Value} {M : List (Int × Int × Int × Int)} {n l1 h1 l2 h2 : Nat} (T : Tk w wi hs) (hn : M.length = n) (hM : n ≤ 1048576) (s1 : Sli 34 l1 h1 a n (rccells M) wi) (s2 : Sli 34 l2 h2 b n (rccells M) wi) :
    Calls Try.prog 11 #[a, b] wi fun e w' => e = .returned (.bool true) ∧ Tk w w' hs ∧ Below wi.heap.size wi w' := by
  subst hn
  refine (sameRcs a b M l1 h1 l2 h2 wi (by omega) s1 s2).mono ?_
  rintro e w' ⟨rfl, hb⟩
  exact ⟨rfl, T.below hb, hb⟩
theorem pages_tk {f : Nat} (HC : TxPagesC f) {w wi : World} {hs : List Hold} {g c nl l1 h1 n : Nat} {l : List Rc} {seq tx : Int} {M : List (Int × Int × Int × Int × Int × ByteArray)} (T : Tk w wi hs) (n1 : Nat) (hk : TxOk seq tx l) (hl : l.length = nl) (hnl : nl ≤ 1048576) (hM : (txPgs seq tx l).map Pg.tu = M) (hn : M.length = n) (e1 : hs[n1]? = some (l1, h1, Sli 34 l1 h1 (.slice (some ⟨g, 0, none⟩) nl c) nl (rccells (l.map Rc.tu)))) :
    Calls Try.prog f #[.int .i64 seq, .int .i64 tx, .slice (some ⟨g, 0, none⟩) nl c] wi fun e w' => ∃ ad c, e = .returned (.tuple #[.slice ad n c, .bool true]) ∧ Tk w w' ((wi.heap.size, w'.heap.size, Sli 40 wi.heap.size w'.heap.size (.slice ad n c) n (pgcells M)) :: hs) ∧ wi.heap.size ≤ w'.heap.size := by
  have h := HC seq tx (some ⟨g, 0, none⟩) nl c l wi (Nat.le_trans hnl (by decide)) ((T.get n1 e1).rcrow (by simpa using hl) hnl (T.hi n1 e1))
  rw [(txOut_ok hk).1, (txOut_ok hk).2] at h
  exact txp_tk h T hM hn
end Go.Proofs.Ytogfdhfmamabiaa
