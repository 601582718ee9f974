/-
  The draw of an arena with some trees: spec.l11Arena.
-/
import Derived.Test.YtnebelflnpbbiadForM
import Derived.Test.YtnebelflnpbbiadTreeC
import Derived.Deep.RegionHeld3
import Derived.Maps.AppendAt
namespace Go.Proofs.Ytnebelflnpbbiad
open Go.RowKit
open Words

theorem ForSt.bel {w W W' : World} {h p : Nat} {ad : Option Addr} {len cap : Nat} {av rv : Value} {ks : List Kn} {R : List Int} {lo hi : Nat} (H : ForSt w W h p ad len cap av rv ks R lo hi) (hp : p < w.heap.size) (bA : Below W.heap.size W W') : ForSt w W' h p ad len cap av rv ks R lo hi := by
  obtain ⟨h1, h2, h3, h4, h5, ⟨h6, h7, h8⟩, h9⟩ := H
  have hh := (Array.getElem?_eq_some_iff.1 h2).1
  exact ⟨(bA.block h (by omega)).trans h1, (bA.block (h + 1) (by omega)).trans h2, Kns.loc _ _ _ _ W _ (fun g g1 g2 => bA.block g (by omega)) h3, own_below h4 bA, h5, ⟨h6, h7, Nat.le_trans h8 bA.size⟩, h9.below (bA.mono h9.1.size) hp⟩
theorem ForSt.ne {w W : World} {h p : Nat} {ad : Option Addr} {len cap : Nat} {av rv : Value} {ks : List Kn} {R : List Int} {lo hi : Nat} (H : ForSt w W h p ad len cap av rv ks R lo hi) (hp : p < h) : W.heap.size ≠ p := by
  have hh := (Array.getElem?_eq_some_iff.1 H.2.1).1
  omega
/-- A cell that came later is written. -/
theorem ForSt.wr {w W0 W : World} {h p : Nat} {ad : Option Addr} {len cap : Nat} {av rv : Value} {ks : List Kn} {R : List Int} {lo hi : Nat} (H : ForSt w W h p ad len cap av rv ks R lo hi) (H0 : ForSt w W0 h p ad len cap av rv ks R lo hi) (hp : p < w.heap.size) (u : Value) : ForSt w (W.setCell ⟨W0.heap.size, 0, none⟩ u) h p ad len cap av rv ks R lo hi := by
  have bA : Below W0.heap.size W (W.setCell ⟨W0.heap.size, 0, none⟩ u) := (Below.refl W0.heap.size W).setCell (p := ⟨W0.heap.size, 0, none⟩) (Nat.le_refl _) u
  have hh := (Array.getElem?_eq_some_iff.1 H0.2.1).1
  have h08 := H0.2.2.2.2.2.1.2.2
  have hw := H0.2.2.2.2.2.2.1.size
  have ho := own_block_lt H0.2.2.2.1
  obtain ⟨h1, h2, h3, h4, h5, ⟨h6, h7, h8⟩, h9⟩ := H
  refine ⟨(bA.block h (by omega)).trans h1, (bA.block (h + 1) (by omega)).trans h2, Kns.loc _ _ _ _ W _ (fun g g1 g2 => bA.block g (by omega)) h3, ?_, h5, ⟨h6, h7, Nat.le_trans h8 bA.size⟩, h9.below (bA.mono hw) hp⟩
  refine h4.kept (grown_cell W W0.heap.size 0 u) ?_
  cases hv : rv.ownBlock with
  | none => exact Or.inl rfl
  | some g => exact Or.inr (fun e => by have := (ho g hv).2; injection e with e; omega)
/-- All blocks but the cursor's are as they were. -/
def Kp (p : Nat) (W W' : World) : Prop := ∀ b o, W.heap[b]? = some o → b ≠ p → W'.heap[b]? = some o
theorem Kp.drawn {W W' : World} {p : Nat} {ad : Option Addr} {len cap : Nat} (d : Drawn W W' p ad len cap) : Kp p W W' := fun b o hb hn => (d.1.block b (Array.getElem?_eq_some_iff.1 hb).1 (fun e => by injection e with e; exact hn e)).trans hb
theorem Kp.below {W W' : World} {p : Nat} (d : Below W.heap.size W W') : Kp p W W' := fun b _ hb _ => (d.block b (Array.getElem?_eq_some_iff.1 hb).1).trans hb
theorem for_put {w W : World} {h p : Nat} {ad : Option Addr} {len cap : Nat} {va : Option Addr} {vc : Nat} {rv : Value} {ks : List Kn} {R : List Int} {lo hi : Nat} (H : ForSt w W h p ad len cap (.slice va ks.length vc) rv ks R lo hi) (ok : ForOk ks R) (h8 : R.length ≤ 8) {r s n : Int} (hr : r ∈ R) (s0 : 0 ≤ s) (s1 : s < 16) (hn : 0 ≤ n) :
    Calls Try.prog 25 #[.agg #[.slice va ks.length vc], .int .i64 r, .int .i64 s, .int .i64 n] W fun e w' => ∃ ba bc, e = .returned (.tuple #[.agg #[.slice ba (ks.length + 2) bc], .int .i64 ((ks.length : Int) + 1)]) ∧ Hid (∃ ks', ForOk ks' (R ++ [(ks.length : Int) + 1]) ∧ ks'.length = ks.length + 2 ∧ Kns W.heap.size w'.heap.size (.slice ba (ks.length + 2) bc) ks' w') ∧ Hid (Below W.heap.size W w') := by
  obtain ⟨rs, hrs, hx⟩ := H.2.2.1.rd rfl H.2.2.2.2.2.1.2.2
  obtain ⟨t, rfl⟩ : ∃ t : Nat, s = (t : Int) := ⟨s.toNat, by omega⟩
  obtain ⟨e1, e2, e3⟩ := ok.put hr (show t ≤ 15 by omega) hn
  have h14 := ok.2.2.2
  refine (sput _ ks.length vc rs r (t : Int) n W (by omega) (fun x hx2 => ?_) hx).mono ?_
  · obtain ⟨i, hi⟩ := List.getElem?_of_mem hx2
    have : (rs.map ktell)[i]? = some (ktell x) := by rw [List.getElem?_map, hi]; rfl
    rw [hrs] at this
    have := knB_len (arB_at ok.1 this)
    show (ktell x).kids.length ≤ _
    omega
  · rintro e w' ⟨v, rfl, uv, ss, rfl, ko, hss, hb⟩
    rw [hrs, e1] at hss
    rw [hrs, e2]
    obtain ⟨ua, uc, rfl⟩ := ko.form
    have hlen : ss.length = ks.length + 2 := by have := congrArg List.length hss; simpa using this
    rw [hlen] at ko ⊢
    exact ⟨ua, uc, rfl, ⟨_, e3, by simp, ss, hss, ko.kns⟩, hb⟩
theorem for_below {w W : World} {h p : Nat} {ad : Option Addr} {len cap B : Nat} {av rv : Value} {ks : List Kn} {R : List Int} {lo hi : Nat} (hl : len ≤ 1048576) (hd : CodeIn w ad len B) (hB : B ≤ p) (hp : p < w.heap.size) (hph : p < h) (n : Int) (n0 : 0 < n) (hn : n ≤ 1000000) (H : ForSt w W h p ad len cap av rv ks R lo hi) :
    Calls Try.prog 15 #[.pointer (some ⟨p, 0, none⟩), .int .i64 n] W fun e w' => ∃ x : Int, e = .returned (.int .i64 x) ∧ 0 ≤ x ∧ x < n ∧ Hid (ForSt w w' h p ad len cap av rv ks R lo hi) ∧ Hid (Kp p W w') := by
  refine (below_any n p ad len cap B W (by omega) hl H.2.2.2.2.2.2.2 (H.2.2.2.2.2.2.code hd hB hp) hB).mono ?_
  rintro e w' ⟨x, rfl, x0, x1, -, d⟩
  exact ⟨x, rfl, x0, x1 n0, H.go hph d, Kp.drawn d⟩

/-- One tree more lies ready in a cell of its own. -/
def Nx (w V : World) (h p : Nat) (ad : Option Addr) (len cap : Nat) (av rv bv : Value) (ks : List Kn) (R : List Int) (lo hi b : Nat) : Prop :=
  ForSt w V h p ad len cap av rv ks R lo hi ∧ V.heap[b]? = some (.cells #[bv] 26 (0, 0)) ∧ h + 1 < b ∧ ∃ ks' l2 h2, ForOk ks' (R ++ [(ks.length : Int) + 1]) ∧ ks'.length = ks.length + 2 ∧ Kns l2 h2 bv ks' V ∧ (∀ g, rv.ownBlock = some g → g < l2) ∧ h + 1 + 1 ≤ l2 ∧ l2 ≤ h2 ∧ h2 ≤ V.heap.size
theorem nx_al {w W V : World} {h p : Nat} {ad : Option Addr} {len cap : Nat} {av rv bv : Value} {ks : List Kn} {R : List Int} {lo hi : Nat} (hp : p < w.heap.size) (S4 : ForSt w W h p ad len cap av rv ks R lo hi) (S5 : ForSt w V h p ad len cap av rv ks R lo hi) (B5 : Below W.heap.size W V)
    (KP : ∃ ks', ForOk ks' (R ++ [(ks.length : Int) + 1]) ∧ ks'.length = ks.length + 2 ∧ Kns W.heap.size V.heap.size bv ks' V) : Nx w (V.alloc (.cells #[bv] 26)) h p ad len cap av rv bv ks R lo hi V.heap.size := by
  have hh := (Array.getElem?_eq_some_iff.1 S4.2.1).1
  have s5 := B5.size
  obtain ⟨ks', k1, k2, k3⟩ := KP
  have bA := (Below.refl V.heap.size V).alloc (Nat.le_refl _) (.cells #[bv] 26)
  exact ⟨S5.al hp _, heap_alloc_new V _, by omega, ks', _, _, k1, k2, Kns.loc _ _ _ _ V _ (fun g g1 g2 => bA.block g g2) k3, fun g e => (own_block_lt S4.2.2.2.1 g e).2, by omega, s5, bA.size⟩
theorem nx_wr {w W0 W V : World} {h p : Nat} {ad : Option Addr} {len cap : Nat} {av rv bv : Value} {ks : List Kn} {R : List Int} {lo hi : Nat} {o : Obj} (hp : p < w.heap.size) (S0 : ForSt w W0 h p ad len cap av rv ks R lo hi) (S4 : ForSt w W h p ad len cap av rv ks R lo hi) (hc : W.heap[W0.heap.size]? = some o) (nc : V.heap[W0.heap.size]? = some (.cells #[.slice none 0 0] 26 (0, 0))) (S5 : ForSt w V h p ad len cap av rv ks R lo hi) (B5 : Below W.heap.size W V)
    (KP : ∃ ks', ForOk ks' (R ++ [(ks.length : Int) + 1]) ∧ ks'.length = ks.length + 2 ∧ Kns W.heap.size V.heap.size bv ks' V) : Nx w (V.setCell ⟨W0.heap.size, 0, none⟩ bv) h p ad len cap av rv bv ks R lo hi W0.heap.size := by
  have hh := (Array.getElem?_eq_some_iff.1 S0.2.1).1
  have hlt := (Array.getElem?_eq_some_iff.1 hc).1
  have s5 := B5.size
  obtain ⟨ks', k1, k2, k3⟩ := KP
  exact ⟨S5.wr S0 hp _, row_set nc 0 bv, by omega, ks', _, _, k1, k2, Kns.loc _ _ _ _ V _ (fun g g1 g2 => Below.heap_setCell _ _ _ _ (fun (e : g = W0.heap.size) => by omega)) k3, fun g e => (own_block_lt S4.2.2.2.1 g e).2, by omega, s5, by simp [World.setCell]⟩
/-- It is taken over. -/
theorem nx_end {w V V3 : World} {h p b : Nat} {ad : Option Addr} {len cap : Nat} {av rv bv u : Value} {ks : List Kn} {R : List Int} {lo hi : Nat} {x : Int} (hwh : w.heap.size = h) (hp : p < w.heap.size) (N : Nx w V h p ad len cap av rv bv ks R lo hi b) (hx : x = (ks.length : Int) + 1)
    (o2 : V3.ownsRow (h + 1 + 1) 3 1 u (R.length + 1) (icells R ++ [.int .i64 x])) (g2 : ((V.setCell ⟨h + 1, 0, none⟩ bv).alloc (.cells #[.int .i64 x] 3)).grownBy V3 rv.ownBlock) (hu : u.ownBlock = rv.ownBlock ∨ u.ownBlock = some (V.heap.size + 1)) :
    ∃ ks' l2 h2, ForOk ks' (R ++ [x]) ∧ ks'.length = ks.length + 2 ∧ ForSt w V3 h p ad len cap bv u ks' (R ++ [x]) l2 h2 := by
  subst hx
  obtain ⟨⟨h1, h2, h3, h4, h5, ⟨h6, h7, h8⟩, h9⟩, n1, n2, ks', l2, hh2, k1, k2, k3, k4, k5, k6, k7⟩ := N
  have hh := (Array.getElem?_eq_some_iff.1 n1).1
  have hs1 : (V.setCell ⟨h + 1, 0, none⟩ bv).heap.size = V.heap.size := by simp [World.setCell]
  have bA := (Below.refl (V.setCell ⟨h + 1, 0, none⟩ bv).heap.size (V.setCell ⟨h + 1, 0, none⟩ bv)).alloc (Nat.le_refl _) (.cells #[.int .i64 ((ks.length : Int) + 1)] 3)
  have hs2 : ((V.setCell ⟨h + 1, 0, none⟩ bv).alloc (.cells #[.int .i64 ((ks.length : Int) + 1)] 3)).heap.size = V.heap.size + 1 := by rw [alloc_size hs1]
  have ro := own_block_lt h4
  have bk : ∀ k, k < V.heap.size → k ≠ h + 1 → rv.ownBlock ≠ some k → V3.heap[k]? = V.heap[k]? := fun k q1 q2 q3 => (g2.block k (by omega) (fun e => q3 e.symm)).trans ((bA.block k (by omega)).trans (Below.heap_setCell _ _ _ _ q2))
  have far : ∀ k, k < h + 1 + 1 → rv.ownBlock ≠ some k := fun k q e => by have := (ro k e).1; omega
  refine ⟨ks', l2, hh2, k1, k2, (bk h (by omega) (by omega) (far h (by omega))).trans h1, ?_, Kns.loc _ _ _ _ V _ (fun g g1 g3 => bk g (by omega) (by omega) (fun e => by have := k4 g e; omega)) k3, ?_, ?_, ⟨k5, k6, by have := g2.size; omega⟩, ?_⟩
  · exact (g2.block (h + 1) (by omega) (fun e => far (h + 1) (by omega) e.symm)).trans ((bA.block (h + 1) (by omega)).trans (row_set h2 0 bv))
  · rw [← icells_snoc, List.length_append]
    exact o2
  · intro g e
    rcases hu with q | q
    · rw [q] at e
      exact .inl (k4 g e)
    · rw [q] at e
      injection e with e
      exact .inr (by omega)
  · have bV : Below h V V3 := (((Below.refl h V).setCell (p := ⟨h + 1, 0, none⟩) (by show h ≤ h + 1; omega) bv).alloc (by omega) _).grown g2 (by omega) (fun k e => by have := (ro k e).1; omega)
    rw [← hwh] at bV
    exact h9.below bV hp

set_option maxHeartbeats 2000000 in
set_option maxRecDepth 100000 in
theorem dforest (p : Nat) (ad : Option Addr) (len cap B : Nat) (w : World) (hl : len ≤ 1048576) (hc : CurIn w p ad len cap) (hd : CodeIn w ad len B) (hB : B ≤ p) :
    Calls Try.prog 12 #[.pointer (some ⟨p, 0, none⟩)] w (ForD w p ad len cap) := by
  obtain ⟨i0, hi0, hz0, hz1, hz2⟩ := info_parts infoInt
  have I0 := hide hi0
  have Y0 := hide hz0
  have Y1 := hide hz1
  have Y2 := hide hz2
  clear hi0 hz0 hz1 hz2
  have hpw := hc.2.2.2.2.2
  have HPW := hide hpw
  have HD := hide hd
  have S0 := hide (ForSt.new hc)
  clear hc hd
  go_enter Try.func12, Try.ntmps12
  go_wp2
  generalize ((w.alloc (.cells #[.slice none 0 0] 26)).alloc (.cells #[.slice none 0 0] 26)).alloc (.cells #[.int .i64 (-1)] 3) = wa at S0 ⊢
  obtain ⟨h, hh⟩ : ∃ h, w.heap.size = h := ⟨_, rfl⟩
  have HH := hide hh
  rw [hh] at S0 hpw ⊢
  clear hh
  go_loopw [5, 6] (fun rv iv wr => ∃ (av : Value) (ks : List Kn) (R : List Int) (lo hi : Nat), R.length ≤ 8 ∧ iv = .int .i64 (R.length - 1 : Nat) ∧ Hid (ForOk ks R) ∧ Hid (ForSt w wr h p ad len cap av rv ks R lo hi)) (fun _ iv _ => 8 - (intOf iv).toNat)
  case atStart => exact ⟨.slice none 0 0, [], [-1], _, _, by simp, rfl, ForOk.new, S0⟩
  case round =>
    obtain ⟨av, ks, R, lo, hi, h8, rfl, HK, HS⟩ := hrel
    clear S0
    obtain ⟨nR, hnR⟩ : ∃ nR, R.length = nR := ⟨_, rfl⟩
    have hn1 : 1 ≤ nR := by have := HK.out.2.2.2; omega
    obtain ⟨va, vc, hav⟩ := HS.out.2.2.1.form
    subst hav
    obtain ⟨ra, rc, hrv, hra⟩ := (Sli.of HS.out.2.2.2.1).form
    subst hrv
    obtain ⟨rg, hrg, hrg1, hrg2⟩ := hra (by omega)
    subst hrg
    have FL : Hid (Flt 3 rg (icells R) wr) := (Sli.of HS.out.2.2.2.1).flt
    rw [hnR] at h8 HS ⊢
    have HNR := hide hnR
    clear hra hnR
    go_wp2_with fail
    refine (for_below hl HD.out hB HPW.out hpw 8 (by omega) (by omega) HS.out).mono ?_
    rintro e x1 ⟨y, rfl, y0, y2, S1, -⟩
    clear HS FL
    by_cases hlt : ((nR - 1 : Nat) : Int) < y
    · have S1d := hide (S1.out.bel HPW.out (Below.refl _ _).drew)
      have KK : Hid (∀ W, ForSt w W h p ad len cap (.slice va ks.length vc) (.slice (some ⟨rg, 0, none⟩) nR rc) ks R lo hi → W.cell? ⟨h + 1, 0, none⟩ = some (.slice va ks.length vc) ∧ ∀ j : Nat, j < nR → W.cell? ⟨rg, j, none⟩ = some (.int .i64 (R[j]?.getD 0))) := fun W H => by
        refine ⟨cell_of_row _ _ 0 _ _ _ H.2.1, fun j hj => ?_⟩
        have hn := HNR.out
        have h4 := H.2.2.2.1
        rw [hn] at h4
        have hf : Flt 3 rg (icells R) W := (Sli.of h4).flt
        rw [hf.cell (icells_get (List.getElem?_eq_getElem (show j < R.length by omega)))]
        rw [List.getElem?_eq_getElem (show j < R.length by omega)]
        rfl
      have CB1 : Hid (∀ W, ForSt w W h p ad len cap (.slice va ks.length vc) (.slice (some ⟨rg, 0, none⟩) nR rc) ks R lo hi → Calls Try.prog 15 #[.pointer (some ⟨p, 0, none⟩), .int .i64 (nR : Int)] W fun e w' => ∃ k : Nat, e = .returned (.int .i64 (k : Int)) ∧ k < nR ∧ Hid (ForSt w w' h p ad len cap (.slice va ks.length vc) (.slice (some ⟨rg, 0, none⟩) nR rc) ks R lo hi) ∧ Hid (Kp p W w')) := fun W H => by
        refine (for_below hl HD.out hB HPW.out hpw (nR : Int) (by omega) (by omega) H).mono ?_
        rintro e w' ⟨x, rfl, x0, x1, a, b⟩
        exact ⟨x.toNat, by rw [Int.toNat_of_nonneg x0], by omega, a, b⟩
      have CB2 : Hid (∀ W, ForSt w W h p ad len cap (.slice va ks.length vc) (.slice (some ⟨rg, 0, none⟩) nR rc) ks R lo hi → Calls Try.prog 15 #[.pointer (some ⟨p, 0, none⟩), .int .i64 16] W fun e w' => ∃ x : Int, e = .returned (.int .i64 x) ∧ 0 ≤ x ∧ x < 16 ∧ Hid (ForSt w w' h p ad len cap (.slice va ks.length vc) (.slice (some ⟨rg, 0, none⟩) nR rc) ks R lo hi) ∧ Hid (Kp p W w')) := fun W H => for_below hl HD.out hB HPW.out hpw 16 (by omega) (by omega) H
      have CB3 : Hid (∀ W, ForSt w W h p ad len cap (.slice va ks.length vc) (.slice (some ⟨rg, 0, none⟩) nR rc) ks R lo hi → Calls Try.prog 15 #[.pointer (some ⟨p, 0, none⟩), .int .i64 9] W fun e w' => ∃ x : Int, e = .returned (.int .i64 x) ∧ 0 ≤ x ∧ x < 9 ∧ Hid (ForSt w w' h p ad len cap (.slice va ks.length vc) (.slice (some ⟨rg, 0, none⟩) nR rc) ks R lo hi) ∧ Hid (Kp p W w')) := fun W H => for_below hl HD.out hB HPW.out hpw 9 (by omega) (by omega) H
      have CP : Hid (∀ W (k : Nat) (s n : Int), k < nR → 0 ≤ s → s < 16 → 0 ≤ n → ForSt w W h p ad len cap (.slice va ks.length vc) (.slice (some ⟨rg, 0, none⟩) nR rc) ks R lo hi → Calls Try.prog 25 #[.agg #[.slice va ks.length vc], .int .i64 (R[k]?.getD 0), .int .i64 s, .int .i64 n] W fun e w' => ∃ ba bc, e = .returned (.tuple #[.agg #[.slice ba (ks.length + 2) bc], .int .i64 ((ks.length : Int) + 1)]) ∧ Hid (∃ ks', ForOk ks' (R ++ [(ks.length : Int) + 1]) ∧ ks'.length = ks.length + 2 ∧ Kns W.heap.size w'.heap.size (.slice ba (ks.length + 2) bc) ks' w') ∧ Hid (Below W.heap.size W w')) := fun W k s n hk s0 s1 n0 H => by
        have hn := HNR.out
        refine for_put H HK.out (by omega) ?_ s0 s1 n0
        rw [List.getElem?_eq_getElem (show k < R.length by omega)]
        exact List.getElem_mem _
      have hp0 := HPW.out
      have S1e := hide ((S1.out.al hp0 (.cells #[.slice none 0 0] 26)).bel HPW.out (Below.refl _ _).drew)
      go_wp2
      go_region_held3 (fun w' => w'.cell? ⟨h + 1, 0, none⟩ = some (.slice va ks.length vc) ∧ ∀ j : Nat, j < nR → w'.cell? ⟨rg, j, none⟩ = some (.int .i64 (R[j]?.getD 0))) (first | exact KK.out _ S1d.out | exact KK.out _ S1e.out | exact KK.out _ S2.out | exact KK.out _ (S2.out.al hp0 _) | exact KK.out _ S3.out | exact KK.out _ (S3.out.al hp0 _) | exact KK.out _ S4.out | exact KK.out _ (S4.out.al hp0 _) | exact KK.out _ S5.out | exact KK.out _ (S5.out.al hp0 _) | exact KK.out _ (S5.out.wr S4.out hp0 _) | exact KK.out _ (S5.out.wr S3.out hp0 _) | exact KK.out _ (S5.out.wr S2.out hp0 _) | exact KK.out _ (S5.out.wr S1.out hp0 _)) (first
        | (go_at_call 15; (with_reducible refine Calls.mono (CB1.out _ (by first | exact S1d.out | exact S1e.out)) ?_); rintro en x2 ⟨k2, rfl, hk2, S2, N2⟩)
        | (go_at_call 15; (with_reducible refine Calls.mono (CB2.out _ (by first | exact S2.out | exact S2.out.al hp0 _)) ?_); rintro en x3 ⟨s3, rfl, s30, s31, S3, N3⟩)
        | (go_at_call 15; (with_reducible refine Calls.mono (CB3.out _ (by first | exact S3.out | exact S3.out.al hp0 _)) ?_); rintro en x4 ⟨n4, rfl, n40, n41, S4, N4⟩)
        | (go_at_call 25; (with_reducible refine Calls.mono (CP.out _ _ _ _ hk2 s30 s31 n40 (by first | exact S4.out | exact S4.out.al hp0 _)) ?_); rintro en x5 ⟨ba, bc, rfl, KP, B5⟩; have N5 : Hid (Kp p _ x5) := Kp.below B5.out; have S5 : Hid (ForSt w x5 h p ad len cap (.slice va ks.length vc) (.slice (some ⟨rg, 0, none⟩) nR rc) ks R lo hi) := (by first | exact S4.out.bel hp0 B5.out | exact (S4.out.al hp0 _).bel hp0 B5.out); (try (have nc : Hid (x5.heap[x4.heap.size]? = some (.cells #[.slice none 0 0] 26 (0, 0))) := N5.out _ _ (heap_alloc_new x4 _) (S4.out.ne hpw); have kc := cell_of_row _ _ 0 _ _ _ nc.out; have kf := frozen_of_row _ _ 0 _ _ nc.out)); (try (have nc : Hid (x5.heap[x3.heap.size]? = some (.cells #[.slice none 0 0] 26 (0, 0))) := N5.out _ _ (N4.out _ _ (heap_alloc_new x3 _) (S3.out.ne hpw)) (S3.out.ne hpw); have kc := cell_of_row _ _ 0 _ _ _ nc.out; have kf := frozen_of_row _ _ 0 _ _ nc.out)); (try (have nc : Hid (x5.heap[x2.heap.size]? = some (.cells #[.slice none 0 0] 26 (0, 0))) := N5.out _ _ (N4.out _ _ (N3.out _ _ (heap_alloc_new x2 _) (S2.out.ne hpw)) (S2.out.ne hpw)) (S2.out.ne hpw); have kc := cell_of_row _ _ 0 _ _ _ nc.out; have kf := frozen_of_row _ _ 0 _ _ nc.out)); (try (have nc : Hid (x5.heap[x1.heap.size]? = some (.cells #[.slice none 0 0] 26 (0, 0))) := N5.out _ _ (N4.out _ _ (N3.out _ _ (N2.out _ _ (heap_alloc_new x1 _) (S1.out.ne hpw)) (S1.out.ne hpw)) (S1.out.ne hpw)) (S1.out.ne hpw); have kc := cell_of_row _ _ 0 _ _ _ nc.out; have kf := frozen_of_row _ _ 0 _ _ nc.out))))
      all_goals
        first
          | (have NX := hide (nx_wr hp0 S4.out (S4.out.al hp0 _) (heap_alloc_new x4 _) nc.out S5.out B5.out KP.out); generalize x5.setCell ⟨x4.heap.size, 0, none⟩ (.slice ba (ks.length + 2) bc) = V at NX ⊢; generalize x4.heap.size = b at NX ⊢)
          | (have NX := hide (nx_wr hp0 S3.out S4.out (N4.out _ _ (heap_alloc_new x3 _) (S3.out.ne hpw)) nc.out S5.out B5.out KP.out); generalize x5.setCell ⟨x3.heap.size, 0, none⟩ (.slice ba (ks.length + 2) bc) = V at NX ⊢; generalize x3.heap.size = b at NX ⊢)
          | (have NX := hide (nx_wr hp0 S2.out S4.out (N4.out _ _ (N3.out _ _ (heap_alloc_new x2 _) (S2.out.ne hpw)) (S2.out.ne hpw)) nc.out S5.out B5.out KP.out); generalize x5.setCell ⟨x2.heap.size, 0, none⟩ (.slice ba (ks.length + 2) bc) = V at NX ⊢; generalize x2.heap.size = b at NX ⊢)
          | (have NX := hide (nx_wr hp0 S1.out S4.out (N4.out _ _ (N3.out _ _ (N2.out _ _ (heap_alloc_new x1 _) (S1.out.ne hpw)) (S1.out.ne hpw)) (S1.out.ne hpw)) nc.out S5.out B5.out KP.out); generalize x5.setCell ⟨x1.heap.size, 0, none⟩ (.slice ba (ks.length + 2) bc) = V at NX ⊢; generalize x1.heap.size = b at NX ⊢)
          | (have NX := hide (nx_al hp0 S4.out S5.out B5.out KP.out); generalize x5.alloc (.cells #[.slice ba (ks.length + 2) bc] 26) = V at NX ⊢; generalize x5.heap.size = b at NX ⊢)
      all_goals
        clear CB1 CB2 CB3 CP KK S1 S1d S1e S2 S3 S4 S5 N2 N3 N4 N5 B5 KP
        have v1 : V.cell? ⟨b, 0, none⟩ = some (.slice ba (ks.length + 2) bc) := cell_of_row _ _ 0 _ _ _ NX.out.2.1
        have v2 : V.cell? ⟨h + 1, 0, none⟩ = some (.slice va ks.length vc) := cell_of_row _ _ 0 _ _ _ NX.out.1.2.1
        have v3 : V.frozen? ⟨h + 1, 0, none⟩ = false := frozen_of_row _ _ 0 _ _ NX.out.1.2.1
        have hV1 : (V.setCell ⟨h + 1, 0, none⟩ (.slice ba (ks.length + 2) bc)).heap.size = V.heap.size := by simp [World.setCell]
        have OW : Hid (((V.setCell ⟨h + 1, 0, none⟩ (.slice ba (ks.length + 2) bc)).alloc (.cells #[.int .i64 ((ks.length : Int) + 1)] 3)).ownsRow (h + 1 + 1) 3 1 (.slice (some ⟨rg, 0, none⟩) nR rc) nR (icells R)) := by have o := NX.out.1.2.2.2.1; rw [HNR.out] at o; exact own_below (own_cell o (show h + 1 < h + 1 + 1 by omega) 0 _) ((Below.refl _ _).alloc (Nat.le_refl _) _)
        have HN : Hid (∀ (j : Nat) (u : Value), [Value.int .i64 ((ks.length : Int) + 1)][j]? = some u → ((V.setCell ⟨h + 1, 0, none⟩ (.slice ba (ks.length + 2) bc)).alloc (.cells #[.int .i64 ((ks.length : Int) + 1)] 3)).cell? ((⟨V.heap.size, 0, none⟩ : Addr).add j) = some u) := by have o := one_cell (V.setCell ⟨h + 1, 0, none⟩ (.slice ba (ks.length + 2) bc)) (.int .i64 ((ks.length : Int) + 1)) 3; rw [hV1] at o; exact o
        have HB : Hid (h + 1 + 1 ≤ ((V.setCell ⟨h + 1, 0, none⟩ (.slice ba (ks.length + 2) bc)).alloc (.cells #[.int .i64 ((ks.length : Int) + 1)] 3)).heap.size) := by have o := alloc_size hV1 (.cells #[.int .i64 ((ks.length : Int) + 1)] 3); have q := (Array.getElem?_eq_some_iff.1 NX.out.1.2.1).1; show _ ≤ _; omega
        clear hV1
        go_wp2_with (at_builtin; refine wpList_append_own_at _ rfl _ _ 27 rfl (h + 1 + 1) 3 i0 (.int .i64 0) 1 8 Try.underlying27 I0.out Y0.out Y1.out Y2.out rfl (by decide) _ nR (icells R) rfl OW.out ⟨V.heap.size, 0, none⟩ 1 1 [.int .i64 ((ks.length : Int) + 1)] rfl rfl HN.out (one_i64 _) (by unfold maxLen; omega) (by omega) HB.out ?_)
        intro u V3 o2 g2 _ hu
        obtain ⟨ub, ucc, hu2, -⟩ := (Sli.of o2).form
        subst hu2
        obtain ⟨ks', l2, h2', k1, k2, k3⟩ := nx_end HH.out hp0 NX.out rfl (by rw [HNR.out]; exact o2) g2 hu
        have K1 := hide k1
        have K3 := hide k3
        have hnr := HNR.out
        have hR1 : (R ++ [((ks.length : Int) + 1)]).length = nR + 1 := by rw [List.length_append, hnr]; rfl
        generalize R ++ [((ks.length : Int) + 1)] = R2 at K1 K3 hR1
        clear o2 g2 hu k1 k3 v1 v2 v3 OW HN HB NX
        go_wp2
        go_roundw
        case rel => exact ⟨_, ks', R2, l2, h2', by omega, by rw [hR1]; go_num, K1, K3⟩
        case measure => simp [intOf]; omega
    · have r0 : x1.cell? ⟨h, 0, none⟩ = some (.slice none 0 0) := cell_of_row _ _ 0 _ _ _ S1.out.1
      have f0 : x1.frozen? ⟨h, 0, none⟩ = false := frozen_of_row _ _ 0 _ _ S1.out.1
      have a0 : x1.cell? ⟨h + 1, 0, none⟩ = some (.slice va ks.length vc) := cell_of_row _ _ 0 _ _ _ S1.out.2.1
      have FO : Hid (ForD w p ad len cap (.returned (.tuple #[.agg #[.slice va ks.length vc], .slice (some ⟨rg, 0, none⟩) nR rc])) (x1.setCell ⟨h, 0, none⟩ (.slice va ks.length vc))) := by
        obtain ⟨q1, q2, q3, q4, q5, ⟨q6, q7, q8⟩, q9⟩ := S1.out
        have hs1 : (x1.setCell ⟨h, 0, none⟩ (.slice va ks.length vc)).heap.size = x1.heap.size := by simp [World.setCell]
        have hw := HH.out
        refine ⟨_, _, ks, R, lo, hi, rfl, by have := HNR.out; omega, HK.out, Kns.loc _ _ _ _ x1 _ (fun g g1 g2 => Below.heap_setCell _ _ _ _ (fun (e : g = h) => by omega)) q3, ?_, q5, ⟨by omega, q7, by omega⟩, ?_⟩
        · exact own_lower (own_cell q4 (show h < h + 1 + 1 by omega) 0 _) (by omega)
        · exact q9.below ((Below.refl _ x1).setCell (p := ⟨h, 0, none⟩) (by show w.heap.size ≤ h; omega) _) HPW.out
      have Q1 := hide (row_set S1.out.1 0 (.slice va ks.length vc))
      go_wp2
      exact bodyPost_ret (results_ar2 (p := 2) (q := 3) rfl _ _ h _ rfl Q1.out) rfl FO.out
end Go.Proofs.Ytnebelflnpbbiad
