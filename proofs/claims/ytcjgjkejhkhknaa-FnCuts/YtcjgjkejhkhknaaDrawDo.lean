/-
  spec.DrawDoSteps, spec.DrawCutSteps.
-/
import Derived.Test.YtcjgjkejhkhknaaDrawSt
import Derived.Test.YtcjgjkejhkhknaaDPlc
import Derived.Test.YtcjgjkejhkhknaaPq2
import Derived.Deep.RegionHeld3
namespace Go.Proofs.Ytcjgjkejhkhknaa
open Go.RowKit

theorem own_strd {w : World} {B g n cap : Nat} {l : List Stp} (h : w.ownsRow B 49 4 (.slice (some ⟨g, 0, none⟩) n cap) n (stcells l)) (hn : l.length = n) : StRd w (.slice (some ⟨g, 0, none⟩) n cap) l := by
  subst hn
  obtain ⟨ad, c, e, h1, h2, -⟩ := frow_form h
  injection e with e1 e2 e3
  subst e1 e3
  refine ⟨_, _, rfl, h1, h2, (fun e => by cases e), fun i s hs => ⟨g, 0, rfl, ?_⟩⟩
  rw [Nat.zero_add]
  have cell : ∀ j v, (stcell s)[j]? = some v → w.cell? ⟨g, i * 4 + j, none⟩ = some v := fun j v hj => by
    have := h.cells (g := g) rfl _ _ (stcells_at l i s hs j v hj)
    rw [addr_at] at this
    exact this
  exact ⟨cell 0 _ rfl, cell 1 _ rfl, cell 2 _ rfl, cell 3 _ rfl⟩
theorem LenF.sml {rs : List Rw} (h : LenF rs) : Sml (rs.map tellOf) := by
  refine ⟨by rw [List.length_map]; have := h.1; omega, fun r hr => ?_⟩
  obtain ⟨q, hq, rfl⟩ := List.mem_map.1 hr
  exact ⟨by have := (h.2 q hq).1; simp only [tellOf]; omega, fun t ht => by have := (h.2 q hq).2 t ht; omega⟩
/-- A flash and steps that are drawn. -/
def DoD (w : World) (v u : Value) (bs : List Bk) (l : List Stp) (w' : World) : Prop := Sml bs ∧ RdB w' v bs ∧ l.length ≤ 7 ∧ (∃ g c, u = .slice (some ⟨g, 0, none⟩) l.length c) ∧ StRd w' u l ∧ Below w.heap.size w w'
/-- The answer's cell, the cursor, the flash and its cell. -/
def Sta (w x : World) (fc p : Nat) (ad : Option Addr) (len cap : Nat) (v : Value) (bs : List Bk) : Prop :=
  x.heap[w.heap.size]? = some (.cells #[.slice none 0 0] 28 (0, 0)) ∧ x.heap[fc]? = some (.cells #[v] 28 (0, 0)) ∧ RdP p x v bs ∧ CurIn x p ad len cap ∧ CodeIn x ad len w.heap.size ∧ Below w.heap.size w x
theorem Sta.drawn {w x y : World} {fc p : Nat} {ad : Option Addr} {len cap : Nat} {v : Value} {bs : List Bk} (h : Sta w x fc p ad len cap v bs) (d : Drawn x y p ad len cap) (hp : w.heap.size < p) (hf : fc ≠ p) : Sta w y fc p ad len cap v bs := by
  obtain ⟨h1, h2, h3, h4, h5, h6⟩ := h
  have hpw := h4.2.2.2.2.2
  exact ⟨(d.1.block _ (Array.getElem?_eq_some_iff.1 h1).1 (fun e => by cases e; omega)).trans h1, (d.1.block _ (Array.getElem?_eq_some_iff.1 h2).1 (fun e => by cases e; exact hf rfl)).trans h2, h3.kept (kept_drawn d), d.2, d.code h5 (by omega) hpw, h6.trans (grown_below d.1 (by omega) h6.size)⟩
theorem Sta.drew {w x : World} {fc p : Nat} {ad : Option Addr} {len cap : Nat} {v : Value} {bs : List Bk} (h : Sta w x fc p ad len cap v bs) : Sta w x.drew fc p ad len cap v bs := by
  obtain ⟨h1, h2, h3, h4, h5, h6⟩ := h
  exact ⟨h1, h2, h3.kept (Kept2.below (Below.refl _ _).drew), h4, h5, h6.drew⟩

theorem own_drawn {w w' : World} {p B : Nat} {ad : Option Addr} {len cap : Nat} {e : TypeId} {size n : Nat} {v : Value} {xs : List Value} (h : w.ownsRow B e size v n xs) (d : Drawn w w' p ad len cap) (hp : p < B) : w'.ownsRow B e size v n xs := by
  refine h.kept d.1 ?_
  cases hv : v.ownBlock with
  | none => exact Or.inl rfl
  | some g => exact Or.inr (fun e => by have := (own_block_lt h g hv).1; injection e with e; omega)
theorem results_flash4 {fn : Func} {p q r s : Tmp} (h : fn.results = #[.cell p 28, .tmp q, .tmp r, .tmp s]) (tmps : Array Value) (w : World) (g : Nat) (v : Value)
    (hp : tmps.getD p undef = .pointer (some ⟨g, 0, none⟩)) (hg : w.heap[g]? = some (.cells #[v] 28 (0, 0))) :
    (results fn tmps).run Try.prog w = .ok (.tuple #[.agg #[v], tmps.getD q undef, tmps.getD r undef, tmps.getD s undef]) w := by
  have hp' : tmps[p]?.getD undef = .pointer (some ⟨g, 0, none⟩) := by simpa using hp
  have hl := run_loadVar_row (P := Try.prog) w g 28 28 #[v] (0, 0) _ hg Try.underlying28 rfl infoFlash1
  simp [results, h, hp', asAddr, hl]
set_option maxHeartbeats 800000 in
set_option maxRecDepth 100000 in
theorem drawCut_any (ad : Option Addr) (len cap : Nat) (w : World) (hl : len ≤ 1048576) (hd : CodeIn w ad len w.heap.size) :
    Calls Try.prog 18 #[.slice ad len cap] w fun e w' => ∃ v u bs l x q, e = .returned (.tuple #[.agg #[v], u, .int .i64 x, .bool q]) ∧ DoD w v u bs l w' := by
  have hb0 := (Below.refl w.heap.size w).alloc (Nat.le_refl _) (.cells #[.slice none 0 0] 28)
  have R0 := hide (heap_alloc_new w (.cells #[.slice none 0 0] 28))
  have HZ := hide (show (w.alloc (.cells #[.slice none 0 0] 28)).heap.size = w.heap.size + 1 by simp)
  have HB0 := hide hb0
  have HD := hide (hd.on hb0 (Nat.le_refl _))
  clear hd hb0
  go_enter Try.func18, Try.ntmps18
  go_wp2_with fail
  refine (new_any ad len cap w.heap.size _ hl HD.out).mono ?_
  rintro e w1 ⟨p, rfl, hp, hc, b1⟩
  have HC := hide hc
  have hz := HZ.out
  have s1 := b1.size
  have HD1 := hide (HD.out.on b1 (by omega))
  have R1 := hide ((b1.block _ (by omega)).trans R0.out)
  have HB1 := hide (HB0.out.trans (b1.mono (by omega)))
  have hpw := hc.2.2.2.2.2
  clear hc b1 R0 HD HB0
  go_wp2_with fail
  refine (l05Any_ge p ad len cap w.heap.size _ hl HC.out HD1.out (by omega)).mono ?_
  rintro e w2 ⟨v, rs, rfl, hlen, hrd, d2⟩
  have hs2 := d2.1.size
  have hrd2 := hrd
  obtain ⟨vd, vcap, rfl, -, -⟩ := hrd2
  have bA := (Below.refl w2.heap.size w2).alloc (Nat.le_refl _) (.cells #[.slice vd rs.length vcap] 28)
  have ST : Hid (Sta w (w2.alloc (.cells #[.slice vd rs.length vcap] 28)) w2.heap.size p ad len cap (.slice vd rs.length vcap) (rs.map tellOf)) := by
    have R2 := (d2.1.block _ (by omega) (fun e => by cases e; omega)).trans R1.out
    exact ⟨(bA.block _ (by omega)).trans R2, heap_alloc_new w2 _, RdP.kept ⟨rs, rfl, hrd, hlen.2.ne (by omega)⟩ (Kept2.below bA), d2.2.below bA (by omega), (d2.code HD1.out (by omega) hpw).on bA (by omega), (HB1.out.trans (grown_below d2.1 (show w.heap.size ≤ p by omega) (by omega))).alloc (by omega) _⟩
  have HSM := hide hlen.1.sml
  have hfp : w2.heap.size ≠ p := by omega
  have hwp : w.heap.size < p := by omega
  have hfn : w2.heap.size ≠ w.heap.size := by omega
  have hw23 : w.heap.size < (w2.alloc (.cells #[.slice vd rs.length vcap] 28)).heap.size + 1 := by simp; omega
  obtain ⟨bs, hbs⟩ : ∃ bs, rs.map tellOf = bs := ⟨_, rfl⟩
  have hbl : rs.length = bs.length := by rw [← hbs, List.length_map]
  rw [hbs] at ST HSM
  rw [hbl] at ST ⊢
  obtain ⟨fc, hfc⟩ : ∃ fc, w2.heap.size = fc := ⟨_, rfl⟩
  rw [hfc] at ST hfp hfn
  rw [hbl] at hw23
  clear hrd hlen d2 hz bA R1 HB1 HD1 HC hbs HZ
  go_wp2
  try rw [hfc]
  clear hfc
  generalize w2.alloc (.cells #[.slice vd bs.length vcap] 28) = w3 at ST hw23 ⊢
  have k3 : w3.cell? ⟨fc, 0, none⟩ = some (.slice vd bs.length vcap) := cell_of_row _ _ 0 _ _ _ ST.out.2.1
  have STd := hide ST.out.drew
  have CL := hide (l08Steps_any p ad len cap w.heap.size (.slice vd bs.length vcap) bs w3.drew hl STd.out.2.2.2.1 STd.out.2.2.2.2.1 (by omega) HSM.out STd.out.2.2.1)
  have KK : Hid (∀ W, Sta w W fc p ad len cap (.slice vd bs.length vcap) bs → W.cell? ⟨fc, 0, none⟩ = some (.slice vd bs.length vcap)) := fun W h => cell_of_row _ _ 0 _ _ _ h.2.1
  have CP : Hid (∀ W, Sta w W fc p ad len cap (.slice vd bs.length vcap) bs → Calls Try.prog 56 #[.pointer (some ⟨p, 0, none⟩), .int .i64 7] W fun e w' => ∃ x : Int, e = .returned (.int .i64 x) ∧ Drawn W w' p ad len cap) := fun W h => place_any 7 p ad len cap w.heap.size W (by omega) (by omega) hl h.2.2.2.1 h.2.2.2.2.1 (by omega)
  have CO : Hid (∀ W, Sta w W fc p ad len cap (.slice vd bs.length vcap) bs → Calls Try.prog 57 #[.pointer (some ⟨p, 0, none⟩), .int .i64 2] W fun e w' => ∃ b : Bool, e = .returned (.bool b) ∧ Drawn W w' p ad len cap) := fun W h => once_any 2 p ad len cap w.heap.size W (by omega) hl h.2.2.2.1 h.2.2.2.2.1 (by omega)
  have hpB : p < w3.drew.heap.size + 1 := by have h := ST.out.2.2.2.1.2.2.2.2.2; show p < w3.heap.size + 1; omega
  go_region_held3 (fun w' => w'.cell? ⟨fc, 0, none⟩ = some (.slice vd bs.length vcap)) (first | go_keep | exact KK.out _ STd.out | exact KK.out _ S4.out | exact KK.out _ S5.out | exact KK.out _ S6.out | exact K6) (first
    | (go_at_call 55; (with_reducible refine Calls.mono CL.out ?_); rintro en w4 ⟨g, c, l, rfl, hl7, ow, d4⟩; have S4 := hide (STd.out.drawn d4 hwp hfp); have OW4 := hide ow; have HS4 := hide d4.1.size; clear ow d4)
    | (go_at_call 56; (with_reducible refine Calls.mono (CP.out _ S4.out) ?_); rintro en w5 ⟨x5, rfl, d5⟩; have S5 := hide (S4.out.drawn d5 hwp hfp); have OW5 := hide (own_drawn OW4.out d5 hpB); clear d5)
    | (go_at_call 57; (with_reducible refine Calls.mono (CO.out _ S5.out) ?_); rintro en w6 ⟨q6, rfl, d6⟩; have S6 := hide (S5.out.drawn d6 hwp hfp); have OW6 := hide (own_drawn OW5.out d6 hpB); have n6 : w6.cell? ⟨w.heap.size, 0, none⟩ = some (.slice none 0 0) := cell_of_row _ _ 0 _ _ _ S6.out.1; have f6 := frozen_of_row _ _ 0 _ _ S6.out.1; have K6 : (w6.setCell ⟨w.heap.size, 0, none⟩ (.slice vd bs.length vcap)).cell? ⟨fc, 0, none⟩ = some (.slice vd bs.length vcap) := cell_of_row _ _ 0 _ _ _ (row_set_ne S6.out.2.1 hfn 0 (.slice vd bs.length vcap)); clear d6))
  all_goals
    have PO : Hid (DoD w (.slice vd bs.length vcap) (.slice (some ⟨g, 0, none⟩) l.length c) bs l (w6.setCell ⟨w.heap.size, 0, none⟩ (.slice vd bs.length vcap))) := by
      obtain ⟨rs', e', h', -⟩ := S6.out.2.2.1
      exact ⟨HSM.out, ⟨rs', e', rd_aside h' S6.out.1 _⟩, hl7, ⟨g, c, rfl⟩, own_strd (own_cell OW6.out hw23 0 _) rfl, S6.out.2.2.2.2.2.setCell (p := ⟨w.heap.size, 0, none⟩) (Nat.le_refl _) _⟩
    have Q1 := hide (row_set S6.out.1 0 (.slice vd bs.length vcap))
    clear CL ST STd k3 n6 f6 K6 S4 S5 S6 OW4 OW5 OW6 CP CO KK
    go_wp2
    exact bodyPost_ret (results_flash4 rfl _ _ w.heap.size _ rfl Q1.out) rfl ⟨.slice vd bs.length vcap, .slice (some ⟨g, 0, none⟩) l.length c, bs, l, x5, q6, rfl, PO.out⟩
end Go.Proofs.Ytcjgjkejhkhknaa
