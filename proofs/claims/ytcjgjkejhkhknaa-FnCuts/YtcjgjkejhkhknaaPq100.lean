/-
  DoS; IDoS
-/
import Derived.Test.YtcjgjkejhkhknaaPq88
import Derived.Test.YtcjgjkejhkhknaaPq89
import Derived.Test.YtcjgjkejhkhknaaIDo2
/-
  Where steps are done: the answer's cell, the cell of the flash so far, and this flash.
-/
namespace Go.Proofs.Ytcjgjkejhkhknaa
open Go.RowKit

/-- Where steps are done: the answer's cell, the cell of the flash so far, and this flash. -/
def DoS (w wr : World) (c : Nat) (v : Value) (bs : List Bk) : Prop := ∃ lo hi, (hi ≤ c ∨ c + 1 ≤ lo) ∧ w.heap.size + 1 + 1 ≤ lo ∧ w.heap.size + 1 + 1 ≤ c ∧
  Tk w wr [(c, c + 1, Cel c #[v] 28), (lo, hi, Fla lo hi v bs), (w.heap.size + 1, w.heap.size + 1 + 1, Cel (w.heap.size + 1) #[.slice none 0 0] 28)]
theorem DoS.below {w wr wx : World} {c : Nat} {v : Value} {bs : List Bk} (h : DoS w wr c v bs) (hb : Below wr.heap.size wr wx) : DoS w wx c v bs := by
  obtain ⟨lo, hi, h1, h2, h3, T⟩ := h
  exact ⟨lo, hi, h1, h2, h3, T.below hb⟩
theorem DoS.cell {w wr : World} {c : Nat} {v : Value} {bs : List Bk} (h : DoS w wr c v bs) : wr.cell? ⟨c, 0, none⟩ = some v ∧ wr.frozen? ⟨c, 0, none⟩ = false ∧ wr.cell? ⟨w.heap.size + 1, 0, none⟩ = some (.slice none 0 0) ∧ wr.frozen? ⟨w.heap.size + 1, 0, none⟩ = false := by
  obtain ⟨lo, hi, h1, h2, h3, T⟩ := h
  exact ⟨T.at 0 0 rfl rfl, T.fr 0 0 rfl, T.at 2 0 rfl rfl, T.fr 2 0 rfl⟩
theorem DoS.rdb {w wr : World} {c : Nat} {v : Value} {bs : List Bk} (h : DoS w wr c v bs) : RdB wr v bs := by
  obtain ⟨lo, hi, h1, h2, h3, T⟩ := h
  exact (T.get 1 rfl).rdb
theorem DoS.bel {w wr : World} {c : Nat} {v : Value} {bs : List Bk} (h : DoS w wr c v bs) : Below w.heap.size w wr := by
  obtain ⟨lo, hi, h1, h2, h3, T⟩ := h
  exact T.1
theorem DoS.form {w wr : World} {c : Nat} {v : Value} {bs : List Bk} (h : DoS w wr c v bs) : ∃ ad cap, v = .slice ad bs.length cap := h.rdb.form
/-- The flash so far is another one, made since. -/
theorem DoS.next {w wr wx wy : World} {c : Nat} {v u : Value} {bs bs' : List Bk} (h : DoS w wr c v bs) (hb : Below wr.heap.size wr wx) (f : FlashOf wx wr.heap.size u bs') (hb2 : Below wx.heap.size wx wy) : DoS w (wy.setCell ⟨c, 0, none⟩ u) c u bs' := by
  obtain ⟨lo, hi, h1, h2, h3, T⟩ := h
  have hc := T.hi 0 rfl
  have T1 := (T.fla hb f).below hb2
  refine ⟨wr.heap.size, wx.heap.size, Or.inr hc, by omega, h3, T1.write (hs' := [(wr.heap.size, wx.heap.size, Fla wr.heap.size wx.heap.size u bs'), (w.heap.size + 1, w.heap.size + 1 + 1, Cel (w.heap.size + 1) #[.slice none 0 0] 28)]) 1 rfl (by omega) u (fun x hx => ?_)⟩
  simp only [List.mem_cons, List.not_mem_nil, or_false] at hx
  rcases hx with rfl | rfl
  · exact ⟨List.mem_cons_self .., Or.inr hc⟩
  · exact ⟨List.mem_of_getElem? (i := 3) rfl, Or.inl h3⟩
/-- .. a cell of its own was laid ahead of it. -/
theorem DoS.next2 {w wr wx : World} {c : Nat} {v u z : Value} {bs bs' : List Bk} (h : DoS w wr c v bs) (hb : Below (wr.alloc (.cells #[z] 28)).drew.heap.size (wr.alloc (.cells #[z] 28)).drew wx) (f : FlashOf wx (wr.alloc (.cells #[z] 28)).drew.heap.size u bs') :
    (wx.cell? ⟨wr.heap.size, 0, none⟩ = some z ∧ wx.frozen? ⟨wr.heap.size, 0, none⟩ = false) ∧ (wx.setCell ⟨wr.heap.size, 0, none⟩ u).cell? ⟨wr.heap.size, 0, none⟩ = some u ∧ DoS w (wx.setCell ⟨wr.heap.size, 0, none⟩ u) c v bs ∧ DoS w ((wx.setCell ⟨wr.heap.size, 0, none⟩ u).setCell ⟨c, 0, none⟩ u) c u bs' := by
  obtain ⟨lo, hi, h1, h2, h3, T⟩ := h
  have hc := T.hi 0 rfl
  have hhi := T.hi 1 rfl
  have hz : (wr.alloc (.cells #[z] 28)).drew.heap.size = wr.heap.size + 1 := alloc_size rfl _
  rw [hz] at f
  have T2 := (((T.celln rfl #[z] 28).drew).below hb).put (lo := wr.heap.size + 1) (hi := wx.heap.size) (P := Fla (wr.heap.size + 1) wx.heap.size u bs') (Nat.le_refl _) (Fla.loc _ _ _ _) f
  have T3 := T2.write (hs' := [(wr.heap.size + 1, wx.heap.size, Fla (wr.heap.size + 1) wx.heap.size u bs'), (c, c + 1, Cel c #[v] 28), (lo, hi, Fla lo hi v bs), (w.heap.size + 1, w.heap.size + 1 + 1, Cel (w.heap.size + 1) #[.slice none 0 0] 28)]) 1 rfl (by omega) u (fun x hx => by
    simp only [List.mem_cons, List.not_mem_nil, or_false] at hx
    rcases hx with rfl | rfl | rfl | rfl
    · exact ⟨List.mem_of_getElem? (i := 0) rfl, Or.inr (Nat.le_refl _)⟩
    · exact ⟨List.mem_of_getElem? (i := 2) rfl, Or.inl hc⟩
    · exact ⟨List.mem_of_getElem? (i := 3) rfl, Or.inl hhi⟩
    · exact ⟨List.mem_of_getElem? (i := 4) rfl, Or.inl (show w.heap.size + 1 + 1 ≤ wr.heap.size by omega)⟩)
  have T4 := T3.write (hs' := [(wr.heap.size + 1, wx.heap.size, Fla (wr.heap.size + 1) wx.heap.size u bs'), (w.heap.size + 1, w.heap.size + 1 + 1, Cel (w.heap.size + 1) #[.slice none 0 0] 28)]) 2 rfl (by omega) u (fun x hx => by
    simp only [List.mem_cons, List.not_mem_nil, or_false] at hx
    rcases hx with rfl | rfl
    · exact ⟨List.mem_of_getElem? (i := 1) rfl, Or.inr (show c + 1 ≤ wr.heap.size + 1 by omega)⟩
    · exact ⟨List.mem_of_getElem? (i := 4) rfl, Or.inl h3⟩)
  refine ⟨⟨T2.at 1 0 rfl rfl, T2.fr 1 0 rfl⟩, T3.at 0 0 rfl rfl, ⟨lo, hi, h1, h2, h3, T3.drop (fun x hx => ?_)⟩, ⟨_, _, Or.inr (show c + 1 ≤ wr.heap.size + 1 by omega), by omega, h3, T4⟩⟩
  simp only [List.mem_cons, List.not_mem_nil, or_false] at hx ⊢
  rcases hx with h | h | h <;> simp [h]
/-- .. and at the end it is the answer. -/
theorem DoS.fin {w wr : World} {c : Nat} {v : Value} {bs : List Bk} (h : DoS w wr c v bs) : (wr.setCell ⟨w.heap.size + 1, 0, none⟩ v).heap[w.heap.size + 1]? = some (.cells #[v] 28 (0, 0)) ∧ FlashOf (wr.setCell ⟨w.heap.size + 1, 0, none⟩ v) w.heap.size v bs ∧ Below w.heap.size w (wr.setCell ⟨w.heap.size + 1, 0, none⟩ v) := by
  obtain ⟨lo, hi, h1, h2, h3, T⟩ := h
  have T1 := T.write (hs' := [(lo, hi, Fla lo hi v bs)]) 2 rfl (by omega) v (fun x hx => by rw [List.mem_singleton] at hx; subst hx; exact ⟨List.mem_of_getElem? (i := 1) rfl, Or.inr h2⟩)
  exact ⟨T1.get 0 rfl, (T1.get 1 rfl).of (T1.hi 1 rfl) (by omega), T1.1⟩
theorem DoS.start {w wx : World} {c : Nat} {arg v : Value} {bs : List Bk} (hb : Below ((w.alloc (.cells #[arg] 28)).alloc (.cells #[.slice none 0 0] 28)).heap.size ((w.alloc (.cells #[arg] 28)).alloc (.cells #[.slice none 0 0] 28)) wx) (f : FlashOf wx ((w.alloc (.cells #[arg] 28)).alloc (.cells #[.slice none 0 0] 28)).heap.size v bs) (hc : wx.heap.size = c) : DoS w (wx.alloc (.cells #[v] 28)) c v bs := by
  subst hc
  have T0 := Tk.two w #[arg] #[.slice none 0 0] 28 28
  have hz : ((w.alloc (.cells #[arg] 28)).alloc (.cells #[.slice none 0 0] 28)).heap.size = w.heap.size + 1 + 1 := alloc_size (alloc_size rfl _) _
  have T1 := (T0.fla hb f).cell #[v] 28
  rw [hz] at T1
  have hs := hb.size
  rw [hz] at hs
  refine ⟨w.heap.size + 1 + 1, wx.heap.size, Or.inl (Nat.le_refl _), Nat.le_refl _, hs, T1.drop (fun x hx => ?_)⟩
  simp only [List.mem_cons, List.not_mem_nil, or_false] at hx ⊢
  rcases hx with h | h | h <;> simp [h]

end Go.Proofs.Ytcjgjkejhkhknaa

/-
  impl.DoSteps.
-/
namespace Go.Proofs.Ytcjgjkejhkhknaa
open Go.RowKit

set_option maxHeartbeats 800000 in
set_option maxRecDepth 100000 in
theorem idos_b (v u : Value) (bs : List Bk) (l : List Stp) (w : World) (hs : Sml bs) (hl : l.length ≤ 1000000000) (ha : RdB w v bs) (hu : StRd w u l) :
    Calls Try.prog 59 #[.agg #[v], u] w fun e w' => ∃ x, e = .returned (.tuple #[.agg #[x], .int .i64 ((doAll bs l).2 : Int)]) ∧ FlashOf w' w.heap.size x (doAll bs l).1 ∧ Below w.heap.size w w' := by
  obtain ⟨vd, vc, rfl⟩ := ha.form
  obtain ⟨ad, cap, rfl, u1, u2, u3⟩ := hu.form
  obtain ⟨n, hn⟩ : ∃ n, l.length = n := ⟨_, rfl⟩
  have HN := hide hn
  have HB0 := hide (((Below.refl w.heap.size w).alloc (Nat.le_refl _) (.cells #[.slice vd bs.length vc] 28)).alloc (by simp) (.cells #[.slice none 0 0] 28))
  have F0 := hide (ha.below HB0.out)
  have HU := hide hu
  have HS := hide hs
  rw [hn] at hl u1 HU ⊢
  clear ha hu hs u3 hn
  go_enter Try.func59, Try.ntmps59
  go_wp2_with fail
  refine (icopy_b _ bs _ HS.out F0.out).mono ?_
  rintro e w1 ⟨x, rfl, fo, b1⟩
  obtain ⟨xd, xc, rfl⟩ := fo.form
  obtain ⟨c, hc⟩ : ∃ c, w1.heap.size = c := ⟨_, rfl⟩
  have D0 := hide (DoS.start b1 fo hc)
  clear b1 fo F0
  go_wp2
  try rw [hc]
  clear hc
  generalize w1.alloc (.cells #[.slice xd bs.length xc] 28) = w2 at D0 ⊢
  go_loopw [15] (fun iv wr => ∃ (i : Nat) (y : Value) (cs : List Bk), i ≤ n ∧ iv = .int .i64 i ∧ Hid (doAll bs (l.take i) = (cs, i)) ∧ Hid (Sml cs) ∧ Hid (DoS w wr c y cs)) (fun iv _ => n - (intOf iv).toNat)
  case atStart => exact ⟨0, _, bs, Nat.zero_le _, rfl, rfl, HS, D0⟩
  case round =>
    obtain ⟨i, y, cs, hi, rfl, HA, HC, D⟩ := hrel
    clear D0
    obtain ⟨yd, yc, rfl⟩ := D.out.form
    obtain ⟨k1, f1, k2, f2⟩ := D.out.cell
    by_cases hlt : (i : Int) < n
    · obtain ⟨s, hsi⟩ : ∃ s, l[i]? = some s := ⟨_, List.getElem?_eq_getElem (by have := HN.out; omega)⟩
      obtain ⟨g, o, eg, q1, q2, q3, q4⟩ := (HU.out.below D.out.bel).at hsi
      subst eg
      have HSI := hide hsi
      obtain ⟨k, b, lf, t⟩ := s
      simp only at q1 q2 q3 q4
      have i0 : (0 : Int) ≤ i := by omega
      have bA := (Below.refl wr.heap.size wr).alloc (Nat.le_refl _) (.cells #[.int .i64 k, .int .i64 b, .int .i64 lf, .string t] 49)
      have D1 := hide (D.out.below bA)
      obtain ⟨k1', -, -, -⟩ := D1.out.cell
      obtain ⟨cs', ok, hd⟩ : ∃ cs' ok, doF cs (k, b, lf, t) = (cs', ok) := ⟨_, _, rfl⟩
      have HDF := hide hd
      clear hsi bA hd
      go_wp2_with fail
      have CD := hide (ido_b (.slice yd cs.length yc) cs (k, b, lf, t) (wr.alloc (.cells #[.int .i64 k, .int .i64 b, .int .i64 lf, .string t] 49)) HC.out D1.out.rdb)
      generalize wr.alloc (.cells #[.int .i64 k, .int .i64 b, .int .i64 lf, .string t] 49) = w3 at D1 CD ⊢
      unfold stV at CD
      simp only at CD
      refine CD.out.mono ?_
      rintro e w4 ⟨z, rfl, fo, b4⟩
      rw [HDF.out] at fo ⊢
      simp only at fo ⊢
      obtain ⟨zd, zc, rfl⟩ := fo.form
      have b5 := (Below.refl w4.heap.size w4).alloc (Nat.le_refl _) (.cells #[.slice zd cs'.length zc] 28)
      cases ok with
      | false =>
        have D5 := hide ((D1.out.below b4).below b5)
        have HE : Hid (doAll bs l = (cs, i)) := doAll_stop HA.out HSI.out (by rw [HDF.out])
        obtain ⟨p1, -, p2, p3⟩ := D5.out.cell
        have FI := hide D5.out.fin
        clear b4 b5 fo CD D1 D k1 k2 f1 f2 q1 q2 q3 q4 k1'
        go_wp2
        exact bodyPost_ret (results_flash2 rfl _ _ (w.heap.size + 1) _ rfl FI.out.1) rfl ⟨_, by rw [HE.out]; rfl, by rw [HE.out]; exact FI.out.2.1, FI.out.2.2⟩
      | true =>
        have D5 := hide ((D1.out.below b4).below b5)
        obtain ⟨p1, p4, -, -⟩ := D5.out.cell
        have DN := hide (D1.out.next b4 fo b5)
        have HA2 : Hid (doAll bs (l.take (i + 1)) = (cs', i + 1)) := by
          have := doAll_next HA.out HSI.out (by rw [HDF.out])
          rw [HDF.out] at this
          exact this
        have HC2 : Hid (Sml cs') := by have := HC.out.step (k, b, lf, t); rw [HDF.out] at this; exact this
        clear b4 b5 fo CD D1 D D5 k1 k2 f1 f2 q1 q2 q3 q4 k1'
        go_wp2
        go_roundw
        case rel => exact ⟨i + 1, _, cs', by omega, by go_num, HA2, HC2, DN⟩
        case measure => simp [intOf]; omega
    · have hin : i = n := by omega
      have HE : Hid (doAll bs l = (cs, n)) := by
        have := doAll_end HA.out (hin.trans HN.out.symm)
        rw [HN.out] at this
        exact this
      have FI := hide D.out.fin
      clear hin
      go_wp2
      exact bodyPost_ret (results_flash2 rfl _ _ (w.heap.size + 1) _ rfl FI.out.1) rfl ⟨_, by rw [HE.out]; rfl, by rw [HE.out]; exact FI.out.2.1, FI.out.2.2⟩
end Go.Proofs.Ytcjgjkejhkhknaa
