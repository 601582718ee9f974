/-
  The draw of a hasher and of a text that comes to it.
-/
import Derived.Test.YtaolinlginloaabDoorDrawH
namespace Go.Proofs.YtaolinlginloaabDoor
open Go.RowKit
open Dig

/-- What the draw lies in: the result's cells, the hasher, the cursor. -/
def DM (w0 : World) (p gh : Nat) (ad : Option Addr) (len cap : Nat) (s r : ByteArray) (c : Int) (w : World) : Prop :=
  HAt w w0.heap.size ⟨#[]⟩ ⟨#[]⟩ 0 ∧ HAt w gh s r c ∧ CurIn w p ad len cap ∧ CodeIn w ad len w0.heap.size ∧ Below w0.heap.size w0 w
theorem DM.on {w0 w w' : World} {p gh : Nat} {ad : Option Addr} {len cap : Nat} {s r : ByteArray} {c : Int} (h : DM w0 p gh ad len cap s r c w) (hb : Below w.heap.size w w') : DM w0 p gh ad len cap s r c w' :=
  ⟨h.1.below hb h.1.1, h.2.1.below hb h.2.1.1, h.2.2.1.below hb h.2.2.1.2.2.2.2.2, h.2.2.2.1.on (hb.mono h.2.2.2.2.size) (Nat.le_refl _), h.2.2.2.2.trans (hb.mono h.2.2.2.2.size)⟩
theorem DM.grown {w0 w w' : World} {p gh : Nat} {ad : Option Addr} {len cap : Nat} {s r : ByteArray} {c : Int} (h : DM w0 p gh ad len cap s r c w) (D : Drawn w w' p ad len cap) (hp : w0.heap.size < p) (hgp : gh ≠ p) (_hgw : gh ≠ w0.heap.size) : DM w0 p gh ad len cap s r c w' :=
  have hpw : p < w.heap.size := h.2.2.1.2.2.2.2.2
  ⟨h.1.grown D.1 (by omega), h.2.1.grown D.1 hgp, D.2, D.code h.2.2.2.1 (by omega) hpw, h.2.2.2.2.trans (grown_below D.1 (by omega) h.2.2.2.2.size)⟩

/-- A hasher and a text. -/
def DrewM (w : World) (e : Ending) (w' : World) : Prop := ∃ (s r : ByteArray) (c : Int) (t : ByteArray), e = .returned (.tuple #[.agg #[.string s, .string r, .int .i64 c], .string t]) ∧ (s.size ≤ 1000 ∧ r.size ≤ 2000 ∧ -1000000000 ≤ c ∧ c ≤ 3000000000) ∧ t.size ≤ 200 ∧ Below w.heap.size w w'

set_option maxHeartbeats 1000000 in
set_option maxRecDepth 100000 in
theorem drawMore_any (ad : Option Addr) (len cap : Nat) (w : World) (hl : len ≤ 1048576) (hd : CodeIn w ad len w.heap.size) :
    Calls Tryd.prog 15 #[.slice ad len cap] w fun e w' => DrewM w e w' := by
  have HD := hide hd
  clear hd
  go_enter Tryd.func15, Tryd.ntmps15
  go_wp2_with fail
  have hbA : Below w.heap.size w (w.alloc (.cells #[.string ⟨#[]⟩, .string ⟨#[]⟩, .int .i64 0] 28)) := (Below.refl _ _).alloc (Nat.le_refl _) _
  have hDA := HD.out.on hbA (Nat.le_refl _)
  refine (new_any ad len cap w.heap.size _ hl hDA).mono ?_
  rintro e w2 ⟨p, rfl, hp, hc, hb⟩
  have hp1 : w.heap.size < p := by simp at hp; omega
  have hZ2 : HAt w2 w.heap.size ⟨#[]⟩ ⟨#[]⟩ 0 := HAt.below (w := w.alloc (.cells #[.string ⟨#[]⟩, .string ⟨#[]⟩, .int .i64 0] 28)) ⟨by simp, by simp, by simp, by simp, by simp, by simp, by simp⟩ hb (by simp)
  have hB2 : Below w.heap.size w w2 := hbA.trans (hb.mono (by simp))
  have hD2 : CodeIn w2 ad len w.heap.size := hDA.on (hb.mono (by simp)) (Nat.le_refl _)
  have hpw2 := hc.2.2.2.2.2
  have HZ2 := hide hZ2
  have HB2 := hide hB2
  have HD2 := hide hD2
  have HC2 := hide hc
  clear hbA hDA hp hc hb hZ2 hB2 hD2 HD
  go_wp2_with fail
  refine (hasher_any p ad len cap w.heap.size _ hl HC2.out HD2.out (by omega)).mono ?_
  rintro e w3 ⟨s, r, c, rfl, hbd, D3⟩
  have hs3 := D3.1.size
  have h4 : DM w p w3.heap.size ad len cap s r c (w3.alloc (.cells #[.string s, .string r, .int .i64 c] 28)) := by
    have hb4 : Below w3.heap.size w3 (w3.alloc (.cells #[.string s, .string r, .int .i64 c] 28)) := (Below.refl _ _).alloc (Nat.le_refl _) _
    have hz3 := HZ2.out.grown D3.1 (by omega)
    have hb3 := HB2.out.trans (grown_below D3.1 (show w.heap.size ≤ p by omega) HB2.out.size)
    exact ⟨hz3.below hb4 hz3.1, ⟨by simp, by simp, by simp, by simp, by simp, by simp, by simp⟩, D3.2.below hb4 D3.2.2.2.2.2.2, (D3.code HD2.out (by omega) hpw2).on (hb4.mono hb3.size) (Nat.le_refl _), hb3.trans (hb4.mono hb3.size)⟩
  have hgp : w3.heap.size ≠ p := by omega
  have hgw : w3.heap.size ≠ w.heap.size := by have := HB2.out.size; omega
  have hgs : w.heap.size ≤ w3.heap.size := by have := HB2.out.size; omega
  have hpw : w.heap.size < p := hp1
  have H4 := hide h4
  have HBD0 := hide hbd
  obtain ⟨gh, hgh⟩ : ∃ gh, gh = w3.heap.size := ⟨_, rfl⟩
  rw [← hgh] at H4 hgp hgw hgs
  clear HZ2 HB2 HD2 HC2 D3 h4 hbd hp1 hpw2 hs3
  go_wp2_with fail
  rw [← hgh]
  refine (once_any 12 p ad len cap w.heap.size _ (by omega) hl H4.out.2.2.1 H4.out.2.2.2.1 (by omega)).mono ?_
  rintro e w5 ⟨b, rfl, D5⟩
  have h5 := H4.out.grown D5 hpw hgp hgw
  clear D5 H4 hgh
  cases b
  · have HBD := HBD0
    obtain ⟨w6, hw6⟩ : ∃ w6, w6 = w5 := ⟨_, rfl⟩
    rw [← hw6] at h5 ⊢
    have h6 := h5
    clear h5 hw6 HBD0
    go_wp2
    have K0 : Hid (w6.drew.cell? ⟨gh, 0, none⟩ = some (.string s) ∧ w6.drew.cell? ⟨gh, 1, none⟩ = some (.string r) ∧ w6.drew.cell? ⟨gh, 2, none⟩ = some (.int .i64 c)) := ⟨h6.2.1.2.1, h6.2.1.2.2.1, h6.2.1.2.2.2.1⟩
    obtain ⟨-, a0, a1, a2, -⟩ := h6.2.1
    have H6 := hide (h6.on (Below.refl _ _).drew)
    have CT : Hid (Calls Tryd.prog 18 #[.pointer (some ⟨p, 0, none⟩)] w6.drew fun e w7 => ∃ t : ByteArray, e = .returned (.string t) ∧ t.size ≤ 200 ∧ Hid (w7.cell? ⟨gh, 0, none⟩ = some (.string s) ∧ w7.cell? ⟨gh, 1, none⟩ = some (.string r) ∧ w7.cell? ⟨gh, 2, none⟩ = some (.int .i64 c)) ∧ Hid ((((w7.setCell ⟨w.heap.size, 0, none⟩ (.string s)).setCell ⟨w.heap.size, 1, none⟩ (.string r)).setCell ⟨w.heap.size, 2, none⟩ (.int .i64 c)).cell? ⟨gh, 0, none⟩ = some (.string s) ∧ (((w7.setCell ⟨w.heap.size, 0, none⟩ (.string s)).setCell ⟨w.heap.size, 1, none⟩ (.string r)).setCell ⟨w.heap.size, 2, none⟩ (.int .i64 c)).cell? ⟨gh, 1, none⟩ = some (.string r) ∧ (((w7.setCell ⟨w.heap.size, 0, none⟩ (.string s)).setCell ⟨w.heap.size, 1, none⟩ (.string r)).setCell ⟨w.heap.size, 2, none⟩ (.int .i64 c)).cell? ⟨gh, 2, none⟩ = some (.int .i64 c)) ∧
        (w7.cell? ⟨w.heap.size, 0, none⟩ = some (.string ⟨#[]⟩) ∧ w7.cell? ⟨w.heap.size, 1, none⟩ = some (.string ⟨#[]⟩) ∧ w7.cell? ⟨w.heap.size, 2, none⟩ = some (.int .i64 0)) ∧ (w7.frozen? ⟨w.heap.size, 0, none⟩ = false ∧ w7.frozen? ⟨w.heap.size, 1, none⟩ = false ∧ w7.frozen? ⟨w.heap.size, 2, none⟩ = false) ∧ Hid (DM w p gh ad len cap s r c w7)) := by
      refine (text3_any p ad len cap w.heap.size _ hl H6.out.2.2.1 H6.out.2.2.2.1 (by omega)).mono ?_
      rintro e w7 ⟨t, rfl, ht, D7⟩
      have h7 := H6.out.grown D7 hpw hgp hgw
      have h8 := h7.2.1.far (a := .string s) (b := .string r) (d := .int .i64 c) (q := w.heap.size) (fun e => hgw e.symm)
      obtain ⟨-, z0, z1, z2, z3, z4, z5⟩ := h7.1
      exact ⟨t, rfl, ht, ⟨h7.2.1.2.1, h7.2.1.2.2.1, h7.2.1.2.2.2.1⟩, ⟨h8.2.1, h8.2.2.1, h8.2.2.2.1⟩, ⟨z0, z1, z2⟩, ⟨z3, z4, z5⟩, h7⟩
    clear h6 H6
    go_wp2
    go_region_held3 (fun w' => w'.cell? ⟨gh, 0, none⟩ = some (.string s) ∧ w'.cell? ⟨gh, 1, none⟩ = some (.string r) ∧ w'.cell? ⟨gh, 2, none⟩ = some (.int .i64 c)) (first | (with_reducible exact K8.out) | (with_reducible exact K7.out) | (with_reducible exact K0.out)) (
      (go_at_call 18; (with_reducible refine Calls.mono CT.out ?_); rintro en w7 ⟨t, rfl, ht, K7, K8, ⟨r0, r1, r2⟩, ⟨f0, f1, f2⟩, H7⟩))
    have T := hide (HAt.set (s' := s) (r' := r) (c' := c) H7.out.1)
    have HB : Hid (Below w.heap.size w (((w7.setCell ⟨w.heap.size, 0, none⟩ (.string s)).setCell ⟨w.heap.size, 1, none⟩ (.string r)).setCell ⟨w.heap.size, 2, none⟩ (.int .i64 c))) := ((H7.out.2.2.2.2.setCell (p := ⟨w.heap.size, 0, none⟩) (Nat.le_refl _) (.string s)).setCell (p := ⟨w.heap.size, 1, none⟩) (Nat.le_refl _) (.string r)).setCell (p := ⟨w.heap.size, 2, none⟩) (Nat.le_refl _) (.int .i64 c)
    clear H7 K0 K7 K8 a0 a1 a2 r0 r1 r2 f0 f1 f2 CT
    generalize (((w7.setCell ⟨w.heap.size, 0, none⟩ (.string s)).setCell ⟨w.heap.size, 1, none⟩ (.string r)).setCell ⟨w.heap.size, 2, none⟩ (.int .i64 c)) = w8 at T HB ⊢
    go_wp2
    obtain ⟨-, q0, q1, q2, -⟩ := T.out
    exact bodyPost_ret (v := .tuple #[.agg #[.string s, .string r, .int .i64 c], .string t]) (by simp [results, Tryd.results15, go_sem, q0, q1, q2]) rfl ⟨s, r, c, t, rfl, HBD.out, ht, HB.out⟩
  · have H5 := hide h5
    clear h5
    go_wp2_with fail
    refine (long_int' 32 9 _ (by omega) (by omega) (by omega) (by omega)).mono ?_
    rintro e wa ⟨ta, rfl, hta, hba⟩
    have Ha := hide (H5.out.on hba)
    clear hba H5
    go_wp2_with fail
    refine (long_int' 61 1 _ (by omega) (by omega) (by omega) (by omega)).mono ?_
    rintro e wb ⟨tb, rfl, htb, hbb⟩
    have hb' := Ha.out.on hbb
    clear hbb Ha
    have hsa : (⟨ta.toArray⟩ : ByteArray).size ≤ 1000 := by show ta.toArray.size ≤ 1000; simp; omega
    have hsb : (⟨tb.toArray⟩ : ByteArray).size ≤ 2000 := by show tb.toArray.size ≤ 2000; simp; omega
    generalize (⟨ta.toArray⟩ : ByteArray) = S at hsa ⊢
    generalize (⟨tb.toArray⟩ : ByteArray) = R at hsb ⊢
    obtain ⟨C, hC⟩ : ∃ C : Int, C = 999999997 := ⟨_, rfl⟩
    have HBD : Hid (S.size ≤ 1000 ∧ R.size ≤ 2000 ∧ -1000000000 ≤ C ∧ C ≤ 3000000000) := ⟨hsa, hsb, by omega, by omega⟩
    have h6 : DM w p gh ad len cap S R C (((wb.setCell ⟨gh, 0, none⟩ (.string S)).setCell ⟨gh, 1, none⟩ (.string R)).setCell ⟨gh, 2, none⟩ (.int .i64 C)) := by
      have hbs : Below w.heap.size wb (((wb.setCell ⟨gh, 0, none⟩ (.string S)).setCell ⟨gh, 1, none⟩ (.string R)).setCell ⟨gh, 2, none⟩ (.int .i64 C)) := (((Below.refl _ _).setCell (p := ⟨gh, 0, none⟩) hgs (.string S)).setCell (p := ⟨gh, 1, none⟩) hgs (.string R)).setCell (p := ⟨gh, 2, none⟩) hgs (.int .i64 C)
      have hcu : CurIn (((wb.setCell ⟨gh, 0, none⟩ (.string S)).setCell ⟨gh, 1, none⟩ (.string R)).setCell ⟨gh, 2, none⟩ (.int .i64 C)) p ad len cap := by
        obtain ⟨u1, ⟨i, hi, u2⟩, ⟨hh, u3⟩, u4, u5, u6⟩ := hb'.2.2.1
        have o : ∀ (W : World) (i j : Nat) (u : Value), (W.setCell ⟨gh, i, none⟩ u).cell? ⟨p, j, none⟩ = W.cell? ⟨p, j, none⟩ := fun W i j u => World.cell?_setCell_other _ _ _ _ (fun e => hgp (by injection e))
        exact ⟨by rw [o, o, o]; exact u1, ⟨i, hi, by rw [o, o, o]; exact u2⟩, ⟨hh, by rw [o, o, o]; exact u3⟩, by simpa using u4, by simpa using u5, by simpa using u6⟩
      exact ⟨hb'.1.far hgw, hb'.2.1.set, hcu, hb'.2.2.2.1.on hbs (Nat.le_refl _), hb'.2.2.2.2.trans hbs⟩
    obtain ⟨-, k0, k1, k2, k3, k4, k5⟩ := hb'.2.1
    have H6' := hide h6
    clear h6 hb' HBD0
    rw [hC] at H6'
    go_wp2
    rw [← hC] at H6' ⊢
    generalize ((wb.setCell ⟨gh, 0, none⟩ (.string S)).setCell ⟨gh, 1, none⟩ (.string R)).setCell ⟨gh, 2, none⟩ (.int .i64 C) = w6 at H6' ⊢
    have h6 := H6'.out
    clear H6' k0 k1 k2 k3 k4 k5 hC
    have K0 : Hid (w6.drew.cell? ⟨gh, 0, none⟩ = some (.string S) ∧ w6.drew.cell? ⟨gh, 1, none⟩ = some (.string R) ∧ w6.drew.cell? ⟨gh, 2, none⟩ = some (.int .i64 C)) := ⟨h6.2.1.2.1, h6.2.1.2.2.1, h6.2.1.2.2.2.1⟩
    obtain ⟨-, a0, a1, a2, -⟩ := h6.2.1
    have H6 := hide (h6.on (Below.refl _ _).drew)
    have CT : Hid (Calls Tryd.prog 18 #[.pointer (some ⟨p, 0, none⟩)] w6.drew fun e w7 => ∃ t : ByteArray, e = .returned (.string t) ∧ t.size ≤ 200 ∧ Hid (w7.cell? ⟨gh, 0, none⟩ = some (.string S) ∧ w7.cell? ⟨gh, 1, none⟩ = some (.string R) ∧ w7.cell? ⟨gh, 2, none⟩ = some (.int .i64 C)) ∧ Hid ((((w7.setCell ⟨w.heap.size, 0, none⟩ (.string S)).setCell ⟨w.heap.size, 1, none⟩ (.string R)).setCell ⟨w.heap.size, 2, none⟩ (.int .i64 C)).cell? ⟨gh, 0, none⟩ = some (.string S) ∧ (((w7.setCell ⟨w.heap.size, 0, none⟩ (.string S)).setCell ⟨w.heap.size, 1, none⟩ (.string R)).setCell ⟨w.heap.size, 2, none⟩ (.int .i64 C)).cell? ⟨gh, 1, none⟩ = some (.string R) ∧ (((w7.setCell ⟨w.heap.size, 0, none⟩ (.string S)).setCell ⟨w.heap.size, 1, none⟩ (.string R)).setCell ⟨w.heap.size, 2, none⟩ (.int .i64 C)).cell? ⟨gh, 2, none⟩ = some (.int .i64 C)) ∧
        (w7.cell? ⟨w.heap.size, 0, none⟩ = some (.string ⟨#[]⟩) ∧ w7.cell? ⟨w.heap.size, 1, none⟩ = some (.string ⟨#[]⟩) ∧ w7.cell? ⟨w.heap.size, 2, none⟩ = some (.int .i64 0)) ∧ (w7.frozen? ⟨w.heap.size, 0, none⟩ = false ∧ w7.frozen? ⟨w.heap.size, 1, none⟩ = false ∧ w7.frozen? ⟨w.heap.size, 2, none⟩ = false) ∧ Hid (DM w p gh ad len cap S R C w7)) := by
      refine (text3_any p ad len cap w.heap.size _ hl H6.out.2.2.1 H6.out.2.2.2.1 (by omega)).mono ?_
      rintro e w7 ⟨t, rfl, ht, D7⟩
      have h7 := H6.out.grown D7 hpw hgp hgw
      have h8 := h7.2.1.far (a := .string S) (b := .string R) (d := .int .i64 C) (q := w.heap.size) (fun e => hgw e.symm)
      obtain ⟨-, z0, z1, z2, z3, z4, z5⟩ := h7.1
      exact ⟨t, rfl, ht, ⟨h7.2.1.2.1, h7.2.1.2.2.1, h7.2.1.2.2.2.1⟩, ⟨h8.2.1, h8.2.2.1, h8.2.2.2.1⟩, ⟨z0, z1, z2⟩, ⟨z3, z4, z5⟩, h7⟩
    clear h6 H6
    go_wp2
    go_region_held3 (fun w' => w'.cell? ⟨gh, 0, none⟩ = some (.string S) ∧ w'.cell? ⟨gh, 1, none⟩ = some (.string R) ∧ w'.cell? ⟨gh, 2, none⟩ = some (.int .i64 C)) (first | (with_reducible exact K8.out) | (with_reducible exact K7.out) | (with_reducible exact K0.out)) (
      (go_at_call 18; (with_reducible refine Calls.mono CT.out ?_); rintro en w7 ⟨t, rfl, ht, K7, K8, ⟨r0, r1, r2⟩, ⟨f0, f1, f2⟩, H7⟩))
    have T := hide (HAt.set (s' := S) (r' := R) (c' := C) H7.out.1)
    have HB : Hid (Below w.heap.size w (((w7.setCell ⟨w.heap.size, 0, none⟩ (.string S)).setCell ⟨w.heap.size, 1, none⟩ (.string R)).setCell ⟨w.heap.size, 2, none⟩ (.int .i64 C))) := ((H7.out.2.2.2.2.setCell (p := ⟨w.heap.size, 0, none⟩) (Nat.le_refl _) (.string S)).setCell (p := ⟨w.heap.size, 1, none⟩) (Nat.le_refl _) (.string R)).setCell (p := ⟨w.heap.size, 2, none⟩) (Nat.le_refl _) (.int .i64 C)
    clear H7 K0 K7 K8 a0 a1 a2 r0 r1 r2 f0 f1 f2 CT
    generalize (((w7.setCell ⟨w.heap.size, 0, none⟩ (.string S)).setCell ⟨w.heap.size, 1, none⟩ (.string R)).setCell ⟨w.heap.size, 2, none⟩ (.int .i64 C)) = w8 at T HB ⊢
    go_wp2
    obtain ⟨-, q0, q1, q2, -⟩ := T.out
    exact bodyPost_ret (v := .tuple #[.agg #[.string S, .string R, .int .i64 C], .string t]) (by simp [results, Tryd.results15, go_sem, q0, q1, q2]) rfl ⟨S, R, C, t, rfl, HBD.out, ht, HB.out⟩
end Go.Proofs.YtaolinlginloaabDoor
