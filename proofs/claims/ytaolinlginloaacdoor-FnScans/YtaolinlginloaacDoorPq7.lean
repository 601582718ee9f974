/-
  SPText; Vars
-/
import Derived.Test.YtaolinlginloaacDoorPq2
import Derived.Test.YtaolinlginloaacDoorPq3
import Derived.Test.YtaolinlginloaacDoorPq6
import Derived.Deep.RegionHeld3
import Derived.Test.YtaolinlginloaacDoorPq0
import Derived.ChangeVars
/-
  spec.PageText.
-/
namespace Go.Proofs.YtaolinlginloaacDoor
open Go.RowKit
open Words Sums

def ptRes (p : Pg) : Value := letI := p.decR; if p.Right then .tuple #[.string (sealA (pageA p)), .bool true] else .tuple #[.string ⟨#[]⟩, .bool false]

/-- A page in a block of its own, in a world that came of another. -/
def PIn (w a : World) (k s x q c : Int) (t : ByteArray) : Prop := Below w.heap.size w a ∧ w.heap.size < a.heap.size ∧
  (a.cell? ⟨w.heap.size, 0, none⟩ = some (.int .i64 k) ∧ a.cell? ⟨w.heap.size, 1, none⟩ = some (.int .i64 s) ∧ a.cell? ⟨w.heap.size, 2, none⟩ = some (.int .i64 x) ∧ a.cell? ⟨w.heap.size, 3, none⟩ = some (.int .i64 q) ∧ a.cell? ⟨w.heap.size, 4, none⟩ = some (.int .i64 c) ∧ a.cell? ⟨w.heap.size, 5, none⟩ = some (.string t))
theorem PIn.next {w a b : World} {k s x q c : Int} {t : ByteArray} (h : PIn w a k s x q c t) (hb : Below a.heap.size a b) : PIn w b k s x q c t :=
  ⟨h.1.trans (hb.mono h.1.size), Nat.lt_of_lt_of_le h.2.1 hb.size, by rw [hb.cell h.2.1, hb.cell h.2.1, hb.cell h.2.1, hb.cell h.2.1, hb.cell h.2.1, hb.cell h.2.1]; exact h.2.2⟩
theorem PIn.drew {w a : World} {k s x q c : Int} {t : ByteArray} (h : PIn w a k s x q c t) : PIn w a.drew k s x q c t := ⟨h.1.drew, h.2.1, h.2.2⟩

set_option maxHeartbeats 1000000 in
set_option maxRecDepth 100000 in
theorem spageText (p : Pg) (w : World) :
    Calls Tryd.prog 32 #[pgVal p] w fun e w' => e = .returned (ptRes p) ∧ Below w.heap.size w w' := by
  have HB := hide ((Below.refl w.heap.size w).alloc (Nat.le_refl _) (.cells #[.int .i64 p.kind, .int .i64 p.seq, .int .i64 p.tx, .int .i64 p.part, .int .i64 p.count, .string p.text] 35))
  by_cases hr : p.Right
  · have HE : Hid (ptRes p = .tuple #[.string (sealA (pageA p)), .bool true]) := if_pos hr
    have hz := pageA_size p hr
    have HS := hide (spageOk p)
    have hr' := hr
    obtain ⟨r1, r2, r3, r4, r5, r6⟩ := hr'
    have HP : Hid (pageA p = ((((byteA p.kind.toNat ++ varA p.seq.toNat) ++ varA p.tx.toNat) ++ varA p.part.toNat) ++ varA p.count.toNat) ++ p.text) := rfl
    have hd := dcY (d := p.decR) hr
    obtain ⟨k, s, x, q, c, t⟩ := p
    unfold pgVal at *
    simp only at *
    obtain ⟨k, rfl, ek⟩ := i_nat (show 0 ≤ k by omega)
    obtain ⟨s, rfl, es⟩ := i_nat (show 0 ≤ s by omega)
    obtain ⟨x, rfl, ex⟩ := i_nat (show 0 ≤ x by omega)
    obtain ⟨q, rfl, eq⟩ := i_nat (show 0 ≤ q by omega)
    obtain ⟨c, rfl, ec⟩ := i_nat (show 0 ≤ c by omega)
    rw [ek, es, ex, eq, ec] at HP
    clear ek es ex eq ec
    obtain ⟨b0, B0⟩ : ∃ b, b = byteA k := ⟨_, rfl⟩
    obtain ⟨v1, V1⟩ : ∃ b, b = varA s := ⟨_, rfl⟩
    obtain ⟨v2, V2⟩ : ∃ b, b = varA x := ⟨_, rfl⟩
    obtain ⟨v3, V3⟩ : ∃ b, b = varA q := ⟨_, rfl⟩
    obtain ⟨v4, V4⟩ : ∃ b, b = varA c := ⟨_, rfl⟩
    have C0 := hide (fun w => sbyte k (by omega) w)
    have C1 := hide (fun w => l01Var_any s w (by omega))
    have C2 := hide (fun w => l01Var_any x w (by omega))
    have C3 := hide (fun w => l01Var_any q w (by omega))
    have C4 := hide (fun w => l01Var_any c w (by omega))
    change Hid (∀ w, Calls Tryd.prog 67 #[.int .i64 s] w fun e w' => e = .returned (.string (varA s)) ∧ Below w.heap.size w w') at C1
    change Hid (∀ w, Calls Tryd.prog 67 #[.int .i64 x] w fun e w' => e = .returned (.string (varA x)) ∧ Below w.heap.size w w') at C2
    change Hid (∀ w, Calls Tryd.prog 67 #[.int .i64 q] w fun e w' => e = .returned (.string (varA q)) ∧ Below w.heap.size w w') at C3
    change Hid (∀ w, Calls Tryd.prog 67 #[.int .i64 c] w fun e w' => e = .returned (.string (varA c)) ∧ Below w.heap.size w w') at C4
    rw [← B0] at C0 HP
    rw [← V1] at C1 HP
    rw [← V2] at C2 HP
    rw [← V3] at C3 HP
    rw [← V4] at C4 HP
    clear B0 V1 V2 V3 V4
    obtain ⟨pa, hpa⟩ : ∃ b, b = pageA ⟨k, s, x, q, c, t⟩ := ⟨_, rfl⟩
    rw [← hpa] at hz HP HE
    clear hpa hr r1 r2 r3 r4 r5 r6
    obtain ⟨u1, U1⟩ : ∃ u, b0 ++ v1 = u := ⟨_, rfl⟩
    rw [U1] at HP
    obtain ⟨u2, U2⟩ : ∃ u, u1 ++ v2 = u := ⟨_, rfl⟩
    rw [U2] at HP
    obtain ⟨u3, U3⟩ : ∃ u, u2 ++ v3 = u := ⟨_, rfl⟩
    rw [U3] at HP
    obtain ⟨u4, U4⟩ : ∃ u, u3 ++ v4 = u := ⟨_, rfl⟩
    rw [U4] at HP
    have U5 : u4 ++ t = pa := HP.out.symm
    have z1 := congrArg ByteArray.size U1
    have z2 := congrArg ByteArray.size U2
    have z3 := congrArg ByteArray.size U3
    have z4 := congrArg ByteArray.size U4
    have z5 := congrArg ByteArray.size U5
    rw [ByteArray.size_append] at z1 z2 z3 z4 z5
    have Y1 : Hid (¬ (9223372036854775807 < b0.size + v1.size)) := by show ¬ _; omega
    have Y2 : Hid (¬ (9223372036854775807 < u1.size + v2.size)) := by show ¬ _; omega
    have Y3 : Hid (¬ (9223372036854775807 < u2.size + v3.size)) := by show ¬ _; omega
    have Y4 : Hid (¬ (9223372036854775807 < u3.size + v4.size)) := by show ¬ _; omega
    have Y5 : Hid (¬ (9223372036854775807 < u4.size + t.size)) := by show ¬ _; omega
    clear z1 z2 z3 z4 z5 HP
    go_enter Tryd.func32, Tryd.ntmps32
    go_wp2_with fail
    refine (HS.out _).mono ?_
    rintro e w1 ⟨rfl, hb1⟩
    rw [hd]
    obtain ⟨c0, c1, c2, c3, c4, c5⟩ := cell_new6 _ _ _ _ _ _ _ _ _ hb1
    have P1 : Hid (PIn w w1 k s x q c t) := ⟨HB.out.trans (hb1.mono HB.out.size), Nat.lt_of_lt_of_le (by simp) hb1.size, c0, c1, c2, c3, c4, c5⟩
    clear hb1 HB hd HS
    go_wp2_with fail
    have y1 := Y1.out
    have y2 := Y2.out
    have y3 := Y3.out
    have y4 := Y4.out
    have y5 := Y5.out
    go_region_held3 (fun w' => w'.cell? ⟨w.heap.size, 0, none⟩ = some (.int .i64 k) ∧ w'.cell? ⟨w.heap.size, 1, none⟩ = some (.int .i64 s) ∧ w'.cell? ⟨w.heap.size, 2, none⟩ = some (.int .i64 x) ∧ w'.cell? ⟨w.heap.size, 3, none⟩ = some (.int .i64 q) ∧ w'.cell? ⟨w.heap.size, 4, none⟩ = some (.int .i64 c) ∧ w'.cell? ⟨w.heap.size, 5, none⟩ = some (.string t)) (first | go_keep | exact P1.out.2.2 | exact P1.out.drew.2.2) (first
      | (go_at_call 66; with_reducible refine Calls.mono (C0.out _) ?_; rintro e w2 ⟨rfl, b2⟩; have P1 := hide (PIn.next (by first | exact P1.out | exact P1.out.drew) b2); clear b2)
      | (go_at_call 67; (with_reducible first | refine Calls.mono (C1.out _) ?_ | refine Calls.mono (C2.out _) ?_ | refine Calls.mono (C3.out _) ?_ | refine Calls.mono (C4.out _) ?_); rintro e w3 ⟨rfl, b3⟩; have P1 := hide (PIn.next (by first | exact P1.out | exact P1.out.drew) b3); clear b3)
      | (go_at_call 56; refine Calls.mono (specSealed pa _ (by omega)) ?_; rintro e w4 ⟨rfl, b4⟩; have P1 := hide (PIn.next (by first | exact P1.out | exact P1.out.drew) b4); clear b4))
    all_goals
      go_wp2
      go_ret2
      exact ⟨by rw [HE.out]; rfl, P1.out.1⟩
  · have HE : Hid (ptRes p = .tuple #[.string ⟨#[]⟩, .bool false]) := if_neg hr
    have HS := hide (spageOk p)
    have hd := dcN (d := p.decR) hr
    obtain ⟨k, s, x, q, c, t⟩ := p
    unfold pgVal at *
    simp only at *
    clear hr
    go_enter Tryd.func32, Tryd.ntmps32
    go_wp2_with fail
    refine (HS.out _).mono ?_
    rintro e w1 ⟨rfl, hb1⟩
    rw [hd]
    go_wp2
    go_ret2
    exact ⟨by rw [HE.out]; rfl, HB.out.trans (hb1.mono HB.out.size)⟩
end Go.Proofs.YtaolinlginloaacDoor

/-
  Package variables that are arrays of integers, where a row names them: they read behind the call as they did ahead of it.
-/
namespace Go.Proofs.YtaolinlginloaacDoor
open Go.ChangeShapes Go.RowKit

theorem trod_ints {H : Type} {enc : TypeId × Value → H} {P : Program} {t e : TypeId} {n : Nat} {k : IntKind} (ht : P.underlying t = some (.array n e)) (he : P.underlying e = some (.int k))
    (V V' : World) (b b' : Nat) (sp sp' : Nat → Bool) (held : Bool) (fuel : Nat) (cs : List Value) :
    DataW.trod enc P V b sp held fuel t cs = DataW.trod enc P V' b' sp' held fuel t cs := by
  cases fuel with
  | zero => rfl
  | succ fuel =>
    have h : ∀ x : List Value, DataW.trod enc P V b sp held fuel e x = DataW.trod enc P V' b' sp' held fuel e x := by
      intro x
      cases fuel with
      | zero => rfl
      | succ fuel =>
        simp only [DataW.trod, he]
        rcases x with _ | ⟨v, _ | ⟨v2, r⟩⟩
        · rfl
        · cases v <;> rfl
        · cases v <;> rfl
    simp only [DataW.trod, ht, h]

theorem vars_length {H : Type} {enc : TypeId × Value → H} {P : Program} {W : World} {sp : Nat → Bool} : ∀ {ns : List String} {gs : List (DataW H)} {q : List MemPlace}, DataW.TrodVars enc P W sp ns gs q → gs.length = ns.length
  | [], [], _, _ => rfl
  | [], _ :: _, _, h => by simp [DataW.TrodVars] at h
  | _ :: _, [], _, h => by simp [DataW.TrodVars] at h
  | _ :: _, _ :: _, _, h => by
    obtain ⟨_, _, _, _, _, _, _, _, _, _, hs, _⟩ := h
    simp [vars_length hs]

theorem vars_nil {H : Type} {enc : TypeId × Value → H} {P : Program} {W W' : World} {sp sp' : Nat → Bool} (gs : List (DataW H)) (q : List MemPlace) (h : DataW.TrodVars enc P W sp [] gs q) : DataW.TrodVars enc P W' sp' [] gs q := by
  cases gs with
  | nil => exact h
  | cons => simp [DataW.TrodVars] at h

theorem vars_cons {H : Type} {enc : TypeId × Value → H} {P : Program} {W W' : World} {sp sp' : Nat → Bool} {n : String} {ns : List String} {g : Nat} {t e : TypeId} {m : Nat} {k : IntKind}
    (hg : P.globalNamed n = some g) (hty : (P.globals[g]?).map (·.type) = some t) (ht : P.underlying t = some (.array m e)) (he : P.underlying e = some (.int k)) (hb : Below W.heap.size W W')
    (rest : ∀ gs q, DataW.TrodVars enc P W sp ns gs q → DataW.TrodVars enc P W' sp' ns gs q) (gs : List (DataW H)) (q : List MemPlace) (h : DataW.TrodVars enc P W sp (n :: ns) gs q) : DataW.TrodVars enc P W' sp' (n :: ns) gs q := by
  cases gs with
  | nil => simp [DataW.TrodVars] at h
  | cons d ds =>
    obtain ⟨g', t', cs, fuel, p, q', h1, h2, h3, h4, hs, rfl⟩ := h
    obtain rfl := Option.some.inj (hg.symm.trans h1)
    obtain rfl := Option.some.inj (hty.symm.trans h2)
    have hlt : g < W.heap.size := by
      rcases Nat.lt_or_ge g W.heap.size with h' | h'
      · exact h'
      · unfold World.var? at h3
        simp [hg, Array.getElem?_eq_none h'] at h3
    refine ⟨g, t, cs, fuel, p, q', h1, h2, var?_below hb hg hlt h3, ?_, rest _ _ hs, rfl⟩
    rw [trod_ints ht he W' W 0 0 sp' sp]
    exact h4
end Go.Proofs.YtaolinlginloaacDoor
