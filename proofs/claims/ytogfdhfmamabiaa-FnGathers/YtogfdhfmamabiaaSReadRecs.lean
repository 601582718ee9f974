/-
  spec.ReadRecs.
-/
import Derived.Test.YtogfdhfmamabiaaPk8
import Derived.Test.YtogfdhfmamabiaaSCur
import Derived.Test.YtogfdhfmamabiaaPk11
import Derived.Maps.AppendAt
namespace Go.Proofs.Ytogfdhfmamabiaa
open Go.RowKit
open Words

def rcLen : Value → Nat
  | .slice _ n _ => n
  | _ => 0
theorem own_kept {W W' : World} {base : Nat} {e : TypeId} {size : Nat} {v : Value} {n : Nat} {xs : List Value} (h : W.ownsRow base e size v n xs) (hk : ∀ i, i < W.heap.size → v.ownBlock = some i → W'.heap[i]? = W.heap[i]?) : W'.ownsRow base e size v n xs := by
  obtain ⟨h1, h2⟩ := h
  refine ⟨h1, ?_⟩
  rcases h2 with h | ⟨g, cap, cur, rfl, a2, a3, a4⟩
  · exact .inl h
  · exact .inr ⟨g, cap, cur, rfl, a2, by rw [hk g (Array.getElem?_eq_some_iff.1 a3).1 rfl]; exact a3, a4⟩
theorem CAt.off {w : World} {g p k : Nat} {t : ByteArray} {i : Int} {bad : Bool} {v : Value} (h : CAt w g t i bad) (hp : p ≠ g) : CAt (w.setCell ⟨p, k, none⟩ v) g t i bad := by
  obtain ⟨h1, h2, h3, h4, h5, h6⟩ := h
  have e : ∀ j, (w.setCell ⟨p, k, none⟩ v).cell? ⟨g, j, none⟩ = w.cell? ⟨g, j, none⟩ := fun j => World.cell?_setCell_other _ _ _ _ (fun e => hp (by injection e))
  exact ⟨by simpa using h1, by rw [e]; exact h2, by rw [e]; exact h3, by rw [e]; exact h4, by simpa using h5, by simpa using h6⟩

/-- What a reader of records holds: its cursor in g, its row of records. -/
def RS (w W : World) (g : Nat) (t : ByteArray) (q : Nat) (bad : Bool) (uv : Value) (acc : List Rc) : Prop :=
  Below w.heap.size w W ∧ w.heap.size ≤ g ∧ CAt W g t q bad ∧ W.ownsRow w.heap.size 34 4 uv acc.length (rccells (acc.map Rc.tu)) ∧ uv.ownBlock ≠ some g
theorem RS.moved {w W W' : World} {g : Nat} {t : ByteArray} {q q' : Nat} {bad bad' : Bool} {uv : Value} {acc : List Rc} (h : RS w W g t q bad uv acc) (m : MovedC W W' g t q' bad') : RS w W' g t q' bad' uv acc := by
  obtain ⟨h1, h2, h3, h4, h5⟩ := h
  exact ⟨h1.trans (Kept2.down m.1 h1.size (fun i hi => by omega)), h2, m.2, own_kept h4 (fun i hi e => m.1.2.2.2.2 i hi (fun e2 => h5 (e2 ▸ e))), h5⟩
theorem RS.below {w W W' : World} {g : Nat} {t : ByteArray} {q : Nat} {bad : Bool} {uv : Value} {acc : List Rc} (h : RS w W g t q bad uv acc) (b : Below W.heap.size W W') : RS w W' g t q bad uv acc :=
  h.moved ⟨Kept2.below b, h.2.2.1.below b⟩
theorem RS.set1 {w W : World} {g : Nat} {t : ByteArray} {q q' : Nat} {bad : Bool} {uv : Value} {acc : List Rc} (h : RS w W g t q bad uv acc) : RS w (W.setCell ⟨g, 1, none⟩ (.int .i64 (q' : Nat))) g t q' bad uv acc :=
  h.moved (MovedC.set1 h.2.2.1 (Below.refl _ _))

/-- And the record that it makes, in sc. -/
def RT (w W : World) (g : Nat) (t : ByteArray) (q : Nat) (bad : Bool) (uv : Value) (acc : List Rc) (sc : Nat) (cs : Array Value) : Prop :=
  RS w W g t q bad uv acc ∧ w.heap.size ≤ sc ∧ sc ≠ g ∧ uv.ownBlock ≠ some sc ∧ W.heap[sc]? = some (.cells cs 34 (0, 0))
theorem RT.new {w W : World} {g : Nat} {t : ByteArray} {q : Nat} {bad : Bool} {uv : Value} {acc : List Rc} (h : RS w W g t q bad uv acc) (cs : Array Value) : RT w (W.alloc (.cells cs 34)) g t q bad uv acc W.heap.size cs := by
  have hl := h.2.2.2.1.lt
  have hg := h.2.2.1.1
  refine ⟨h.below ((Below.refl _ _).alloc (Nat.le_refl _) _), h.1.size, by omega, fun e => ?_, heap_alloc_new W _⟩
  have := (hl _ e).2
  omega
theorem RT.moved {w W W' : World} {g : Nat} {t : ByteArray} {q q' : Nat} {bad bad' : Bool} {uv : Value} {acc : List Rc} {sc : Nat} {cs : Array Value} (h : RT w W g t q bad uv acc sc cs) (m : MovedC W W' g t q' bad') : RT w W' g t q' bad' uv acc sc cs := by
  obtain ⟨h1, h2, h3, h4, h5⟩ := h
  exact ⟨h1.moved m, h2, h3, h4, (m.1.2.2.2.2 sc (Array.getElem?_eq_some_iff.1 h5).1 h3).trans h5⟩
theorem RT.below {w W W' : World} {g : Nat} {t : ByteArray} {q : Nat} {bad : Bool} {uv : Value} {acc : List Rc} {sc : Nat} {cs : Array Value} (h : RT w W g t q bad uv acc sc cs) (b : Below W.heap.size W W') : RT w W' g t q bad uv acc sc cs :=
  h.moved ⟨Kept2.below b, h.1.2.2.1.below b⟩
theorem RT.set {w W : World} {g : Nat} {t : ByteArray} {q : Nat} {bad : Bool} {uv : Value} {acc : List Rc} {sc : Nat} {cs : Array Value} (h : RT w W g t q bad uv acc sc cs) (k : Nat) (v : Value) : RT w (W.setCell ⟨sc, k, none⟩ v) g t q bad uv acc sc (cs.setIfInBounds k v) := by
  obtain ⟨⟨a1, a2, a3, a4, a5⟩, h2, h3, h4, h5⟩ := h
  exact ⟨⟨a1.setCell h2 _, a2, a3.off h3, own_kept a4 (fun i _ e => Below.heap_setCell _ _ _ _ (fun e2 => h4 (by subst e2; exact e))), a5⟩, h2, h3, h4, heap_setCell_same _ _ _ _ _ _ h5⟩
theorem RT.at_ {w W : World} {g : Nat} {t : ByteArray} {q : Nat} {bad : Bool} {uv : Value} {acc : List Rc} {sc : Nat} {cs : Array Value} (h : RT w W g t q bad uv acc sc cs) (k : Nat) (v : Value) (hv : cs[k]? = some v) : W.cell? ⟨sc, k, none⟩ = some v ∧ W.frozen? ⟨sc, k, none⟩ = false :=
  ⟨cell_of_row _ _ k _ _ _ h.2.2.2.2 ▸ hv, frozen_of_row _ _ k _ _ h.2.2.2.2⟩

theorem RS.grown {w W y : World} {g : Nat} {t : ByteArray} {q : Nat} {bad : Bool} {uv u' : Value} {acc acc' : List Rc} (h : RS w W g t q bad uv acc) (hg : W.grownBy y uv.ownBlock) (ho : y.ownsRow w.heap.size 34 4 u' acc'.length (rccells (acc'.map Rc.tu))) (hw : u'.ownBlock = uv.ownBlock ∨ u'.ownBlock = some W.heap.size) : RS w y g t q bad u' acc' := by
  obtain ⟨h1, h2, ⟨c0, c1, c2, c3, f1, f2⟩, h4, h5⟩ := h
  have e : ∀ j, y.cell? ⟨g, j, none⟩ = W.cell? ⟨g, j, none⟩ := fun j => hg.cell_far _ c0 (fun e => h5 e.symm)
  have f : ∀ j, y.frozen? ⟨g, j, none⟩ = W.frozen? ⟨g, j, none⟩ := fun j => hg.frozen_far _ c0 (fun e => h5 e.symm)
  refine ⟨h1.grown hg h1.size (fun k hk => (h4.lt k hk).1), h2, ⟨Nat.lt_of_lt_of_le c0 hg.size, by rw [e]; exact c1, by rw [e]; exact c2, by rw [e]; exact c3, by rw [f]; exact f1, by rw [f]; exact f2⟩, ho, fun e => ?_⟩
  rcases hw with hw | hw
  · exact h5 (hw ▸ e)
  · rw [hw] at e
    have : W.heap.size = g := by injection e
    omega
theorem rc_fresh {w W : World} (b : Below w.heap.size w W) (n : Nat) (hn : W.heap.size = n) : (W.alloc (.cells #[] 34)).ownsRow w.heap.size 34 4 (.slice (some ⟨n, 0, none⟩) 0 0) ([] : List Rc).length (rccells (([] : List Rc).map Rc.tu)) ∧ Below w.heap.size w (W.alloc (.cells #[] 34)) := by
  subst hn
  exact ⟨⟨rfl, .inr ⟨W.heap.size, 0, #[], rfl, b.size, heap_alloc_new W _, Nat.le_refl _, by unfold maxLen; omega, rfl, rfl⟩⟩, b.alloc b.size _⟩
theorem rc_new (W : World) (r : Rc) (g : Nat) (hg : W.heap.size = g) : ∀ (j : Nat) (u : Value), [Value.int .i64 r.kind, Value.int .i64 r.vol, Value.int .i64 r.arg, Value.int .i64 r.chunk][j]? = some u → (W.alloc (.cells #[.int .i64 r.kind, .int .i64 r.vol, .int .i64 r.arg, .int .i64 r.chunk] 34)).cell? ((⟨g, 0, none⟩ : Addr).add j) = some u := by
  intro j u hj
  subst hg
  match j, hj with
  | 0, hj | 1, hj | 2, hj | 3, hj =>
    simp at hj
    subst hj
    simp [Addr.add]
theorem rc_one (r : Rc) : ∀ u ∈ [Value.int .i64 r.kind, Value.int .i64 r.vol, Value.int .i64 r.arg, Value.int .i64 r.chunk], u.oneCell' = true := by
  intro u hu
  simp at hu
  rcases hu with h | h | h | h <;> subst h <;> rfl
theorem rc_snoc (acc : List Rc) (r : Rc) : rccells (acc.map Rc.tu) ++ [Value.int .i64 r.kind, Value.int .i64 r.vol, Value.int .i64 r.arg, Value.int .i64 r.chunk] = rccells ((acc ++ [r]).map Rc.tu) := by
  rw [List.map_append, rccells_app]
  rfl

/-- What a reader of records answers. -/
def RcOut (w : World) (t : ByteArray) (e : Ending) (w' : World) : Prop :=
  ∃ uv acc ok, e = .returned (.tuple #[uv, .bool ok]) ∧ w'.ownsRow w.heap.size 34 4 uv acc.length (rccells (acc.map Rc.tu)) ∧ Below w.heap.size w w' ∧ (recs t.data.toList 0 = none ∧ ok = false ∧ acc = [] ∨ recs t.data.toList 0 = some acc ∧ ok = true)

set_option maxHeartbeats 1000000 in
set_option maxRecDepth 100000 in
theorem sreadRecs (t : ByteArray) (w : World) (hs : t.size ≤ 1048576) :
    Calls Try.prog 49 #[.string t] w (RcOut w t) := by
  have R0 : Hid (RS w ((w.alloc (.cells #[] 34)).alloc (.cells #[.string t, .int .i64 0, .bool false] 120)) (w.heap.size + 1) t 0 false (.slice (some ⟨w.heap.size, 0, none⟩) 0 0) []) := by
    have hz : (w.alloc (.cells #[] 34)).heap.size = w.heap.size + 1 := by simp
    have h1 := heap_alloc_new (w.alloc (.cells #[] 34)) (.cells #[.string t, .int .i64 0, .bool false] 120)
    have h0 := (Below.heap_alloc (w.alloc (.cells #[] 34)) (.cells #[.string t, .int .i64 0, .bool false] 120) w.heap.size (by simp)).trans (heap_alloc_new w (.cells #[] 34))
    rw [hz] at h1
    refine ⟨((Below.refl _ _).alloc (Nat.le_refl _) _).alloc (by simp) _, by omega, ⟨by simp, cell_of_row _ _ 0 _ _ _ h1, cell_of_row _ _ 1 _ _ _ h1, cell_of_row _ _ 2 _ _ _ h1, frozen_of_row _ _ 1 _ _ h1, frozen_of_row _ _ 2 _ _ h1⟩, ⟨rfl, .inr ⟨w.heap.size, 0, #[], rfl, Nat.le_refl _, h0, Nat.le_refl _, by unfold maxLen; omega, rfl, rfl⟩⟩, ?_⟩
    intro e
    have e2 : w.heap.size = w.heap.size + 1 := by injection e
    omega
  go_enter Try.func49, Try.ntmps49
  go_wp2
  generalize (w.alloc (.cells #[] 34)).alloc (.cells #[.string t, .int .i64 0, .bool false] 120) = wa at R0 ⊢
  go_loopw [4] (fun uv wr => ∃ (q ug uc : Nat) (acc : List Rc), uv = .slice (some ⟨ug, 0, none⟩) acc.length uc ∧ acc.length ≤ q ∧ q ≤ t.size ∧ Hid (RS w wr (w.heap.size + 1) t q false (.slice (some ⟨ug, 0, none⟩) acc.length uc) acc) ∧ Hid (recs t.data.toList 0 = (recs t.data.toList q).map (acc ++ ·))) (fun uv _ => t.size + 1 - rcLen uv)
  case atStart => exact ⟨0, w.heap.size, 0, [], rfl, Nat.le_refl _, Nat.zero_le _, R0, by show _ = Option.map _ _; cases recs t.data.toList 0 <;> simp⟩
  case round =>
    obtain ⟨q, ug, uc, acc, rfl, ha, hq, R, E⟩ := hrel
    clear R0
    obtain ⟨-, c0, c1, c2, f1, f2⟩ := R.out.2.2.1
    by_cases hlt : (q : Int) < t.size
    · obtain ⟨c, hcc⟩ : ∃ c : Nat, t[q].toNat = c := ⟨_, rfl⟩
      have hc8 : c < 256 := by rw [← hcc]; exact UInt8.toNat_lt _
      have hb : t.data.toList[q]? = some t[q] := List.getElem?_eq_some_iff.2 ⟨by simpa using (show q < t.size by omega), rfl⟩
      obtain ⟨k, hk⟩ : ∃ k, k = c / 16 := ⟨_, rfl⟩
      obtain ⟨v, hv⟩ : ∃ v, v = c % 16 := ⟨_, rfl⟩
      have ek : (c : Int).tdiv 16 = (k : Int) := by rw [hk]; rfl
      have ev : (c : Int).tmod 16 = (v : Int) := by rw [hv]; rfl
      have ek2 : (c : Int) / 16 = (k : Int) := by omega
      have ev2 : (c : Int) % 16 = (v : Int) := by omega
      have k16 : k < 16 := by omega
      have v16 : v < 16 := by omega
      have HK : Hid (k = c / 16) := hk
      have HV : Hid (v = c % 16) := hv
      have HB : Hid (∃ b : UInt8, t.data.toList[q]? = some b ∧ b.toNat = c) := ⟨_, hb, hcc⟩
      clear hk hv hb
      obtain ⟨q1, hq1⟩ : ∃ q1, q + 1 = q1 := ⟨_, rfl⟩
      obtain ⟨n1, j1, d1, e1⟩ : ∃ n1 j1 d1, stepV t.data.toList q1 false = (n1, j1, d1) := ⟨_, _, _, rfl⟩
      obtain ⟨n2, j2, d2, e2⟩ : ∃ n2 j2 d2, stepV t.data.toList j1 d1 = (n2, j2, d2) := ⟨_, _, _, rfl⟩
      have R1 := hide (R.out.set1 (q' := q1))
      have V1 := hide (fun W g (h : CAt W g t (q1 : Nat) false) => svar_any t q1 false g W hs h n1 j1 d1 e1)
      have V2 := hide (fun W g (h : CAt W g t (j1 : Nat) d1) => svar_any t j1 d1 g W hs h n2 j2 d2 e2)
      have E1 := hide e1
      have E2 := hide e2
      clear e1 e2
      go_wp2_with fail
      have cr : ((q : Int) + 1) = (q1 : Int) := by omega
      rw [cr]
      have HQ := hide hq1
      clear hq1 c0 c1 c2 f1 f2 hcc hc8 ek ev ek2 ev2 cr
      generalize wr.setCell ⟨w.heap.size + 1, 1, none⟩ (.int .i64 (q1 : Int)) = x1 at R1 ⊢
      refine (V1.out _ _ R1.out.2.2.1).mono ?_
      rintro e x2 ⟨rfl, m2⟩
      have R2 := hide (R1.out.moved m2)
      have T2 := hide (RT.new R2.out #[.int .i64 k, .int .i64 v, .int .i64 n1, .int .i64 0])
      obtain ⟨sc, hsc⟩ : ∃ sc, x2.heap.size = sc := ⟨_, rfl⟩
      rw [hsc] at T2
      clear m2 R1
      go_wp2_with fail
      try rw [hsc]
      generalize x2.alloc (.cells #[.int .i64 k, .int .i64 v, .int .i64 n1, .int .i64 0] 34) = x3 at T2 ⊢
      refine (V2.out _ _ T2.out.1.2.2.1).mono ?_
      rintro e x4 ⟨rfl, m4⟩
      have T4 := hide (T2.out.moved m4)
      have T5 := hide (T4.out.set 3 (.int .i64 n2))
      change Hid (RT w _ _ t j2 d2 _ acc sc #[.int .i64 k, .int .i64 v, .int .i64 n1, .int .i64 n2]) at T5
      clear m4 T2 R2 hsc V1 V2
      obtain ⟨a3, b3⟩ := T4.out.at_ 3 _ rfl
      obtain ⟨-, -, -, p2, -, -⟩ := T5.out.1.2.2.1
      obtain ⟨r0, -⟩ := T5.out.at_ 0 _ rfl
      obtain ⟨r1, -⟩ := T5.out.at_ 1 _ rfl
      obtain ⟨r2, -⟩ := T5.out.at_ 2 _ rfl
      obtain ⟨r3, -⟩ := T5.out.at_ 3 _ rfl
      cases d2 with
      | true =>
        have HN : Hid (recs t.data.toList q = none) := by
          obtain ⟨b, hb, -⟩ := HB.out
          refine recs_none (List.getElem?_eq_some_iff.1 hb).1 ?_
          cases hrec : rec1 t.data.toList q with
          | none => rfl
          | some y =>
            obtain ⟨rr, jj⟩ := y
            obtain ⟨b', a', i', c', -, h1, h2, -, -⟩ := rec1_parts hrec
            have x1 := E1.out
            rw [← HQ.out] at x1
            simp only [stepV, h1] at x1
            injection x1 with x1 x2
            injection x2 with x2 x3
            subst x1 x2 x3
            have x4 := E2.out
            simp [stepV, h2] at x4
        have F := hide (rc_fresh T5.out.1.1 x4.heap.size (by simp [World.setCell]))
        go_wp2_with fail
        go_ret2
        exact ⟨_, [], false, rfl, F.out.1, F.out.2, .inl ⟨by rw [E.out, HN.out]; rfl, rfl, rfl⟩⟩
      | false =>
        obtain ⟨h2a, h2b⟩ := stepV_ok E2.out
        subst h2a
        obtain ⟨-, h1b⟩ := stepV_ok E1.out
        have HR : Hid (rec1 t.data.toList q = letI := (Rc.mk k v n1 n2).decR; if (Rc.mk k v n1 n2).Right then some (Rc.mk k v n1 n2, j2) else none) := by
          obtain ⟨b, hb, hbc⟩ := HB.out
          show _ = _
          have hq1 := HQ.out
          subst hq1
          unfold rec1
          simp only [hb, h1b, h2b]
          rw [hbc, ← HK.out, ← HV.out]
        have HL : Hid (q < t.data.toList.length) := by
          obtain ⟨b, hb, -⟩ := HB.out
          exact (List.getElem?_eq_some_iff.1 hb).1
        clear h2b h1b E1 E2
        have CK := hide (srecOk (Rc.mk k v n1 n2))
        unfold rcVal at CK
        simp only at CK
        by_cases hr : (Rc.mk k v n1 n2).Right
        · have hrec := HR.out
          rw [if_pos hr] at hrec
          obtain ⟨-, -, hqj, hjl, -⟩ := rec1_cut hrec
          have hjl2 : j2 ≤ t.size := hjl
          have E' : Hid (recs t.data.toList 0 = (recs t.data.toList j2).map ((acc ++ [Rc.mk k v n1 n2]) ++ ·)) := by
            show _ = _
            rw [E.out, recs_some hrec]
            cases recs t.data.toList j2 <;> simp
          rw [dcY hr] at CK
          clear hr hrec HR E hjl HK HV HB
          go_wp2_with fail
          clear a3 b3
          generalize x4.setCell ⟨sc, 3, none⟩ (.int .i64 (n2 : Int)) = x5 at T5 p2 r0 r1 r2 r3 ⊢
          refine (CK.out _).mono ?_
          rintro e x6 ⟨rfl, b6⟩
          have T6 := hide (T5.out.below b6)
          clear b6 T5 T4 p2 r0 r1 r2 r3 CK
          obtain ⟨r0, -⟩ := T6.out.at_ 0 _ rfl
          obtain ⟨r1, -⟩ := T6.out.at_ 1 _ rfl
          obtain ⟨r2, -⟩ := T6.out.at_ 2 _ rfl
          obtain ⟨r3, -⟩ := T6.out.at_ 3 _ rfl
          have R6 := hide (T6.out.1.below ((Below.refl _ _).alloc (Nat.le_refl _) (.cells #[.int .i64 k, .int .i64 v, .int .i64 n1, .int .i64 n2] 34)))
          have HN := hide (rc_new x6 (Rc.mk k v n1 n2) x6.heap.size rfl)
          have HO := hide (rc_one (Rc.mk k v n1 n2))
          have HZ := hide R6.out.1.size
          have OW := hide R6.out.2.2.2.1
          clear T6
          obtain ⟨i0, hi0, hz0, hz1, hz2⟩ := info_parts infoRc
          have I0 := hide hi0
          have Z0 := hide hz0
          have Z1 := hide hz1
          have Z2 := hide hz2
          clear hi0 hz0 hz1 hz2
          go_wp2_with (at_builtin; refine wpList_append_own_at _ rfl _ _ 29 rfl w.heap.size 34 i0 (.agg #[.int .i64 0, .int .i64 0, .int .i64 0, .int .i64 0]) 4 32 Try.underlying29 I0.out Z0.out Z1.out Z2.out rfl (by decide) _ acc.length (rccells (acc.map Rc.tu)) rfl OW.out ⟨x6.heap.size, 0, none⟩ 1 1 [Value.int .i64 k, Value.int .i64 v, Value.int .i64 n1, Value.int .i64 n2] rfl rfl HN.out HO.out ?m1 ?m2 HZ.out ?_)
          case m1 => unfold maxLen; omega
          case m2 => omega
          intro u' y ho hg _ hw
          have es := rc_snoc acc (Rc.mk k v n1 n2)
          simp only at es
          rw [es, show acc.length + 1 = (acc ++ [Rc.mk k v n1 n2]).length by simp] at ho
          have RN := hide (R6.out.grown hg ho (by simpa using hw))
          have hll : (acc ++ [Rc.mk k v n1 n2]).length = acc.length + 1 := by simp
          generalize acc ++ [Rc.mk k v n1 n2] = acc' at RN hll ho E' 
          rcases ho.2 with ⟨-, h0⟩ | ⟨ug', uc', cur, rfl, -, -, -, -, -, -⟩
          · omega
          clear ho hg hw HN HO HZ OW r0 r1 r2 r3 es I0 Z0 Z1 Z2 R6 HL
          go_wp2
          go_roundw
          case rel => exact ⟨j2, ug', uc', acc', rfl, by omega, hjl2, RN, E'⟩
          case measure => simp [rcLen]; omega
        · have hrec := HR.out
          rw [if_neg hr] at hrec
          have HN : Hid (recs t.data.toList q = none) := recs_none HL.out hrec
          rw [dcN hr] at CK
          clear hr hrec HR HL HK HV HB
          go_wp2_with fail
          clear a3 b3
          generalize x4.setCell ⟨sc, 3, none⟩ (.int .i64 (n2 : Int)) = x5 at T5 p2 r0 r1 r2 r3 ⊢
          refine (CK.out _).mono ?_
          rintro e x6 ⟨rfl, b6⟩
          have F := hide (rc_fresh (T5.out.below b6).1.1 x6.heap.size rfl)
          go_wp2_with fail
          go_ret2
          exact ⟨_, [], false, rfl, F.out.1, F.out.2, .inl ⟨by rw [E.out, HN.out]; rfl, rfl, rfl⟩⟩
    · have hq2 : q = t.size := by omega
      have HN : Hid (recs t.data.toList q = some []) := recs_end (show t.size ≤ q by omega)
      go_wp2_with fail
      go_ret2
      exact ⟨_, acc, true, rfl, R.out.2.2.2.1, R.out.1, .inr ⟨by rw [E.out, HN.out]; simp, rfl⟩⟩
end Go.Proofs.Ytogfdhfmamabiaa
