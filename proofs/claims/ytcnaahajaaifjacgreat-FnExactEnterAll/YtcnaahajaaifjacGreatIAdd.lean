/-
  addVol, putChunk.
-/
import Derived.Test.YtcnaahajaaifjacGreatPk45
import Derived.Test.YtcnaahajaaifjacGreatPk14
namespace Go.Proofs.YtcnaahajaaifjacGreat
open Go.RowKit
open Words

/-- A store with one volume more. -/
def insS (s : Sto) (id q : Int) : Sto := ⟨insV s.vols id q, s.kns, s.next⟩
theorem MtOut.mk {w W : World} {p : Nat} {ok : Bool} {s : Sto} {kv vv : Value} (h : OpD w W p s kv vv) : MtOut w p ok s (.returned (.bool ok)) W := ⟨rfl, h.s⟩
/-- What is there when a volume is put in: the state behind the tests. -/
def AdSt (w W : World) (p cb n : Nat) (s : Sto) (kv : Value) (va : Option Addr) (vc : Nat) (id : Int) : Prop := OpD w W p s kv (.slice va n vc) ∧ W.heap[cb]? = some (.cells #[.int .i64 id] 3 (0, 0))
theorem AdSt.below {w W W' : World} {p cb n vc : Nat} {s : Sto} {kv : Value} {va : Option Addr} {id : Int} (h : AdSt w W p cb n s kv va vc id) (hb : Below W.heap.size W W') : AdSt w W' p cb n s kv va vc id := ⟨h.1.below hb, (hb.block cb (Array.getElem?_eq_some_iff.1 h.2).1).trans h.2⟩
/-- Insert at the place that IndexFunc told. -/
theorem ins_any (lo cb n vb j : Nat) (va : Option Addr) (vc : Nat) (l : List (Int × Int)) (id q : Int) (w : World) (hn : l.length = n) (hn3 : n ≤ 1048576) (hj : j ≤ n) (hlo : lo ≤ w.heap.size) (ho : w.ownsRow lo 69 2 (.slice va n vc) n (vlcells l)) (hvb : w.heap[vb]? = some (.cells #[.int .i64 id, .int .i64 q] 69 (0, 0))) (hne : ∀ g, (Value.slice va n vc).ownBlock = some g → vb ≠ g) (_ : cb = cb)
    (hasc : l.Pairwise (fun u v => u.1 < v.1)) (hno : ∀ v ∈ l, v.1 ≠ id) (h1 : ∀ k v, k < j → l[k]? = some v → ¬ id < v.1) (h2 : ∀ v, l[j]? = some v → id < v.1) :
    Calls Tryz.prog 84 #[.slice va n vc, .int .i64 j, .slice (some ⟨vb, 0, none⟩) 1 1] w (InsOut lo (Value.slice va n vc).ownBlock w (insV l id q)) := by
  have es := over_split hasc hno (k := j) (by omega) h1 h2 q
  by_cases e : j = n
  · subst e
    rw [List.take_of_length_le (by omega), List.drop_eq_nil_of_le (by omega)] at es
    rw [← es]
    exact iins_end lo _ j vb l id q w hn hn3 hlo ho hvb
  · obtain ⟨va', vc', e1, hh⟩ := (Sli.of ho).form
    injection e1 with e1 e2 e3
    obtain ⟨g, e4, -⟩ := hh (by omega)
    rw [e4] at e1
    subst e1
    rw [← es]
    exact iins_mid lo g n vc j vb l id q w hn hn3 (by omega) hlo ho hvb (hne g rfl)
/-- The root that a new volume has. -/
def RootOf (vs : List (Int × Int)) (arg q : Int) : Prop := arg = 0 ∧ q = -1 ∨ arg ≠ 0 ∧ rootV vs arg = some q
/-- What addVol answers. -/
def AddOut (w : World) (p : Nat) (s : Sto) (id arg : Int) (e : Ending) (w' : World) : Prop :=
  (((atV s.vols id).isSome = true ∨ s.vols.length = 3 ∨ (arg ≠ 0 ∧ rootV s.vols arg = none)) ∧ MtOut w p false s e w') ∨
  ((atV s.vols id = none ∧ s.vols.length ≠ 3) ∧ ∃ q, RootOf s.vols arg q ∧ MtOut w p true (insS s id q) e w')
set_option maxHeartbeats 4000000 in
set_option maxRecDepth 100000 in
theorem iaddV (p : Nat) (s : Sto) (id arg : Int) (w W : World) (h3 : s.vols.length ≤ 3) (hasc : s.vols.Pairwise (fun u v => u.1 < v.1)) (h : OpS w W p s) :
    Calls Tryz.prog 66 #[.pointer (some ⟨p, 0, none⟩), .int .i64 id, .int .i64 arg] W (AddOut w p s id arg) := by
  obtain ⟨kv, vv, hd⟩ := h.d
  obtain ⟨va, vc, rfl, hv, hva⟩ := hd.open
  obtain ⟨n, hnn⟩ : ∃ n, s.vols.length = n := ⟨_, rfl⟩
  rw [hnn] at hv hva hd
  have hn3 : n ≤ 3 := by omega
  have hn : n ≤ 1048576 := by omega
  have HNN := hide hnn
  have BA : Hid (Below W.heap.size W (W.alloc (.cells #[.int .i64 id] 3))) := (Below.refl _ _).alloc (Nat.le_refl _) _
  have HV := hide (hv.below BA.out)
  have ST : Hid (AdSt w (W.alloc (.cells #[.int .i64 id] 3)) p W.heap.size n s kv va vc id) := ⟨hd.below BA.out, heap_alloc_new W (.cells #[.int .i64 id] 3)⟩
  have HA := hide hasc
  clear h hd hv hnn hasc h3
  have NO : Hid (∀ e w', ((atV s.vols id).isSome = true ∨ n = 3 ∨ (arg ≠ 0 ∧ rootV s.vols arg = none)) → MtOut w p false s e w' → AddOut w p s id arg e w') := fun e w' h1 h2 => .inl ⟨by rw [HNN.out]; exact h1, h2⟩
  have YES : Hid (∀ e w' q, atV s.vols id = none → n ≠ 3 → RootOf s.vols arg q → MtOut w p true (insS s id q) e w' → AddOut w p s id arg e w') := fun e w' q h1 h2 h3 h4 => .inr ⟨⟨h1, by rw [HNN.out]; exact h2⟩, q, h3, h4⟩
  go_enter Tryz.func66, Tryz.ntmps66
  go_wp2_with fail
  generalize W.alloc (.cells #[.int .i64 id] 3) = wb at BA ST HV ⊢
  obtain ⟨cb, hcb⟩ : ∃ cb, W.heap.size = cb := ⟨_, rfl⟩
  rw [hcb] at ST ⊢
  clear hcb BA
  obtain ⟨-, c1, -, -, f1, -⟩ := ops_cells ST.out.1.2.2.1
  have c2 : wb.cell? ⟨cb, 0, none⟩ = some (.int .i64 id) := cell_of_row _ _ 0 _ _ _ ST.out.2
  have QV : Hid (∀ q, Calls Tryz.prog 81 #[.slice va n vc, .int .i64 id] (wb.drewN q) fun e w' => e = .returned (volP va (atV s.vols id)) ∧ w' = wb.drewN q) := fun q => ivolAt va n vc s.vols id _ hn (HV.out.below (below_drewN (Below.refl _ _) q))
  have BQ : Hid (∀ q, Below wb.heap.size wb (wb.drewN q)) := fun q => below_drewN (Below.refl _ _) q
  cases ho : atV s.vols id with
  | some k =>
    obtain ⟨v, hk, hid⟩ := atV_some ho
    obtain ⟨g, rfl⟩ := hva (by have := (List.getElem?_eq_some_iff.1 hk).1; have := HNN.out; omega)
    have ev : volP (some ⟨g, 0, none⟩) (some k) = .pointer (some ⟨g, k * 2, none⟩) := by simp [volP]
    rw [ho, ev] at QV
    have FIN : Hid (∀ q, AddOut w p s id arg (.returned (.bool false)) (wb.drewN q)) := fun q => NO.out _ _ (.inl (by rw [ho]; rfl)) (MtOut.mk (ST.out.1.below (BQ.out q)))
    clear ev hk hid ho
    go_quiet ((go_at_call 81; exact Calls.quiet_of_same (QV.out _)))
    go_wp2
    go_ret
    exact FIN.out _
  | none =>
    have HO := hide ho
    rw [ho] at QV
    have ev : volP va none = .pointer none := rfl
    rw [ev] at QV
    clear ev ho
    by_cases hn4 : ((n : Int) == 3) = true
    · have HN4 : Hid (n = 3) := by
        have e : (n : Int) = 3 := by simpa using hn4
        show _ = _
        omega
      have FIN : Hid (∀ q, AddOut w p s id arg (.returned (.bool false)) (wb.drewN q)) := fun q => NO.out _ _ (.inr (.inl (HN4.out))) (MtOut.mk (ST.out.1.below (BQ.out q)))
      go_quiet ((go_at_call 81; exact Calls.quiet_of_same (QV.out _)))
      go_wp2
      go_ret
      exact FIN.out _
    · have hn5 : ((n : Int) == 3) = false := by simpa using hn4
      have HN3 : Hid (n ≠ 3) := fun e => by subst e; simp at hn4
      clear hn4
      go_quiet ((go_at_call 81; exact Calls.quiet_of_same (QV.out _)))
      have ST2 := hide (ST.out.below (BQ.out nq))
      have HV2 := hide (HV.out.below (BQ.out nq))
      generalize wb.drewN nq = wc at ST2 HV2 ⊢
      clear QV BQ ST HV c1 c2 f1
      by_cases ha : arg = 0
      · have hab : (arg == 0) = true := by simpa using ha
        have HQ : Hid (RootOf s.vols arg (-1)) := .inl ⟨ha, rfl⟩
        obtain ⟨-, c1, -, -, f1, -⟩ := ops_cells ST2.out.1.2.2.1
        have hab2 : (arg != 0) = false := by simpa using ha
        clear ha
        go_wp2_with fail
        have c3 : wc.cell? ⟨cb, 0, none⟩ = some (.int .i64 id) := cell_of_row _ _ 0 _ _ _ ST2.out.2
        have CI := hide (iindexF 83 (.func (.func 83) #[] #[.pointer (some ⟨cb, 0, none⟩)]) _ (fun x => decide (id < x.1)) va n vc s.vols wc rfl (.inl rfl) cb rfl hn HV2.out (fun W' x H => iover x cb id W' ((H.cell (World.block_lt_of_cell? wc _ c3)).trans c3)))
        clear c3
        refine CI.out.mono ?_
        rintro e w1 ⟨hix, b1⟩
        have ST3 := hide (ST2.out.below b1)
        have PL : Hid (∃ j : Nat, j ≤ n ∧ (e = .returned (.int .i64 j) ∨ e = .returned (.int .i64 (-1)) ∧ j = n) ∧ (∀ k v, k < j → s.vols[k]? = some v → ¬ id < v.1) ∧ ∀ v, s.vols[j]? = some v → id < v.1) := by
          rcases hix with ⟨j, v, rfl, h1, h2, h3⟩ | ⟨rfl, h1⟩
          · have hj := (List.getElem?_eq_some_iff.1 h1).1
            refine ⟨j, by have := HNN.out; omega, .inl rfl, fun k v hk hv => ?_, fun v' hv' => ?_⟩
            · have := h3 k v hk hv
              simpa using this
            · rw [h1] at hv'
              cases hv'
              simpa using h2
          · refine ⟨n, Nat.le_refl _, .inr ⟨rfl, rfl⟩, fun k v hk hv => ?_, fun v' hv' => ?_⟩
            · have := h1 k v (by rw [HNN.out]; exact hk) hv
              simpa using this
            · have := (List.getElem?_eq_some_iff.1 hv').1
              have := HNN.out
              omega
        obtain ⟨j, hjn, hje, HJ1, HJ2⟩ := PL.out
        have HJA := hide HJ1
        have HJB := hide HJ2
        clear PL hix b1 CI ST2 HV2 HJ1 HJ2
        obtain ⟨-, c1, -, -, f1, -⟩ := ops_cells ST3.out.1.2.2.1
        have c2 : w1.cell? ⟨cb, 0, none⟩ = some (.int .i64 id) := cell_of_row _ _ 0 _ _ _ ST3.out.2
        have KK : Hid (∀ W, Below w1.heap.size w1 W → W.cell? ⟨p, 1, none⟩ = some (.slice va n vc) ∧ W.cell? ⟨cb, 0, none⟩ = some (.int .i64 id)) := by
          have l1 : p < w1.heap.size := World.block_lt_of_cell? w1 _ c1
          have l2 : cb < w1.heap.size := World.block_lt_of_cell? w1 _ c2
          exact fun W H => ⟨(H.cell l1).trans c1, (H.cell l2).trans c2⟩
        have BD : Hid (Below w1.heap.size w1 w1.drew) := (Below.refl _ _).drew
        have BD1 : Hid (Below w1.heap.size w1 (w1.alloc (.cells #[.int .i64 id, .int .i64 (-1)] 69)).drew) := ((Below.refl _ _).alloc (Nat.le_refl _) _).drew
        have ST4 := hide (ST3.out.below BD1.out)
        have HOW := hide ST4.out.1.2.2.2.1
        rw [HNN.out] at HOW
        have HSL : Hid (w.heap.size ≤ (w1.alloc (.cells #[.int .i64 id, .int .i64 (-1)] 69)).drew.heap.size) := ST4.out.1.1.size
        have HBL : Hid (∀ g, (Value.slice va n vc).ownBlock = some g → w1.heap.size ≠ g) := fun g hg => by
          have hh := ST3.out.1.2.2.2.1
          have := (hh.lt g hg).2
          omega
        have HVBK : Hid ((w1.alloc (.cells #[.int .i64 id, .int .i64 (-1)] 69)).drew.heap[w1.heap.size]? = some (.cells #[.int .i64 id, .int .i64 (-1)] 69 (0, 0))) := heap_alloc_new w1 _
        have CIN := hide (ins_any w.heap.size cb n w1.heap.size j va vc s.vols id (-1) (w1.alloc (.cells #[.int .i64 id, .int .i64 (-1)] 69)).drew HNN.out hn hjn HSL.out HOW.out HVBK.out HBL.out rfl HA.out (atV_none HO.out) HJA.out HJB.out)
        have jl : ¬ ((j : Int) < 0) := by omega
        rcases hje with rfl | ⟨rfl, ejn⟩
        · go_wp2_with fail
          refine wp_region_lastC2 13 (S := fun w' => w'.cell? ⟨p, 1, none⟩ = some (.slice va n vc) ∧ w'.cell? ⟨cb, 0, none⟩ = some (.int .i64 id)) (by kernel_rfl) rfl (by kernel_rfl) (KK.out _ BD.out) (fun hHeld => ?_)
          simp only [List.dropLast_cons_cons, List.dropLast_singleton, List.length_cons, List.length_nil, Nat.reduceAdd]
          refine takeL 0 (v := ?_) rfl (by kernel_rfl) (by kernel_rfl) (by kernel_rfl) (fun _ _ _ h => h) (by rfl) (by assumption) ?_ ?_
          rotate_left 1
          · (intro w hSw; (try dsimp only at hSw); go_simp; all_goals with_reducible rfl)
          simp only [Act.put, List.setIfInBounds_toArray, List.set_cons_zero, List.set_cons_succ]
          refine takeL 1 (v := ?_) rfl (by kernel_rfl) (by kernel_rfl) (by kernel_rfl) (fun _ _ _ h => h) (by rfl) (by assumption) ?_ ?_
          rotate_left 1
          · (intro w hSw; (try dsimp only at hSw); go_simp; all_goals with_reducible rfl)
          simp only [Act.put, List.setIfInBounds_toArray, List.set_cons_zero, List.set_cons_succ]
          refine takeL 2 (v := ?_) rfl (by kernel_rfl) (by kernel_rfl) (by kernel_rfl) (fun _ _ _ h => h) (by rfl) (by assumption) ?_ ?_
          rotate_left 1
          · (intro w hSw; (try dsimp only at hSw); go_simp; all_goals with_reducible rfl)
          simp only [Act.put, List.setIfInBounds_toArray, List.set_cons_zero, List.set_cons_succ]
          refine takeL 3 (v := ?_) rfl (by kernel_rfl) (by kernel_rfl) (by kernel_rfl) (fun _ _ _ h => h) (by rfl) (by assumption) ?_ ?_
          rotate_left 1
          · (intro w hSw; (try dsimp only at hSw); go_simp; all_goals with_reducible rfl)
          simp only [Act.put, List.setIfInBounds_toArray, List.set_cons_zero, List.set_cons_succ]
          refine takeL 4 (v := ?_) rfl (by kernel_rfl) (by kernel_rfl) (by kernel_rfl) (fun _ _ _ h => h) (by rfl) (by assumption) ?_ ?_
          rotate_left 1
          · (intro w hSw; (try dsimp only at hSw); go_simp; all_goals with_reducible rfl)
          simp only [Act.put, List.setIfInBounds_toArray, List.set_cons_zero, List.set_cons_succ]
          refine takeL 5 (v := ?_) rfl (by kernel_rfl) (by kernel_rfl) (by kernel_rfl) (fun _ _ _ h => h) (by rfl) (by assumption) ?_ ?_
          rotate_left 1
          · (intro w hSw; (try dsimp only at hSw); go_simp; all_goals with_reducible rfl)
          simp only [Act.put, List.setIfInBounds_toArray, List.set_cons_zero, List.set_cons_succ]
          refine takeL 6 (v := ?_) rfl (by kernel_rfl) (by kernel_rfl) (by kernel_rfl) (fun _ _ _ h => h) (by rfl) (by assumption) ?_ ?_
          rotate_left 1
          · (intro w hSw; (try dsimp only at hSw); go_simp; all_goals with_reducible rfl)
          simp only [Act.put, List.setIfInBounds_toArray, List.set_cons_zero, List.set_cons_succ]
          refine takeL 7 (v := ?_) rfl (by kernel_rfl) (by kernel_rfl) (by kernel_rfl) (fun _ _ _ h => h) (by rfl) (by assumption) ?_ ?_
          rotate_left 1
          · (intro w hSw; (try dsimp only at hSw); go_simp; all_goals with_reducible rfl)
          simp only [Act.put, List.setIfInBounds_toArray, List.set_cons_zero, List.set_cons_succ]
          refine takeL 8 (v := ?_) rfl (by kernel_rfl) (by kernel_rfl) (by kernel_rfl) (fun _ _ _ h => h) (by rfl) (by assumption) ?_ ?_
          rotate_left 1
          · (intro w hSw; (try dsimp only at hSw); go_simp; all_goals with_reducible rfl)
          simp only [Act.put, List.setIfInBounds_toArray, List.set_cons_zero, List.set_cons_succ]
          refine oneL 9 rfl (by kernel_rfl) (fun K hK => ?_)
          go_simp
          refine hK.out _ _ (KK.out _ BD1.out) (fun hHeld2 => ?_)
          clear hK K hHeld
          have hHeld := hHeld2
          clear hHeld2
          (try simp only [Act.put, List.setIfInBounds_toArray, List.set_cons_zero, List.set_cons_succ])
          refine oneL 10 rfl (by kernel_rfl) (fun K hK => ?_)
          go_simp
          refine CIN.out.mono ?_
          rintro en w2 ⟨v', rfl, o2, g2⟩
          obtain ⟨hp2, hop⟩ := ST4.out.1.grown g2 o2
          obtain ⟨-, e1, -, -, h1, -⟩ := ops_cells hp2
          have e2 : w2.cell? ⟨cb, 0, none⟩ = some (.int .i64 id) := by
            have hc := ST4.out.2
            have hcl := (Array.getElem?_eq_some_iff.1 hc).1
            have : w2.heap[cb]? = some (.cells #[.int .i64 id] 3 (0, 0)) := (g2.block cb hcl (fun e => by
              obtain ⟨-, -, cs, q⟩ := own_kind HOW.out cb e.symm
              rw [hc] at q
              injection q with q
              injection q with _ q
              simp at q)).trans hc
            exact cell_of_row _ _ 0 _ _ _ this
          have FIN : Hid (AddOut w p s id arg (.returned (.bool true)) (w2.setCell ⟨p, 1, none⟩ v')) := YES.out _ _ (-1) HO.out HN3.out HQ.out ⟨rfl, hop.s⟩
          obtain ⟨ua, uc, hv', -⟩ := (Sli.of o2).form
          subst hv'
          obtain ⟨un, hun⟩ : ∃ un, (insV s.vols id (-1)).length = un := ⟨_, rfl⟩
          rw [hun] at FIN ⊢
          refine hK.out _ _ ⟨e1, e2⟩ (fun hHeld2 => ?_)
          clear hK K hHeld
          have hHeld := hHeld2
          clear hHeld2
          (try simp only [Act.put, List.setIfInBounds_toArray, List.set_cons_zero, List.set_cons_succ])
          refine takeL 11 (v := ?_) rfl (by kernel_rfl) (by kernel_rfl) (by kernel_rfl) (fun _ _ _ h => h) (by rfl) (by assumption) ?_ ?_
          rotate_left 1
          · (intro w hSw; (try dsimp only at hSw); go_simp; all_goals with_reducible rfl)
          simp only [Act.put, List.setIfInBounds_toArray, List.set_cons_zero, List.set_cons_succ]
          refine takeL 12 (v := ?_) rfl (by kernel_rfl) (by kernel_rfl) (by kernel_rfl) (fun _ _ _ h => h) (by rfl) (by assumption) ?_ ?_
          rotate_left 1
          · (intro w hSw; (try dsimp only at hSw); go_simp; all_goals with_reducible rfl)
          simp only [Act.put, List.setIfInBounds_toArray, List.set_cons_zero, List.set_cons_succ]
          refine doneL (by kernel_rfl) (last_go ?_)
          clear hHeld CIN hop o2 g2 hun
          go_wp2
          go_ret
          exact FIN.out
        · rw [ejn] at CIN
          go_wp2_with fail
          refine wp_region_lastC2 13 (S := fun w' => w'.cell? ⟨p, 1, none⟩ = some (.slice va n vc) ∧ w'.cell? ⟨cb, 0, none⟩ = some (.int .i64 id)) (by kernel_rfl) rfl (by kernel_rfl) (KK.out _ BD.out) (fun hHeld => ?_)
          simp only [List.dropLast_cons_cons, List.dropLast_singleton, List.length_cons, List.length_nil, Nat.reduceAdd]
          refine takeL 0 (v := ?_) rfl (by kernel_rfl) (by kernel_rfl) (by kernel_rfl) (fun _ _ _ h => h) (by rfl) (by assumption) ?_ ?_
          rotate_left 1
          · (intro w hSw; (try dsimp only at hSw); go_simp; all_goals with_reducible rfl)
          simp only [Act.put, List.setIfInBounds_toArray, List.set_cons_zero, List.set_cons_succ]
          refine takeL 1 (v := ?_) rfl (by kernel_rfl) (by kernel_rfl) (by kernel_rfl) (fun _ _ _ h => h) (by rfl) (by assumption) ?_ ?_
          rotate_left 1
          · (intro w hSw; (try dsimp only at hSw); go_simp; all_goals with_reducible rfl)
          simp only [Act.put, List.setIfInBounds_toArray, List.set_cons_zero, List.set_cons_succ]
          refine takeL 2 (v := ?_) rfl (by kernel_rfl) (by kernel_rfl) (by kernel_rfl) (fun _ _ _ h => h) (by rfl) (by assumption) ?_ ?_
          rotate_left 1
          · (intro w hSw; (try dsimp only at hSw); go_simp; all_goals with_reducible rfl)
          simp only [Act.put, List.setIfInBounds_toArray, List.set_cons_zero, List.set_cons_succ]
          refine takeL 3 (v := ?_) rfl (by kernel_rfl) (by kernel_rfl) (by kernel_rfl) (fun _ _ _ h => h) (by rfl) (by assumption) ?_ ?_
          rotate_left 1
          · (intro w hSw; (try dsimp only at hSw); go_simp; all_goals with_reducible rfl)
          simp only [Act.put, List.setIfInBounds_toArray, List.set_cons_zero, List.set_cons_succ]
          refine takeL 4 (v := ?_) rfl (by kernel_rfl) (by kernel_rfl) (by kernel_rfl) (fun _ _ _ h => h) (by rfl) (by assumption) ?_ ?_
          rotate_left 1
          · (intro w hSw; (try dsimp only at hSw); go_simp; all_goals with_reducible rfl)
          simp only [Act.put, List.setIfInBounds_toArray, List.set_cons_zero, List.set_cons_succ]
          refine takeL 5 (v := ?_) rfl (by kernel_rfl) (by kernel_rfl) (by kernel_rfl) (fun _ _ _ h => h) (by rfl) (by assumption) ?_ ?_
          rotate_left 1
          · (intro w hSw; (try dsimp only at hSw); go_simp; all_goals with_reducible rfl)
          simp only [Act.put, List.setIfInBounds_toArray, List.set_cons_zero, List.set_cons_succ]
          refine takeL 6 (v := ?_) rfl (by kernel_rfl) (by kernel_rfl) (by kernel_rfl) (fun _ _ _ h => h) (by rfl) (by assumption) ?_ ?_
          rotate_left 1
          · (intro w hSw; (try dsimp only at hSw); go_simp; all_goals with_reducible rfl)
          simp only [Act.put, List.setIfInBounds_toArray, List.set_cons_zero, List.set_cons_succ]
          refine takeL 7 (v := ?_) rfl (by kernel_rfl) (by kernel_rfl) (by kernel_rfl) (fun _ _ _ h => h) (by rfl) (by assumption) ?_ ?_
          rotate_left 1
          · (intro w hSw; (try dsimp only at hSw); go_simp; all_goals with_reducible rfl)
          simp only [Act.put, List.setIfInBounds_toArray, List.set_cons_zero, List.set_cons_succ]
          refine takeL 8 (v := ?_) rfl (by kernel_rfl) (by kernel_rfl) (by kernel_rfl) (fun _ _ _ h => h) (by rfl) (by assumption) ?_ ?_
          rotate_left 1
          · (intro w hSw; (try dsimp only at hSw); go_simp; all_goals with_reducible rfl)
          simp only [Act.put, List.setIfInBounds_toArray, List.set_cons_zero, List.set_cons_succ]
          refine oneL 9 rfl (by kernel_rfl) (fun K hK => ?_)
          go_simp
          refine hK.out _ _ (KK.out _ BD1.out) (fun hHeld2 => ?_)
          clear hK K hHeld
          have hHeld := hHeld2
          clear hHeld2
          (try simp only [Act.put, List.setIfInBounds_toArray, List.set_cons_zero, List.set_cons_succ])
          refine oneL 10 rfl (by kernel_rfl) (fun K hK => ?_)
          go_simp
          refine CIN.out.mono ?_
          rintro en w2 ⟨v', rfl, o2, g2⟩
          obtain ⟨hp2, hop⟩ := ST4.out.1.grown g2 o2
          obtain ⟨-, e1, -, -, h1, -⟩ := ops_cells hp2
          have e2 : w2.cell? ⟨cb, 0, none⟩ = some (.int .i64 id) := by
            have hc := ST4.out.2
            have hcl := (Array.getElem?_eq_some_iff.1 hc).1
            have : w2.heap[cb]? = some (.cells #[.int .i64 id] 3 (0, 0)) := (g2.block cb hcl (fun e => by
              obtain ⟨-, -, cs, q⟩ := own_kind HOW.out cb e.symm
              rw [hc] at q
              injection q with q
              injection q with _ q
              simp at q)).trans hc
            exact cell_of_row _ _ 0 _ _ _ this
          have FIN : Hid (AddOut w p s id arg (.returned (.bool true)) (w2.setCell ⟨p, 1, none⟩ v')) := YES.out _ _ (-1) HO.out HN3.out HQ.out ⟨rfl, hop.s⟩
          obtain ⟨ua, uc, hv', -⟩ := (Sli.of o2).form
          subst hv'
          obtain ⟨un, hun⟩ : ∃ un, (insV s.vols id (-1)).length = un := ⟨_, rfl⟩
          rw [hun] at FIN ⊢
          refine hK.out _ _ ⟨e1, e2⟩ (fun hHeld2 => ?_)
          clear hK K hHeld
          have hHeld := hHeld2
          clear hHeld2
          (try simp only [Act.put, List.setIfInBounds_toArray, List.set_cons_zero, List.set_cons_succ])
          refine takeL 11 (v := ?_) rfl (by kernel_rfl) (by kernel_rfl) (by kernel_rfl) (fun _ _ _ h => h) (by rfl) (by assumption) ?_ ?_
          rotate_left 1
          · (intro w hSw; (try dsimp only at hSw); go_simp; all_goals with_reducible rfl)
          simp only [Act.put, List.setIfInBounds_toArray, List.set_cons_zero, List.set_cons_succ]
          refine takeL 12 (v := ?_) rfl (by kernel_rfl) (by kernel_rfl) (by kernel_rfl) (fun _ _ _ h => h) (by rfl) (by assumption) ?_ ?_
          rotate_left 1
          · (intro w hSw; (try dsimp only at hSw); go_simp; all_goals with_reducible rfl)
          simp only [Act.put, List.setIfInBounds_toArray, List.set_cons_zero, List.set_cons_succ]
          refine doneL (by kernel_rfl) (last_go ?_)
          clear hHeld CIN hop o2 g2 hun
          go_wp2
          go_ret
          exact FIN.out
      · have hab : (arg == 0) = false := by simpa using ha
        have hab2 : (arg != 0) = true := by simpa using ha
        have HAN := hide ha
        obtain ⟨-, c1, -, -, f1, -⟩ := ops_cells ST2.out.1.2.2.1
        have CV := hide (ivolAt va n vc s.vols arg wc hn HV2.out)
        clear ha
        go_wp2_with fail
        refine CV.out.mono ?_
        rintro e w0 ⟨rfl, rfl⟩
        clear CV
        cases hao : atV s.vols arg with
        | none =>
          have FIN : Hid (AddOut w p s id arg (.returned (.bool false)) w0) := NO.out _ _ (.inr (.inr ⟨HAN.out, by rw [rootV, hao]; rfl⟩)) (MtOut.mk ST2.out.1)
          have ev : volP va none = .pointer none := rfl
          rw [ev]
          go_wp2
          go_ret
          exact FIN.out
        | some k =>
          obtain ⟨v, hk, hid⟩ := atV_some hao
          obtain ⟨b, off, hbo, hb, d0, d1⟩ := HV2.out.at hk
          subst hbo
          have HQ : Hid (RootOf s.vols arg v.2) := .inr ⟨HAN.out, by rw [rootV, hao, Option.bind_some, hk]; rfl⟩
          have ev : volP (some ⟨b, off, none⟩) (some k) = .pointer (some ⟨b, off + k * 2, none⟩) := rfl
          rw [ev]
          clear ev hao hk hid
          obtain ⟨q, hq⟩ : ∃ q, v.2 = q := ⟨_, rfl⟩
          rw [hq] at d1 HQ
          clear hq
          go_wp2_with fail
          have c3 : w0.cell? ⟨cb, 0, none⟩ = some (.int .i64 id) := cell_of_row _ _ 0 _ _ _ ST2.out.2
          have CI := hide (iindexF 83 (.func (.func 83) #[] #[.pointer (some ⟨cb, 0, none⟩)]) _ (fun x => decide (id < x.1)) (some ⟨b, off, none⟩) n vc s.vols w0 rfl (.inl rfl) cb rfl hn HV2.out (fun W' x H => iover x cb id W' ((H.cell (World.block_lt_of_cell? w0 _ c3)).trans c3)))
          clear c3
          refine CI.out.mono ?_
          rintro e w1 ⟨hix, b1⟩
          have ST3 := hide (ST2.out.below b1)
          have PL : Hid (∃ j : Nat, j ≤ n ∧ (e = .returned (.int .i64 j) ∨ e = .returned (.int .i64 (-1)) ∧ j = n) ∧ (∀ k v, k < j → s.vols[k]? = some v → ¬ id < v.1) ∧ ∀ v, s.vols[j]? = some v → id < v.1) := by
            rcases hix with ⟨j, v, rfl, h1, h2, h3⟩ | ⟨rfl, h1⟩
            · have hj := (List.getElem?_eq_some_iff.1 h1).1
              refine ⟨j, by have := HNN.out; omega, .inl rfl, fun k v hk hv => ?_, fun v' hv' => ?_⟩
              · have := h3 k v hk hv
                simpa using this
              · rw [h1] at hv'
                cases hv'
                simpa using h2
            · refine ⟨n, Nat.le_refl _, .inr ⟨rfl, rfl⟩, fun k v hk hv => ?_, fun v' hv' => ?_⟩
              · have := h1 k v (by rw [HNN.out]; exact hk) hv
                simpa using this
              · have := (List.getElem?_eq_some_iff.1 hv').1
                have := HNN.out
                omega
          obtain ⟨j, hjn, hje, HJ1, HJ2⟩ := PL.out
          have HJA := hide HJ1
          have HJB := hide HJ2
          clear PL hix b1 CI ST2 HV2 HJ1 HJ2
          obtain ⟨-, c1, -, -, f1, -⟩ := ops_cells ST3.out.1.2.2.1
          have c2 : w1.cell? ⟨cb, 0, none⟩ = some (.int .i64 id) := cell_of_row _ _ 0 _ _ _ ST3.out.2
          have KK : Hid (∀ W, Below w1.heap.size w1 W → W.cell? ⟨p, 1, none⟩ = some (.slice (some ⟨b, off, none⟩) n vc) ∧ W.cell? ⟨cb, 0, none⟩ = some (.int .i64 id)) := by
            have l1 : p < w1.heap.size := World.block_lt_of_cell? w1 _ c1
            have l2 : cb < w1.heap.size := World.block_lt_of_cell? w1 _ c2
            exact fun W H => ⟨(H.cell l1).trans c1, (H.cell l2).trans c2⟩
          have BD : Hid (Below w1.heap.size w1 w1.drew) := (Below.refl _ _).drew
          have BD1 : Hid (Below w1.heap.size w1 (w1.alloc (.cells #[.int .i64 id, .int .i64 (q)] 69)).drew) := ((Below.refl _ _).alloc (Nat.le_refl _) _).drew
          have ST4 := hide (ST3.out.below BD1.out)
          have HOW := hide ST4.out.1.2.2.2.1
          rw [HNN.out] at HOW
          have HSL : Hid (w.heap.size ≤ (w1.alloc (.cells #[.int .i64 id, .int .i64 (q)] 69)).drew.heap.size) := ST4.out.1.1.size
          have HBL : Hid (∀ g, (Value.slice (some ⟨b, off, none⟩) n vc).ownBlock = some g → w1.heap.size ≠ g) := fun g hg => by
            have hh := ST3.out.1.2.2.2.1
            have := (hh.lt g hg).2
            omega
          have HVBK : Hid ((w1.alloc (.cells #[.int .i64 id, .int .i64 (q)] 69)).drew.heap[w1.heap.size]? = some (.cells #[.int .i64 id, .int .i64 (q)] 69 (0, 0))) := heap_alloc_new w1 _
          have CIN := hide (ins_any w.heap.size cb n w1.heap.size j (some ⟨b, off, none⟩) vc s.vols id (q) (w1.alloc (.cells #[.int .i64 id, .int .i64 (q)] 69)).drew HNN.out hn hjn HSL.out HOW.out HVBK.out HBL.out rfl HA.out (atV_none HO.out) HJA.out HJB.out)
          have jl : ¬ ((j : Int) < 0) := by omega
          rcases hje with rfl | ⟨rfl, ejn⟩
          · go_wp2_with fail
            refine wp_region_lastC2 13 (S := fun w' => w'.cell? ⟨p, 1, none⟩ = some (.slice (some ⟨b, off, none⟩) n vc) ∧ w'.cell? ⟨cb, 0, none⟩ = some (.int .i64 id)) (by kernel_rfl) rfl (by kernel_rfl) (KK.out _ BD.out) (fun hHeld => ?_)
            simp only [List.dropLast_cons_cons, List.dropLast_singleton, List.length_cons, List.length_nil, Nat.reduceAdd]
            refine takeL 0 (v := ?_) rfl (by kernel_rfl) (by kernel_rfl) (by kernel_rfl) (fun _ _ _ h => h) (by rfl) (by assumption) ?_ ?_
            rotate_left 1
            · (intro w hSw; (try dsimp only at hSw); go_simp; all_goals with_reducible rfl)
            simp only [Act.put, List.setIfInBounds_toArray, List.set_cons_zero, List.set_cons_succ]
            refine takeL 1 (v := ?_) rfl (by kernel_rfl) (by kernel_rfl) (by kernel_rfl) (fun _ _ _ h => h) (by rfl) (by assumption) ?_ ?_
            rotate_left 1
            · (intro w hSw; (try dsimp only at hSw); go_simp; all_goals with_reducible rfl)
            simp only [Act.put, List.setIfInBounds_toArray, List.set_cons_zero, List.set_cons_succ]
            refine takeL 2 (v := ?_) rfl (by kernel_rfl) (by kernel_rfl) (by kernel_rfl) (fun _ _ _ h => h) (by rfl) (by assumption) ?_ ?_
            rotate_left 1
            · (intro w hSw; (try dsimp only at hSw); go_simp; all_goals with_reducible rfl)
            simp only [Act.put, List.setIfInBounds_toArray, List.set_cons_zero, List.set_cons_succ]
            refine takeL 3 (v := ?_) rfl (by kernel_rfl) (by kernel_rfl) (by kernel_rfl) (fun _ _ _ h => h) (by rfl) (by assumption) ?_ ?_
            rotate_left 1
            · (intro w hSw; (try dsimp only at hSw); go_simp; all_goals with_reducible rfl)
            simp only [Act.put, List.setIfInBounds_toArray, List.set_cons_zero, List.set_cons_succ]
            refine takeL 4 (v := ?_) rfl (by kernel_rfl) (by kernel_rfl) (by kernel_rfl) (fun _ _ _ h => h) (by rfl) (by assumption) ?_ ?_
            rotate_left 1
            · (intro w hSw; (try dsimp only at hSw); go_simp; all_goals with_reducible rfl)
            simp only [Act.put, List.setIfInBounds_toArray, List.set_cons_zero, List.set_cons_succ]
            refine takeL 5 (v := ?_) rfl (by kernel_rfl) (by kernel_rfl) (by kernel_rfl) (fun _ _ _ h => h) (by rfl) (by assumption) ?_ ?_
            rotate_left 1
            · (intro w hSw; (try dsimp only at hSw); go_simp; all_goals with_reducible rfl)
            simp only [Act.put, List.setIfInBounds_toArray, List.set_cons_zero, List.set_cons_succ]
            refine takeL 6 (v := ?_) rfl (by kernel_rfl) (by kernel_rfl) (by kernel_rfl) (fun _ _ _ h => h) (by rfl) (by assumption) ?_ ?_
            rotate_left 1
            · (intro w hSw; (try dsimp only at hSw); go_simp; all_goals with_reducible rfl)
            simp only [Act.put, List.setIfInBounds_toArray, List.set_cons_zero, List.set_cons_succ]
            refine takeL 7 (v := ?_) rfl (by kernel_rfl) (by kernel_rfl) (by kernel_rfl) (fun _ _ _ h => h) (by rfl) (by assumption) ?_ ?_
            rotate_left 1
            · (intro w hSw; (try dsimp only at hSw); go_simp; all_goals with_reducible rfl)
            simp only [Act.put, List.setIfInBounds_toArray, List.set_cons_zero, List.set_cons_succ]
            refine takeL 8 (v := ?_) rfl (by kernel_rfl) (by kernel_rfl) (by kernel_rfl) (fun _ _ _ h => h) (by rfl) (by assumption) ?_ ?_
            rotate_left 1
            · (intro w hSw; (try dsimp only at hSw); go_simp; all_goals with_reducible rfl)
            simp only [Act.put, List.setIfInBounds_toArray, List.set_cons_zero, List.set_cons_succ]
            refine oneL 9 rfl (by kernel_rfl) (fun K hK => ?_)
            go_simp
            refine hK.out _ _ (KK.out _ BD1.out) (fun hHeld2 => ?_)
            clear hK K hHeld
            have hHeld := hHeld2
            clear hHeld2
            (try simp only [Act.put, List.setIfInBounds_toArray, List.set_cons_zero, List.set_cons_succ])
            refine oneL 10 rfl (by kernel_rfl) (fun K hK => ?_)
            go_simp
            refine CIN.out.mono ?_
            rintro en w2 ⟨v', rfl, o2, g2⟩
            obtain ⟨hp2, hop⟩ := ST4.out.1.grown g2 o2
            obtain ⟨-, e1, -, -, h1, -⟩ := ops_cells hp2
            have e2 : w2.cell? ⟨cb, 0, none⟩ = some (.int .i64 id) := by
              have hc := ST4.out.2
              have hcl := (Array.getElem?_eq_some_iff.1 hc).1
              have : w2.heap[cb]? = some (.cells #[.int .i64 id] 3 (0, 0)) := (g2.block cb hcl (fun e => by
                obtain ⟨-, -, cs, q⟩ := own_kind HOW.out cb e.symm
                rw [hc] at q
                injection q with q
                injection q with _ q
                simp at q)).trans hc
              exact cell_of_row _ _ 0 _ _ _ this
            have FIN : Hid (AddOut w p s id arg (.returned (.bool true)) (w2.setCell ⟨p, 1, none⟩ v')) := YES.out _ _ (q) HO.out HN3.out HQ.out ⟨rfl, hop.s⟩
            obtain ⟨ua, uc, hv', -⟩ := (Sli.of o2).form
            subst hv'
            obtain ⟨un, hun⟩ : ∃ un, (insV s.vols id (q)).length = un := ⟨_, rfl⟩
            rw [hun] at FIN ⊢
            refine hK.out _ _ ⟨e1, e2⟩ (fun hHeld2 => ?_)
            clear hK K hHeld
            have hHeld := hHeld2
            clear hHeld2
            (try simp only [Act.put, List.setIfInBounds_toArray, List.set_cons_zero, List.set_cons_succ])
            refine takeL 11 (v := ?_) rfl (by kernel_rfl) (by kernel_rfl) (by kernel_rfl) (fun _ _ _ h => h) (by rfl) (by assumption) ?_ ?_
            rotate_left 1
            · (intro w hSw; (try dsimp only at hSw); go_simp; all_goals with_reducible rfl)
            simp only [Act.put, List.setIfInBounds_toArray, List.set_cons_zero, List.set_cons_succ]
            refine takeL 12 (v := ?_) rfl (by kernel_rfl) (by kernel_rfl) (by kernel_rfl) (fun _ _ _ h => h) (by rfl) (by assumption) ?_ ?_
            rotate_left 1
            · (intro w hSw; (try dsimp only at hSw); go_simp; all_goals with_reducible rfl)
            simp only [Act.put, List.setIfInBounds_toArray, List.set_cons_zero, List.set_cons_succ]
            refine doneL (by kernel_rfl) (last_go ?_)
            clear hHeld CIN hop o2 g2 hun
            go_wp2
            go_ret
            exact FIN.out
          · rw [ejn] at CIN
            go_wp2_with fail
            refine wp_region_lastC2 13 (S := fun w' => w'.cell? ⟨p, 1, none⟩ = some (.slice (some ⟨b, off, none⟩) n vc) ∧ w'.cell? ⟨cb, 0, none⟩ = some (.int .i64 id)) (by kernel_rfl) rfl (by kernel_rfl) (KK.out _ BD.out) (fun hHeld => ?_)
            simp only [List.dropLast_cons_cons, List.dropLast_singleton, List.length_cons, List.length_nil, Nat.reduceAdd]
            refine takeL 0 (v := ?_) rfl (by kernel_rfl) (by kernel_rfl) (by kernel_rfl) (fun _ _ _ h => h) (by rfl) (by assumption) ?_ ?_
            rotate_left 1
            · (intro w hSw; (try dsimp only at hSw); go_simp; all_goals with_reducible rfl)
            simp only [Act.put, List.setIfInBounds_toArray, List.set_cons_zero, List.set_cons_succ]
            refine takeL 1 (v := ?_) rfl (by kernel_rfl) (by kernel_rfl) (by kernel_rfl) (fun _ _ _ h => h) (by rfl) (by assumption) ?_ ?_
            rotate_left 1
            · (intro w hSw; (try dsimp only at hSw); go_simp; all_goals with_reducible rfl)
            simp only [Act.put, List.setIfInBounds_toArray, List.set_cons_zero, List.set_cons_succ]
            refine takeL 2 (v := ?_) rfl (by kernel_rfl) (by kernel_rfl) (by kernel_rfl) (fun _ _ _ h => h) (by rfl) (by assumption) ?_ ?_
            rotate_left 1
            · (intro w hSw; (try dsimp only at hSw); go_simp; all_goals with_reducible rfl)
            simp only [Act.put, List.setIfInBounds_toArray, List.set_cons_zero, List.set_cons_succ]
            refine takeL 3 (v := ?_) rfl (by kernel_rfl) (by kernel_rfl) (by kernel_rfl) (fun _ _ _ h => h) (by rfl) (by assumption) ?_ ?_
            rotate_left 1
            · (intro w hSw; (try dsimp only at hSw); go_simp; all_goals with_reducible rfl)
            simp only [Act.put, List.setIfInBounds_toArray, List.set_cons_zero, List.set_cons_succ]
            refine takeL 4 (v := ?_) rfl (by kernel_rfl) (by kernel_rfl) (by kernel_rfl) (fun _ _ _ h => h) (by rfl) (by assumption) ?_ ?_
            rotate_left 1
            · (intro w hSw; (try dsimp only at hSw); go_simp; all_goals with_reducible rfl)
            simp only [Act.put, List.setIfInBounds_toArray, List.set_cons_zero, List.set_cons_succ]
            refine takeL 5 (v := ?_) rfl (by kernel_rfl) (by kernel_rfl) (by kernel_rfl) (fun _ _ _ h => h) (by rfl) (by assumption) ?_ ?_
            rotate_left 1
            · (intro w hSw; (try dsimp only at hSw); go_simp; all_goals with_reducible rfl)
            simp only [Act.put, List.setIfInBounds_toArray, List.set_cons_zero, List.set_cons_succ]
            refine takeL 6 (v := ?_) rfl (by kernel_rfl) (by kernel_rfl) (by kernel_rfl) (fun _ _ _ h => h) (by rfl) (by assumption) ?_ ?_
            rotate_left 1
            · (intro w hSw; (try dsimp only at hSw); go_simp; all_goals with_reducible rfl)
            simp only [Act.put, List.setIfInBounds_toArray, List.set_cons_zero, List.set_cons_succ]
            refine takeL 7 (v := ?_) rfl (by kernel_rfl) (by kernel_rfl) (by kernel_rfl) (fun _ _ _ h => h) (by rfl) (by assumption) ?_ ?_
            rotate_left 1
            · (intro w hSw; (try dsimp only at hSw); go_simp; all_goals with_reducible rfl)
            simp only [Act.put, List.setIfInBounds_toArray, List.set_cons_zero, List.set_cons_succ]
            refine takeL 8 (v := ?_) rfl (by kernel_rfl) (by kernel_rfl) (by kernel_rfl) (fun _ _ _ h => h) (by rfl) (by assumption) ?_ ?_
            rotate_left 1
            · (intro w hSw; (try dsimp only at hSw); go_simp; all_goals with_reducible rfl)
            simp only [Act.put, List.setIfInBounds_toArray, List.set_cons_zero, List.set_cons_succ]
            refine oneL 9 rfl (by kernel_rfl) (fun K hK => ?_)
            go_simp
            refine hK.out _ _ (KK.out _ BD1.out) (fun hHeld2 => ?_)
            clear hK K hHeld
            have hHeld := hHeld2
            clear hHeld2
            (try simp only [Act.put, List.setIfInBounds_toArray, List.set_cons_zero, List.set_cons_succ])
            refine oneL 10 rfl (by kernel_rfl) (fun K hK => ?_)
            go_simp
            refine CIN.out.mono ?_
            rintro en w2 ⟨v', rfl, o2, g2⟩
            obtain ⟨hp2, hop⟩ := ST4.out.1.grown g2 o2
            obtain ⟨-, e1, -, -, h1, -⟩ := ops_cells hp2
            have e2 : w2.cell? ⟨cb, 0, none⟩ = some (.int .i64 id) := by
              have hc := ST4.out.2
              have hcl := (Array.getElem?_eq_some_iff.1 hc).1
              have : w2.heap[cb]? = some (.cells #[.int .i64 id] 3 (0, 0)) := (g2.block cb hcl (fun e => by
                obtain ⟨-, -, cs, q⟩ := own_kind HOW.out cb e.symm
                rw [hc] at q
                injection q with q
                injection q with _ q
                simp at q)).trans hc
              exact cell_of_row _ _ 0 _ _ _ this
            have FIN : Hid (AddOut w p s id arg (.returned (.bool true)) (w2.setCell ⟨p, 1, none⟩ v')) := YES.out _ _ (q) HO.out HN3.out HQ.out ⟨rfl, hop.s⟩
            obtain ⟨ua, uc, hv', -⟩ := (Sli.of o2).form
            subst hv'
            obtain ⟨un, hun⟩ : ∃ un, (insV s.vols id (q)).length = un := ⟨_, rfl⟩
            rw [hun] at FIN ⊢
            refine hK.out _ _ ⟨e1, e2⟩ (fun hHeld2 => ?_)
            clear hK K hHeld
            have hHeld := hHeld2
            clear hHeld2
            (try simp only [Act.put, List.setIfInBounds_toArray, List.set_cons_zero, List.set_cons_succ])
            refine takeL 11 (v := ?_) rfl (by kernel_rfl) (by kernel_rfl) (by kernel_rfl) (fun _ _ _ h => h) (by rfl) (by assumption) ?_ ?_
            rotate_left 1
            · (intro w hSw; (try dsimp only at hSw); go_simp; all_goals with_reducible rfl)
            simp only [Act.put, List.setIfInBounds_toArray, List.set_cons_zero, List.set_cons_succ]
            refine takeL 12 (v := ?_) rfl (by kernel_rfl) (by kernel_rfl) (by kernel_rfl) (fun _ _ _ h => h) (by rfl) (by assumption) ?_ ?_
            rotate_left 1
            · (intro w hSw; (try dsimp only at hSw); go_simp; all_goals with_reducible rfl)
            simp only [Act.put, List.setIfInBounds_toArray, List.set_cons_zero, List.set_cons_succ]
            refine doneL (by kernel_rfl) (last_go ?_)
            clear hHeld CIN hop o2 g2 hun
            go_wp2
            go_ret
            exact FIN.out
end Go.Proofs.YtcnaahajaaifjacGreat
