/-
  Devices that are good stay so: what is asked is written, a base is written.
-/
import Derived.Test.YtiicghepilbgfaaGreatDoorPk25
namespace Go.Proofs.YtiicghepilbgfaaGreatDoor
open Words Sums Pack

structure Ak where
  kind : Int
  vol : Int
  sector : Int
  of : Int
  text : ByteArray
def akB (q : Ak) : Bool :=
  if ¬ (1 ≤ q.kind ∧ q.kind ≤ 6) ∨ ¬ (1 ≤ q.vol ∧ q.vol ≤ 9) ∨ 64 < q.text.size ∨ (q.kind ≠ 1 ∧ q.text.size ≠ 0) then false
  else if q.kind = 4 then decide (q.sector = 0 ∧ 1 ≤ q.of ∧ q.of ≤ 9)
  else if q.of ≠ 0 then false
  else if q.kind = 3 ∨ q.kind = 5 then decide (q.sector = 0)
  else decide (0 ≤ q.sector ∧ q.sector ≤ 15)
def noT : ByteArray := ⟨#[]⟩
def packB (t : ByteArray) : ByteArray := match packL t.data.toList with
  | some p => ⟨p.toArray⟩
  | none => noT
def planP (d : Dv) (q : Ak) : List Rc × ByteArray × Int :=
  if akB q = false then ([], noT, 3)
  else if q.kind = 3 ∨ q.kind = 4 then
    if (atV d.store.vols q.vol).isSome then ([], noT, 2)
    else if q.kind = 4 ∧ (atV d.store.vols q.of).isSome = false then ([], noT, 1)
    else if 3 ≤ d.store.vols.length then ([], noT, 4)
    else ([⟨2, q.vol, q.of, 0⟩], noT, 0)
  else if (atV d.store.vols q.vol).isSome = false then ([], noT, 1)
  else if q.kind = 1 then
    if sameP (scanF d.flash) (liveS d.store) q.text.data.toList = 0 then ([⟨4, q.vol, q.sector, d.store.next⟩], packB q.text, 0)
    else ([⟨4, q.vol, q.sector, sameP (scanF d.flash) (liveS d.store) q.text.data.toList⟩], noT, 0)
  else if q.kind = 2 then ([⟨5, q.vol, q.sector, 0⟩], noT, 0)
  else if q.kind = 5 then ([⟨3, q.vol, 0, 0⟩], noT, 0)
  else ([], noT, 0)
/-- What a plan is. -/
def Plan (d : Dv) (q : Ak) (l : List Rc) (t : ByteArray) : Prop :=
  (l = [] ∧ t = noT) ∨ (∃ r : Rc, ((r.kind = 2 ∨ r.kind = 3 ∨ r.kind = 5) ∧ r.vol = q.vol) ∧ l = [r] ∧ t = noT) ∨ (∃ c, c ∈ liveS d.store ∧ textP (scanF d.flash) c = some q.text.data.toList ∧ l = [⟨4, q.vol, q.sector, c⟩] ∧ t = noT) ∨ ((∀ c ∈ liveS d.store, textP (scanF d.flash) c ≠ some q.text.data.toList) ∧ (atV d.store.vols q.vol).isSome = true ∧ (1 ≤ q.vol ∧ q.vol ≤ 9 ∧ 0 ≤ q.sector ∧ q.sector ≤ 15) ∧ q.text.size ≤ 64 ∧ l = [⟨4, q.vol, q.sector, d.store.next⟩] ∧ t = packB q.text)
theorem Plan.none {d : Dv} {q : Ak} : Plan d q [] noT := .inl ⟨rfl, rfl⟩
theorem Plan.plain {d : Dv} {q : Ak} (r : Rc) (hr : r.kind = 2 ∨ r.kind = 3 ∨ r.kind = 5) (hv : r.vol = q.vol) : Plan d q [r] noT := .inr (.inl ⟨r, ⟨hr, hv⟩, rfl, rfl⟩)
theorem Plan.old {d : Dv} {q : Ak} (c : Int) (hc : c ∈ liveS d.store) (ht : textP (scanF d.flash) c = some q.text.data.toList) : Plan d q [⟨4, q.vol, q.sector, c⟩] noT := .inr (.inr (.inl ⟨c, hc, ht, rfl, rfl⟩))
theorem Plan.new {d : Dv} {q : Ak} (hn : ∀ c ∈ liveS d.store, textP (scanF d.flash) c ≠ some q.text.data.toList) (hv : (atV d.store.vols q.vol).isSome = true) (h1 : 1 ≤ q.vol ∧ q.vol ≤ 9 ∧ 0 ≤ q.sector ∧ q.sector ≤ 15) (hs : q.text.size ≤ 64) : Plan d q [⟨4, q.vol, q.sector, d.store.next⟩] (packB q.text) := .inr (.inr (.inr ⟨hn, hv, h1, hs, rfl, rfl⟩))
theorem same_zero {M : List Fnd} {live : List Int} {t : List UInt8} (hp : ∀ c ∈ live, 0 < c) (h : sameP M live t = 0) : ∀ c ∈ live, textP M c ≠ some t := by
  intro c hc e
  unfold sameP at h
  cases hf : live.find? (fun c => decide (textP M c = some t)) with
  | none =>
    have := List.find?_eq_none.1 hf c hc
    simp [e] at this
  | some y =>
    rw [hf] at h
    have := hp y (List.mem_of_find?_eq_some hf)
    simp at h
    omega
theorem same_some {M : List Fnd} {live : List Int} {t : List UInt8} (h : sameP M live t ≠ 0) : sameP M live t ∈ live ∧ textP M (sameP M live t) = some t := by
  unfold sameP at h ⊢
  cases hf : live.find? (fun c => decide (textP M c = some t)) with
  | none => rw [hf] at h; exact absurd rfl h
  | some y =>
    have h1 := List.find?_some hf
    simp only [decide_eq_true_eq] at h1
    exact ⟨List.mem_of_find?_eq_some hf, h1⟩
theorem plan_is (d : Dv) (q : Ak) : Plan d q (planP d q).1 (planP d q).2.1 := by
  have hp : ∀ c ∈ liveS d.store, 0 < c := fun c hc => ((live_mem _ _).1 hc).1
  unfold planP
  split
  · exact .none
  rename_i ha
  split
  · split
    · exact .none
    split
    · exact .none
    split
    · exact .none
    · exact .plain _ (.inl rfl) rfl
  split
  · exact .none
  rename_i hv
  split
  · rename_i hk
    split
    · rename_i hz
      refine .new (same_zero hp hz) (by cases e : (atV d.store.vols q.vol).isSome with | true => rfl | false => exact absurd e hv) ?_ ?_
      · unfold akB at ha
        split at ha
        · exact absurd rfl ha
        rename_i hh
        simp only [not_or, Decidable.not_not] at hh
        rw [if_neg (show ¬ q.kind = 4 by omega)] at ha
        split at ha
        · exact absurd rfl ha
        rw [if_neg (show ¬ (q.kind = 3 ∨ q.kind = 5) by omega)] at ha
        simp only [decide_eq_false_iff_not, Decidable.not_not] at ha
        exact ⟨hh.2.1.1, hh.2.1.2, ha.1, ha.2⟩
      · unfold akB at ha
        split at ha
        · exact absurd rfl ha
        rename_i hh
        simp only [not_or, Decidable.not_not] at hh
        omega
    · rename_i hz
      obtain ⟨h1, h2⟩ := same_some hz
      exact .old _ h1 h2
  split
  · exact .plain _ (.inr (.inr rfl)) rfl
  split
  · exact .plain _ (.inr (.inl rfl)) rfl
  · exact .none
theorem pack_unpackD {t : ByteArray} (h : t.size ≤ 64) : ∃ p, packL t.data.toList = some p ∧ unpackL p = some t.data.toList ∧ (packB t).data.toList = p ∧ (packB t).size ≠ 0 := by
  have hl : t.data.toList.length = t.size := by simp
  cases hp : packL t.data.toList with
  | none =>
    unfold packL at hp
    rw [if_neg (by omega)] at hp
    cases hp
  | some p =>
    have h3 : packB t = ⟨p.toArray⟩ := by unfold packB; rw [hp]
    refine ⟨p, rfl, unpack_pack _ _ hp, by rw [h3], ?_⟩
    rw [h3]
    show p.toArray.size ≠ 0
    unfold packL at hp
    rw [if_neg (by omega)] at hp
    injection hp with hp
    rw [← hp]
    split
    · simp
    · simp [zOf]
theorem store_snoc (L : List TxR) (t : TxR) : storeP (L ++ [t]) = (enterAllS (storeP L) t.recs).1 := by simp [storeP, List.foldl_append]
theorem head_more {M ds ms : List Fnd} {t : TxR} (hd : HeadOk M) (hlt : ∀ x ∈ M, x.page.kind = 2 → x.page.tx < t.num) (h1 : ∀ x ∈ ds, x.page.kind ≠ 2) (h2 : ∀ x ∈ ms, x.page.kind = 2 ∧ x.page.tx = t.num) (h3 : txsP (M ++ ds ++ ms) = if t.base then [t] else txsP M ++ [t]) : HeadOk (M ++ ds ++ ms) := by
  unfold HeadOk
  rw [h3]
  cases hb : t.base with
  | true => simp only [if_true]; exact .inl hb
  | false =>
    simp only [Bool.false_eq_true, if_false]
    unfold HeadOk at hd
    cases hT : txsP M with
    | nil =>
      rw [hT] at hd
      simp only [List.nil_append] at hd ⊢
      right
      intro x hx hk
      rcases List.mem_append.1 hx with hx | hx
      · rcases List.mem_append.1 hx with hx | hx
        · exact absurd hk (hd x hx)
        · exact absurd hk (h1 x hx)
      · have := (h2 x hx).2; omega
    | cons u L =>
      rw [hT] at hd
      simp only [List.cons_append] at hd ⊢
      rcases hd with hd | hd
      · exact .inl hd
      · right
        intro x hx hk
        rcases List.mem_append.1 hx with hx | hx
        · rcases List.mem_append.1 hx with hx | hx
          · exact hd x hx hk
          · exact absurd hk (h1 x hx)
        · obtain ⟨y, hy, hyk, e⟩ := tx_since (M := M) (t := u) (by rw [hT]; simp)
          have := hlt y hy hyk
          have := (h2 x hx).2
          omega
theorem isData_app {M : List Fnd} {c : Int} (ds ms : List Fnd) (h : ∃ x ∈ M, isData c x = true) : ∃ x ∈ M ++ ds ++ ms, isData c x = true := by
  obtain ⟨x, hx, hd⟩ := h
  exact ⟨x, List.mem_append_left _ (List.mem_append_left _ hx), hd⟩
/-- What is asked is written. -/
theorem good_write {T : List UInt8 → Prop} {n : Nat} {d : Dv} {q : Ak} {l : List Rc} {t : ByteArray} {L : List Stp} (h : Good T n d) (hn : n < 999999998) (hqv : q.vol ≤ 3) (hp : Plan d q l t) (hl : l ≠ []) (hT : T q.text.data.toList) (hw : writeP d l t = (L, true)) : Good T (n + 1) (stepsP d L) := by
  obtain ⟨cs, ds, ms, tr, h1, h2, -, h4, h5, h6, h7, h8, -, -, h11⟩ := write_mount h.up hl hw
  have hseq : d.tx = txP (scanF d.flash) := congrArg Dv.tx h.up.is
  have hst : d.store = storeP (txsP (scanF d.flash)) := congrArg Dv.store h.up.is
  -- one record, no base
  obtain ⟨r, e1, hk1⟩ : ∃ r, l = [r] ∧ r.kind ≠ 1 := by
    rcases hp with ⟨rfl, rfl⟩ | ⟨r, hr, rfl, rfl⟩ | ⟨c, hc, ht, rfl, rfl⟩ | ⟨-, -, -, -, rfl, rfl⟩
    · exact absurd rfl hl
    · exact ⟨r, rfl, by omega⟩
    · exact ⟨_, rfl, by show (4 : Int) ≠ 1; decide⟩
    · exact ⟨_, rfl, by show (4 : Int) ≠ 1; decide⟩
  have hb : tr.base = false := by
    unfold TxR.base
    rw [h7, e1]
    simpa using hk1
  have hstore : (mountP cs).store = (enterS d.store r).1 := by
    show storeP (txsP (scanF cs)) = _
    rw [h11, hb]
    simp only [Bool.false_eq_true, if_false]
    rw [store_snoc, ← hst, h7, e1, all_one]
  have hds : ∀ x ∈ ds, x.page.kind = 1 := by
    intro x hx
    rcases h8 with ⟨-, e⟩ | ⟨-, y, e, e2, -⟩
    · rw [e] at hx; cases hx
    · rw [e, List.mem_singleton] at hx; subst hx; rw [e2]; rfl
  have hnm : ∀ c, newP (scanF cs) c = (newP ds c).or (newP (scanF d.flash) c) := fun c => by
    rw [h4, newP_app, newP_meta (fun x hx => (h5 x hx).1), newP_app]
    rfl
  rw [h1]
  have hR := enter_right h.st r
  have hfl : (mountP cs).flash = cs := rfl
  -- the new chunk's page
  have key : (ds = [] ∧ (∀ y ∈ liveS (enterS d.store r).1, y ∈ liveS d.store)) ∨ ∃ x, ds = [x] ∧ x.page.kind = 1 ∧ x.page.tx = d.store.next ∧ unpackL x.page.text.data.toList = some q.text.data.toList ∧ (∀ c ∈ liveS d.store, textP (scanF d.flash) c ≠ some q.text.data.toList) ∧ (∀ y ∈ liveS (enterS d.store r).1, y ∈ liveS d.store ∨ y = d.store.next) ∧ (enterS d.store r).1.next = d.store.next + 1 := by
    rcases hp with ⟨rfl, rfl⟩ | ⟨r', hr', rfl, rfl⟩ | ⟨c, hc, ht, rfl, rfl⟩ | ⟨hn2, hv, h12, hs, rfl, rfl⟩
    · exact absurd rfl hl
    · left
      injection e1 with e1
      subst e1
      rcases h8 with ⟨-, e⟩ | ⟨e, -⟩
      · exact ⟨e, fun y hy => (live_enter hk1 hy).elim id (fun q => by omega)⟩
      · exact absurd rfl e
    · left
      injection e1 with e1
      subst e1
      rcases h8 with ⟨-, e⟩ | ⟨e, -⟩
      · exact ⟨e, fun y hy => (live_enter hk1 hy).elim id (fun q => by rw [q.2.1]; exact hc)⟩
      · exact absurd rfl e
    · right
      injection e1 with e1
      subst e1
      obtain ⟨p, p1, p2, p3, p4⟩ := pack_unpackD hs
      rcases h8 with ⟨e, -⟩ | ⟨-, x, e, e2, -⟩
      · exact absurd e p4
      · have hnx := h.st.nx
        have hnx2 := h.nx
        have hr : Rc.Right ⟨4, q.vol, q.sector, d.store.next⟩ := by
          refine ⟨⟨?_, ?_⟩, .inr ⟨⟨?_, ?_⟩, .inr (.inr (.inl ⟨rfl, ?_, ?_, ?_⟩))⟩⟩ <;> simp only <;> omega
        have htk := put_taken h.st hr rfl hv (by simp only; omega)
        obtain ⟨k, v, -, -, -, -, -, -, -, e5, -⟩ := enter_put htk (.inl rfl)
        simp only [Int.le_refl, if_true] at e5
        refine ⟨x, e, by rw [e2]; rfl, by rw [e2]; rfl, ?_, hn2, ?_, e5⟩
        · rw [e2]
          show unpackL (packB q.text).data.toList = _
          rw [p3]; exact p2
        · intro y hy
          rcases live_enter hk1 hy with q1 | q1
          · exact .inl q1
          · exact .inr q1.2.1
  have hvi : ∀ v ∈ (enterS d.store r).1.vols, v.1 ≤ 3 := enter_ids h.vi (fun h2 => by
    rcases hp with ⟨rfl, rfl⟩ | ⟨r', hr', rfl, rfl⟩ | ⟨c, hc, ht, rfl, rfl⟩ | ⟨-, -, -, -, rfl, rfl⟩
    · exact absurd rfl hl
    · injection e1 with e1
      subst e1
      omega
    · injection e1 with e1
      subst e1
      exact hqv
    · injection e1 with e1
      subst e1
      exact hqv)
  refine ⟨⟨h2, rfl⟩, by rw [hstore]; exact hR, ?_, ?_, ?_, ?_, ?_, ?_, by rw [hstore]; exact hvi⟩
  · show HeadOk (scanF cs)
    rw [h4]
    exact head_more h.hd (fun x hx hk => by rw [h6, hseq]; exact tx_ge _ x hx hk) (fun x hx => by rw [hds x hx]; decide) (fun x hx => by rw [h6]; exact h5 x hx) (by rw [← h4]; exact h11)
  · intro c hc
    rw [hstore] at hc
    show ∃ x ∈ scanF cs, _
    rw [h4]
    rcases key with ⟨-, k2⟩ | ⟨x, k1, k2, k3, -, -, k6, -⟩
    · exact isData_app _ _ (h.lv c (k2 c hc))
    · rcases k6 c hc with k6 | k6
      · exact isData_app _ _ (h.lv c k6)
      · exact ⟨x, by rw [k1]; simp, by unfold isData; simp [k2, k3, k6]⟩
  · intro x hx hk
    change x ∈ scanF cs at hx
    rw [h4] at hx
    rcases List.mem_append.1 hx with hx | hx
    · rcases List.mem_append.1 hx with hx | hx
      · exact h.tx x hx hk
      · rcases key with ⟨k1, -⟩ | ⟨y, k1, -, -, k4, -⟩
        · rw [k1] at hx; cases hx
        · rw [k1, List.mem_singleton] at hx
          subst hx
          exact ⟨_, k4, hT⟩
    · have := (h5 x hx).1; omega
  · intro c hc c' hc' he
    rw [hstore] at hc hc'
    change textP (scanF cs) c = textP (scanF cs) c' at he
    rcases key with ⟨k1, k2⟩ | ⟨x, k1, k2, k3, k4, k5, k6, -⟩
    · have ht : ∀ y, textP (scanF cs) y = textP (scanF d.flash) y := fun y => by
        unfold textP
        rw [hnm y, k1]
        rfl
      rw [ht, ht] at he
      exact h.df c (k2 c hc) c' (k2 c' hc') he
    · have hold : ∀ y ∈ liveS d.store, textP (scanF cs) y = textP (scanF d.flash) y := fun y hy => by
        have hlt : ¬ (d.store.next = y) := by
          obtain ⟨z, hz, hzd⟩ := h.lv y hy
          obtain ⟨z1, z2⟩ := data_kind hzd
          have := h.dn z hz z1
          omega
        unfold textP
        rw [hnm y, k1, newP_cons]
        have : isData y x = false := by unfold isData; simp [k2, k3, hlt]
        rw [this]
        rfl
      have hnew : textP (scanF cs) d.store.next = some q.text.data.toList := by
        rw [textP_of (x := x)]
        · exact k4
        · rw [hnm, k1, newP_cons]
          have : isData d.store.next x = true := by unfold isData; simp [k2, k3]
          rw [this]
          rfl
      rcases k6 c hc with q1 | q1 <;> rcases k6 c' hc' with q2 | q2
      · rw [hold c q1, hold c' q2] at he
        exact h.df c q1 c' q2 he
      · subst q2
        rw [hold c q1, hnew] at he
        exact absurd he (k5 c q1)
      · subst q1
        rw [hold c' q2, hnew] at he
        exact absurd he.symm (k5 c' q2)
      · rw [q1, q2]
  · intro x hx hk
    change x ∈ scanF cs at hx
    rw [hstore]
    have hmono := next_enter (s := d.store) hk1
    rw [h4] at hx
    rcases List.mem_append.1 hx with hx | hx
    · rcases List.mem_append.1 hx with hx | hx
      · have := h.dn x hx hk; omega
      · rcases key with ⟨k1, -⟩ | ⟨y, k1, -, k3, -, -, -, k7⟩
        · rw [k1] at hx; cases hx
        · rw [k1, List.mem_singleton] at hx
          subst hx
          omega
    · have := (h5 x hx).1; omega
  · rw [hstore]
    have hnx := h.nx
    rcases key with ⟨-, -⟩ | ⟨-, -, -, -, -, -, -, k7⟩
    · rcases enter_next (s := d.store) r hk1 with q1 | q1
      · rw [q1]; omega
      · rcases hp with ⟨rfl, rfl⟩ | ⟨r', hr', rfl, rfl⟩ | ⟨c, hc, ht, rfl, rfl⟩ | ⟨-, -, -, -, rfl, rfl⟩
        · exact absurd rfl hl
        · injection e1 with e1
          subst e1
          have hle := hR.nx
          cases he : (enterS d.store r').2 with
          | false => rw [enter_no he]; omega
          | true =>
            obtain ⟨-, hr2⟩ := enter_yes he
            unfold Rc.Right at hr2
            rw [q1]
            have : r'.chunk = 0 := by omega
            omega
        · injection e1 with e1
          subst e1
          simp only at q1
          obtain ⟨z, hz, hzd⟩ := h.lv c hc
          obtain ⟨z1, z2⟩ := data_kind hzd
          have := h.dn z hz z1
          rw [q1]
          omega
        · injection e1 with e1
          subst e1
          simp only at q1
          rw [q1]
          omega
    · rw [k7]; omega
end Go.Proofs.YtiicghepilbgfaaGreatDoor
