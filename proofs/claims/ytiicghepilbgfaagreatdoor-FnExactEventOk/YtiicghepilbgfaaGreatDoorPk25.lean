/-
  DvM4; DvM5
-/
import Derived.Test.YtiicghepilbgfaaGreatDoorDvM3
import Derived.Test.YtiicghepilbgfaaGreatDoorStoM4
/-
  Devices: what a plan that is written makes of them.
-/
namespace Go.Proofs.YtiicghepilbgfaaGreatDoor
open Words Sums Pack

theorem puts_false : ∀ (ps : List Pg) (s : List Bk × List Stp × Bool), s.2.2 = false → (putsP s ps).2.2 = false
  | [], s, h => h
  | p :: ps, s, h => by rw [putsP, h]; exact h
theorem puts_scan : ∀ (ps : List Pg) {bs : List Bk} {l : List Stp}, flOk bs = true → (∀ y ∈ scanF bs, ∀ p ∈ ps, y.key < p.seq) → ps.Pairwise (fun p q => p.seq < q.seq) → (putsP (bs, l, true) ps).2.2 = true →
    ∃ (cs : List Bk) (L : List Stp) (xs : List Fnd), putsP (bs, l, true) ps = (cs, l ++ L, true) ∧ doAll bs L = (cs, L.length) ∧ flOk cs = true ∧ xs.map Fnd.page = ps ∧ scanF cs = scanF bs ++ xs ∧ (∀ p ∈ ps, p.Right) ∧ (∀ s ∈ L, s.1 = 1) ∧ L.length = ps.length ∧ L.map (fun s => s.2.1) = xs.map Fnd.block ∧ roomF cs + ps.length = roomF bs
  | [], bs, l, hok, _, _, _ => ⟨bs, [], [], by simp [putsP], rfl, hok, rfl, by simp, by simp, by simp, rfl, rfl, by simp⟩
  | p :: ps, bs, l, hok, hk, hp, h => by
    rw [putsP] at h
    simp only [if_true] at h
    have h1 : (putP bs l p).2.2 = true := by
      cases e : (putP bs l p).2.2 with
      | true => rfl
      | false => rw [puts_false ps _ e] at h; cases h
    obtain ⟨cs, s, x, e1, e2, e3, e4, e5, e6, e7, e8, e9⟩ := put_scan hok (fun y hy => hk y hy p (by simp)) h1
    obtain ⟨hp1, hp2⟩ := List.pairwise_cons.1 hp
    rw [e1] at h
    obtain ⟨cs2, L, xs, f1, f2, f3, f4, f5, f6, f7, f8, f9, f10⟩ := puts_scan ps (bs := cs) (l := l ++ [s]) e3 (fun y hy q hq => by
      rw [e6] at hy
      rcases List.mem_append.1 hy with hy | hy
      · exact hk y hy q (by simp [hq])
      · rw [List.mem_singleton] at hy
        subst hy
        show y.page.seq < q.seq
        rw [e4]
        exact hp1 q hq) hp2 h
    refine ⟨cs2, s :: L, x :: xs, ?_, ?_, f3, by simp [e4, f4], ?_, ?_, ?_, by simp [f8], by simp [f9, e7], ?_⟩
    · rw [putsP]
      simp only [if_true]
      rw [e1, f1]
      simp
    · rw [doAll, e2]
      simp only [if_true]
      rw [f2]
      simp
    · rw [f5, e6]; simp
    · intro q hq
      rcases List.mem_cons.1 hq with rfl | hq
      · exact e5
      · exact f6 q hq
    · intro q hq
      rcases List.mem_cons.1 hq with rfl | hq
      · exact e8
      · exact f7 q hq
    · rw [List.length_cons]; omega
theorem tx_asc (seq tx : Int) (l : List Rc) : (txPgs seq tx l).Pairwise (fun p q => p.seq < q.seq) := by
  rw [List.pairwise_iff_getElem]
  intro i j hi hj hij
  obtain ⟨g, -, e⟩ := txPgs_at (List.getElem?_eq_getElem hi)
  obtain ⟨g', -, e'⟩ := txPgs_at (List.getElem?_eq_getElem hj)
  rw [e, e']
  show seq + (i : Int) < seq + (j : Int)
  omega
theorem tx_from {seq tx : Int} {l : List Rc} {p : Pg} (h : p ∈ txPgs seq tx l) : seq ≤ p.seq := by
  obtain ⟨i, hi, e⟩ := List.getElem_of_mem h
  obtain ⟨g, -, e'⟩ := txPgs_at (List.getElem?_eq_getElem hi)
  rw [← e, e']
  show seq ≤ seq + (i : Int)
  omega
/-- What is written, when it is. -/
theorem write_scan {d : Dv} {l : List Rc} {t : ByteArray} {L : List Stp} (hok : flOk d.flash = true) (hs : ∀ y ∈ scanF d.flash, y.key < d.seq) (hl : l ≠ []) (h : writeP d l t = (L, true)) :
    ∃ (cs : List Bk) (ds ms : List Fnd), doAll d.flash L = (cs, L.length) ∧ flOk cs = true ∧ scanF cs = scanF d.flash ++ ds ++ ms ∧ ms.map Fnd.page = txPgs (writeQ d t) d.tx l ∧ TxOk (writeQ d t) d.tx l ∧
      ((t.size = 0 ∧ ds = []) ∨ (t.size ≠ 0 ∧ ∃ x, ds = [x] ∧ x.page = dataPg d.seq (lastCk l) t ∧ x.page.Right)) ∧ (∀ s ∈ L, s.1 = 1) ∧ roomF cs + L.length = roomF d.flash := by
  unfold writeP at h
  rw [if_neg (by intro e; exact hl (List.eq_nil_of_length_eq_zero e))] at h
  by_cases hc : ((putsP (write0 d l t) (txOut (writeQ d t) d.tx l)).2.2 && @decide (TxOk (writeQ d t) d.tx l) (decTx (writeQ d t) d.tx l)) = true
  · rw [if_pos hc] at h
    rw [Bool.and_eq_true, dcT] at hc
    obtain ⟨hc1, hc2⟩ := hc
    have e : txOut (writeQ d t) d.tx l = txPgs (writeQ d t) d.tx l := by unfold txOut; rw [if_pos hc2]
    rw [e] at hc1 h
    have h2 : (putsP (write0 d l t) (txPgs (writeQ d t) d.tx l)).2.1 = L := congrArg Prod.fst h
    by_cases ht : t.size = 0
    · have e0 : write0 d l t = (d.flash, [], true) := by unfold write0; rw [if_pos ht]
      have eq0 : writeQ d t = d.seq := by unfold writeQ; rw [if_pos ht]
      rw [e0] at hc1 h2
      obtain ⟨cs, L', xs, f1, f2, f3, f4, f5, f6, f7, f8, f9, f10⟩ := puts_scan _ hok (fun y hy p hp => by
        have := tx_from hp
        have := hs y hy
        omega) (tx_asc _ _ _) hc1
      rw [f1] at h2
      simp only [List.nil_append] at h2
      subst h2
      exact ⟨cs, [], xs, f2, f3, by rw [f5]; simp, f4, hc2, .inl ⟨ht, rfl⟩, f7, by rw [f8]; exact f10⟩
    · have e0 : write0 d l t = putP d.flash [] (dataPg d.seq (lastCk l) t) := by unfold write0; rw [if_neg ht]
      have eq0 : writeQ d t = d.seq + 1 := by unfold writeQ; rw [if_neg ht]
      rw [e0] at hc1 h2
      have h1 : (putP d.flash [] (dataPg d.seq (lastCk l) t)).2.2 = true := by
        cases e : (putP d.flash [] (dataPg d.seq (lastCk l) t)).2.2 with
        | true => rfl
        | false => rw [puts_false _ _ e] at hc1; cases hc1
      obtain ⟨cs, s, x, e1, e2, e3, e4, e5, e6, e7, e8, e9⟩ := put_scan hok (fun y hy => hs y hy) h1
      rw [e1] at hc1 h2
      obtain ⟨cs2, L', xs, f1, f2, f3, f4, f5, f6, f7, f8, f9, f10⟩ := puts_scan _ e3 (fun y hy p hp => by
        have h3 := tx_from hp
        rw [e6] at hy
        rcases List.mem_append.1 hy with hy | hy
        · have := hs y hy
          omega
        · rw [List.mem_singleton] at hy
          subst hy
          show y.page.seq < p.seq
          rw [e4]
          show d.seq < p.seq
          omega) (tx_asc _ _ _) hc1
      rw [f1] at h2
      simp only [List.nil_append, List.singleton_append] at h2
      subst h2
      refine ⟨cs2, [x], xs, ?_, f3, by rw [f5, e6], f4, hc2, .inr ⟨ht, x, rfl, e4, by rw [e4]; exact e5⟩, ?_, ?_⟩
      · rw [doAll, e2]
        simp only [if_true]
        rw [f2]
        simp
      · intro q hq
        rcases List.mem_cons.1 hq with rfl | hq
        · exact e8
        · exact f7 q hq
      · rw [List.length_cons, f8]; omega
  · rw [if_neg hc] at h
    cases h
/-- What comes up behind it. -/
theorem write_mount {d : Dv} {l : List Rc} {t : ByteArray} {L : List Stp} (hu : Up d) (hl : l ≠ []) (h : writeP d l t = (L, true)) :
    ∃ (cs : List Bk) (ds ms : List Fnd) (tr : TxR), stepsP d L = mountP cs ∧ flOk cs = true ∧ doAll d.flash L = (cs, L.length) ∧ scanF cs = scanF d.flash ++ ds ++ ms ∧ (∀ x ∈ ms, x.page.kind = 2 ∧ x.page.tx = d.tx) ∧ tr.num = d.tx ∧ tr.recs = l ∧
      ((t.size = 0 ∧ ds = []) ∨ (t.size ≠ 0 ∧ ∃ x, ds = [x] ∧ x.page = dataPg d.seq (lastCk l) t ∧ x.page.Right)) ∧ (∀ s ∈ L, s.1 = 1) ∧ roomF cs + L.length = roomF d.flash ∧
      txsP (scanF cs) = if tr.base then [tr] else txsP (scanF d.flash) ++ [tr] := by
  have hseq : d.seq = seqP (scanF d.flash) := congrArg Dv.seq hu.is
  have htx : d.tx = txP (scanF d.flash) := congrArg Dv.tx hu.is
  obtain ⟨cs, ds, ms, h1, h2, h3, h4, h5, h6, h7, h8⟩ := write_scan hu.ok (fun y hy => by rw [hseq]; exact seq_ge _ y hy) hl h
  have hms : ∀ x ∈ ms, x.page.kind = 2 ∧ x.page.tx = d.tx := fun x hx => by
    have : x.page ∈ txPgs (writeQ d t) d.tx l := by rw [← h4]; exact List.mem_map_of_mem hx
    obtain ⟨i, -, -, -, q1, q2, -⟩ := txPgs_mem this
    exact ⟨q1, q2⟩
  refine ⟨cs, ds, ms, ⟨d.tx, writeQ d t, l⟩, ?_, h2, h1, h3, hms, rfl, rfl, h6, h7, h8, ?_⟩
  · unfold stepsP mountF
    rw [h1]
    simp only
    rw [if_pos h2]
  · unfold txsP
    rw [h3, List.map_append, List.map_append, h4]
    rw [gather_more h5.1 (fun p hp => ?_) (fun p hp hk => ?_)]
    · exact since_snoc _ _
    · obtain ⟨x, hx, e⟩ := List.mem_map.1 hp
      rcases h6 with ⟨-, e2⟩ | ⟨-, y, e2, e3, -⟩
      · rw [e2] at hx; cases hx
      · rw [e2, List.mem_singleton] at hx
        subst hx
        rw [← e, e3]
        show (1 : Int) ≠ 2
        decide
    · obtain ⟨x, hx, e⟩ := List.mem_map.1 hp
      rw [← e, htx]
      exact tx_ge _ x hx (by rw [e]; exact hk)
end Go.Proofs.YtiicghepilbgfaaGreatDoor

/-
  Devices: what a record makes of the chunks that live; devices that are good.
-/
namespace Go.Proofs.YtiicghepilbgfaaGreatDoor
open Words Sums Pack

theorem all_tell (s : Sto) : allS s = (tellS s).flatMap (·.2) := by simp [allS, tellS, List.flatMap_map]
theorem live_tell {s m : Sto} (h : tellS m = tellS s) : liveS m = liveS s := by
  rw [live_fold, live_fold, all_tell, all_tell, h]
theorem mem_tell {s : Sto} {y : Int} : y ∈ allS s ↔ ∃ p ∈ tellS s, y ∈ p.2 := by rw [all_tell, List.mem_flatMap]
/-- Chunks that live behind a record lived ahead of it, or came with it. -/
theorem live_enter {s : Sto} {r : Rc} (hk : r.kind ≠ 1) {y : Int} (hy : y ∈ liveS (enterS s r).1) : y ∈ liveS s ∨ (r.kind = 4 ∧ y = r.chunk ∧ (enterS s r).2 = true) := by
  rw [live_mem] at hy
  obtain ⟨h0, hy⟩ := hy
  cases he : (enterS s r).2 with
  | false =>
    rw [enter_no he] at hy
    exact .inl ((live_mem s y).2 ⟨h0, hy⟩)
  | true =>
    obtain ⟨hs, hr⟩ := enter_yes he
    have hr2 := hr
    unfold Rc.Right at hr2
    by_cases h45 : r.kind = 4 ∨ r.kind = 5
    · obtain ⟨k, v, hv, -, -, -, -, h5, ht, -⟩ := enter_put he h45
      obtain ⟨p, hp, hyp⟩ := mem_tell.1 hy
      rw [ht] at hp
      rcases List.mem_or_eq_of_mem_set hp with hp | hp
      · exact .inl ((live_mem s y).2 ⟨h0, mem_tell.2 ⟨p, hp, hyp⟩⟩)
      · subst hp
        simp only at hyp
        rcases List.mem_or_eq_of_mem_set hyp with hyp | hyp
        · exact .inl ((live_mem s y).2 ⟨h0, mem_tell.2 ⟨_, List.mem_of_getElem? (tell_at hv), hyp⟩⟩)
        · rcases h45 with h4 | h5'
          · exact .inr ⟨h4, hyp, rfl⟩
          · have := h5 h5'; omega
    · by_cases h2 : r.kind = 2
      · obtain ⟨q, e, -, -, ha, hn⟩ := enter_vol he h2
        rw [e] at hy
        unfold allS at hy
        obtain ⟨v, hv, hyv⟩ := List.mem_flatMap.1 hy
        simp only at hyv hv
        refine .inl ((live_mem s y).2 ⟨h0, ?_⟩)
        rcases insV_mem hv with rfl | hv
        · simp only at hyv
          by_cases harg : 0 < r.arg
          · exact List.mem_flatMap.2 ⟨_, ha harg, hyv⟩
          · rw [hn harg, all_none] at hyv
            have := (List.mem_replicate.1 hyv).2
            omega
        · exact List.mem_flatMap.2 ⟨v, hv, hyv⟩
      · have h3 : r.kind = 3 := by omega
        refine .inl ((live_mem s y).2 ⟨h0, ?_⟩)
        have hbb := (stoB_iff s).2 hs
        rw [enterS, if_pos ⟨hbb, hr⟩, if_neg (by omega), if_neg (by omega)] at hy he
        cases ha : atV s.vols r.vol with
        | none => rw [ha] at he; cases he
        | some k =>
          rw [ha] at hy he
          simp only at hy he
          by_cases hc : r.chunk = 1000000000
          · rw [if_pos hc] at he; cases he
          · rw [if_neg hc, if_pos h3] at hy
            simp only at hy
            obtain ⟨p, hp, hyp⟩ := mem_tell.1 hy
            rw [dropE, swept_tell (drop_near hs.toNear k)] at hp
            obtain ⟨v, hv, e⟩ := List.mem_map.1 hp
            simp only at hv
            have hv2 : v ∈ s.vols := by
              rcases List.mem_append.1 hv with hv | hv
              · exact List.mem_of_mem_take hv
              · exact List.mem_of_mem_drop hv
            subst e
            exact List.mem_flatMap.2 ⟨v, hv2, hyp⟩
theorem tell_ids {s s' : Sto} {m : Int} (hs : ∀ v ∈ s.vols, v.1 ≤ m) (h : ∀ p ∈ tellS s', ∃ v ∈ s.vols, v.1 = p.1) : ∀ v ∈ s'.vols, v.1 ≤ m := by
  intro v hv
  obtain ⟨u, hu, e⟩ := h _ (vol_tell hv)
  have := hs u hu
  simp only at e
  omega
theorem tell_of {s : Sto} {p : Int × List Int} (h : p ∈ tellS s) : ∃ v ∈ s.vols, v.1 = p.1 := by
  obtain ⟨v, hv, e⟩ := List.mem_map.1 h
  exact ⟨v, hv, by rw [← e]⟩
/-- No volume gets a number above m but by a record that says so. -/
theorem enter_ids {s : Sto} {r : Rc} {m : Int} (hs : ∀ v ∈ s.vols, v.1 ≤ m) (hm : r.kind = 2 → r.vol ≤ m) : ∀ v ∈ (enterS s r).1.vols, v.1 ≤ m := by
  cases he : (enterS s r).2 with
  | false => rw [enter_no he]; exact hs
  | true =>
    obtain ⟨hsr, hr⟩ := enter_yes he
    have hr2 := hr
    unfold Rc.Right at hr2
    by_cases h45 : r.kind = 4 ∨ r.kind = 5
    · obtain ⟨k, v, hv, -, -, -, -, -, ht, -⟩ := enter_put he h45
      refine tell_ids hs (fun p hp => ?_)
      rw [ht] at hp
      rcases List.mem_or_eq_of_mem_set hp with hp | hp
      · exact tell_of hp
      · exact ⟨v, List.mem_of_getElem? hv, by rw [hp]⟩
    · by_cases h2 : r.kind = 2
      · obtain ⟨q, e, -⟩ := enter_vol he h2
        rw [e]
        intro v hv
        rcases insV_mem hv with rfl | hv
        · exact hm h2
        · exact hs v hv
      · by_cases h1 : r.kind = 1
        · rw [enter_base he h1]
          intro v hv
          cases hv
        · have h3 : r.kind = 3 := by omega
          have hbb := (stoB_iff s).2 hsr
          refine tell_ids hs (fun p hp => ?_)
          rw [enterS, if_pos ⟨hbb, hr⟩, if_neg h1, if_neg h2] at hp he
          cases ha : atV s.vols r.vol with
          | none => rw [ha] at he; cases he
          | some k =>
            rw [ha] at hp he
            simp only at hp he
            by_cases hc : r.chunk = 1000000000
            · rw [if_pos hc] at he; cases he
            · rw [if_neg hc, if_pos h3] at hp
              simp only at hp
              rw [dropE, swept_tell (drop_near hsr.toNear k)] at hp
              obtain ⟨v, hv, e⟩ := List.mem_map.1 hp
              simp only at hv
              have hv2 : v ∈ s.vols := by
                rcases List.mem_append.1 hv with hv | hv
                · exact List.mem_of_mem_take hv
                · exact List.mem_of_mem_drop hv
              exact ⟨v, hv2, by rw [← e]⟩
theorem next_enter {s : Sto} {r : Rc} (hk : r.kind ≠ 1) : s.next ≤ (enterS s r).1.next := by
  cases he : (enterS s r).2 with
  | false => rw [enter_no he]; exact Int.le_refl _
  | true =>
    obtain ⟨hs, hr⟩ := enter_yes he
    have hr2 := hr
    unfold Rc.Right at hr2
    by_cases h45 : r.kind = 4 ∨ r.kind = 5
    · exact (put_chunk he h45).2.2
    · by_cases h2 : r.kind = 2
      · obtain ⟨q, e, -⟩ := enter_vol he h2
        rw [e]
        exact Int.le_refl _
      · have hbb := (stoB_iff s).2 hs
        rw [enterS, if_pos ⟨hbb, hr⟩, if_neg (by omega), if_neg (by omega)] at he ⊢
        cases ha : atV s.vols r.vol with
        | none => simp only; exact Int.le_refl _
        | some k =>
          simp only
          split
          · exact Int.le_refl _
          · rw [if_pos (show r.kind = 3 by omega)]
            exact Int.le_refl _
/-- A put that is right is taken. -/
theorem put_taken {s : Sto} {r : Rc} (hs : s.Right) (hr : r.Right) (hk : r.kind = 4) (hv : (atV s.vols r.vol).isSome = true) (hc : r.chunk ≠ 1000000000) : (enterS s r).2 = true := by
  rw [enterS, if_pos ⟨(stoB_iff s).2 hs, hr⟩, if_neg (by omega), if_neg (by omega)]
  cases ha : atV s.vols r.vol with
  | none => rw [ha] at hv; cases hv
  | some k =>
    simp only
    rw [if_neg hc, if_neg (by omega)]

/-- The head of what counts: it is a base, or nothing is ahead of it. -/
def HeadOk (M : List Fnd) : Prop := match txsP M with
  | [] => ∀ x ∈ M, x.page.kind ≠ 2
  | t :: _ => t.base = true ∨ ∀ x ∈ M, x.page.kind = 2 → t.num ≤ x.page.tx
/-- A device that is good: it came up so, its chunks have their texts, no two of them the same, all of them texts of T, their numbers up to n. -/
structure Good (T : List UInt8 → Prop) (n : Nat) (d : Dv) : Prop where
  up : Up d
  st : d.store.Right
  hd : HeadOk (scanF d.flash)
  lv : ∀ c ∈ liveS d.store, ∃ x ∈ scanF d.flash, isData c x = true
  tx : ∀ x ∈ scanF d.flash, x.page.kind = 1 → ∃ t, unpackL x.page.text.data.toList = some t ∧ T t
  df : ∀ c ∈ liveS d.store, ∀ c' ∈ liveS d.store, textP (scanF d.flash) c = textP (scanF d.flash) c' → c = c'
  dn : ∀ x ∈ scanF d.flash, x.page.kind = 1 → x.page.tx < d.store.next
  nx : d.store.next ≤ (n : Int) + 1
  vi : ∀ v ∈ d.store.vols, v.1 ≤ 3
theorem Good.has {T : List UInt8 → Prop} {n : Nat} {d : Dv} (h : Good T n d) {c : Int} (hc : c ∈ liveS d.store) : ∃ x t, newP (scanF d.flash) c = some x ∧ textP (scanF d.flash) c = some t ∧ T t := by
  obtain ⟨x, hx, hd⟩ := h.lv c hc
  cases hn : newP (scanF d.flash) c with
  | none => have := newP_none.1 hn x hx; rw [hd] at this; cases this
  | some y =>
    obtain ⟨hy, hyd⟩ := newP_mem hn
    obtain ⟨t, h1, h2⟩ := h.tx y hy (by unfold isData at hyd; simp at hyd; exact hyd.1)
    exact ⟨y, t, rfl, by unfold textP; rw [hn]; exact h1, h2⟩
theorem Good.sub {T T' : List UInt8 → Prop} {n m : Nat} {d : Dv} (h : Good T n d) (ht : ∀ t, T t → T' t) (hm : n ≤ m) : Good T' m d :=
  ⟨h.up, h.st, h.hd, h.lv, fun x hx hk => by obtain ⟨t, h1, h2⟩ := h.tx x hx hk; exact ⟨t, h1, ht t h2⟩, h.df, h.dn, (by have := h.nx; omega), h.vi⟩
theorem tx_since {M : List Fnd} {t : TxR} (h : t ∈ txsP M) : ∃ x ∈ M, x.page.kind = 2 ∧ x.page.tx = t.num := by
  unfold txsP at h
  obtain ⟨A, hA⟩ := since_suffix (gatherP (M.map Fnd.page))
  obtain ⟨p, hp, hk, e⟩ := gather_in (ps := M.map Fnd.page) (t := t) (by rw [hA]; exact List.mem_append_right _ h)
  obtain ⟨x, hx, rfl⟩ := List.mem_map.1 hp
  exact ⟨x, hx, hk, e⟩
theorem data_kind {c : Int} {x : Fnd} (h : isData c x = true) : x.page.kind = 1 ∧ x.page.tx = c := by
  unfold isData at h
  simpa using h
/-- Pages of transactions tell no chunk. -/
theorem newP_meta {ms : List Fnd} {c : Int} (h : ∀ x ∈ ms, x.page.kind = 2) : newP ms c = none := by
  rw [newP_none]
  intro x hx
  have := h x hx
  unfold isData
  simp [this]
theorem textP_of {M : List Fnd} {c : Int} {x : Fnd} (h : newP M c = some x) : textP M c = unpackL x.page.text.data.toList := by unfold textP; rw [h]; rfl
end Go.Proofs.YtiicghepilbgfaaGreatDoor
