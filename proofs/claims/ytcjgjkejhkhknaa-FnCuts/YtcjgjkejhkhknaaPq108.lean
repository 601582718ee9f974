/-
  CutMath; ReadM; IRead
-/
import Derived.Test.YtcjgjkejhkhknaaPq80
import Derived.Test.YtcjgjkejhkhknaaPq6
import Derived.Test.YtcjgjkejhkhknaaPq83
import Derived.Test.YtcjgjkejhkhknaaPq81
/-
  FnCuts in plain words: what a torn step leaves is not read, and the block can be wiped.
-/
namespace Go.Proofs.Ytcjgjkejhkhknaa

theorem cut_false {bs : List Bk} {l : List Stp} {whole : Int} {torn : Bool} (h : (cutF bs l whole torn).2 = false) : (cutF bs l whole torn).1 = bs := by
  unfold cutF at *
  split
  · rename_i h1
    rw [if_pos h1] at h
    split
    · rename_i h2
      rw [if_pos h2] at h
      split
      · rename_i s hs
        rw [hs] at h
        simp only at h
        split
        · rename_i h3
          rw [if_pos h3] at h
          cases h
        · rfl
      · rename_i x y hx
        exfalso
        revert h
        split
        · rename_i s hs
          exact absurd hs (fun e => hx s rfl e)
        · intro h
          cases h
    · rfl
  · rfl
/-- What is cut and true: the first steps are done; then perhaps one is torn. -/
theorem cut_true {bs : List Bk} {l : List Stp} {whole : Int} {torn : Bool} (h : (cutF bs l whole torn).2 = true) :
    ∃ (k : Nat) (cs : List Bk), whole = k ∧ k ≤ l.length ∧ doAll bs (l.take k) = (cs, k) ∧ ((torn = false ∨ k = l.length) → cutF bs l whole torn = (cs, true)) ∧ (∀ s, torn = true → l[k]? = some s → (doF cs s).2 = true ∧ cutF bs l whole torn = (tornF cs s, true)) := by
  by_cases h1 : 0 ≤ whole ∧ whole ≤ l.length
  · obtain ⟨k, rfl⟩ : ∃ k : Nat, whole = k := ⟨whole.toNat, by omega⟩
    obtain ⟨cs, n, hd⟩ : ∃ cs n, doAll bs (l.take k) = (cs, n) := ⟨_, _, rfl⟩
    by_cases hn : n = k
    · subst hn
      refine ⟨n, cs, rfl, by omega, hd, fun ht => cut_whole hd (by omega) ht, fun s ht hs => ?_⟩
      subst ht
      have e := cut_torn hd hs
      rw [e] at h
      by_cases h3 : (tormF cs s).2 = true
      · rw [if_pos h3] at e
        unfold tormF at h3 e
        by_cases h4 : (doF cs s).2 = true
        · rw [if_pos h4] at e
          exact ⟨h4, e⟩
        · rw [if_neg h4] at h3
          cases h3
      · rw [if_neg h3] at h
        cases h
    · rw [cut_less hd hn] at h
      cases h
  · rw [cut_out h1] at h
    cases h
theorem torn_do {cs : List Bk} {s : Stp} (h : (doF cs s).2 = true) : tormF cs s = (tornF cs s, true) := by
  unfold tormF
  rw [if_pos h]
/-- In a right block nothing stands behind a blank leaf. -/
theorem blank_behind {b : Bk} (h : blkOk b = true) {j i : Nat} {t : Int × ByteArray} (hj : j = nextB b.2.2) (hi : j < i) (ht : b.2.2[i]? = some t) (h4 : j < 4) : t.1 = 0 := by
  simp only [blkOk, Bool.and_eq_true, decide_eq_true_eq, List.all_eq_true, List.mem_range] at h
  obtain ⟨⟨hl, -⟩, h⟩ := h
  have hfind : b.2.2.findIdx (fun t => t.1 == 0) = j := by
    unfold nextB at hj
    split at hj
    · exact hj.symm
    · omega
  have hjl : j < b.2.2.length := by omega
  have hbj : (b.2.2[j].1 == 0) = true := by
    have := List.findIdx_getElem (xs := b.2.2) (p := fun t => t.1 == 0) (w := by rw [hfind]; exact hjl)
    simp only [hfind] at this
    exact this
  have step : ∀ d, ∀ u, b.2.2[j + d]? = some u → u.1 = 0 := by
    intro d
    induction d with
    | zero =>
      intro u hu
      rw [Nat.add_zero, List.getElem?_eq_getElem hjl] at hu
      cases hu
      simpa using hbj
    | succ d ih =>
      intro u hu
      have hlt := (List.getElem?_eq_some_iff.1 hu).1
      have hla := h (j + (d + 1)) hlt
      unfold leafAt at hla
      rw [hu] at hla
      simp only [Bool.and_eq_true, Bool.not_eq_true', decide_eq_false_iff_not] at hla
      obtain ⟨q, hq⟩ : ∃ q, b.2.2[j + d]? = some q := ⟨_, List.getElem?_eq_getElem (by omega)⟩
      by_cases hz : u.1 = 0
      · exact hz
      · exfalso
        exact hla.2 ⟨by omega, hz, q, by rw [show j + (d + 1) - 1 = j + d by omega]; exact hq, ih q hq⟩
  have := step (i - j) t (by rw [show j + (i - j) = i by omega]; exact ht)
  exact this
theorem flOk_blk {bs : List Bk} {k : Nat} {r : Bk} (h : flOk bs = true) (hr : bs[k]? = some r) : blkOk r = true := by
  simp only [flOk, Bool.and_eq_true, List.all_eq_true] at h
  exact h.2 r (List.mem_of_getElem? hr)
/-- A torn program: the leaf is not read, and the next one comes behind it. -/
theorem torn_prog {cs : List Bk} {b lf : Int} {t : ByteArray} (h : (doF cs (1, b, lf, t)).2 = true) :
    ∃ (k j : Nat) (r : Bk), b = k ∧ lf = j ∧ (tornF cs (1, b, lf, t))[k]? = some r ∧ j < 4 ∧ (readF (tornF cs (1, b, lf, t)) b lf).2 = false ∧ nextB r.2.2 = j + 1 ∧ r.2.2.length = 4 := by
  obtain ⟨k, r, h1, h2, h3, -, h5, hf, -⟩ := do_place h
  obtain ⟨j, h6, h7, h8, -, -⟩ := h5 rfl
  simp only at h1 h6
  subst h1 h6
  have ht : (tornF cs (1, (k : Int), (j : Int), t))[k]? = some (r.1, r.2.1, r.2.2.set j (2, halfT t)) := by
    simp [tornF, h2]
  have hjl : j < r.2.2.length := by omega
  refine ⟨k, j, _, rfl, rfl, ht, h7, ?_, ?_, by simp [h3]⟩
  · unfold readF
    rw [Int.toNat_natCast, ht]
    simp only [Int.toNat_natCast, List.getElem?_set_self hjl]
    simp
  · have hb := flOk_blk hf h2
    simp only
    by_cases hj3 : j = 3
    · subst hj3
      refine (nextB_none (fun i u hu => ?_))
      by_cases e : i = 3
      · subst e
        rw [List.getElem?_set_self hjl] at hu
        cases hu
        simp
      · rw [List.getElem?_set_ne (fun q => e q.symm)] at hu
        have hlt := (List.getElem?_eq_some_iff.1 hu).1
        have hfi : r.2.2.findIdx (fun t => t.1 == 0) = 3 := by
          unfold nextB at h8
          split at h8
          · exact h8.symm
          · omega
        obtain ⟨hl, rfl⟩ := List.getElem?_eq_some_iff.1 hu
        have := List.not_of_lt_findIdx (p := fun t => t.1 == 0) (xs := r.2.2) (i := i) (by rw [hfi]; omega)
        simpa using this
    · obtain ⟨q, hq⟩ : ∃ q, r.2.2[j + 1]? = some q := ⟨_, List.getElem?_eq_getElem (by omega)⟩
      refine nextB_at (t := q) (by rw [List.getElem?_set_ne (by omega)]; exact hq) (blank_behind hb h8 (by omega) hq h7) (fun i u hi hu => ?_)
      by_cases e : i = j
      · subst e
        rw [List.getElem?_set_self hjl] at hu
        cases hu
        simp
      · rw [List.getElem?_set_ne (fun q => e q.symm)] at hu
        have hfi : r.2.2.findIdx (fun t => t.1 == 0) = j := by
          unfold nextB at h8
          split at h8
          · exact h8.symm
          · omega
        obtain ⟨hl, rfl⟩ := List.getElem?_eq_some_iff.1 hu
        have := List.not_of_lt_findIdx (p := fun t => t.1 == 0) (xs := r.2.2) (i := i) (by rw [hfi]; omega)
        simpa using this
/-- A torn wipe: all leaves are torn, and the block can be wiped. -/
theorem torn_wipe {cs : List Bk} {k0 b lf : Int} {t : ByteArray} (hk : k0 ≠ 1) (h : (doF cs (k0, b, lf, t)).2 = true) :
    ∃ (k : Nat) (r : Bk), b = k ∧ (tornF cs (k0, b, lf, t))[k]? = some r ∧ (wipeF (tornF cs (k0, b, lf, t)) b).2 = true ∧ nextB r.2.2 = 4 ∧ r.2.2.length = 4 := by
  obtain ⟨k, r, h1, h2, h3, h4, -, hf, hbad⟩ := do_place h
  simp only at h1 h4
  subst h1
  have hk2 : k0 = 2 := h4.resolve_left hk
  have hw : (wipeF cs (k : Int)).2 = true := by
    unfold doF at h
    rw [if_neg (by simpa using hk), if_pos (by simpa using hk2)] at h
    exact h
  have hm : mayW cs (k : Int) = true := by
    unfold wipeF at hw
    split at hw
    · rename_i h5
      rw [Bool.and_eq_true] at h5
      exact h5.2
    · cases hw
  have hwear : r.2.1 ≠ 1000000000 := by
    unfold mayW at hm
    rw [Int.toNat_natCast, h2] at hm
    exact (of_decide_eq_true hm).2.2
  have ht : (tornF cs (k0, (k : Int), lf, t))[k]? = some (r.1, r.2.1, List.replicate r.2.2.length (2, ⟨#[]⟩)) := by
    simp [tornF, if_neg hk, h2]
  have hb := flOk_blk hf h2
  have hb2 : blkOk (r.1, r.2.1, List.replicate r.2.2.length (2, ⟨#[]⟩)) = true := by
    simp only [blkOk, Bool.and_eq_true, decide_eq_true_eq] at hb
    refine blkOk_yes (by simp [h3]) hb.1.2 (fun i hi => ?_)
    simp only [List.length_replicate] at hi
    have e : ∀ i, i < r.2.2.length → (List.replicate r.2.2.length ((2 : Int), (⟨#[]⟩ : ByteArray)))[i]? = some (2, ⟨#[]⟩) := fun i hi => by simp [hi]
    have hok : leafOk ((2 : Int), (⟨#[]⟩ : ByteArray)) = true := by
      unfold leafOk
      exact decide_eq_true (Or.inr (Or.inr ⟨rfl, Nat.zero_le _⟩))
    cases i with
    | zero => exact leafAt_zero (e 0 hi) hok
    | succ i => exact leafAt_yes (e _ hi) (e i (by omega)) hok (Or.inl (by simp))
  have hfl : flOk (tornF cs (k0, (k : Int), lf, t)) = true := by
    simp only [flOk, Bool.and_eq_true, List.all_eq_true, decide_eq_true_eq] at hf ⊢
    refine ⟨by simp only [tornF, if_neg hk, List.length_modify]; exact hf.1, fun x hx => ?_⟩
    obtain ⟨i, hx2⟩ := List.getElem?_of_mem hx
    by_cases e : k = i
    · subst e
      rw [ht] at hx2
      injection hx2 with hx2
      rw [← hx2]
      exact hb2
    · have h9 : (tornF cs (k0, (k : Int), lf, t))[i]? = cs[i]? := by
        simp only [tornF, if_neg hk, Int.toNat_natCast, List.getElem?_modify, if_neg e]
        simp
      rw [h9] at hx2
      exact hf.2 _ (List.mem_of_getElem? hx2)
  refine ⟨k, _, rfl, ht, ?_, ?_, by simp [h3]⟩
  · unfold wipeF
    rw [hfl]
    have : mayW (tornF cs (k0, (k : Int), lf, t)) (k : Int) = true := by
      unfold mayW
      rw [Int.toNat_natCast, ht]
      exact decide_eq_true ⟨by omega, hbad, hwear⟩
    rw [this]
    rfl
  · refine nextB_none (fun i u hu => ?_)
    rw [List.getElem?_replicate] at hu
    split at hu
    · cases hu
      simp
    · cases hu
end Go.Proofs.Ytcjgjkejhkhknaa

/-
  What is read of a flash.
-/
namespace Go.Proofs.Ytcjgjkejhkhknaa

theorem read_out {bs : List Bk} {b leaf : Int} (h : ¬ (0 ≤ b ∧ b ≤ (bs.length : Int) - 1)) : readF bs b leaf = (⟨#[]⟩, false) := by
  unfold readF
  cases hb : bs[b.toNat]? with
  | none => rfl
  | some r =>
    have := (List.getElem?_eq_some_iff.1 hb).1
    simp only
    cases hl : r.2.2[leaf.toNat]? with
    | none => rfl
    | some t => exact if_neg (fun hh => h ⟨hh.1, by omega⟩)
theorem read_leaf_out {bs : List Bk} {k : Nat} {r : Bk} {leaf : Int} (hr : bs[k]? = some r) (h : ¬ (0 ≤ leaf ∧ leaf ≤ (r.2.2.length : Int) - 1)) : readF bs (k : Int) leaf = (⟨#[]⟩, false) := by
  unfold readF
  rw [Int.toNat_natCast, hr]
  simp only
  cases hl : r.2.2[leaf.toNat]? with
  | none => rfl
  | some t =>
    have := (List.getElem?_eq_some_iff.1 hl).1
    exact if_neg (fun hh => h ⟨hh.2.1, by omega⟩)
theorem read_in {bs : List Bk} {k j : Nat} {r : Bk} {t : Int × ByteArray} (hr : bs[k]? = some r) (ht : r.2.2[j]? = some t) : (t.1 = 1 → readF bs (k : Int) (j : Int) = (t.2, true)) ∧ (t.1 ≠ 1 → readF bs (k : Int) (j : Int) = (⟨#[]⟩, false)) := by
  unfold readF
  rw [Int.toNat_natCast, hr]
  simp only
  rw [Int.toNat_natCast, ht]
  exact ⟨fun h => if_pos ⟨by omega, by omega, h⟩, fun h => if_neg (fun hh => h hh.2.2)⟩
end Go.Proofs.Ytcjgjkejhkhknaa

/-
  impl.ReadLeaf.
-/
namespace Go.Proofs.Ytcjgjkejhkhknaa
open Go.RowKit

set_option maxHeartbeats 400000 in
set_option maxRecDepth 100000 in
theorem iread_rd (v : Value) (rs : List Rw) (b leaf : Int) (w : World) (hl : rs.length ≤ 1048576) (hll : ∀ r ∈ rs, r.2.2.2.length ≤ 1048576) (htx : TxB rs) (ha : FlashRd w v rs) :
    Calls Try.prog 24 #[.agg #[v], .int .i64 b, .int .i64 leaf] w fun e w' => e = .returned (.tuple #[.string (readF (rs.map tellOf) b leaf).1, .bool (readF (rs.map tellOf) b leaf).2]) ∧ Below w.heap.size w w' := by
  have h1 := ha
  obtain ⟨vd, vcap, rfl, -⟩ := h1
  have HLL := hide hll
  have HTX := hide htx
  have HB0 := hide ((Below.refl w.heap.size w).alloc (Nat.le_refl _) (.cells #[.slice vd rs.length vcap] 28))
  have HA := hide (ha.below HB0.out)
  clear ha hll htx
  go_enter Try.func24, Try.ntmps24
  go_wp2_with fail
  generalize w.alloc (.cells #[.slice vd rs.length vcap] 28) = w2 at HB0 HA ⊢
  by_cases hb : 0 ≤ b ∧ b ≤ (rs.length : Int) - 1
  · obtain ⟨k, rfl⟩ : ∃ k : Nat, b = k := ⟨b.toNat, by omega⟩
    have hkl : k < rs.length := by omega
    have hr : rs[k]? = some rs[k] := List.getElem?_eq_getElem hkl
    generalize rs[k] = r at hr
    obtain ⟨g, eg, -, -⟩ := HA.out.at hr
    subst eg
    refine (iat_in g rs.length vcap k _ hl hkl).mono ?_
    rintro e w3 ⟨rfl, b3⟩
    have HA3 := hide (HA.out.below b3)
    have HB3 := hide (HB0.out.trans (b3.mono HB0.out.size))
    have hmem := List.mem_of_getElem? hr
    have hrl := HLL.out r hmem
    have htx := HTX.out r hmem
    obtain ⟨g', eg, ⟨-, -, c3⟩, hlf⟩ := HA3.out.at hr
    injection eg with eg
    injection eg with eg
    subst eg
    have HBR : Hid ((rs.map tellOf)[k]? = some (tellOf r)) := by show _ = _; rw [List.getElem?_map, hr]; rfl
    obtain ⟨x, y, u, ls⟩ := r
    simp only at c3
    simp only at hlf hrl htx
    obtain ⟨ld, capl, rfl, -, l3⟩ := hlf
    have L3 := hide l3
    have HTX2 := hide htx
    clear hr hmem l3 hb b3 htx
    by_cases hf : 0 ≤ leaf ∧ leaf ≤ (ls.length : Int) - 1
    · obtain ⟨j, rfl⟩ : ∃ j : Nat, leaf = j := ⟨leaf.toNat, by omega⟩
      have hjl : j < ls.length := by omega
      obtain ⟨z, t, ht⟩ : ∃ z t, ls[j]? = some (z, t) := ⟨ls[j].1, ls[j].2, List.getElem?_eq_getElem hjl⟩
      obtain ⟨gl, lo, el, d1, d2⟩ := L3.out j (z, t) ht
      subst el
      simp only at d1 d2
      have hts := HTX2.out _ (List.mem_of_getElem? ht)
      simp only at hts
      have RI := hide (read_in (t := (z, t)) HBR.out ht)
      clear ht hf
      go_wp2_with fail
      refine (ilat_off g (k * 3) gl lo ls.length capl j _ hrl hjl c3).mono ?_
      rintro e w4 ⟨rfl, rfl⟩
      by_cases hz : z = 1
      · have HP : Hid (readF (rs.map tellOf) (k : Int) (j : Int) = (t, true)) := RI.out.1 hz
        have e1 : (z != 1) = false := by simp [hz]
        clear hz
        go_wp2_with fail
        refine (fclone_any t _ hts).mono ?_
        rintro e w5 ⟨rfl, b5⟩
        have HB5 := hide (HB3.out.trans (b5.mono HB3.out.size))
        clear b5
        go_wp2
        go_ret2
        exact ⟨by rw [HP.out]; rfl, HB5.out⟩
      · have HP : Hid (readF (rs.map tellOf) (k : Int) (j : Int) = (⟨#[]⟩, false)) := RI.out.2 hz
        have e1 : (z != 1) = true := by simp [hz]
        clear hz
        go_wp2
        go_ret2
        exact ⟨by rw [HP.out]; rfl, HB3.out⟩
    · have HP : Hid (readF (rs.map tellOf) (k : Int) leaf = (⟨#[]⟩, false)) := read_leaf_out HBR.out hf
      go_wp2_with fail
      refine (ilat_out g (k * 3) ls.length capl ld leaf _ hrl hf c3).mono ?_
      rintro e w4 ⟨rfl, rfl⟩
      clear hf
      go_wp2
      go_ret2
      exact ⟨by rw [HP.out]; rfl, HB3.out⟩
  · have HP : Hid (readF (rs.map tellOf) b leaf = (⟨#[]⟩, false)) := read_out (by rw [List.length_map]; exact hb)
    refine (iat_out vd rs.length vcap b _ hl hb).mono ?_
    rintro e w3 ⟨rfl, b3⟩
    have HB3 := hide (HB0.out.trans (b3.mono HB0.out.size))
    clear hb b3
    go_wp2
    go_ret2
    exact ⟨by rw [HP.out]; rfl, HB3.out⟩
theorem iread_any (v : Value) (rs : List Rw) (lo hi : Nat) (b leaf : Int) (w : World) (hl : rs.length ≤ 1048576) (hll : ∀ r ∈ rs, r.2.2.2.length ≤ 1048576) (htx : TxB rs) (_hh : hi ≤ w.heap.size) (ha : FlashIn w lo hi v rs) :
    Calls Try.prog 24 #[.agg #[v], .int .i64 b, .int .i64 leaf] w fun e w' => e = .returned (.tuple #[.string (readF (rs.map tellOf) b leaf).1, .bool (readF (rs.map tellOf) b leaf).2]) ∧ Below w.heap.size w w' := iread_rd v rs b leaf w hl hll htx ha.rd
end Go.Proofs.Ytcjgjkejhkhknaa
