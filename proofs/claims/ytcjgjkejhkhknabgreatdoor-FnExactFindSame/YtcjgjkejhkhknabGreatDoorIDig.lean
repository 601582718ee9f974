/-
  IDig
-/
import Derived.Test.YtcjgjkejhkhknabGreatDoorPk16
import Derived.Test.YtcjgjkejhkhknabGreatDoorPk38
import Derived.Test.YtcjgjkejhkhknabGreatDoorPk40
import Derived.Test.YtcjgjkejhkhknabGreatDoorPk45
import Derived.Test.YtcjgjkejhkhknabGreatDoorPk0
import Derived.Test.YtcjgjkejhkhknabGreatDoorPk48
import Derived.Maps.AppendAt
set_option maxHeartbeats 2000000
set_option maxRecDepth 100000
namespace Go.Proofs.YtcjgjkejhkhknabGreatDoor
open Go.RowKit
open Words Sums Pack
theorem kc_one (c : Int) (s : ByteArray) : ∀ u ∈ [Value.int .i64 c, Value.string s], u.oneCell' = true := by
 intro u hu
 simp at hu
 rcases hu with h | h <;> subst h <;> rfl
theorem kc_new (w : World) (c : Int) (s : ByteArray) (t : TypeId) : ∀ (j : Nat) (u : Value), [Value.int .i64 c, Value.string s][j]? = some u → (w.alloc (.cells #[.int .i64 c, .string s] t)).cell? ((⟨w.heap.size, 0, none⟩ : Addr).add j) = some u := fun j u h => cells_new w ([Value.int .i64 c, Value.string s] : List Value).toArray t w.heap.size rfl j u (by simpa using h)
theorem get_len {G : Dg} {kept : List (Int × List UInt8)} {dg : List UInt8 → List UInt8} (h : DK dg G kept) (d : List UInt8) : (G.get d).2.length ≤ kept.length := by
 rw [h d]
 exact List.length_filter_le _ _
def AddCO (lo : Nat) (w : World) (B : Nat) (kept : List (Int × List UInt8)) (e : Ending) (w' : World) : Prop := e = .returned (.tuple #[]) ∧ ∃ G', DM lo w' B G' ∧ DK digL G' kept ∧ Below lo w w'
theorem iaddC (lo B BN : Nat) (M : List Fnd) (G : Dg) (kept : List (Int × List UInt8)) (c : Int) (w : World) (ht : ∀ x ∈ M, x.page.text.size ≤ 1048576) (hk : kept.length ≤ 16777216) (hlo : lo ≤ w.heap.size) (hG : DM lo w B G) (hD : DK digL G kept) (hN : NM w BN M) (hS : StepIn w) :
 Calls Tryz.prog 23 #[.map (some B), .int .i64 c, .map (some BN)] w (AddCO lo w B (kept ++ ((textP M c).map fun t => (c, t)).toList)) := by
 have C := hide (itextOf BN M c w ht hN)
 have HG := hide hG
 have HD := hide hD
 have HS := hide hS
 have HLO := hide hlo
 clear hN hG hD hS ht hlo
 cases hx : textP M c with
 | none =>
  rw [hx, plainV_none] at C
  clear hx
  go_enter Tryz.func23, Tryz.ntmps23
  go_wp2_with fail
  refine C.out.mono ?_
  rintro e w1 ⟨rfl, b1⟩
  have G1 := hide (HG.out.below b1)
  have B1 := hide (b1.mono HLO.out)
  clear b1 C HG
  go_wp2
  refine bodyPost_ret (results_none rfl _ _ _) rfl ?_
  exact ⟨rfl, G, G1.out, by simpa using HD.out, B1.out⟩
 | some o =>
  obtain ⟨i0, hi0, hz0, hz1, hz2⟩ := info_parts infoKc
  have hol := text_len hx
  rw [hx, plainV_some] at C
  have CD := hide (fun W h => implDig_any (BA o) W (by rw [BA_size]; omega) h)
  rw [BA_list] at CD
  clear hx
  obtain ⟨d, hd⟩ : ∃ d, digL o = d := ⟨_, rfl⟩
  rw [hd] at CD
  have HDD := hide hd
  have hgl := get_len HD.out d
  clear hd
  go_enter Tryz.func23, Tryz.ntmps23
  go_wp2_with fail
  refine C.out.mono ?_
  rintro e w1 ⟨rfl, b1⟩
  have G1 := hide (HG.out.below b1)
  have S1 := hide (HS.out.on b1)
  have B1 := hide (b1.mono HLO.out)
  have hs1 := b1.size
  clear b1 C HG HS
  go_wp2_with fail
  refine (CD.out _ S1.out).mono ?_
  rintro e w2 ⟨rfl, b2⟩
  have G2 := hide (G1.out.below b2)
  have hs2 := b2.size
  have HL2 : Hid (lo ≤ w2.heap.size) := by have := HLO.out; show _ ≤ _; omega
  have B2 := hide (B1.out.trans (b2.mono (by have := HLO.out; omega)))
  have hlk := G2.out.look d
  have G3 := hide (G2.out.below ((Below.refl _ _).alloc (Nat.le_refl _) (.cells #[.int .i64 c, .string (BA o)] 102)))
  have O3 := hide (G3.out.own d)
  have N3 := hide (kc_new w2 c (BA o) 102)
  have B3 := hide (B2.out.trans (((Below.refl w2.heap.size w2).alloc (Nat.le_refl _) (.cells #[.int .i64 c, .string (BA o)] 102)).mono HL2.out))
  clear b2 CD G1 S1 B1 G2 B2
  go_wp2_with (at_builtin; refine wpList_append_own_at _ rfl _ _ 100 rfl lo 102 i0 (.agg #[.int .i64 0, .string ⟨#[]⟩]) 2 24 Tryz.underlying100 hi0 hz0 hz1 hz2 rfl (by decide) _ (G.get d).2.length (kccells (G.get d).2) rfl O3.out ⟨w2.heap.size, 0, none⟩ 1 1 [.int .i64 c, .string (BA o)] rfl rfl N3.out (kc_one _ _) ?g1 ?g2 ?g3 ?_)
  case g1 => unfold maxLen; omega
  case g2 => omega
  case g3 => have := HL2.out; simp; omega
  intro v' w4 hown hgrow hnil hloc
  have hl1 : (G.get d).2.length + 1 = ((G.get d).2 ++ [(c, o)]).length := by simp
  have hc1 := kccells_snoc (G.get d).2 (c, o)
  simp only at hc1
  rw [hl1, hc1] at hown
  have hB4 := B3.out.grown hgrow (Nat.le_trans HLO.out B3.out.size) (fun q hq => (O3.out.lt q hq).1)
  obtain ⟨w5, e5, g5, g6⟩ := G3.out.put d hgrow hown (hloc.imp id (fun h => ⟨_, h, by simp⟩))
  have HG5 := hide g5
  have HB5 := hide (hB4.grown g6 (Nat.le_trans HLO.out hB4.size) (fun q hq => by cases hq; exact g5.1))
  clear hown hgrow hnil hloc hl1 hc1 hB4 g5 g6 O3 N3 B3 G3
  go_wp2
  go_end0
  refine ⟨rfl, _, HG5.out, ?_, HB5.out⟩
  have := HD.out.put (c, o) v'
  simp only at this
  rw [HDD.out] at this
  exact this
theorem kc_own_at {W : World} {lo : Nat} {ad : Option Addr} {n cap k : Nat} {L : List (Int × List UInt8)} {p : Int × List UInt8} (h : W.ownsRow lo 102 2 (.slice ad n cap) L.length (kccells L)) (hk : L[k]? = some p) :
 ∃ g, ad = some ⟨g, 0, none⟩ ∧ W.cell? ⟨g, k * 2, none⟩ = some (.int .i64 p.1) ∧ W.cell? ⟨g, k * 2 + 1, none⟩ = some (.string (BA p.2)) := by
 have hl := (List.getElem?_eq_some_iff.1 hk).1
 have h2 := h.2
 rcases h2 with ⟨e, h0⟩ | ⟨g, cap', cur, e, -⟩
 ·omega
 ·injection e with e1 e2 e3
  subst e1
  obtain ⟨h1, h2⟩ := kccells_at L k p hk
  have q1 := h.cells (g := g) rfl (k * 2) _ h1
  have q2 := h.cells (g := g) rfl (k * 2 + 1) _ h2
  rw [addr_at] at q1 q2
  exact ⟨g, rfl, q1, q2⟩
theorem kc_form {W : World} {lo : Nat} {v : Value} {L : List (Int × List UInt8)} (h : W.ownsRow lo 102 2 v L.length (kccells L)) : ∃ ad cap, v = .slice ad L.length cap := by
 rcases h.2 with ⟨rfl, h0⟩ | ⟨g, cap', cur, rfl, -⟩
 ·exact ⟨none, 0, by rw [h0]⟩
 ·exact ⟨_, _, rfl⟩
theorem ifirst (lo B : Nat) (G : Dg) (kept : List (Int × List UInt8)) (t : ByteArray) (w : World) (ht : t.size ≤ 1048576) (hk : kept.length ≤ 16777216) (hG : DM lo w B G) (hD : DK digL G kept) (hS : StepIn w) :
 Calls Tryz.prog 24 #[.map (some B), .string t] w fun e w' => e = .returned (.int .i64 (firstN kept t.data.toList)) ∧ Below w.heap.size w w' := by
 have CD := hide (fun W h => implDig_any t W ht h)
 have HG := hide hG
 have HS := hide hS
 have hgl := get_len hD (digL t.data.toList)
 have HF : Hid (firstN kept t.data.toList = firstN (G.get (digL t.data.toList)).2 t.data.toList) := by show _ = _; rw [hD, firstN_filter]
 clear hG hD hS
 go_enter Tryz.func24, Tryz.ntmps24
 go_wp2_with fail
 refine (CD.out _ HS.out).mono ?_
 rintro e w1 ⟨rfl, b1⟩
 have hlk := (HG.out.below b1).look (digL t.data.toList)
 have hown := (HG.out.below b1).own (digL t.data.toList)
 have B1 := hide b1
 clear b1 CD HG HS
 obtain ⟨L, hL⟩ : ∃ L, (G.get (digL t.data.toList)).2 = L := ⟨_, rfl⟩
 rw [hL] at hown HF hgl
 obtain ⟨ad, cap, hv⟩ := kc_form hown
 rw [hv] at hlk hown
 have HO := hide hown
 obtain ⟨n, hn⟩ : ∃ n, L.length = n := ⟨_, rfl⟩
 have HN := hide hn
 rw [hn] at hlk hgl
 clear hown hL hv hn
 go_wp2
 go_loopw [12] (fun iv wr => ∃ k : Nat, iv = .int .i64 k ∧ k ≤ n ∧ Hid (firstN L t.data.toList = firstN (L.drop k) t.data.toList) ∧ Hid (Below w1.heap.size w1 wr)) (fun iv _ => n - (intOf iv).toNat)
 case atStart => exact ⟨0, rfl, Nat.zero_le _, rfl, Below.refl _ _⟩
 case round =>
  rename World => wr
  obtain ⟨k, rfl, hkn, HS, B2⟩ := hrel
  have hk0 : (0 : Int) ≤ k := by omega
  by_cases hlt : (k : Int) < n
  ·obtain ⟨p, hp⟩ : ∃ p, L[k]? = some p := ⟨_, List.getElem?_eq_getElem (by have := HN.out; omega)⟩
   obtain ⟨g, rfl, c0, c1⟩ := kc_own_at (own_below HO.out B2.out) hp
   have HD := hide (firstN_drop t.data.toList hp)
   obtain ⟨pc, po⟩ := p
   simp only at c0 c1 HD
   have ba : Below wr.heap.size wr (wr.alloc (.cells #[.int .i64 pc, .string (BA po)] 102)) := (Below.refl _ _).alloc (Nat.le_refl _) _
   have B3 := hide (B2.out.trans (ba.mono B2.out.size))
   have y0 : (wr.alloc (.cells #[.int .i64 pc, .string (BA po)] 102)).cell? ⟨wr.heap.size, 0, none⟩ = some (.int .i64 pc) := cell_of_row _ _ 0 _ _ _ (heap_alloc_new wr (.cells #[.int .i64 pc, .string (BA po)] 102))
   have y1 : (wr.alloc (.cells #[.int .i64 pc, .string (BA po)] 102)).cell? ⟨wr.heap.size, 1, none⟩ = some (.string (BA po)) := cell_of_row _ _ 1 _ _ _ (heap_alloc_new wr (.cells #[.int .i64 pc, .string (BA po)] 102))
   clear hp ba
   by_cases ho : po = t.data.toList
   ·have he := text_same ho
    have NS : Hid (firstN kept t.data.toList = pc) := by show _ = _; rw [HF.out, HS.out, HD.out, if_pos ho]
    have BF := hide (B1.out.trans (B3.out.mono B1.out.size))
    clear ho HD HS
    go_wp2
    go_ret
    rw [NS.out]
    exact ⟨rfl, BF.out⟩
   ·have he := text_other ho
    have NS : Hid (firstN L t.data.toList = firstN (L.drop (k + 1)) t.data.toList) := by show _ = _; rw [HS.out, HD.out, if_neg ho]
    clear ho HD HS
    go_wp2
    go_roundw
    case rel => exact ⟨k + 1, by go_num, by omega, NS, B3⟩
    case measure => simp [intOf]; omega
  ·have NS : Hid (firstN kept t.data.toList = 0) := by show _ = _; rw [HF.out, HS.out, List.drop_eq_nil_of_le (by have := HN.out; omega)]; rfl
   have BF := hide (B1.out.trans (B2.out.mono B1.out.size))
   clear HS
   go_wp2
   go_ret
   rw [NS.out]
   exact ⟨rfl, BF.out⟩
theorem ifind (v : Value) (rs : List Rw) (la : Option Addr) (ll lc : Nat) (live : List Int) (t : ByteArray) (w : World) (hl : rs.length ≤ 1048576) (hll : ∀ r ∈ rs, r.2.2.2.length ≤ 1048576) (htx : TxB rs) (ha : FlashRd w v rs) (hlv : ll ≤ 16777216) (hi : IRow w la ll live) (ht : t.size ≤ 1048576) (hH : HalvIn w) (hS : StepIn w) :
 Calls Tryz.prog 9 #[.agg #[v], .slice la ll lc, .string t] w fun e w' => e = .returned (.int .i64 (sameP (scanF (rs.map tellOf)) live t.data.toList)) ∧ Below w.heap.size w w' := by
 have b0 : Below w.heap.size w (w.alloc (.cells #[v] 30)) := (Below.refl _ _).alloc (Nat.le_refl _) _
 have k0 : (w.alloc (.cells #[v] 30)).cell? ⟨w.heap.size, 0, none⟩ = some v := cell_of_row _ _ 0 _ _ _ (heap_alloc_new w (.cells #[v] 30))
 have C := hide (iscanO v rs _ hl hll htx (ha.below b0) (hH.on b0))
 have HI := hide (hi.below b0)
 have HNL := hide hi.1
 have HS := hide (hS.on b0)
 have B0 := hide b0
 obtain ⟨M, hM⟩ : ∃ M, scanF (rs.map tellOf) = M := ⟨_, rfl⟩
 have HT : Hid (∀ x ∈ M, x.page.text.size ≤ 1048576) := by rw [← hM]; exact scan_text
 unfold ScOut at C
 rw [hM] at C ⊢
 have hmm := @run_makeMap Tryz.prog
 clear hl hll htx ha hi b0 hM hH hS
 go_enter Tryz.func9, Tryz.ntmps9
 go_wp2_with fail
 refine C.out.mono ?_
 rintro e w1 ⟨ad, cap, rfl, h1, h2, h3⟩
 have CN := hide (inewestOf ad M.length cap M w1 h2 h1)
 have B1 := hide (B0.out.trans (h3.mono B0.out.size))
 have I1 := hide (HI.out.below h3)
 have S1 := hide (HS.out.on h3)
 clear C h1 h2 h3 HI B0 HS k0
 go_wp2_with fail
 refine CN.out.mono ?_
 rintro e w2 ⟨BN, rfl, -, hN, b2⟩
 have B2 := hide (B1.out.trans (b2.mono B1.out.size))
 have I2 := hide (I1.out.below b2)
 have S2 := hide (S1.out.on b2)
 have N2 := hide hN
 have D0 := hide (DM.made w2)
 have BM : Hid (Below w2.heap.size w2 (w2.alloc (.map #[] 0))) := (Below.refl _ _).alloc (Nat.le_refl _) _
 clear CN b2 hN B1 I1 S1
 go_wp2
 generalize w2.alloc (.map #[] 0) = w3 at BM D0 ⊢
 go_loopw [17] (fun iv wr => ∃ (k : Nat) (G : Dg), iv = .int .i64 k ∧ k ≤ ll ∧ Hid (DM w2.heap.size wr w2.heap.size G) ∧ Hid (DK digL G (keptL M (live.take k))) ∧ Hid (Below w2.heap.size w2 wr)) (fun iv _ => ll - (intOf iv).toNat)
 case atStart => exact ⟨0, [], rfl, Nat.zero_le _, D0, DK.made _, BM⟩
 case round =>
  rename World => wr
  obtain ⟨k, G, rfl, hk, HG, HD, BW⟩ := hrel
  clear D0 BM
  have hk0 : (0 : Int) ≤ k := by omega
  have kz : (keptL M (live.take k)).length ≤ 16777216 := by
   refine Nat.le_trans (List.length_filterMap_le _ _) ?_
   rw [List.length_take]
   omega
  have KZ := hide kz
  clear kz
  by_cases hlt : (k : Int) < ll
  ·obtain ⟨c, hc⟩ : ∃ c, live[k]? = some c := ⟨_, List.getElem?_eq_getElem (by have := HNL.out; omega)⟩
   obtain ⟨lb, lo, rfl, -, cc⟩ := (I2.out.below BW.out).at hc
   have CA := hide (iaddC w2.heap.size w2.heap.size BN M G (keptL M (live.take k)) c wr HT.out KZ.out BW.out.size HG.out HD.out (N2.out.below BW.out) (S2.out.on BW.out))
   have NK : Hid (keptL M (live.take k) ++ ((textP M c).map fun t => (c, t)).toList = keptL M (live.take (k + 1))) := by
    show _ = _
    cases hx : textP M c with
    | none => rw [kept_none hc hx]; simp
    | some o => rw [kept_some hc hx]; rfl
   rw [NK.out] at CA
   clear hc NK HG HD KZ
   go_wp2_with fail
   refine CA.out.mono ?_
   rintro e w4 ⟨rfl, G', h1, h2, h3⟩
   have HG := hide h1
   have HD := hide h2
   have BX := hide (BW.out.trans h3)
   clear h1 h2 h3 CA BW
   go_wp2
   go_roundw
   case rel => exact ⟨k + 1, G', by go_num, by omega, HG, HD, BX⟩
   case measure => simp [intOf]; omega
  ·have ek : live.take k = live := List.take_of_length_le (by have := HNL.out; omega)
   rw [ek] at HD KZ
   have CF := hide (ifirst w2.heap.size w2.heap.size G (keptL M live) t wr ht KZ.out HG.out HD.out (S2.out.on BW.out))
   rw [← same_first] at CF
   clear HG HD KZ ek
   go_wp2_with fail
   refine CF.out.mono ?_
   rintro e w4 ⟨rfl, b4⟩
   have BF := hide (B2.out.trans ((BW.out.trans (b4.mono BW.out.size)).mono B2.out.size))
   clear b4 CF
   go_wp2
   go_ret
   exact ⟨rfl, BF.out⟩
end Go.Proofs.YtcjgjkejhkhknabGreatDoor
