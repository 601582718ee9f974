/-
  IDig; LawFS; OpKn; Vars
-/
import Derived.Test.YtcjgjkejhkhknabGreatDoorPk26
import Derived.Test.YtcjgjkejhkhknabGreatDoorPk41
import Derived.Test.YtcjgjkejhkhknabGreatDoorPk43
import Derived.Test.YtcjgjkejhkhknabGreatDoorPk48
import Derived.Test.YtcjgjkejhkhknabGreatDoorPk1
import Derived.Test.YtcjgjkejhkhknabGreatDoorPk49
import Derived.Maps.AppendAt
import Derived.Test.YtcjgjkejhkhknabGreatDoorPk18
import Derived.Test.YtcjgjkejhkhknabGreatDoorPk20
import Derived.Deep.RegionHeld3
import Derived.ProofKit
import Derived.OpenShut
import Derived.ShutString
import Derived.Deep.Strs
import Derived.Deep.Slices
import Derived.Test.YtcjgjkejhkhknabGreatDoorPk0
import Derived.ChangeVars
/-
  impl's chunksByDigest: add, firstWith; impl.FindSame.
-/
namespace Go.Proofs.YtcjgjkejhkhknabGreatDoor
open Go.RowKit
open Words Sums Pack

theorem kc_one (c : Int) (s : ByteArray) : ∀ u ∈ [Value.int .i64 c, Value.string s], u.oneCell' = true := by
  intro u hu
  simp at hu
  rcases hu with h | h <;> subst h <;> rfl
theorem kc_new (w : World) (c : Int) (s : ByteArray) (t : TypeId) : ∀ (j : Nat) (u : Value), [Value.int .i64 c, Value.string s][j]? = some u → (w.alloc (.cells #[.int .i64 c, .string s] t)).cell? ((⟨w.heap.size, 0, none⟩ : Addr).add j) = some u := fun j u h => cells_new w ([Value.int .i64 c, Value.string s] : List Value).toArray t w.heap.size rfl j u (by simpa using h)
theorem get_len {G : Dg} {kept : List (Int × List UInt8)} {dg : List UInt8 → List UInt8} (h : DK dg G kept) (d : List UInt8) : (G.get d).2.length ≤ kept.length := by
  rw [h d]
  exact List.length_filter_le _ _
/-- What add leaves. -/
def AddCO (lo : Nat) (w : World) (B : Nat) (kept : List (Int × List UInt8)) (e : Ending) (w' : World) : Prop := e = .returned (.tuple #[]) ∧ ∃ G', DM lo w' B G' ∧ DK digL G' kept ∧ Below lo w w'
set_option maxHeartbeats 2000000 in
set_option maxRecDepth 100000 in
theorem iaddC (lo B BN : Nat) (M : List Fnd) (G : Dg) (kept : List (Int × List UInt8)) (c : Int) (w : World) (ht : ∀ x ∈ M, x.page.text.size ≤ 1048576) (hk : kept.length ≤ 16777216) (hlo : lo ≤ w.heap.size) (hG : DM lo w B G) (hD : DK digL G kept) (hN : NM w BN M) (hS : StepIn w) :
    Calls Tryz.prog 23 #[.map (some B), .int .i64 c, .map (some BN)] w (AddCO lo w B (kept ++ ((textP M c).map fun t => (c, t)).toList)) := by
  have C := hide (itextOf BN M c w ht hN)
  have HG := hide hG
  have HD := hide hD
  have HS := hide hS
  have HLO := hide hlo
  clear hN hG hD hS ht hlo
  cases hx : textP M c with
  | none =>
    rw [hx, plainV_none] at C
    clear hx
    go_enter Tryz.func23, Tryz.ntmps23
    go_wp2_with fail
    refine C.out.mono ?_
    rintro e w1 ⟨rfl, b1⟩
    have G1 := hide (HG.out.below b1)
    have B1 := hide (b1.mono HLO.out)
    clear b1 C HG
    go_wp2
    refine bodyPost_ret (results_none rfl _ _ _) rfl ?_
    exact ⟨rfl, G, G1.out, by simpa using HD.out, B1.out⟩
  | some o =>
    obtain ⟨i0, hi0, hz0, hz1, hz2⟩ := info_parts infoKc
    have hol := text_len hx
    rw [hx, plainV_some] at C
    have CD := hide (fun W h => implDig_any (BA o) W (by rw [BA_size]; omega) h)
    rw [BA_list] at CD
    clear hx
    obtain ⟨d, hd⟩ : ∃ d, digL o = d := ⟨_, rfl⟩
    rw [hd] at CD
    have HDD := hide hd
    have hgl := get_len HD.out d
    clear hd
    go_enter Tryz.func23, Tryz.ntmps23
    go_wp2_with fail
    refine C.out.mono ?_
    rintro e w1 ⟨rfl, b1⟩
    have G1 := hide (HG.out.below b1)
    have S1 := hide (HS.out.on b1)
    have B1 := hide (b1.mono HLO.out)
    have hs1 := b1.size
    clear b1 C HG HS
    go_wp2_with fail
    refine (CD.out _ S1.out).mono ?_
    rintro e w2 ⟨rfl, b2⟩
    have G2 := hide (G1.out.below b2)
    have hs2 := b2.size
    have HL2 : Hid (lo ≤ w2.heap.size) := by have := HLO.out; show _ ≤ _; omega
    have B2 := hide (B1.out.trans (b2.mono (by have := HLO.out; omega)))
    have hlk := G2.out.look d
    have G3 := hide (G2.out.below ((Below.refl _ _).alloc (Nat.le_refl _) (.cells #[.int .i64 c, .string (BA o)] 102)))
    have O3 := hide (G3.out.own d)
    have N3 := hide (kc_new w2 c (BA o) 102)
    have B3 := hide (B2.out.trans (((Below.refl w2.heap.size w2).alloc (Nat.le_refl _) (.cells #[.int .i64 c, .string (BA o)] 102)).mono HL2.out))
    clear b2 CD G1 S1 B1 G2 B2
    go_wp2_with (at_builtin; refine wpList_append_own_at _ rfl _ _ 100 rfl lo 102 i0 (.agg #[.int .i64 0, .string ⟨#[]⟩]) 2 24 Tryz.underlying100 hi0 hz0 hz1 hz2 rfl (by decide) _ (G.get d).2.length (kccells (G.get d).2) rfl O3.out ⟨w2.heap.size, 0, none⟩ 1 1 [.int .i64 c, .string (BA o)] rfl rfl N3.out (kc_one _ _) ?g1 ?g2 ?g3 ?_)
    case g1 => unfold maxLen; omega
    case g2 => omega
    case g3 => have := HL2.out; simp; omega
    intro v' w4 hown hgrow hnil hloc
    have hl1 : (G.get d).2.length + 1 = ((G.get d).2 ++ [(c, o)]).length := by simp
    have hc1 := kccells_snoc (G.get d).2 (c, o)
    simp only at hc1
    rw [hl1, hc1] at hown
    have hB4 := B3.out.grown hgrow (Nat.le_trans HLO.out B3.out.size) (fun q hq => (O3.out.lt q hq).1)
    obtain ⟨w5, e5, g5, g6⟩ := G3.out.put d hgrow hown (hloc.imp id (fun h => ⟨_, h, by simp⟩))
    have HG5 := hide g5
    have HB5 := hide (hB4.grown g6 (Nat.le_trans HLO.out hB4.size) (fun q hq => by cases hq; exact g5.1))
    clear hown hgrow hnil hloc hl1 hc1 hB4 g5 g6 O3 N3 B3 G3
    go_wp2
    go_end0
    refine ⟨rfl, _, HG5.out, ?_, HB5.out⟩
    have := HD.out.put (c, o) v'
    simp only at this
    rw [HDD.out] at this
    exact this
theorem kc_own_at {W : World} {lo : Nat} {ad : Option Addr} {n cap k : Nat} {L : List (Int × List UInt8)} {p : Int × List UInt8} (h : W.ownsRow lo 102 2 (.slice ad n cap) L.length (kccells L)) (hk : L[k]? = some p) :
    ∃ g, ad = some ⟨g, 0, none⟩ ∧ W.cell? ⟨g, k * 2, none⟩ = some (.int .i64 p.1) ∧ W.cell? ⟨g, k * 2 + 1, none⟩ = some (.string (BA p.2)) := by
  have hl := (List.getElem?_eq_some_iff.1 hk).1
  have h2 := h.2
  rcases h2 with ⟨e, h0⟩ | ⟨g, cap', cur, e, -⟩
  · omega
  · injection e with e1 e2 e3
    subst e1
    obtain ⟨h1, h2⟩ := kccells_at L k p hk
    have q1 := h.cells (g := g) rfl (k * 2) _ h1
    have q2 := h.cells (g := g) rfl (k * 2 + 1) _ h2
    rw [addr_at] at q1 q2
    exact ⟨g, rfl, q1, q2⟩
theorem kc_form {W : World} {lo : Nat} {v : Value} {L : List (Int × List UInt8)} (h : W.ownsRow lo 102 2 v L.length (kccells L)) : ∃ ad cap, v = .slice ad L.length cap := by
  rcases h.2 with ⟨rfl, h0⟩ | ⟨g, cap', cur, rfl, -⟩
  · exact ⟨none, 0, by rw [h0]⟩
  · exact ⟨_, _, rfl⟩

set_option maxHeartbeats 1000000 in
set_option maxRecDepth 100000 in
theorem ifirst (lo B : Nat) (G : Dg) (kept : List (Int × List UInt8)) (t : ByteArray) (w : World) (ht : t.size ≤ 1048576) (hk : kept.length ≤ 16777216) (hG : DM lo w B G) (hD : DK digL G kept) (hS : StepIn w) :
    Calls Tryz.prog 24 #[.map (some B), .string t] w fun e w' => e = .returned (.int .i64 (firstN kept t.data.toList)) ∧ Below w.heap.size w w' := by
  have CD := hide (fun W h => implDig_any t W ht h)
  have HG := hide hG
  have HS := hide hS
  have hgl := get_len hD (digL t.data.toList)
  have HF : Hid (firstN kept t.data.toList = firstN (G.get (digL t.data.toList)).2 t.data.toList) := by show _ = _; rw [hD, firstN_filter]
  clear hG hD hS
  go_enter Tryz.func24, Tryz.ntmps24
  go_wp2_with fail
  refine (CD.out _ HS.out).mono ?_
  rintro e w1 ⟨rfl, b1⟩
  have hlk := (HG.out.below b1).look (digL t.data.toList)
  have hown := (HG.out.below b1).own (digL t.data.toList)
  have B1 := hide b1
  clear b1 CD HG HS
  obtain ⟨L, hL⟩ : ∃ L, (G.get (digL t.data.toList)).2 = L := ⟨_, rfl⟩
  rw [hL] at hown HF hgl
  obtain ⟨ad, cap, hv⟩ := kc_form hown
  rw [hv] at hlk hown
  have HO := hide hown
  obtain ⟨n, hn⟩ : ∃ n, L.length = n := ⟨_, rfl⟩
  have HN := hide hn
  rw [hn] at hlk hgl
  clear hown hL hv hn
  go_wp2
  go_loopw [12] (fun iv wr => ∃ k : Nat, iv = .int .i64 k ∧ k ≤ n ∧ Hid (firstN L t.data.toList = firstN (L.drop k) t.data.toList) ∧ Hid (Below w1.heap.size w1 wr)) (fun iv _ => n - (intOf iv).toNat)
  case atStart => exact ⟨0, rfl, Nat.zero_le _, rfl, Below.refl _ _⟩
  case round =>
    rename World => wr
    obtain ⟨k, rfl, hkn, HS, B2⟩ := hrel
    have hk0 : (0 : Int) ≤ k := by omega
    by_cases hlt : (k : Int) < n
    · obtain ⟨p, hp⟩ : ∃ p, L[k]? = some p := ⟨_, List.getElem?_eq_getElem (by have := HN.out; omega)⟩
      obtain ⟨g, rfl, c0, c1⟩ := kc_own_at (own_below HO.out B2.out) hp
      have HD := hide (firstN_drop t.data.toList hp)
      obtain ⟨pc, po⟩ := p
      simp only at c0 c1 HD
      have ba : Below wr.heap.size wr (wr.alloc (.cells #[.int .i64 pc, .string (BA po)] 102)) := (Below.refl _ _).alloc (Nat.le_refl _) _
      have B3 := hide (B2.out.trans (ba.mono B2.out.size))
      have y0 : (wr.alloc (.cells #[.int .i64 pc, .string (BA po)] 102)).cell? ⟨wr.heap.size, 0, none⟩ = some (.int .i64 pc) := cell_of_row _ _ 0 _ _ _ (heap_alloc_new wr (.cells #[.int .i64 pc, .string (BA po)] 102))
      have y1 : (wr.alloc (.cells #[.int .i64 pc, .string (BA po)] 102)).cell? ⟨wr.heap.size, 1, none⟩ = some (.string (BA po)) := cell_of_row _ _ 1 _ _ _ (heap_alloc_new wr (.cells #[.int .i64 pc, .string (BA po)] 102))
      clear hp ba
      by_cases ho : po = t.data.toList
      · have he := text_same ho
        have NS : Hid (firstN kept t.data.toList = pc) := by show _ = _; rw [HF.out, HS.out, HD.out, if_pos ho]
        have BF := hide (B1.out.trans (B3.out.mono B1.out.size))
        clear ho HD HS
        go_wp2
        go_ret
        rw [NS.out]
        exact ⟨rfl, BF.out⟩
      · have he := text_other ho
        have NS : Hid (firstN L t.data.toList = firstN (L.drop (k + 1)) t.data.toList) := by show _ = _; rw [HS.out, HD.out, if_neg ho]
        clear ho HD HS
        go_wp2
        go_roundw
        case rel => exact ⟨k + 1, by go_num, by omega, NS, B3⟩
        case measure => simp [intOf]; omega
    · have NS : Hid (firstN kept t.data.toList = 0) := by show _ = _; rw [HF.out, HS.out, List.drop_eq_nil_of_le (by have := HN.out; omega)]; rfl
      have BF := hide (B1.out.trans (B2.out.mono B1.out.size))
      clear HS
      go_wp2
      go_ret
      rw [NS.out]
      exact ⟨rfl, BF.out⟩

set_option maxHeartbeats 2000000 in
set_option maxRecDepth 100000 in
theorem ifind (v : Value) (rs : List Rw) (la : Option Addr) (ll lc : Nat) (live : List Int) (t : ByteArray) (w : World) (hl : rs.length ≤ 1048576) (hll : ∀ r ∈ rs, r.2.2.2.length ≤ 1048576) (htx : TxB rs) (ha : FlashRd w v rs) (hlv : ll ≤ 16777216) (hi : IRow w la ll live) (ht : t.size ≤ 1048576) (hH : HalvIn w) (hS : StepIn w) :
    Calls Tryz.prog 9 #[.agg #[v], .slice la ll lc, .string t] w fun e w' => e = .returned (.int .i64 (sameP (scanF (rs.map tellOf)) live t.data.toList)) ∧ Below w.heap.size w w' := by
  have b0 : Below w.heap.size w (w.alloc (.cells #[v] 30)) := (Below.refl _ _).alloc (Nat.le_refl _) _
  have k0 : (w.alloc (.cells #[v] 30)).cell? ⟨w.heap.size, 0, none⟩ = some v := cell_of_row _ _ 0 _ _ _ (heap_alloc_new w (.cells #[v] 30))
  have C := hide (iscanO v rs _ hl hll htx (ha.below b0) (hH.on b0))
  have HI := hide (hi.below b0)
  have HNL := hide hi.1
  have HS := hide (hS.on b0)
  have B0 := hide b0
  obtain ⟨M, hM⟩ : ∃ M, scanF (rs.map tellOf) = M := ⟨_, rfl⟩
  have HT : Hid (∀ x ∈ M, x.page.text.size ≤ 1048576) := by rw [← hM]; exact scan_text
  unfold ScOut at C
  rw [hM] at C ⊢
  have hmm := @run_makeMap Tryz.prog
  clear hl hll htx ha hi b0 hM hH hS
  go_enter Tryz.func9, Tryz.ntmps9
  go_wp2_with fail
  refine C.out.mono ?_
  rintro e w1 ⟨ad, cap, rfl, h1, h2, h3⟩
  have CN := hide (inewestOf ad M.length cap M w1 h2 h1)
  have B1 := hide (B0.out.trans (h3.mono B0.out.size))
  have I1 := hide (HI.out.below h3)
  have S1 := hide (HS.out.on h3)
  clear C h1 h2 h3 HI B0 HS k0
  go_wp2_with fail
  refine CN.out.mono ?_
  rintro e w2 ⟨BN, rfl, -, hN, b2⟩
  have B2 := hide (B1.out.trans (b2.mono B1.out.size))
  have I2 := hide (I1.out.below b2)
  have S2 := hide (S1.out.on b2)
  have N2 := hide hN
  have D0 := hide (DM.made w2)
  have BM : Hid (Below w2.heap.size w2 (w2.alloc (.map #[] 0))) := (Below.refl _ _).alloc (Nat.le_refl _) _
  clear CN b2 hN B1 I1 S1
  go_wp2
  generalize w2.alloc (.map #[] 0) = w3 at BM D0 ⊢
  go_loopw [17] (fun iv wr => ∃ (k : Nat) (G : Dg), iv = .int .i64 k ∧ k ≤ ll ∧ Hid (DM w2.heap.size wr w2.heap.size G) ∧ Hid (DK digL G (keptL M (live.take k))) ∧ Hid (Below w2.heap.size w2 wr)) (fun iv _ => ll - (intOf iv).toNat)
  case atStart => exact ⟨0, [], rfl, Nat.zero_le _, D0, DK.made _, BM⟩
  case round =>
    rename World => wr
    obtain ⟨k, G, rfl, hk, HG, HD, BW⟩ := hrel
    clear D0 BM
    have hk0 : (0 : Int) ≤ k := by omega
    have kz : (keptL M (live.take k)).length ≤ 16777216 := by
      refine Nat.le_trans (List.length_filterMap_le _ _) ?_
      rw [List.length_take]
      omega
    have KZ := hide kz
    clear kz
    by_cases hlt : (k : Int) < ll
    · obtain ⟨c, hc⟩ : ∃ c, live[k]? = some c := ⟨_, List.getElem?_eq_getElem (by have := HNL.out; omega)⟩
      obtain ⟨lb, lo, rfl, -, cc⟩ := (I2.out.below BW.out).at hc
      have CA := hide (iaddC w2.heap.size w2.heap.size BN M G (keptL M (live.take k)) c wr HT.out KZ.out BW.out.size HG.out HD.out (N2.out.below BW.out) (S2.out.on BW.out))
      have NK : Hid (keptL M (live.take k) ++ ((textP M c).map fun t => (c, t)).toList = keptL M (live.take (k + 1))) := by
        show _ = _
        cases hx : textP M c with
        | none => rw [kept_none hc hx]; simp
        | some o => rw [kept_some hc hx]; rfl
      rw [NK.out] at CA
      clear hc NK HG HD KZ
      go_wp2_with fail
      refine CA.out.mono ?_
      rintro e w4 ⟨rfl, G', h1, h2, h3⟩
      have HG := hide h1
      have HD := hide h2
      have BX := hide (BW.out.trans h3)
      clear h1 h2 h3 CA BW
      go_wp2
      go_roundw
      case rel => exact ⟨k + 1, G', by go_num, by omega, HG, HD, BX⟩
      case measure => simp [intOf]; omega
    · have ek : live.take k = live := List.take_of_length_le (by have := HNL.out; omega)
      rw [ek] at HD KZ
      have CF := hide (ifirst w2.heap.size w2.heap.size G (keptL M live) t wr ht KZ.out HG.out HD.out (S2.out.on BW.out))
      rw [← same_first] at CF
      clear HG HD KZ ek
      go_wp2_with fail
      refine CF.out.mono ?_
      rintro e w4 ⟨rfl, b4⟩
      have BF := hide (B2.out.trans ((BW.out.trans (b4.mono BW.out.size)).mono B2.out.size))
      clear b4 CF
      go_wp2
      go_ret
      exact ⟨rfl, BF.out⟩
end Go.Proofs.YtcjgjkejhkhknabGreatDoor

/-
  FnExactFindSame.
-/
namespace Go.Proofs.YtcjgjkejhkhknabGreatDoor
open Go.RowKit
open Words Sums Pack

theorem sfs_tk {w wi : World} {hs : List Hold} {v u : Value} {bs : List Bk} {live : List Int} {n l1 h1 l2 h2 : Nat} (t : ByteArray) (T : Tk w wi hs) (n1 n2 : Nat) (ho : Okk bs) (htx : TxK bs) (hn : live.length = n) (hm : n ≤ 1048576) (e1 : hs[n1]? = some (l1, h1, Fla l1 h1 v bs)) (e2 : hs[n2]? = some (l2, h2, Sli 3 l2 h2 u n (icells live))) :
    Calls Tryz.prog 6 #[.agg #[v], u, .string t] wi fun e w' => e = .returned (.int .i64 (sameP (scanF bs) live t.data.toList)) ∧ Tk w w' hs ∧ wi.heap.size ≤ w'.heap.size := by
  obtain ⟨ss, e3, i1, l, ll, -⟩ := (T.get n1 e1).lens ho
  subst hn
  obtain ⟨la, lc, rfl, -, hr⟩ := ISl.of (T.get n2 e2) (by unfold maxLen; omega) (T.hi n2 e2)
  subst e3
  refine (sfind v ss la _ lc live t wi l ll (by intro q hq t ht; exact htx _ (List.mem_map_of_mem (f := tellOf) hq) t ht) i1.rd (by omega) hr).mono ?_
  rintro e w' ⟨rfl, hb⟩
  exact ⟨rfl, T.below hb, hb.size⟩
theorem ifs_tk {w wi : World} {hs : List Hold} {v u : Value} {bs : List Bk} {live : List Int} {n l1 h1 l2 h2 : Nat} (t : ByteArray) (ht : t.size ≤ 1048576) (T : Tk w wi hs) (n1 n2 : Nat) (ho : Okk bs) (htx : TxK bs) (hn : live.length = n) (hm : n ≤ 1048576) (e1 : hs[n1]? = some (l1, h1, Fla l1 h1 v bs)) (e2 : hs[n2]? = some (l2, h2, Sli 3 l2 h2 u n (icells live))) (hv : HalvIn wi) (hst : StepIn wi) :
    Calls Tryz.prog 9 #[.agg #[v], u, .string t] wi fun e w' => e = .returned (.int .i64 (sameP (scanF bs) live t.data.toList)) ∧ Tk w w' hs ∧ wi.heap.size ≤ w'.heap.size := by
  obtain ⟨ss, e3, i1, l, ll, -⟩ := (T.get n1 e1).lens ho
  subst hn
  obtain ⟨la, lc, rfl, -, hr⟩ := ISl.of (T.get n2 e2) (by unfold maxLen; omega) (T.hi n2 e2)
  subst e3
  refine (ifind v ss la _ lc live t wi l ll (by intro q hq t ht; exact htx _ (List.mem_map_of_mem (f := tellOf) hq) t ht) i1.rd (by omega) hr ht hv hst).mono ?_
  rintro e w' ⟨rfl, hb⟩
  exact ⟨rfl, T.below hb, hb.size⟩

set_option maxHeartbeats 1000000 in
set_option maxRecDepth 100000 in
theorem lawFS_any (a : Option Addr) (len cap : Nat) (rs : List Rw) (la : Option Addr) (ll lc : Nat) (live : List Int) (t : ByteArray) (w : World) (hv : HalvIn w) (hst : StepIn w) (h : BkRow w a len rs) (hi : IRow w la ll live) (hts : t.size ≤ maxLen) :
    Calls Tryz.prog 3 #[.agg #[.slice a len cap], .slice la ll lc, .string t] w fun e w' => e = .returned (.bool true) ∧ Below w.heap.size w w' := by
  obtain ⟨bs, hbs⟩ : ∃ bs, rs.map tellOf = bs := ⟨_, rfl⟩
  have T0 := hide ((Tk.start w).cell #[.slice a len cap] 24)
  have H := hide h
  have HV := hide hv
  have HST := hide hst
  have HI := hide hi
  have HNL := hide hi.1
  have HBS := hide hbs
  have hlen := h.1
  unfold maxLen at hts
  clear h hbs hv hst hi
  by_cases hbig : (1048576 : Int) < ll
  · go_enter Tryz.func3, Tryz.ntmps3
    go_wp2
    go_ret
    exact ⟨rfl, T0.out.1⟩
  by_cases hbig2 : (1048576 : Int) < t.size
  · go_enter Tryz.func3, Tryz.ntmps3
    go_wp2
    go_ret
    exact ⟨rfl, T0.out.1⟩
  have hll1 : ll ≤ 1048576 := by omega
  have htt1 : t.size ≤ 1048576 := by omega
  have HLL1 := hide hll1
  have HTT1 := hide htt1
  go_enter Tryz.func3, Tryz.ntmps3
  go_wp2_with fail
  refine (szFlash_any a len cap rs 1048576 _ (Nat.le_refl _) (H.out.below T0.out.1)).mono ?_
  rintro e w1 ⟨⟨r, rfl, r1, r2, r3⟩, b1⟩
  have T1 := hide (T0.out.below b1)
  have k1 : w1.cell? ⟨w.heap.size, 0, none⟩ = some (.slice a len cap) := T1.out.at 0 0 rfl rfl
  clear b1 T0
  by_cases hr : r < 0
  · clear r2 r3
    go_wp2
    go_ret
    exact ⟨rfl, T1.out.1⟩
  · obtain ⟨hl, hll, ho⟩ := meas (by omega) (r2 (by omega))
    have htx := tx_tell (r3 (by omega))
    rw [HBS.out] at ho htx
    have HLL := hide hll
    have HO := hide ho
    have HTX := hide htx
    have hl2 : len ≤ 1048576 := by omega
    have HLE := hide hl2
    clear r2 r3 hll ho htx hl2
    go_wp2_with fail
    refine (to_tk T1.out H.out HBS.out HLE.out HLL.out).mono ?_
    rintro e w2 ⟨ad1, cap1, rfl, t2, -⟩
    have T2 := hide t2
    clear t2 T1 k1
    go_wp2_with fail
    refine (tois_tk (cap := lc) T2.out HI.out HLL1.out).mono ?_
    rintro e w3 ⟨g1, rfl, t3, -⟩
    have T3 := hide t3
    clear t3 T2
    go_wp2_with fail
    refine (sfs_tk t T3.out 1 0 HO.out HTX.out HNL.out HLL1.out rfl rfl).mono ?_
    rintro e w4 ⟨rfl, t4, -⟩
    have T4 := hide (t4.drop (hs' := [(w.heap.size, w.heap.size + 1, Cel w.heap.size #[.slice a len cap] 24)]) (by intro x hx; simp only [List.mem_cons, List.not_mem_nil, or_false] at hx ⊢; exact .inr (.inr hx)))
    have k4 : w4.cell? ⟨w.heap.size, 0, none⟩ = some (.slice a len cap) := T4.out.at 0 0 rfl rfl
    clear t4 T3
    obtain ⟨ok, hok⟩ : ∃ ok, sameP (scanF bs) live t.data.toList = ok := ⟨_, rfl⟩
    rw [hok]
    have HOK := hide hok
    clear hok
    go_wp2_with fail
    refine (to_tk T4.out H.out HBS.out HLE.out HLL.out).mono ?_
    rintro e w5 ⟨ad2, cap2, rfl, t5, -⟩
    have T5 := hide (t5.cell #[.slice ad2 bs.length cap2] 30)
    clear t5 T4 k4
    go_wp2_with fail
    generalize w5.alloc (.cells #[.slice ad2 bs.length cap2] 30) = w6 at T5 ⊢
    refine (tois_tk (cap := lc) T5.out HI.out HLL1.out).mono ?_
    rintro e w7 ⟨g2, rfl, t7, -⟩
    have T7 := hide t7
    have x7 : w7.cell? ⟨w5.heap.size, 0, none⟩ = some (.slice ad2 bs.length cap2) := T7.out.at 1 0 rfl rfl
    clear t7 T5
    go_wp2_with fail
    refine (ifs_tk t HTT1.out T7.out 2 0 HO.out HTX.out HNL.out HLL1.out rfl rfl (HV.out.on T7.out.1) (HST.out.on T7.out.1)).mono ?_
    rintro e w8 ⟨rfl, t8, -⟩
    have T8 := hide t8
    rw [HOK.out]
    have hne : (ok != ok) = false := by simp
    have k8 : w8.cell? ⟨w.heap.size, 0, none⟩ = some (.slice a len cap) := T8.out.at 3 0 rfl rfl
    have x8 : w8.cell? ⟨w5.heap.size, 0, none⟩ = some (.slice ad2 bs.length cap2) := T8.out.at 1 0 rfl rfl
    have T8d := hide T8.out.drew
    clear t8 T7 x7
    go_wp2
    go_region_held3 (fun w' => w'.cell? ⟨w5.heap.size, 0, none⟩ = some (.slice ad2 bs.length cap2) ∧ w'.cell? ⟨w.heap.size, 0, none⟩ = some (.slice a len cap)) (first | go_keep | exact ⟨T9.out.at 2 0 rfl rfl, T9.out.at 4 0 rfl rfl⟩ | exact ⟨TA.out.at 2 0 rfl rfl, TA.out.at 4 0 rfl rfl⟩) (first
      | (go_at_call 7; with_reducible refine Calls.mono (to_tk T8d.out H.out HBS.out HLE.out HLL.out) ?_; rintro en w9 ⟨ad3, cap3, rfl, t9, -⟩; have T9 := hide t9; clear t9)
      | (go_at_call 10; with_reducible refine Calls.mono (eq_tk T9.out 3 0 HO.out rfl rfl) ?_; rintro en wA ⟨rfl, tA, -⟩; have TA := hide tA; clear tA))
    all_goals
      go_wp2_with fail
      refine (tois_tk (cap := lc) TA.out HI.out HLL1.out).mono ?_
      rintro e wB ⟨g3, rfl, tB, -⟩
      have TB := hide tB
      clear tB TA T9 T8d T8
      go_wp2_with fail
      refine (eqi_tk2 TB.out 2 0 HNL.out HLL1.out rfl rfl).mono ?_
      rintro e wC ⟨rfl, tC, -⟩
      have TC := hide tC
      clear tC TB
      go_wp2
      go_ret
      exact ⟨rfl, TC.out.1⟩
theorem lawFS_card (a : Option Addr) (len cap : Nat) (rs : List Rw) (la : Option Addr) (ll lc : Nat) (live : List Int) (t : ByteArray) {w : World} (h : BkRow w a len rs) (hi : ISl w (.slice la ll lc) live) (ht : t.size ≤ maxLen) (_ : World) (hv : HalvIn w) (hst : StepIn w) :
    Calls Tryz.prog 3 #[.agg #[.slice a len cap], .slice la ll lc, .string t] w fun e w' => e = .returned (.bool true) ∧ Below w.heap.size w w' := by
  obtain ⟨a', c', e, -, hr⟩ := hi
  injection e with e1 e2 e3
  subst e1 e2
  exact lawFS_any a len cap rs _ _ lc live t w hv hst h hr ht
end Go.Proofs.YtcjgjkejhkhknabGreatDoor

/-
  An arena that comes in as an argument.
-/
namespace Go.Proofs.YtcjgjkejhkhknabGreatDoor
open Go.ChangeShapes Go.WideShapes Go.ChangeAt Go.RowKit Go.Deep
set_option maxRecDepth 100000

section
variable {H : Type} {enc : TypeId × Value → H} {w : World} {base : Nat} {sp : Nat → Bool} {held : Bool}
theorem kcells3 : Tryz.prog.cellsOf 3 = 1 := by kernel_rfl
theorem kcells4 : Tryz.prog.cellsOf 4 = 1 := by kernel_rfl
theorem kcellsIs : Tryz.prog.cellsOf 25 = 1 := by kernel_rfl
theorem kcellsKn : Tryz.prog.cellsOf 141 = 2 := by kernel_rfl
theorem kaddr (b off j : Nat) : (⟨b, off, none⟩ : Addr).add j = ⟨b, off + j, none⟩ := by
  simp only [Addr.add]
  split <;> simp_all
theorem trodKn2 {P : Program} {t : TypeId} {f0 f1 : Field} {fuel : Nat} {cs : List Value} {x : DataW H × List MemPlace} (ht : P.underlying t = some (.struct #[f0, f1])) (h : DataW.trod enc P w base sp held fuel t cs = some x) :
    ∃ y0 y1 n, DataW.trod enc P w base sp held n f0.type ((cs.drop f0.offset).take (P.cellsOf f0.type)) = some y0 ∧ DataW.trod enc P w base sp held n f1.type ((cs.drop f1.offset).take (P.cellsOf f1.type)) = some y1 := by
  obtain ⟨xs, n, _, rfl, hl, hlen, hf⟩ := DataW.trod_struct ht h
  match xs, hlen with
  | [y0, y1], _ => exact ⟨y0, y1, n, by simpa using hf 0 f0 rfl, by simpa using hf 1 f1 rfl⟩
theorem trodAr1 {P : Program} {t : TypeId} {f0 : Field} {fuel : Nat} {cs : List Value} {x : DataW H × List MemPlace} (ht : P.underlying t = some (.struct #[f0])) (h : DataW.trod enc P w base sp held fuel t cs = some x) :
    ∃ y0 n, DataW.trod enc P w base sp held n f0.type ((cs.drop f0.offset).take (P.cellsOf f0.type)) = some y0 := by
  obtain ⟨xs, n, _, rfl, hl, hlen, hf⟩ := DataW.trod_struct ht h
  match xs, hlen with
  | [y0], _ => exact ⟨y0, n, by simpa using hf 0 f0 rfl⟩
theorem open_isl {v : Value} {fuel : Nat} {y : DataW H × List MemPlace} (hf : DataW.trod enc Tryz.prog w base sp held fuel 25 [v] = some y) : ∃ ls, ISl w v ls := by
  rcases open_slice Tryz.underlying25 hf with ⟨hcs, _⟩ | ⟨x, len, c, m, n, D, Pl, hcs, h1, hl, hm, hmm, h2, hx⟩
  · simp at hcs
    subst hcs
    exact ⟨[], none, 0, rfl, fun _ => rfl, rfl, by unfold maxLen; simp, fun h => by simp at h⟩
  · simp at hcs
    subst hcs
    have hlm : len ≤ m := by rw [hmm]; split <;> omega
    have each : ∀ i, i < len → ∃ t : Int, w.cell? (x.add i) = some (.int .i64 t) := by
      intro i hi
      obtain ⟨cs, h1, h2⟩ := hx i (by omega)
      rw [kcells3] at h1
      obtain ⟨_, hlen, hcell⟩ := World.cells?_some h1
      obtain ⟨k0, e0, -, -⟩ := DataW.trod_int Tryz.underlying3 h2
      subst e0
      have f0 := hcell 0 (by simp)
      rw [add_add] at f0
      exact ⟨k0, by simpa using f0⟩
    obtain ⟨f, hq⟩ := choose_lt each
    refine ⟨(List.range len).map f, some x, c, by simp, (fun e => by cases e), by simp, by simpa using by omega, fun h0 => ?_⟩
    rw [List.length_map, List.length_range] at h0
    obtain ⟨b, off, spot⟩ := x
    have hspot : spot = none := by simpa [Addr.add] using World.cell?_spot (hq 0 h0)
    subst hspot
    refine ⟨b, off, rfl, ?_, fun i t hi => ?_⟩
    · have := World.block_lt_of_cell? w _ (hq 0 h0)
      rw [kaddr] at this
      exact this
    · obtain ⟨hi1, hi2⟩ := List.getElem?_eq_some_iff.1 hi
      have hil : i < len := by simpa using hi1
      have ht : t = f i := by rw [← hi2]; simp
      subst ht
      have := hq i hil
      rw [kaddr] at this
      exact this
theorem open_kns {v : Value} {fuel : Nat} {y : DataW H × List MemPlace} (hf : DataW.trod enc Tryz.prog w base sp held fuel 37 [v] = some y) : ∃ a len cap rs, v = .slice a len cap ∧ KnRd w a len rs := by
  rcases open_slice Tryz.underlying37 hf with ⟨hcs, _⟩ | ⟨x, len, c, m, n, D, Pl, hcs, _, hl, hm, hmm, _, hx⟩
  · simp at hcs
    subst hcs
    exact ⟨none, 0, 0, [], rfl, rfl, by omega, (fun _ h => by cases h), fun h => by omega⟩
  · simp at hcs
    subst hcs
    have hlm : len ≤ m := by rw [hmm]; split <;> omega
    have each : ∀ i, i < len → ∃ t : Kw, w.cell? (x.add (i * 2)) = some (.bool t.1) ∧ w.cell? (x.add (i * 2 + 1)) = some t.2.1 ∧ ISl w t.2.1 t.2.2 := by
      intro i hi
      obtain ⟨cs, h1, h2⟩ := hx i (by omega)
      rw [kcellsKn] at h1
      obtain ⟨_, hlen, hcell⟩ := World.cells?_some h1
      obtain ⟨y0, y1, k, g0, g1⟩ := trodKn2 Tryz.underlying141 h2
      simp only [kcells4, kcellsIs] at g0 g1
      match cs, hlen with
      | [u0, u1], _ =>
        obtain ⟨k0, e0, _⟩ := DataW.trod_bool Tryz.underlying4 g0
        simp at e0
        subst e0
        obtain ⟨ls, hls⟩ := open_isl (v := u1) (by simpa using g1)
        have f0 := hcell 0 (by simp)
        have f1 := hcell 1 (by simp)
        rw [add_add] at f0 f1
        exact ⟨(k0, u1, ls), by simpa using f0, by simpa using f1, hls⟩
    haveI : Inhabited Kw := ⟨(false, .slice none 0 0, [])⟩
    obtain ⟨f, hq⟩ := choose_lt each
    refine ⟨some x, len, c, (List.range len).map f, rfl, by simp, by omega, ?_, fun h0 => ?_⟩
    · intro t ht
      obtain ⟨i, hi, rfl⟩ := List.mem_map.1 ht
      exact (hq i (List.mem_range.1 hi)).2.2
    · obtain ⟨b, off, spot⟩ := x
      have hspot : spot = none := by simpa [Addr.add] using World.cell?_spot (hq 0 h0).1
      subst hspot
      refine ⟨b, off, rfl, ?_, fun i t hi => ?_⟩
      · have := World.block_lt_of_cell? w _ (hq 0 h0).1
        rw [kaddr] at this
        exact this
      · obtain ⟨hi1, hi2⟩ := List.getElem?_eq_some_iff.1 hi
        have hil : i < len := by simpa using hi1
        have ht : t = f i := by rw [← hi2]; simp
        subst ht
        have := hq i hil
        rw [kaddr, kaddr] at this
        exact ⟨this.1, this.2.1⟩
theorem open_arena {r : Reach} {b0 : Nat} {v : Value} {d : DataW H} {ps : List MemPlace} (hval : Value.okWide Tryz.prog w r b0 39 v) (hd : DataW.Trod enc Tryz.prog w base sp held 39 v d ps) : ∃ a len cap rs, v = .agg #[.slice a len cap] ∧ KnRd w a len rs := by
  obtain ⟨cs, rfl, hcs⟩ := okWide_struct Tryz.underlying39 hval
  obtain ⟨fuel, hf⟩ := hd
  obtain ⟨y0, k, g0⟩ := trodAr1 Tryz.underlying39 hf
  have h1 : Tryz.prog.cellsOf 39 = 1 := by kernel_rfl
  have h2 : Tryz.prog.cellsOf 37 = 1 := by kernel_rfl
  rw [h1] at hcs
  rw [h2] at g0
  match cs, hcs with
  | ⟨[u]⟩, _ =>
    obtain ⟨a, len, cap, rs, e, hr⟩ := open_kns (v := u) (by simpa [Value.cells] using g0)
    subst e
    exact ⟨a, len, cap, rs, rfl, hr⟩
end
end Go.Proofs.YtcjgjkejhkhknabGreatDoor

/-
  Package variables that are arrays of integers, where a row names them: they read behind the call as they did ahead of it.
-/
namespace Go.Proofs.YtcjgjkejhkhknabGreatDoor
open Go.ChangeShapes Go.RowKit

theorem trod_ints {H : Type} {enc : TypeId × Value → H} {P : Program} {t e : TypeId} {n : Nat} {k : IntKind} (ht : P.underlying t = some (.array n e)) (he : P.underlying e = some (.int k))
    (V V' : World) (b b' : Nat) (sp sp' : Nat → Bool) (held : Bool) (fuel : Nat) (cs : List Value) :
    DataW.trod enc P V b sp held fuel t cs = DataW.trod enc P V' b' sp' held fuel t cs := by
  cases fuel with
  | zero => rfl
  | succ fuel =>
    have h : ∀ x : List Value, DataW.trod enc P V b sp held fuel e x = DataW.trod enc P V' b' sp' held fuel e x := by
      intro x
      cases fuel with
      | zero => rfl
      | succ fuel =>
        simp only [DataW.trod, he]
        rcases x with _ | ⟨v, _ | ⟨v2, r⟩⟩
        · rfl
        · cases v <;> rfl
        · cases v <;> rfl
    simp only [DataW.trod, ht, h]

theorem vars_length {H : Type} {enc : TypeId × Value → H} {P : Program} {W : World} {sp : Nat → Bool} : ∀ {ns : List String} {gs : List (DataW H)} {q : List MemPlace}, DataW.TrodVars enc P W sp ns gs q → gs.length = ns.length
  | [], [], _, _ => rfl
  | [], _ :: _, _, h => by simp [DataW.TrodVars] at h
  | _ :: _, [], _, h => by simp [DataW.TrodVars] at h
  | _ :: _, _ :: _, _, h => by
    obtain ⟨_, _, _, _, _, _, _, _, _, _, hs, _⟩ := h
    simp [vars_length hs]

theorem vars_nil {H : Type} {enc : TypeId × Value → H} {P : Program} {W W' : World} {sp sp' : Nat → Bool} (gs : List (DataW H)) (q : List MemPlace) (h : DataW.TrodVars enc P W sp [] gs q) : DataW.TrodVars enc P W' sp' [] gs q := by
  cases gs with
  | nil => exact h
  | cons => simp [DataW.TrodVars] at h

theorem vars_cons {H : Type} {enc : TypeId × Value → H} {P : Program} {W W' : World} {sp sp' : Nat → Bool} {n : String} {ns : List String} {g : Nat} {t e : TypeId} {m : Nat} {k : IntKind}
    (hg : P.globalNamed n = some g) (hty : (P.globals[g]?).map (·.type) = some t) (ht : P.underlying t = some (.array m e)) (he : P.underlying e = some (.int k)) (hb : Below W.heap.size W W')
    (rest : ∀ gs q, DataW.TrodVars enc P W sp ns gs q → DataW.TrodVars enc P W' sp' ns gs q) (gs : List (DataW H)) (q : List MemPlace) (h : DataW.TrodVars enc P W sp (n :: ns) gs q) : DataW.TrodVars enc P W' sp' (n :: ns) gs q := by
  cases gs with
  | nil => simp [DataW.TrodVars] at h
  | cons d ds =>
    obtain ⟨g', t', cs, fuel, p, q', h1, h2, h3, h4, hs, rfl⟩ := h
    obtain rfl := Option.some.inj (hg.symm.trans h1)
    obtain rfl := Option.some.inj (hty.symm.trans h2)
    have hlt : g < W.heap.size := by
      rcases Nat.lt_or_ge g W.heap.size with h' | h'
      · exact h'
      · unfold World.var? at h3
        simp [hg, Array.getElem?_eq_none h'] at h3
    refine ⟨g, t, cs, fuel, p, q', h1, h2, var?_below hb hg hlt h3, ?_, rest _ _ hs, rfl⟩
    rw [trod_ints ht he W' W 0 0 sp' sp]
    exact h4
end Go.Proofs.YtcjgjkejhkhknabGreatDoor
