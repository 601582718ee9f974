/-
  SUnp
-/
import Derived.Test.YtcjgjkejhkhknabGreatDoorPk36
import Derived.Test.YtcjgjkejhkhknabGreatDoorSPlain
import Derived.Test.YtcjgjkejhkhknabGreatDoorPk38
set_option maxHeartbeats 1000000
set_option maxRecDepth 100000
namespace Go.Proofs.YtcjgjkejhkhknabGreatDoor
open Go.RowKit
open Pack
theorem cut_mid (l : List UInt8) (j k : Nat) (x y : Int) (hx : x = j) (hy : y = k) (hjk : j ≤ k) (hk : k ≤ l.length) (W : World) : (Instr.slice 9 (.string (BA l)) (some (.int .i64 x)) (some (.int .i64 y)) none).run Tryz.prog W = .ok (.string (BA ((l.drop j).take (k - j)))) W := by
 subst hx hy
 rw [run_slice_string_if W 9 (BA l) .i64 .i64 _ _ Tryz.underlying9, if_pos (by rw [BA_size]; omega), if_pos (by omega), ← BA_ext]
 rfl
theorem sread_anyU (r : List UInt8) (w : World) (hr : r.length ≤ 1048576) :
 Calls Tryz.prog 86 #[.string (BA r)] w fun e w' => TRead 129 w r e w' := by
 obtain ⟨i0, hi, hz0, hz1, hz2⟩ := info_parts infoTok
 have hbs := BA_size r
 go_enter Tryz.func86, Tryz.ntmps86
 go_wp2
 go_loopw [4, 5] (fun tv av wr => ∃ (k : Nat) (l : List (Nat × Nat × List UInt8)), k ≤ r.length ∧ l.length ≤ k ∧ av = .int .i64 k ∧ Hid (RG 129 r = (RG 129 (r.drop k)).map fun x => l ++ x) ∧ Hid (wr.ownsRow w.heap.size 190 3 tv l.length (tcells l)) ∧ Hid (Below w.heap.size w wr)) (fun _ av _ => r.length - (intOf av).toNat)
 case atStart => exact ⟨0, [], by omega, by simp, rfl, (by show _ = _; simp), World.ownsRow_made w #[] 0 (Nat.le_refl _) (by unfold maxLen; omega) (by simp), (Below.refl _ _).alloc (Nat.le_refl _) _⟩
 case round =>
  obtain ⟨k, l, hk, hlk, rfl, HG, HO, HW⟩ := hrel
  have hsz := HW.out.size
  by_cases hlt : (k : Int) < r.length
  ·have hkl : k < r.length := by omega
   obtain ⟨n, hn⟩ : ∃ n, r[k]? = some n := ⟨_, List.getElem?_eq_getElem hkl⟩
   have hnl := n.toNat_lt
   have i1 := idx_of r k n (k : Int) rfl hn
   have hdr : r.drop k = n :: r.drop (k + 1) := by
    obtain ⟨h1, h2⟩ := List.getElem?_eq_some_iff.1 hn
    rw [List.drop_eq_getElem_cons h1, h2]
   have hdl : (r.drop (k + 1)).length = r.length - (k + 1) := List.length_drop
   have k0 : (0 : Int) ≤ k := by omega
   rw [hdr] at HG
   clear hdr hn
   by_cases h128 : (128 : Int) < n.toNat
   ·by_cases h2 : (r.length : Int) < (k : Int) + 2
    ·have HX : Hid (RG 129 r = none) := by
      show _ = _
      have e0 : r.drop (k + 1) = [] := List.eq_nil_of_length_eq_zero (by omega)
      rw [HG.out, e0, RG_cut 129 n (by omega)]
      rfl
     clear HG hdl
     go_wp2
     exact bodyPost_ret (results_tmp2 rfl _ _ _) rfl ⟨_, l, false, rfl, by omega, HO.out, (fun h => by cases h), (fun _ => HX.out), HW.out⟩
    ·have hkl2 : k + 1 < r.length := by omega
     obtain ⟨b, hb⟩ : ∃ b, r[k + 1]? = some b := ⟨_, List.getElem?_eq_getElem hkl2⟩
     have hbl := b.toNat_lt
     have i2 := idx_of r (k + 1) b ((k : Int) + 1) (by omega) hb
     have hdr : r.drop (k + 1) = b :: r.drop (k + 2) := by
      obtain ⟨h1, h2⟩ := List.getElem?_eq_some_iff.1 hb
      rw [List.drop_eq_getElem_cons h1, h2]
     have HG2 : Hid (RG 129 r = (RG 129 (r.drop (k + 2))).map fun x => (l ++ [(b.toNat, n.toNat - 128, [])]) ++ x) := by
      show _ = _
      rw [HG.out, hdr, RG_match 129 n b _ (by omega), map_more]
     obtain ⟨z, hz⟩ : ∃ z : Nat, n.toNat - 128 = z := ⟨_, rfl⟩
     have hzi : (n.toNat : Int) - 128 = (z : Int) := by omega
     rw [hz] at HG2
     clear HG hdl hdr hb hz
     go_wp2_with (at_builtin; refine wpList_append_own _ rfl _ _ 152 rfl w.heap.size 190 i0 (.agg #[.int .i64 0, .int .i64 0, .string ⟨#[]⟩]) 3 32 Tryz.underlying152 hi hz0 hz1 hz2 rfl (by decide) _ _ _ rfl (by exact HO.out.alloc _) ⟨wr.heap.size, 0, none⟩ 1 1 [Value.int .i64 _, Value.int .i64 _, Value.string _] rfl rfl (by exact three_new _ _ _ _ _) (tok3_one _ _ _) (by unfold maxLen; omega) (by omega) (by simp; omega) ?_)
     intro v7 w7 ho7 hg7 _
     have HW7 := hide (own_grown3 HW.out (by omega) HO.out hg7)
     have HO7 : Hid (w7.ownsRow w.heap.size 190 3 v7 (l ++ [(b.toNat, z, [])]).length (tcells (l ++ [(b.toNat, z, [])]))) := by
      show World.ownsRow _ _ _ _ _ _ _
      rw [← tcells_snoc, List.length_append]
      exact ho7
     have hl7 : (l ++ [(b.toNat, z, ([] : List UInt8))]).length ≤ k + 2 := by simp; omega
     clear ho7 hg7 HO HW
     go_wp2
     go_roundw
     case rel => exact ⟨k + 2, l ++ [(b.toNat, z, [])], by omega, hl7, by go_num, HG2, HO7, HW7⟩
     case measure => simp [intOf]; omega
   ·by_cases h2 : (r.length : Int) < (k : Int) + 1 + n.toNat
    ·have HX : Hid (RG 129 r = none) := by
      show _ = _
      rw [HG.out, RG_short 129 n _ (by omega) (by omega)]
      rfl
     clear HG hdl
     go_wp2
     exact bodyPost_ret (results_tmp2 rfl _ _ _) rfl ⟨_, l, false, rfl, by omega, HO.out, (fun h => by cases h), (fun _ => HX.out), HW.out⟩
    ·have c2 := cut_mid r (k + 1) (k + 1 + n.toNat) ((k : Int) + 1) ((k : Int) + 1 + n.toNat) (by omega) (by omega) (by omega) (by omega)
     rw [Nat.add_sub_cancel_left] at c2
     have HG2 : Hid (RG 129 r = (RG 129 (r.drop (k + 1 + n.toNat))).map fun x => (l ++ [(0, 0, (r.drop (k + 1)).take n.toNat)]) ++ x) := by
      show _ = _
      rw [HG.out, RG_text 129 n _ (by omega) (by omega), map_more, List.drop_drop]
     obtain ⟨t, ht⟩ : ∃ t, (r.drop (k + 1)).take n.toNat = t := ⟨_, rfl⟩
     rw [ht] at HG2 c2
     clear HG hdl ht
     go_wp2_with (at_builtin; refine wpList_append_own _ rfl _ _ 152 rfl w.heap.size 190 i0 (.agg #[.int .i64 0, .int .i64 0, .string ⟨#[]⟩]) 3 32 Tryz.underlying152 hi hz0 hz1 hz2 rfl (by decide) _ _ _ rfl (by exact HO.out.alloc _) ⟨wr.heap.size, 0, none⟩ 1 1 [Value.int .i64 _, Value.int .i64 _, Value.string _] rfl rfl (by exact three_new _ _ _ _ _) (tok3_one _ _ _) (by unfold maxLen; omega) (by omega) (by simp; omega) ?_)
     intro v7 w7 ho7 hg7 _
     have HW7 := hide (own_grown3 HW.out (by omega) HO.out hg7)
     have HO7 : Hid (w7.ownsRow w.heap.size 190 3 v7 (l ++ [(0, 0, t)]).length (tcells (l ++ [(0, 0, t)]))) := by
      show World.ownsRow _ _ _ _ _ _ _
      rw [← tcells_snoc, List.length_append]
      exact ho7
     have hl7 : (l ++ [(0, 0, t)]).length ≤ k + 1 + n.toNat := by simp; omega
     clear ho7 hg7 HO HW
     go_wp2
     go_roundw
     case rel => exact ⟨k + 1 + n.toNat, l ++ [(0, 0, t)], by omega, hl7, by go_num, HG2, HO7, HW7⟩
     case measure => simp [intOf]; omega
  ·have hke : k = r.length := by omega
   have HX : Hid (RG 129 r = some l) := by show _ = _; rw [HG.out, hke, List.drop_length, RG_nil]; simp
   clear HG
   go_wp2
   exact bodyPost_ret (results_tmp2 rfl _ _ _) rfl ⟨_, l, true, rfl, by omega, HO.out, (fun _ => HX.out), (fun h => by cases h), HW.out⟩
theorem sunp_any (t : List UInt8) (w : World) (ht : t.length ≤ 1048576) :
 Calls Tryz.prog 62 #[.string (BA t)] w fun e w' => e = .returned (plainV (unpackL t)) ∧ Below w.heap.size w w' := by
 have hbs := BA_size t
 cases t with
 | nil =>
  have HX : Hid (unpackL [] = none) := rfl
  have h0 : ((([] : List UInt8).length : Int) == 0) = true := rfl
  go_enter Tryz.func62, Tryz.ntmps62
  go_wp2
  exact bodyPost_ret (results_tmp2 rfl _ _ _) rfl ⟨by rw [HX.out]; rfl, Below.refl _ _⟩
 | cons c r =>
  have hcl := c.toNat_lt
  rw [List.length_cons] at ht hbs
  have h0 : (((r.length + 1 : Nat) : Int) == 0) = false := by rw [beq_eq_false_iff_ne]; omega
  have h0' : ((r.length : Int) + 1 == 0) = false := by rw [beq_eq_false_iff_ne]; omega
  have i1 := idx_of (c :: r) 0 c 0 rfl rfl
  have c1 := cut_from (c :: r) 1 1 rfl (by simp)
  rw [List.drop_one, List.tail_cons] at c1
  have HU := hide (unpackL_eq c r)
  -- the end: what is packed again is held against the text
  have fin : ∀ (s : List UInt8) (w1 : World), Below w.heap.size w w1 → unpackL (c :: r) = (if packL s = some (c :: r) then some s else none) →
   Calls Tryz.prog 88 #[.string (BA s)] w1 fun e w' => ∃ (p : ByteArray) (q : Bool), e = .returned (.tuple #[.string p, .bool q]) ∧ Hid (Below w.heap.size w w') ∧
    ((q = false ∧ Hid (unpackL (c :: r) = none)) ∨ (q = true ∧ (p.toList == (BA (c :: r)).toList) = false ∧ Hid (unpackL (c :: r) = none)) ∨ (q = true ∧ (p.toList == (BA (c :: r)).toList) = true ∧ Hid (unpackL (c :: r) = some s))) := by
   intro s w1 hb hu
   refine (spack_any (BA s) w1).mono ?_
   rintro e w2 ⟨rfl, hb2⟩
   rw [BA_list]
   have hbb := hb.trans (hb2.mono hb.size)
   cases hp : packL s with
   | none =>
    rw [hp, if_neg (by simp)] at hu
    exact ⟨_, _, by rw [plainV_none], hbb, Or.inl ⟨rfl, hu⟩⟩
   | some p =>
    rw [hp] at hu
    by_cases hpt : p = c :: r
    ·subst hpt
     rw [if_pos rfl] at hu
     exact ⟨_, _, by rw [plainV_some], hbb, Or.inr (Or.inr ⟨rfl, by simp, hu⟩)⟩
    ·rw [if_neg (fun e => hpt (by simpa using e))] at hu
     exact ⟨_, _, by rw [plainV_some], hbb, Or.inr (Or.inl ⟨rfl, BA_ne _ _ hpt, hu⟩)⟩
  have HFIN := hide fin
  clear fin
  by_cases h122 : ((c.toNat : Int) == 122) = true
  ·have hc : c = 122 := by
    rw [beq_iff_eq] at h122
    exact UInt8.toNat_inj.1 (by show c.toNat = 122; omega)
   have HU2 : Hid (unpackL (c :: r) = ((RG 129 r).bind plain).bind fun s => if packL s = some (c :: r) then some s else none) := by show _ = _; rw [HU.out, if_pos hc]
   clear HU hc
   go_enter Tryz.func62, Tryz.ntmps62
   go_wp2_with fail
   refine (sread_anyU r _ (by omega)).mono ?_
   rintro e w2 ⟨v, l, ok, rfl, hl, ho, k1, k2, hb⟩
   have HB := hide hb
   have K1 := hide k1
   have K2 := hide k2
   have hlm : (l.map gtok).length = l.length := by simp
   have HO2 : Hid (w2.ownsRow w.heap.size 190 3 v (l.map gtok).length (gcells (l.map gtok))) := by
    show World.ownsRow _ _ _ _ _ _ _
    rw [hlm, ← tcells_g]
    exact ho
   have hl5 : (l.map gtok).length ≤ 1048576 := by omega
   have HGP : Hid (gplain (l.map gtok) = plain l) := gplain_tok l []
   clear hb k1 k2 ho hlm
   go_wp2_with fail
   refine (splain_any v _ _ _ hl5 HO2.out).mono ?_
   rintro e w3 ⟨rfl, hb⟩
   have HB3 := hide (HB.out.trans (hb.mono HB.out.size))
   rw [HGP.out]
   clear hb HB HO2 HGP hl5
   cases ok with
   | false =>
    obtain ⟨p, q, hpq⟩ := plainV_open (plain l)
    rw [hpq]
    have HX : Hid (unpackL (c :: r) = none) := by show _ = _; rw [HU2.out, K2.out rfl]; rfl
    clear HU2 K1 K2 hpq HFIN
    go_wp2
    exact bodyPost_ret (results_tmp2 rfl _ _ _) rfl ⟨by rw [HX.out]; rfl, HB3.out⟩
   | true =>
    have hk := K1.out rfl
    cases hp : plain l with
    | none =>
     have HX : Hid (unpackL (c :: r) = none) := by show _ = _; rw [HU2.out, hk]; simp [hp]
     rw [plainV_none]
     clear HU2 K1 K2 hp hk HFIN
     go_wp2
     exact bodyPost_ret (results_tmp2 rfl _ _ _) rfl ⟨by rw [HX.out]; rfl, HB3.out⟩
    | some s =>
     have HX : Hid (unpackL (c :: r) = if packL s = some (c :: r) then some s else none) := by show _ = _; rw [HU2.out, hk]; simp [hp]
     rw [plainV_some]
     clear HU2 K1 K2 hp hk
     go_wp2_with fail
     refine (HFIN.out s _ HB3.out HX.out).mono ?_
     rintro e w4 ⟨p, q, rfl, HB4, ⟨rfl, HY⟩ | ⟨rfl, hne, HY⟩ | ⟨rfl, hne, HY⟩⟩
     ·clear HFIN HX
      go_wp2
      exact bodyPost_ret (results_tmp2 rfl _ _ _) rfl ⟨by rw [HY.out]; rfl, HB4.out⟩
     ·clear HFIN HX
      go_wp2
      exact bodyPost_ret (results_tmp2 rfl _ _ _) rfl ⟨by rw [HY.out]; rfl, HB4.out⟩
     ·clear HFIN HX
      go_wp2
      exact bodyPost_ret (results_tmp2 rfl _ _ _) rfl ⟨by rw [HY.out]; rfl, HB4.out⟩
  ·have h122' : ((c.toNat : Int) == 122) = false := by simpa using h122
   have hc : c ≠ 122 := fun e => h122 (by rw [e]; rfl)
   have HX : Hid (unpackL (c :: r) = if packL r = some (c :: r) then some r else none) := by show _ = _; rw [HU.out, if_neg hc]; rfl
   clear HU hc h122
   go_enter Tryz.func62, Tryz.ntmps62
   go_wp2_with fail
   refine (HFIN.out r _ (Below.refl _ _) HX.out).mono ?_
   rintro e w4 ⟨p, q, rfl, HB4, ⟨rfl, HY⟩ | ⟨rfl, hne, HY⟩ | ⟨rfl, hne, HY⟩⟩
   ·clear HFIN HX
    go_wp2
    exact bodyPost_ret (results_tmp2 rfl _ _ _) rfl ⟨by rw [HY.out]; rfl, HB4.out⟩
   ·clear HFIN HX
    go_wp2
    exact bodyPost_ret (results_tmp2 rfl _ _ _) rfl ⟨by rw [HY.out]; rfl, HB4.out⟩
   ·clear HFIN HX
    go_wp2
    exact bodyPost_ret (results_tmp2 rfl _ _ _) rfl ⟨by rw [HY.out]; rfl, HB4.out⟩
end Go.Proofs.YtcjgjkejhkhknabGreatDoor
