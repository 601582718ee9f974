/-
  LawB; Fla; LawT; KnEq; KnMk; IntL; KnTo; TkKn; TrMath3; TrMath4; SwMath; TkI2; TkIs
-/
import Derived.Test.YtcjgjkejhkhknabGreatDoorPk2
import Derived.Test.YtcjgjkejhkhknabGreatDoorPk3
import Derived.Test.YtcjgjkejhkhknabGreatDoorPk1
import Derived.Test.YtcjgjkejhkhknabGreatDoorPk0
import Derived.Deep.RegionHeld3
set_option maxHeartbeats 400000
set_option maxRecDepth 100000
namespace Go.Proofs.YtcjgjkejhkhknabGreatDoor
open Go.RowKit
def endK : Nat → List Bk → Nat
 | k, [] => k
 | k, r :: rs => endK (k + 2 + 2 * r.2.2.length) rs
theorem endK_tell (k : Nat) (rs : List Rw) : endK k (rs.map tellOf) = endB k rs := by
 induction rs generalizing k with
 | nil => rfl
 | cons r rs ih => simp only [List.map_cons, endK, endB, tellOf]; exact ih _
def Okk (bs : List Bk) : Prop := bs.length ≤ 1048576 ∧ (∀ r ∈ bs, r.2.2.length ≤ 1048576) ∧ endK 1 bs ≤ 1000000000
def TxK (bs : List Bk) : Prop := ∀ r ∈ bs, ∀ t ∈ r.2.2, t.2.size ≤ 1048576
theorem meas {rs : List Rw} {r : Int} (h0 : 0 ≤ r) (h : 2 * r + endB 1 rs ≤ 2 * (1048576 : Nat) + 1) : rs.length ≤ 1048576 ∧ (∀ q ∈ rs, q.2.2.2.length ≤ 1048576) ∧ Okk (rs.map tellOf) := by
 have h1 := endB_len 1 rs
 have h2 : ∀ q ∈ rs, q.2.2.2.length ≤ 1048576 := fun q hq => by
  have := endB_one 1 rs q hq
  omega
 refine ⟨by omega, h2, by rw [List.length_map]; omega, fun r hr => ?_, by rw [endK_tell]; omega⟩
 obtain ⟨q, hq, rfl⟩ := List.mem_map.1 hr
 exact h2 q hq
theorem tx_tell {rs : List Rw} (h : TxB rs) : TxK (rs.map tellOf) := by
 intro r hr
 obtain ⟨q, hq, rfl⟩ := List.mem_map.1 hr
 exact h q hq
def Inn (w : World) (lo hi : Nat) (v : Value) (bs : List Bk) : Prop := ∃ ss, ss.map tellOf = bs ∧ FlashIn w lo hi v ss
theorem Inn.lens {w : World} {lo hi : Nat} {v : Value} {bs : List Bk} (h : Inn w lo hi v bs) (ho : Okk bs) : ∃ ss, ss.map tellOf = bs ∧ FlashIn w lo hi v ss ∧ ss.length ≤ 1048576 ∧ (∀ q ∈ ss, q.2.2.2.length ≤ 1048576) ∧ endB 1 ss = endK 1 bs := by
 obtain ⟨ss, rfl, hs⟩ := h
 refine ⟨ss, rfl, hs, by simpa using ho.1, fun q hq => ho.2.1 _ (List.mem_map_of_mem (f := tellOf) hq), (endK_tell 1 ss).symm⟩
theorem eq_of (a b : Value) (bs : List Bk) (l1 h1 l2 h2 : Nat) (w : World) (ho : Okk bs) (ha : h1 ≤ w.heap.size ∧ Inn w l1 h1 a bs) (hb : h2 ≤ w.heap.size ∧ Inn w l2 h2 b bs) :
 Calls Tryz.prog 10 #[.agg #[a], .agg #[b]] w fun e w' => e = .returned (.bool true) ∧ Below w.heap.size w w' := by
 obtain ⟨rs, e1, i1, l, ll, -⟩ := ha.2.lens ho
 obtain ⟨ss, e3, i2⟩ := hb.2
 exact eqFlash_any a b rs ss _ _ _ _ w l ll i1 i2 ha.1 hb.1 (e1.trans e3.symm)
def Fla (lo hi : Nat) (v : Value) (bs : List Bk) : World → Prop := fun W => ∃ ss : List Rw, ss.map tellOf = bs ∧ FlashIn W lo hi v ss
theorem Fla.loc (lo hi : Nat) (v : Value) (bs : List Bk) : Loc lo hi (Fla lo hi v bs) := by
 rintro w w' hk ⟨ss, e, h⟩
 exact ⟨ss, e, h.kept hk⟩
theorem Fla.lens {w : World} {lo hi : Nat} {v : Value} {bs : List Bk} (h : Fla lo hi v bs w) (ho : Okk bs) : ∃ ss, ss.map tellOf = bs ∧ FlashIn w lo hi v ss ∧ ss.length ≤ 1048576 ∧ (∀ q ∈ ss, q.2.2.2.length ≤ 1048576) ∧ endB 1 ss = endK 1 bs := Inn.lens h ho
theorem to_tk {w wi : World} {hs : List Hold} {a : Option Addr} {len cap : Nat} {rs : List Rw} {bs : List Bk} (T : Tk w wi hs) (H : BkRow w a len rs) (hbs : rs.map tellOf = bs) (hl : len ≤ 1048576) (hll : ∀ q ∈ rs, q.2.2.2.length ≤ 1048576) :
 Calls Tryz.prog 7 #[.agg #[.slice a len cap]] wi fun e w' => ∃ ad c, e = .returned (.agg #[.slice ad bs.length c]) ∧ Tk w w' ((wi.heap.size, w'.heap.size, Fla wi.heap.size w'.heap.size (.slice ad bs.length c) bs) :: hs) ∧ wi.heap.size ≤ w'.heap.size := by
 refine (toFlash_any a len cap rs wi hl hll (H.below T.1)).mono ?_
 rintro e w2 ⟨v1, rfl, f1, b2⟩
 rw [hbs] at f1
 have T2 := T.add b2 (Fla.loc _ _ v1 bs) f1
 obtain ⟨ad1, cap1, rfl⟩ := f1.form
 exact ⟨ad1, cap1, rfl, T2, b2.size⟩
theorem eq_tk {w wi : World} {hs : List Hold} {u v : Value} {l1 h1 l2 h2 : Nat} {bs : List Bk} (T : Tk w wi hs) (n1 n2 : Nat) (ho : Okk bs) (e1 : hs[n1]? = some (l1, h1, Fla l1 h1 u bs)) (e2 : hs[n2]? = some (l2, h2, Fla l2 h2 v bs)) :
 Calls Tryz.prog 10 #[.agg #[u], .agg #[v]] wi fun e w' => e = .returned (.bool true) ∧ Tk w w' hs ∧ wi.heap.size ≤ w'.heap.size := by
 refine (eq_of _ _ bs _ _ _ _ wi ho ⟨T.hi n1 e1, T.get n1 e1⟩ ⟨T.hi n2 e2, T.get n2 e2⟩).mono ?_
 rintro e w2 ⟨rfl, b2⟩
 exact ⟨rfl, T.below b2, b2.size⟩
end Go.Proofs.YtcjgjkejhkhknabGreatDoor
namespace Go.Proofs.YtcjgjkejhkhknabGreatDoor
open Go.RowKit
open Words
theorem eqIs_same (a b : Value) (M : List Int) (n : Nat) (B1 C1 B2 C2 : Nat) (w : World) (hn : M.length = n) (hM : n ≤ 1000000000000000000) (ha : Sli 3 B1 C1 a n (icells M) w) (hb : Sli 3 B2 C2 b n (icells M) w) :
 Calls Tryz.prog 11 #[a, b] w fun e w' => e = .returned (.bool true) ∧ Below w.heap.size w w' := by
 obtain ⟨ad, capa, rfl, a3⟩ := ha.form
 obtain ⟨bd, capb, rfl, b3⟩ := hb.form
 have HSA := hide ha
 have HSB := hide hb
 have A3 := hide a3
 have B3 := hide b3
 have HN := hide hn
 clear ha hb a3 b3 hn
 go_enter Tryz.func11, Tryz.ntmps11
 go_wp2
 go_loopw [5] (fun iv wr => ∃ k : Nat, k ≤ n ∧ iv = .int .i64 k ∧ Hid (∃ q, wr = w.drewN q)) (fun iv _ => n - (intOf iv).toNat)
 case atStart => exact ⟨0, Nat.zero_le _, rfl, ⟨0, rfl⟩⟩
 case round =>
  obtain ⟨k, hk, rfl, HQ⟩ := hrel
  obtain ⟨q, hq⟩ := HQ.out
  subst hq
  clear HQ
  by_cases hlt : (k : Int) < n
  ·obtain ⟨ga, e, -, -⟩ := A3.out (by omega)
   subst e
   obtain ⟨gb, e, -, -⟩ := B3.out (by omega)
   subst e
   obtain ⟨x, hx⟩ : ∃ x, M[k]? = some x := ⟨_, List.getElem?_eq_getElem (by have := HN.out; omega)⟩
   have c1 := HSA.out.flt.cell (icells_get hx)
   have c2 := HSB.out.flt.cell (icells_get hx)
   have hxx : (x != x) = false := by simp
   have k0 : (0 : Int) ≤ k := by omega
   clear hx
   go_wp2
   go_quiet (fail)
   go_wp2
   go_roundw
   case rel => exact ⟨k + 1, by omega, by go_num, ⟨_, rfl⟩⟩
   case measure => simp [intOf]; omega
  ·go_wp2
   go_ret
   exact ⟨rfl, below_drewN (Below.refl _ _) _⟩
theorem icells_put (ls : List Int) (R : List Value) (j : Nat) (x : Int) (hj : ls[j]? = some x) (hR : R.length = ls.length) : (icells (ls.take j) ++ R.drop j).set j (.int .i64 x) = icells (ls.take (j + 1)) ++ R.drop (j + 1) := by
 obtain ⟨hj1, hj2⟩ := List.getElem?_eq_some_iff.1 hj
 have hm : (icells (ls.take j)).length = j := by simp [icells]; omega
 have e3 : ls.take (j + 1) = ls.take j ++ [x] := by rw [List.take_succ_eq_append_getElem hj1, hj2]
 rw [e3, List.set_append_right _ _ (by omega), hm, Nat.sub_self, List.drop_eq_getElem_cons (show j < R.length by omega), List.set_cons_zero]
 unfold icells
 rw [List.map_append, List.append_assoc]
 rfl
theorem toIs_any (a : Option Addr) (len cap : Nat) (ls : List Int) (w : World) (hl : len ≤ 1048576) (h : IRow w a len ls) :
 Calls Tryz.prog 8 #[.slice a len cap] w fun e w' => ∃ g : Nat, e = .returned (.slice (some ⟨g, 0, none⟩) len len) ∧ w'.ownsRow w.heap.size 3 1 (.slice (some ⟨g, 0, none⟩) len len) ls.length (icells ls) ∧ Below w.heap.size w w' := by
 obtain ⟨i0, hi, hz0, hz1, hz2⟩ := info_parts infoInt
 have H := hide h
 have H1 := hide h.1
 clear h
 go_enter Tryz.func8, Tryz.ntmps8
 go_wp2_with (at_make; refine wpList_make_full _ rfl _ _ 25 rfl w.heap.size 3 i0 (.int .i64 0) 1 Tryz.underlying25 hi hz0 hz1 .i64 .i64 _ _ len rfl rfl rfl rfl (by rw [hz2]; omega) (by unfold maxLen; omega) (Nat.le_refl _) ?_)
 intro w1 hown hgrow
 generalize (madeCells #[Value.int .i64 0] len).toList = R at hown
 have HR : Hid (R.length = ls.length) := by show _ = _; rw [H1.out]; have := hown.1; omega
 have HO := hide hown
 have HB1 := hide ((Below.refl w.heap.size w).grown hgrow (Nat.le_refl _) (fun k hk => by cases hk))
 clear hown hgrow hi hz0 hz1 hz2
 go_wp2
 go_loopw [4] (fun iv wr => ∃ k : Nat, k ≤ len ∧ iv = .int .i64 k ∧ Hid (wr.ownsRow w.heap.size 3 1 (.slice (some ⟨w.heap.size, 0, none⟩) len len) len (icells (ls.take k) ++ R.drop k)) ∧ Hid (Below w.heap.size w wr)) (fun iv _ => len - (intOf iv).toNat)
 case atStart => exact ⟨0, Nat.zero_le _, rfl, HO, HB1⟩
 case round =>
  obtain ⟨k, hk, rfl, HO2, HW⟩ := hrel
  by_cases hkl : (k : Int) < len
  ·have hkl2 : k < ls.length := by have := H1.out; omega
   obtain ⟨x, hx⟩ : ∃ x, ls[k]? = some x := ⟨_, List.getElem?_eq_getElem hkl2⟩
   obtain ⟨b, off, rfl, -, c0⟩ := (H.out.below HW.out).at hx
   have k0 : (0 : Int) ≤ k := by omega
   have hlen3 : (icells (ls.take k) ++ R.drop k).length = len * 1 := HO2.out.1
   obtain ⟨u0, d0⟩ : ∃ u, wr.cell? ⟨w.heap.size, k, none⟩ = some u := by
    have := HO2.out.cells (g := w.heap.size) rfl k _ (List.getElem?_eq_getElem (by rw [hlen3]; omega))
    rw [addr_at] at this
    exact ⟨_, this⟩
   have f0 := HO2.out.frozenAt k
   have o6 := fown_set HO2.out rfl k (.int .i64 x)
   rw [icells_put ls R k x hx HR.out] at o6
   have O6 := hide o6
   have B6 := hide (HW.out.setCell (p := ⟨w.heap.size, k, none⟩) (Nat.le_refl _) (.int .i64 x))
   clear o6 hlen3 HW HO2 hx hkl2
   go_wp2
   go_roundw
   case rel => exact ⟨k + 1, by omega, by go_num, O6, B6⟩
   case measure => simp [intOf]; omega
  ·have hke : k = ls.length := by have := H1.out; omega
   have hO := HO2.out
   have hr1 := HR.out
   rw [hke, List.take_length, List.drop_eq_nil_of_le (by omega), List.append_nil] at hO
   have HO3 := hide hO
   clear hO hke hr1
   go_wp2
   go_ret
   exact ⟨_, rfl, (by rw [H1.out]; exact HO3.out), HW.out⟩
end Go.Proofs.YtcjgjkejhkhknabGreatDoor
namespace Go.Proofs.YtcjgjkejhkhknabGreatDoor
namespace Words
def pt (l : List Kn) (r : Int) (s : Nat) (n : Int) : List Kn := l ++ [putLf l r s n, putTop l r s]
end Words
end Go.Proofs.YtcjgjkejhkhknabGreatDoor
namespace Go.Proofs.YtcjgjkejhkhknabGreatDoor
open Go.RowKit
open Words
theorem tois_tk {w wi : World} {hs : List Hold} {a : Option Addr} {n cap : Nat} {l : List Int} (T : Tk w wi hs) (H : IRow w a n l) (hn : n ≤ 1048576) :
 Calls Tryz.prog 8 #[.slice a n cap] wi fun e w' => ∃ g : Nat, e = .returned (.slice (some ⟨g, 0, none⟩) n n) ∧ Tk w w' ((wi.heap.size, w'.heap.size, Sli 3 wi.heap.size w'.heap.size (.slice (some ⟨g, 0, none⟩) n n) n (icells l)) :: hs) ∧ wi.heap.size ≤ w'.heap.size := by
 refine (toIs_any a n cap l wi hn (H.below T.1)).mono ?_
 rintro e w' ⟨g, rfl, ho, hb⟩
 rw [H.1] at ho
 exact ⟨g, rfl, T.add hb (Sli.loc _ _ _ _ _ _) (Sli.of ho), hb.size⟩
theorem eqi_tk2 {w wi : World} {hs : List Hold} {a b : Value} {l : List Int} {n l1 h1 l2 h2 : Nat} (T : Tk w wi hs) (n1 n2 : Nat) (hn : l.length = n) (hm : n ≤ 1048576) (e1 : hs[n1]? = some (l1, h1, Sli 3 l1 h1 a n (icells l))) (e2 : hs[n2]? = some (l2, h2, Sli 3 l2 h2 b n (icells l))) :
 Calls Tryz.prog 11 #[a, b] wi fun e w' => e = .returned (.bool true) ∧ Tk w w' hs ∧ wi.heap.size ≤ w'.heap.size := by
 refine (eqIs_same a b l n l1 h1 l2 h2 wi hn (by omega) (T.get n1 e1) (T.get n2 e2)).mono ?_
 rintro e w' ⟨rfl, hb⟩
 exact ⟨rfl, T.below hb, hb.size⟩
end Go.Proofs.YtcjgjkejhkhknabGreatDoor
