/-
  StRd; IDo; IDo2; StRow; DoS; CeVl; VlRow
-/
import Derived.Test.YtfmnaidhfgmemaaGreatDoorPk7
import Derived.Test.YtfmnaidhfgmemaaGreatDoorPk17
import Derived.Test.YtfmnaidhfgmemaaGreatDoorPk19
import Derived.Test.YtfmnaidhfgmemaaGreatDoorPk20
import Derived.Test.YtfmnaidhfgmemaaGreatDoorPk23
import Derived.Deep.RegionWith
import Derived.Test.YtfmnaidhfgmemaaGreatDoorPk13
import Derived.Test.YtfmnaidhfgmemaaGreatDoorPk0
namespace Go.Proofs.YtfmnaidhfgmemaaGreatDoor
open Go.RowKit
def RdB (w : World) (v : Value) (bs : List Bk) : Prop := ∃ rs : List Rw, rs.map tellOf = bs ∧ FlashRd w v rs
def Sml (bs : List Bk) : Prop := bs.length ≤ 1048576 ∧ ∀ r ∈ bs, r.2.2.length ≤ 1048576 ∧ ∀ t ∈ r.2.2, t.2.size ≤ 1048576
theorem RdB.below {w w' : World} {v : Value} {bs : List Bk} (h : RdB w v bs) (hb : Below w.heap.size w w') : RdB w' v bs := by
  obtain ⟨rs, e, h⟩ := h
  exact ⟨rs, e, h.below hb⟩
theorem RdB.form {w : World} {v : Value} {bs : List Bk} (h : RdB w v bs) : ∃ ad cap, v = .slice ad bs.length cap := by
  obtain ⟨rs, rfl, vd, vc, e, -⟩ := h
  exact ⟨vd, vc, by rw [e, List.length_map]⟩
theorem Fla.rdb {w : World} {lo hi : Nat} {v : Value} {bs : List Bk} (h : Fla lo hi v bs w) : RdB w v bs := by
  obtain ⟨ss, e, h⟩ := h
  exact ⟨ss, e, h.rd⟩
theorem RdB.lens {w : World} {v : Value} {bs : List Bk} (h : RdB w v bs) (hs : Sml bs) : ∃ rs : List Rw, rs.map tellOf = bs ∧ FlashRd w v rs ∧ rs.length ≤ 1048576 ∧ (∀ r ∈ rs, r.2.2.2.length ≤ 1048576) ∧ TxB rs := by
  obtain ⟨rs, rfl, h⟩ := h
  refine ⟨rs, rfl, h, by have := hs.1; rwa [List.length_map] at this, fun r hr => (hs.2 _ (List.mem_map_of_mem (f := tellOf) hr)).1, fun r hr t ht => (hs.2 _ (List.mem_map_of_mem (f := tellOf) hr)).2 t ht⟩
theorem Sml.modify {bs : List Bk} (h : Sml bs) (k : Nat) (f : Bk → Bk) (hf : ∀ r ∈ bs, (f r).2.2.length ≤ 1048576 ∧ ∀ t ∈ (f r).2.2, t.2.size ≤ 1048576) : Sml (bs.modify k f) := by
  refine ⟨by rw [List.length_modify]; exact h.1, fun r hr => ?_⟩
  obtain ⟨i, hi, rfl⟩ := List.getElem_of_mem hr
  rw [List.length_modify] at hi
  rw [List.getElem_modify]
  split
  · exact hf _ (List.getElem_mem _)
  · exact h.2 _ (List.getElem_mem _)
theorem Sml.prog {bs : List Bk} (h : Sml bs) (b leaf : Int) (t : ByteArray) : Sml (programF bs b leaf t).1 := by
  unfold programF
  split
  · rename_i h1
    rw [Bool.and_eq_true] at h1
    have ht : t.size ≤ 120 := by
      have h2 := h1.2
      unfold mayP at h2
      split at h2
      · cases h2
      · exact (of_decide_eq_true h2).2.2.2.2.2
    refine h.modify _ _ (fun r hr => ⟨by rw [List.length_set]; exact (h.2 r hr).1, fun u hu => ?_⟩)
    rcases List.mem_or_eq_of_mem_set hu with hu | rfl
    · exact (h.2 r hr).2 u hu
    · simp only; omega
  · exact h
theorem Sml.wipe {bs : List Bk} (h : Sml bs) (b : Int) : Sml (wipeF bs b).1 := by
  unfold wipeF
  split
  · refine h.modify _ _ (fun r hr => ⟨by simp [blank4], fun u hu => ?_⟩)
    simp only [blank4, List.mem_cons, List.not_mem_nil, or_false] at hu
    rcases hu with rfl | rfl | rfl | rfl <;> exact Nat.zero_le _
  · exact h
theorem Sml.step {bs : List Bk} (h : Sml bs) (s : Stp) : Sml (doF bs s).1 := by
  unfold doF
  split
  · exact h.prog _ _ _
  · split
    · exact h.wipe _
    · exact h
theorem scopy_b (v : Value) (bs : List Bk) (w : World) (hs : Sml bs) (ha : RdB w v bs) :
    Calls Tryz.prog 100 #[.agg #[v]] w fun e w' => ∃ u, e = .returned (.agg #[u]) ∧ FlashOf w' w.heap.size u bs ∧ Below w.heap.size w w' := by
  obtain ⟨rs, rfl, h, l, ll, lt⟩ := ha.lens hs
  exact scopy_rd v rs w l ll h
theorem icopy_b (v : Value) (bs : List Bk) (w : World) (hs : Sml bs) (ha : RdB w v bs) :
    Calls Tryz.prog 236 #[.agg #[v]] w fun e w' => ∃ u, e = .returned (.agg #[u]) ∧ FlashOf w' w.heap.size u bs ∧ Below w.heap.size w w' := by
  obtain ⟨rs, rfl, h, l, ll, lt⟩ := ha.lens hs
  exact icopy_rd v rs w l ll lt h
theorem sprog_b (v : Value) (bs : List Bk) (b leaf : Int) (t : ByteArray) (w : World) (hs : Sml bs) (ha : RdB w v bs) :
    Calls Tryz.prog 98 #[.agg #[v], .int .i64 b, .int .i64 leaf, .string t] w fun e w' => ∃ u, e = .returned (.tuple #[.agg #[u], .bool (programF bs b leaf t).2]) ∧ FlashOf w' w.heap.size u (programF bs b leaf t).1 ∧ Below w.heap.size w w' := by
  obtain ⟨rs, rfl, h, l, ll, lt⟩ := ha.lens hs
  exact sprog_rd v rs b leaf t w l ll h
theorem iprog_b (v : Value) (bs : List Bk) (b leaf : Int) (t : ByteArray) (w : World) (hs : Sml bs) (ha : RdB w v bs) :
    Calls Tryz.prog 235 #[.agg #[v], .int .i64 b, .int .i64 leaf, .string t] w fun e w' => ∃ u, e = .returned (.tuple #[.agg #[u], .bool (programF bs b leaf t).2]) ∧ FlashOf w' w.heap.size u (programF bs b leaf t).1 ∧ Below w.heap.size w w' := by
  obtain ⟨rs, rfl, h, l, ll, lt⟩ := ha.lens hs
  exact iprog_rd v rs b leaf t w l ll lt h
theorem swipe_b (v : Value) (bs : List Bk) (b : Int) (w : World) (hs : Sml bs) (ha : RdB w v bs) :
    Calls Tryz.prog 99 #[.agg #[v], .int .i64 b] w fun e w' => ∃ u, e = .returned (.tuple #[.agg #[u], .bool (wipeF bs b).2]) ∧ FlashOf w' w.heap.size u (wipeF bs b).1 ∧ Below w.heap.size w w' := by
  obtain ⟨rs, rfl, h, l, ll, lt⟩ := ha.lens hs
  exact swipe_rd v rs b w l ll h
theorem iwipe_b (v : Value) (bs : List Bk) (b : Int) (w : World) (hs : Sml bs) (ha : RdB w v bs) :
    Calls Tryz.prog 241 #[.agg #[v], .int .i64 b] w fun e w' => ∃ u, e = .returned (.tuple #[.agg #[u], .bool (wipeF bs b).2]) ∧ FlashOf w' w.heap.size u (wipeF bs b).1 ∧ Below w.heap.size w w' := by
  obtain ⟨rs, rfl, h, l, ll, lt⟩ := ha.lens hs
  exact iwipe_rd v rs b w l ll lt h
end Go.Proofs.YtfmnaidhfgmemaaGreatDoor

namespace Go.Proofs.YtfmnaidhfgmemaaGreatDoor
open Go.RowKit
def ifS (s : Stp) : Value := if s.1 = 1 then .iface 220 (.agg #[.int .i64 s.2.1, .int .i64 s.2.2.1, .string s.2.2.2]) else if s.1 = 2 then .iface 222 (.agg #[.int .i64 s.2.1]) else .iface 224 (.agg #[])
set_option maxHeartbeats 400000 in
set_option maxRecDepth 100000 in
theorem stepOf_any (s : Stp) (w : World) :
    Calls Tryz.prog 116 #[stV s] w fun e w' => e = .returned (ifS s) ∧ Below w.heap.size w w' := by
  obtain ⟨k, b, lf, t⟩ := s
  unfold stV ifS
  simp only
  have HB := hide ((Below.refl w.heap.size w).alloc (Nat.le_refl _) (.cells #[.int .i64 k, .int .i64 b, .int .i64 lf, .string t] 67))
  by_cases h1 : k = 1
  · subst h1
    rw [if_pos rfl]
    go_enter Tryz.func116, Tryz.ntmps116
    go_wp2
    go_ret
    exact ⟨rfl, HB.out⟩
  · have e1 : (k == 1) = false := by simpa using h1
    rw [if_neg h1]
    by_cases h2 : k = 2
    · subst h2
      rw [if_pos rfl]
      go_enter Tryz.func116, Tryz.ntmps116
      go_wp2
      go_ret
      exact ⟨rfl, HB.out⟩
    · have e2 : (k == 2) = false := by simpa using h2
      rw [if_neg h2]
      clear h1 h2
      go_enter Tryz.func116, Tryz.ntmps116
      go_wp2
      go_ret
      exact ⟨rfl, HB.out⟩
set_option maxHeartbeats 400000 in
set_option maxRecDepth 100000 in
theorem doneP_b (v : Value) (bs : List Bk) (b lf : Int) (t : ByteArray) (w : World) (hs : Sml bs) (ha : RdB w v bs) :
    Calls Tryz.prog 234 #[.agg #[.int .i64 b, .int .i64 lf, .string t], .agg #[v]] w fun e w' => ∃ u, e = .returned (.tuple #[.agg #[u], .bool (programF bs b lf t).2]) ∧ FlashOf w' w.heap.size u (programF bs b lf t).1 ∧ Below w.heap.size w w' := by
  obtain ⟨vd, vc, rfl⟩ := ha.form
  have T0 := hide (Tk.three w #[.int .i64 b, .int .i64 lf, .string t] #[.slice vd bs.length vc] #[.slice none 0 0] 220 39 39)
  have F0 := hide (ha.below T0.out.1)
  have HS := hide hs
  obtain ⟨R1, R2, hR⟩ : ∃ R1 R2, programF bs b lf t = (R1, R2) := ⟨_, _, rfl⟩
  have HP := hide hR
  rw [hR]
  clear ha hs hR
  have hn : w.heap.size ≤ w.heap.size + 1 + 1 := by omega
  go_enter Tryz.func234, Tryz.ntmps234
  go_wp2_with fail
  generalize ((w.alloc (.cells #[.int .i64 b, .int .i64 lf, .string t] 220)).alloc (.cells #[.slice vd bs.length vc] 39)).alloc (.cells #[.slice none 0 0] 39) = w0 at T0 F0 ⊢
  refine (iprog_b _ bs b lf t w0 HS.out F0.out).mono ?_
  rintro e w1 ⟨u, rfl, fo, b1⟩
  rw [HP.out] at fo ⊢
  simp only at fo ⊢
  obtain ⟨ud, uc, rfl⟩ := fo.form
  have T1 := hide (T0.out.fla b1 fo)
  have z0 : w.heap.size + 1 + 1 + 1 ≤ w0.heap.size := T0.out.hi 0 rfl
  have n1 : w1.cell? ⟨w.heap.size + 1 + 1, 0, none⟩ = some (.slice none 0 0) := T1.out.at 1 0 rfl rfl
  have f1 := T1.out.fr 1 0 rfl
  have T2 := hide (T1.out.write (hs' := [(w0.heap.size, w1.heap.size, Fla w0.heap.size w1.heap.size (.slice ud R1.length uc) R1)]) 1 rfl hn (.slice ud R1.length uc) (fun x hx => by rw [List.mem_singleton] at hx; subst hx; exact ⟨List.mem_cons_self .., Or.inr z0⟩))
  clear b1 fo T0 T1
  go_wp2
  exact bodyPost_ret (results_flash2 rfl _ _ (w.heap.size + 1 + 1) _ rfl (T2.out.get 0 rfl)) rfl ⟨_, rfl, (T2.out.get 1 rfl).of (T2.out.hi 1 rfl) (by omega), T2.out.1⟩
set_option maxHeartbeats 400000 in
set_option maxRecDepth 100000 in
theorem doneW_b (v : Value) (bs : List Bk) (b : Int) (w : World) (hs : Sml bs) (ha : RdB w v bs) :
    Calls Tryz.prog 240 #[.agg #[.int .i64 b], .agg #[v]] w fun e w' => ∃ u, e = .returned (.tuple #[.agg #[u], .bool (wipeF bs b).2]) ∧ FlashOf w' w.heap.size u (wipeF bs b).1 ∧ Below w.heap.size w w' := by
  obtain ⟨vd, vc, rfl⟩ := ha.form
  have T0 := hide (Tk.three w #[.int .i64 b] #[.slice vd bs.length vc] #[.slice none 0 0] 222 39 39)
  have F0 := hide (ha.below T0.out.1)
  have HS := hide hs
  obtain ⟨R1, R2, hR⟩ : ∃ R1 R2, wipeF bs b = (R1, R2) := ⟨_, _, rfl⟩
  have HP := hide hR
  rw [hR]
  clear ha hs hR
  have hn : w.heap.size ≤ w.heap.size + 1 + 1 := by omega
  go_enter Tryz.func240, Tryz.ntmps240
  go_wp2_with fail
  generalize ((w.alloc (.cells #[.int .i64 b] 222)).alloc (.cells #[.slice vd bs.length vc] 39)).alloc (.cells #[.slice none 0 0] 39) = w0 at T0 F0 ⊢
  refine (iwipe_b _ bs b w0 HS.out F0.out).mono ?_
  rintro e w1 ⟨u, rfl, fo, b1⟩
  rw [HP.out] at fo ⊢
  simp only at fo ⊢
  obtain ⟨ud, uc, rfl⟩ := fo.form
  have T1 := hide (T0.out.fla b1 fo)
  have z0 : w.heap.size + 1 + 1 + 1 ≤ w0.heap.size := T0.out.hi 0 rfl
  have n1 : w1.cell? ⟨w.heap.size + 1 + 1, 0, none⟩ = some (.slice none 0 0) := T1.out.at 1 0 rfl rfl
  have f1 := T1.out.fr 1 0 rfl
  have T2 := hide (T1.out.write (hs' := [(w0.heap.size, w1.heap.size, Fla w0.heap.size w1.heap.size (.slice ud R1.length uc) R1)]) 1 rfl hn (.slice ud R1.length uc) (fun x hx => by rw [List.mem_singleton] at hx; subst hx; exact ⟨List.mem_cons_self .., Or.inr z0⟩))
  clear b1 fo T0 T1
  go_wp2
  exact bodyPost_ret (results_flash2 rfl _ _ (w.heap.size + 1 + 1) _ rfl (T2.out.get 0 rfl)) rfl ⟨_, rfl, (T2.out.get 1 rfl).of (T2.out.hi 1 rfl) (by omega), T2.out.1⟩
set_option maxHeartbeats 400000 in
set_option maxRecDepth 100000 in
theorem doneN_b (v : Value) (bs : List Bk) (w : World) (hs : Sml bs) (ha : RdB w v bs) :
    Calls Tryz.prog 242 #[.agg #[], .agg #[v]] w fun e w' => ∃ u, e = .returned (.tuple #[.agg #[u], .bool false]) ∧ FlashOf w' w.heap.size u bs ∧ Below w.heap.size w w' := by
  obtain ⟨vd, vc, rfl⟩ := ha.form
  have T0 := hide (Tk.three w #[] #[.slice vd bs.length vc] #[.slice none 0 0] 224 39 39)
  have F0 := hide (ha.below T0.out.1)
  have HS := hide hs
  clear ha hs
  have hn : w.heap.size ≤ w.heap.size + 1 + 1 := by omega
  go_enter Tryz.func242, Tryz.ntmps242
  go_wp2_with fail
  generalize ((w.alloc (.cells #[] 224)).alloc (.cells #[.slice vd bs.length vc] 39)).alloc (.cells #[.slice none 0 0] 39) = w0 at T0 F0 ⊢
  refine (icopy_b _ bs w0 HS.out F0.out).mono ?_
  rintro e w1 ⟨u, rfl, fo, b1⟩
  obtain ⟨ud, uc, rfl⟩ := fo.form
  have T1 := hide (T0.out.fla b1 fo)
  have z0 : w.heap.size + 1 + 1 + 1 ≤ w0.heap.size := T0.out.hi 0 rfl
  have n1 : w1.cell? ⟨w.heap.size + 1 + 1, 0, none⟩ = some (.slice none 0 0) := T1.out.at 1 0 rfl rfl
  have f1 := T1.out.fr 1 0 rfl
  have T2 := hide (T1.out.write (hs' := [(w0.heap.size, w1.heap.size, Fla w0.heap.size w1.heap.size (.slice ud bs.length uc) bs)]) 1 rfl hn (.slice ud bs.length uc) (fun x hx => by rw [List.mem_singleton] at hx; subst hx; exact ⟨List.mem_cons_self .., Or.inr z0⟩))
  clear b1 fo T0 T1
  go_wp2
  exact bodyPost_ret (results_flash2 rfl _ _ (w.heap.size + 1 + 1) _ rfl (T2.out.get 0 rfl)) rfl ⟨_, rfl, (T2.out.get 1 rfl).of (T2.out.hi 1 rfl) (by omega), T2.out.1⟩
end Go.Proofs.YtfmnaidhfgmemaaGreatDoor

namespace Go.Proofs.YtfmnaidhfgmemaaGreatDoor
open Go.RowKit
theorem find_doneP (b lf : Int) (t : ByteArray) (w : World) : Sem.run Tryz.prog (method 404 220 (.agg #[.int .i64 b, .int .i64 lf, .string t]) "loop.example/g00195/impl.doneOn") w = .ok (234, .agg #[.int .i64 b, .int .i64 lf, .string t]) w := by kernel_rfl
theorem find_doneW (b : Int) (w : World) : Sem.run Tryz.prog (method 404 222 (.agg #[.int .i64 b]) "loop.example/g00195/impl.doneOn") w = .ok (240, .agg #[.int .i64 b]) w := by kernel_rfl
theorem find_doneN (w : World) : Sem.run Tryz.prog (method 404 224 (.agg #[]) "loop.example/g00195/impl.doneOn") w = .ok (242, .agg #[]) w := by kernel_rfl
set_option maxHeartbeats 800000 in
set_option maxRecDepth 100000 in
theorem ido_b (v : Value) (bs : List Bk) (s : Stp) (w : World) (hs : Sml bs) (ha : RdB w v bs) :
    Calls Tryz.prog 77 #[.agg #[v], stV s] w fun e w' => ∃ u, e = .returned (.tuple #[.agg #[u], .bool (doF bs s).2]) ∧ FlashOf w' w.heap.size u (doF bs s).1 ∧ Below w.heap.size w w' := by
  obtain ⟨vd, vc, rfl⟩ := ha.form
  obtain ⟨k, b, lf, t⟩ := s
  have CS := hide (stepOf_any (k, b, lf, t))
  unfold stV at CS ⊢
  unfold ifS at CS
  simp only at CS ⊢
  have T0 := hide (Tk.three w #[.slice vd bs.length vc] #[.int .i64 k, .int .i64 b, .int .i64 lf, .string t] #[.slice none 0 0] 39 67 39)
  have F0 := hide (ha.below T0.out.1)
  have HS := hide hs
  obtain ⟨R1, R2, hR⟩ : ∃ R1 R2, doF bs (k, b, lf, t) = (R1, R2) := ⟨_, _, rfl⟩
  have HR := hide hR
  rw [hR]
  clear ha hs hR
  have hn : w.heap.size ≤ w.heap.size + 1 + 1 := by omega
  by_cases h1 : k = 1
  · subst h1
    rw [if_pos rfl] at CS
    have HP : Hid (programF bs b lf t = (R1, R2)) := by show _ = _; rw [← HR.out]; simp [doF]
    have mP := find_doneP b lf t
    go_enter Tryz.func77, Tryz.ntmps77
    go_wp2_with fail
    generalize ((w.alloc (.cells #[.slice vd bs.length vc] 39)).alloc (.cells #[.int .i64 1, .int .i64 b, .int .i64 lf, .string t] 67)).alloc (.cells #[.slice none 0 0] 39) = w0 at T0 F0 ⊢
    have k0 : w0.cell? ⟨w.heap.size, 0, none⟩ = some (.slice vd bs.length vc) := T0.out.at 2 0 rfl rfl
    have k1 : w0.cell? ⟨w.heap.size + 1, 0, none⟩ = some (.int .i64 1) := T0.out.at 1 0 rfl rfl
    have k2 : w0.cell? ⟨w.heap.size + 1, 1, none⟩ = some (.int .i64 b) := T0.out.at 1 1 rfl rfl
    have k3 : w0.cell? ⟨w.heap.size + 1, 2, none⟩ = some (.int .i64 lf) := T0.out.at 1 2 rfl rfl
    have k4 : w0.cell? ⟨w.heap.size + 1, 3, none⟩ = some (.string t) := T0.out.at 1 3 rfl rfl
    have T0d := hide T0.out.drew
    have F0d := hide (F0.out.below (Below.refl _ _).drew)
    clear T0 F0
    go_region_with (first
      | (go_at_call 116; (with_reducible refine Calls.mono (CS.out _) ?_); rintro en w1 ⟨rfl, b1⟩; have T1 := hide (T0d.out.below b1); have F1 := hide (F0d.out.below b1); have q0 : w1.cell? ⟨w.heap.size, 0, none⟩ = some (.slice vd bs.length vc) := T1.out.at 2 0 rfl rfl; clear b1)
      | (go_at_call 234; (with_reducible refine Calls.mono (doneP_b _ bs b lf t w1 HS.out F1.out) ?_); rintro en w2 ⟨u, rfl, fo, b2⟩; rw [HP.out] at fo ⊢; simp only at fo ⊢; obtain ⟨ud, uc, rfl⟩ := fo.form; have T2 := hide (T1.out.fla b2 fo); have n2 : w2.cell? ⟨w.heap.size + 1 + 1, 0, none⟩ = some (.slice none 0 0) := T2.out.at 1 0 rfl rfl; have f2 := T2.out.fr 1 0 rfl; clear b2 fo))
    all_goals
      have z1 : w.heap.size + 1 + 1 + 1 ≤ w1.heap.size := T1.out.hi 0 rfl
      have T3 := hide (T2.out.write (hs' := [(w1.heap.size, w2.heap.size, Fla w1.heap.size w2.heap.size (.slice ud R1.length uc) R1)]) 1 rfl hn (.slice ud R1.length uc) (fun x hx => by rw [List.mem_singleton] at hx; subst hx; exact ⟨List.mem_cons_self .., Or.inr z1⟩))
      clear T1 T2 T0d F0d F1 k0 k1 k2 k3 k4 q0 mP n2 f2
      go_wp2
      exact bodyPost_ret (results_flash2 rfl _ _ (w.heap.size + 1 + 1) _ rfl (T3.out.get 0 rfl)) rfl ⟨_, rfl, (T3.out.get 1 rfl).of (T3.out.hi 1 rfl) (by omega), T3.out.1⟩
  · have e1 : (k == 1) = false := by simpa using h1
    rw [if_neg h1] at CS
    by_cases h2 : k = 2
    · subst h2
      rw [if_pos rfl] at CS
      have HP : Hid (wipeF bs b = (R1, R2)) := by show _ = _; rw [← HR.out]; simp [doF]
      have mP := find_doneW b
      go_enter Tryz.func77, Tryz.ntmps77
      go_wp2_with fail
      generalize ((w.alloc (.cells #[.slice vd bs.length vc] 39)).alloc (.cells #[.int .i64 2, .int .i64 b, .int .i64 lf, .string t] 67)).alloc (.cells #[.slice none 0 0] 39) = w0 at T0 F0 ⊢
      have k0 : w0.cell? ⟨w.heap.size, 0, none⟩ = some (.slice vd bs.length vc) := T0.out.at 2 0 rfl rfl
      have k1 : w0.cell? ⟨w.heap.size + 1, 0, none⟩ = some (.int .i64 2) := T0.out.at 1 0 rfl rfl
      have k2 : w0.cell? ⟨w.heap.size + 1, 1, none⟩ = some (.int .i64 b) := T0.out.at 1 1 rfl rfl
      have k3 : w0.cell? ⟨w.heap.size + 1, 2, none⟩ = some (.int .i64 lf) := T0.out.at 1 2 rfl rfl
      have k4 : w0.cell? ⟨w.heap.size + 1, 3, none⟩ = some (.string t) := T0.out.at 1 3 rfl rfl
      have T0d := hide T0.out.drew
      have F0d := hide (F0.out.below (Below.refl _ _).drew)
      clear T0 F0
      go_region_with (first
        | (go_at_call 116; (with_reducible refine Calls.mono (CS.out _) ?_); rintro en w1 ⟨rfl, b1⟩; have T1 := hide (T0d.out.below b1); have F1 := hide (F0d.out.below b1); have q0 : w1.cell? ⟨w.heap.size, 0, none⟩ = some (.slice vd bs.length vc) := T1.out.at 2 0 rfl rfl; clear b1)
        | (go_at_call 240; (with_reducible refine Calls.mono (doneW_b _ bs b w1 HS.out F1.out) ?_); rintro en w2 ⟨u, rfl, fo, b2⟩; rw [HP.out] at fo ⊢; simp only at fo ⊢; obtain ⟨ud, uc, rfl⟩ := fo.form; have T2 := hide (T1.out.fla b2 fo); have n2 : w2.cell? ⟨w.heap.size + 1 + 1, 0, none⟩ = some (.slice none 0 0) := T2.out.at 1 0 rfl rfl; have f2 := T2.out.fr 1 0 rfl; clear b2 fo))
      all_goals
        have z1 : w.heap.size + 1 + 1 + 1 ≤ w1.heap.size := T1.out.hi 0 rfl
        have T3 := hide (T2.out.write (hs' := [(w1.heap.size, w2.heap.size, Fla w1.heap.size w2.heap.size (.slice ud R1.length uc) R1)]) 1 rfl hn (.slice ud R1.length uc) (fun x hx => by rw [List.mem_singleton] at hx; subst hx; exact ⟨List.mem_cons_self .., Or.inr z1⟩))
        clear T1 T2 T0d F0d F1 k0 k1 k2 k3 k4 q0 mP n2 f2
        go_wp2
        exact bodyPost_ret (results_flash2 rfl _ _ (w.heap.size + 1 + 1) _ rfl (T3.out.get 0 rfl)) rfl ⟨_, rfl, (T3.out.get 1 rfl).of (T3.out.hi 1 rfl) (by omega), T3.out.1⟩
    · rw [if_neg h2] at CS
      have HP : Hid ((bs, false) = (R1, R2)) := by show _ = _; rw [← HR.out]; simp [doF, h1, h2]
      obtain ⟨rfl, rfl⟩ := Prod.mk.inj HP.out
      clear h1 h2 e1
      have mP := find_doneN
      go_enter Tryz.func77, Tryz.ntmps77
      go_wp2_with fail
      generalize ((w.alloc (.cells #[.slice vd bs.length vc] 39)).alloc (.cells #[.int .i64 k, .int .i64 b, .int .i64 lf, .string t] 67)).alloc (.cells #[.slice none 0 0] 39) = w0 at T0 F0 ⊢
      have k0 : w0.cell? ⟨w.heap.size, 0, none⟩ = some (.slice vd bs.length vc) := T0.out.at 2 0 rfl rfl
      have k1 : w0.cell? ⟨w.heap.size + 1, 0, none⟩ = some (.int .i64 k) := T0.out.at 1 0 rfl rfl
      have k2 : w0.cell? ⟨w.heap.size + 1, 1, none⟩ = some (.int .i64 b) := T0.out.at 1 1 rfl rfl
      have k3 : w0.cell? ⟨w.heap.size + 1, 2, none⟩ = some (.int .i64 lf) := T0.out.at 1 2 rfl rfl
      have k4 : w0.cell? ⟨w.heap.size + 1, 3, none⟩ = some (.string t) := T0.out.at 1 3 rfl rfl
      have T0d := hide T0.out.drew
      have F0d := hide (F0.out.below (Below.refl _ _).drew)
      clear T0 F0
      go_region_with (first
        | (go_at_call 116; (with_reducible refine Calls.mono (CS.out _) ?_); rintro en w1 ⟨rfl, b1⟩; have T1 := hide (T0d.out.below b1); have F1 := hide (F0d.out.below b1); have q0 : w1.cell? ⟨w.heap.size, 0, none⟩ = some (.slice vd bs.length vc) := T1.out.at 2 0 rfl rfl; clear b1)
        | (go_at_call 242; (with_reducible refine Calls.mono (doneN_b _ bs w1 HS.out F1.out) ?_); rintro en w2 ⟨u, rfl, fo, b2⟩; obtain ⟨ud, uc, rfl⟩ := fo.form; have T2 := hide (T1.out.fla b2 fo); have n2 : w2.cell? ⟨w.heap.size + 1 + 1, 0, none⟩ = some (.slice none 0 0) := T2.out.at 1 0 rfl rfl; have f2 := T2.out.fr 1 0 rfl; clear b2 fo))
      all_goals
        have z1 : w.heap.size + 1 + 1 + 1 ≤ w1.heap.size := T1.out.hi 0 rfl
        have T3 := hide (T2.out.write (hs' := [(w1.heap.size, w2.heap.size, Fla w1.heap.size w2.heap.size (.slice ud bs.length uc) bs)]) 1 rfl hn (.slice ud bs.length uc) (fun x hx => by rw [List.mem_singleton] at hx; subst hx; exact ⟨List.mem_cons_self .., Or.inr z1⟩))
        clear T1 T2 T0d F0d F1 k0 k1 k2 k3 k4 q0 mP n2 f2
        go_wp2
        exact bodyPost_ret (results_flash2 rfl _ _ (w.heap.size + 1 + 1) _ rfl (T3.out.get 0 rfl)) rfl ⟨_, rfl, (T3.out.get 1 rfl).of (T3.out.hi 1 rfl) (by omega), T3.out.1⟩
end Go.Proofs.YtfmnaidhfgmemaaGreatDoor

namespace Go.Proofs.YtfmnaidhfgmemaaGreatDoor
open Go.RowKit
end Go.Proofs.YtfmnaidhfgmemaaGreatDoor

namespace Go.Proofs.YtfmnaidhfgmemaaGreatDoor
open Go.RowKit
end Go.Proofs.YtfmnaidhfgmemaaGreatDoor

namespace Go.Proofs.YtfmnaidhfgmemaaGreatDoor
open Go.RowKit
def vlcell (t : Int × Int) : List Value := [.int .i64 t.1, .int .i64 t.2]
def vlcells (l : List (Int × Int)) : List Value := l.flatMap vlcell
theorem vlcells_len (l : List (Int × Int)) : (vlcells l).length = l.length * 2 := by
  induction l with
  | nil => rfl
  | cons t l ih => simp [vlcells, vlcell] at ih ⊢; omega
theorem vlcells_app (a b : List (Int × Int)) : vlcells (a ++ b) = vlcells a ++ vlcells b := by simp [vlcells]
theorem vlcells_cons (t : Int × Int) (l : List (Int × Int)) : vlcells (t :: l) = vlcell t ++ vlcells l := by simp [vlcells]
theorem vlcells_at (l : List (Int × Int)) (k : Nat) (t : Int × Int) (h : l[k]? = some t) (j : Nat) (v : Value) (hj : (vlcell t)[j]? = some v) : (vlcells l)[k * 2 + j]? = some v := by
  have hlt : j < 2 := (List.getElem?_eq_some_iff.1 hj).1
  induction l generalizing k with
  | nil => simp at h
  | cons a l ih =>
    rw [vlcells_cons]
    cases k with
    | zero =>
      simp at h
      subst h
      rw [List.getElem?_append_left (by show _ < 2; omega), Nat.zero_mul, Nat.zero_add]
      exact hj
    | succ k =>
      rw [List.getElem?_append_right (by show 2 ≤ _; omega), show (k + 1) * 2 + j - (vlcell a).length = k * 2 + j by show _ - 2 = _; omega]
      exact ih k (by simpa using h)
theorem infoVl : (Tryz.prog.info? 97).map (fun i => (i.zero, i.size, i.bytes)) = some (some (.agg #[.int .i64 0, .int .i64 0]), 2, 16) := by kernel_rfl
theorem infoVlz : (Tryz.prog.info? 97).map (·.size) = some 2 := by kernel_rfl
end Go.Proofs.YtfmnaidhfgmemaaGreatDoor

namespace Go.Proofs.YtfmnaidhfgmemaaGreatDoor
open Go.RowKit
set_option maxRecDepth 100000
def VlRow (w : World) (a : Option Addr) (len : Nat) (ls : List (Int × Int)) : Prop :=
  ls.length = len ∧ len ≤ maxLen ∧ (∀ t ∈ ls, True) ∧ (0 < len → ∃ b off, a = some ⟨b, off, none⟩ ∧ b < w.heap.size ∧ ∀ i t, ls[i]? = some t → w.cell? ⟨b, off + i * 2, none⟩ = some (.int .i64 t.1) ∧ w.cell? ⟨b, off + i * 2 + 1, none⟩ = some (.int .i64 t.2))
theorem VlRow.below {w w' : World} {a : Option Addr} {len : Nat} {ls : List (Int × Int)} (h : VlRow w a len ls) (hb : Below w.heap.size w w') : VlRow w' a len ls := by
  obtain ⟨h1, h2, h3, h4⟩ := h
  refine ⟨h1, h2, h3, fun h0 => ?_⟩
  obtain ⟨b, off, e, hl, hc⟩ := h4 h0
  have hs := hb.size
  refine ⟨b, off, e, by omega, fun i t ht => ?_⟩
  obtain ⟨c0, c1⟩ := hc i t ht
  exact ⟨(hb.cell (show b < w.heap.size from hl)).trans c0, (hb.cell (show b < w.heap.size from hl)).trans c1⟩
theorem VlRow.at {w : World} {a : Option Addr} {len : Nat} {ls : List (Int × Int)} (h : VlRow w a len ls) {k : Nat} {t : Int × Int} (hk : ls[k]? = some t) :
    ∃ b off, a = some ⟨b, off, none⟩ ∧ b < w.heap.size ∧ w.cell? ⟨b, off + k * 2, none⟩ = some (.int .i64 t.1) ∧ w.cell? ⟨b, off + k * 2 + 1, none⟩ = some (.int .i64 t.2) := by
  obtain ⟨h1, -, -, h4⟩ := h
  have hl := (List.getElem?_eq_some_iff.1 hk).1
  obtain ⟨b, off, e, hb, hc⟩ := h4 (by omega)
  obtain ⟨c0, c1⟩ := hc k t hk
  exact ⟨b, off, e, hb, c0, c1⟩
end Go.Proofs.YtfmnaidhfgmemaaGreatDoor
