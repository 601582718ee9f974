/-
  The walk of impl's spread of a block's words.
-/
import Derived.Test.YtaolinlginloaacDoorImplS
import Derived.Test.YtaolinlginloaacDoorRound
namespace Go.Proofs.YtaolinlginloaacDoor
open Go.RowKit
open Dig

theorem info64 : (Tryd.prog.info? 133).map (·.size) = some 64 := by kernel_rfl

/-- The words of a block, as far as they are there. -/
def fillN (k : Nat) (b : List UInt8) : List Nat := if k ≤ 16 then wordsN k b else sched (k - 16) (wordsN 16 b)
theorem fillN_len (k : Nat) (b : List UInt8) : (fillN k b).length = k := by
  unfold fillN
  split
  · exact wordsN_len k b
  · rw [sched_len, wordsN_len]; omega
theorem fillN_lt (k : Nat) (b : List UInt8) : ∀ x ∈ fillN k b, x < 4294967296 := by
  unfold fillN
  split
  · exact wordsN_lt k b
  · exact sched_lt _ _ (wordsN_lt 16 b)
theorem fillN_low (k : Nat) (b : List UInt8) (hk : k < 16) : fillN (k + 1) b = fillN k b ++ [word (b.drop (4 * k))] := by
  unfold fillN
  rw [if_pos (by omega), if_pos (by omega)]
  rfl
theorem fillN_high (k : Nat) (b : List UInt8) (hk : 16 ≤ k) : fillN (k + 1) b = fillN k b ++ [next (fillN k b)] := by
  unfold fillN
  rw [if_neg (by omega)]
  have e : k + 1 - 16 = (k - 16) + 1 := by omega
  rw [e]
  show sched (k - 16) _ ++ [next (sched (k - 16) _)] = _
  by_cases h : k ≤ 16
  · have : k = 16 := by omega
    subst this
    rfl
  · rw [if_neg h]
theorem fillN_all (b : List UInt8) (hb : b.length = 64) : fillN 64 b = sched 48 (words b) := by
  unfold fillN words
  rw [if_neg (by omega), hb]

/-- The array as far as it is filled. -/
def arrN (k : Nat) (b : List UInt8) : List Nat := fillN k b ++ List.replicate (64 - k) 0
theorem arrN_len (k : Nat) (b : List UInt8) (hk : k ≤ 64) : (arrN k b).length = 64 := fill_len _ 64 k (fillN_len k b) hk
theorem arrN_set (k x : Nat) (b : List UInt8) (hk : k < 64) (hx : fillN (k + 1) b = fillN k b ++ [x]) : (arrN k b).set k x = arrN (k + 1) b := by
  unfold arrN
  rw [fill_set _ 64 k x (fillN_len k b) hk, hx]
theorem arrN_at (k j : Nat) (b : List UInt8) (hj : j < k) : (arrN k b)[j]? = (fillN k b)[j]? := by
  unfold arrN
  rw [List.getElem?_append_left (by rw [fillN_len]; exact hj)]

set_option maxHeartbeats 1000000 in
set_option maxRecDepth 100000 in
theorem spread_any (b : ByteArray) (w : World) (hb : b.size = 64) :
    Calls Tryd.prog 94 #[.string b] w fun e w' => e = .returned (wagg (sched 48 (words b.data.toList))) ∧ Below w.heap.size w w' := by
  have EW := hide (fillN_all b.data.toList (by simpa using hb))
  go_enter Tryd.func94, Tryd.ntmps94
  go_wp2
  go_loopw [5] (fun iv wr => ∃ k : Nat, k ≤ 64 ∧ iv = .int .i64 k ∧ Hid (VAt wr (w.heap.size + 1) (arrN k b.data.toList)) ∧ Hid (VAt wr w.heap.size (List.replicate 64 0)) ∧ Below w.heap.size w wr) (fun iv _ => 64 - (intOf iv).toNat)
  case atStart =>
    refine ⟨0, by omega, rfl, ?_, ?_, ((Below.refl _ _).alloc (Nat.le_refl _) _).alloc (by simp) _⟩
    · have := v_new (w.alloc (.cells (List.replicate 64 (Value.int .u32 0)).toArray 133)) (List.replicate 64 0) (List.replicate 64 (Value.int .u32 0)).toArray 133 rfl
      have e : (w.alloc (.cells (List.replicate 64 (Value.int .u32 0)).toArray 133)).heap.size = w.heap.size + 1 := by simp
      rw [e] at this
      exact this
    · exact (v_new w (List.replicate 64 0) (List.replicate 64 (Value.int .u32 0)).toArray _ rfl).alloc _
  case round =>
    obtain ⟨k, hk, rfl, HV, HZ, hbel⟩ := hrel
    have hsz := hbel.size
    by_cases hlt : (k : Int) < 64
    · have hlen := arrN_len k b.data.toList (by omega)
      by_cases h16 : (k : Int) < 16
      · have F := hide (arrN_set k _ b.data.toList (by omega) (fillN_low k b.data.toList (by omega)))
        go_wp2_with fail
        refine (wordAt_int b _ (4 * k) (by omega) _ (by unfold maxLen; omega) (by omega)).mono ?_
        rintro e w1 ⟨rfl, hb1⟩
        have hbb : Below w.heap.size w w1 := hbel.trans (hb1.mono hsz)
        have HV1 := hide (HV.out.below hb1 HV.out.1.1)
        have HZ1 := hide (HZ.out.below hb1 HZ.out.1.1)
        obtain ⟨xo, kc⟩ : ∃ xo, w1.cell? ⟨w.heap.size + 1, k, none⟩ = some xo := ⟨_, HV1.out.1.2 k (by omega)⟩
        have kf := HV1.out.2 k
        have HV2 := hide (HV1.out.set k (word (b.data.toList.drop (4 * k))))
        rw [F.out] at HV2
        generalize word (b.data.toList.drop (4 * k)) = x at HV2
        have HZ2 := hide (HZ1.out.other (r := w.heap.size + 1) (i := k) (u := .int .u32 x) (by omega))
        have hb2 := hbb.setCell (p := ⟨w.heap.size + 1, k, none⟩) (by show w.heap.size ≤ w.heap.size + 1; omega) (.int .u32 x)
        clear HV HZ hbel hb1 HV1 HZ1 F hbb
        go_wp2
        go_roundw
        case rel => exact ⟨k + 1, by omega, by go_num, HV2, HZ2, hb2⟩
        case measure => simp [intOf]; omega
      · obtain ⟨a2, a7, a15, a16, x2, x7, x15, x16, s2, s15, y1, y2, y3, la2, la7, la15, la16, t2, t7, t15, t16, g2, g7, g15, g16, b2, b15, e2, e15, z1, z2, z3, en⟩ := next_open (fillN k b.data.toList) k (fillN_len k _) (by omega) (fillN_lt k _)
        have F := arrN_set k _ b.data.toList (by omega) (fillN_high k b.data.toList (by omega))
        rw [en] at F
        rw [← arrN_at k _ _ la2] at g2
        rw [← arrN_at k _ _ la7] at g7
        rw [← arrN_at k _ _ la15] at g15
        rw [← arrN_at k _ _ la16] at g16
        have k2 := words_at HV.out.1 a2 x2 g2
        have k7 := words_at HV.out.1 a7 x7 g7
        have k15 := words_at HV.out.1 a15 x15 g15
        have k16 := words_at HV.out.1 a16 x16 g16
        obtain ⟨xo, kc⟩ : ∃ xo, wr.cell? ⟨w.heap.size + 1, k, none⟩ = some xo := ⟨_, HV.out.1.2 k (by omega)⟩
        have kf := HV.out.2 k
        have HV2 := hide (HV.out.set k y3)
        rw [F] at HV2
        have HZ2 := hide (HZ.out.other (r := w.heap.size + 1) (i := k) (u := .int .u32 y3) (by omega))
        have hb2 := hbel.setCell (p := ⟨w.heap.size + 1, k, none⟩) (by show w.heap.size ≤ w.heap.size + 1; omega) (.int .u32 y3)
        have o : ∀ (j x : Nat), j < k → wr.cell? ⟨w.heap.size + 1, j, none⟩ = some (.int .u32 x) → ((wr.setCell ⟨w.heap.size + 1, k, none⟩ (.int .u32 y3)).drew).cell? ⟨w.heap.size + 1, j, none⟩ = some (.int .u32 x) := by
          intro j x hj hc
          show (wr.setCell ⟨w.heap.size + 1, k, none⟩ (.int .u32 y3)).cell? ⟨w.heap.size + 1, j, none⟩ = _
          rw [World.cell?_setCell_other _ _ _ _ (fun e => by injection e with _ e; omega)]
          exact hc
        have HKp := hide (And.intro (o a2 x2 la2 k2) (And.intro (o a7 x7 la7 k7) (And.intro (o a15 x15 la15 k15) (o a16 x16 la16 k16))))
        have E2 := hide e2
        have E15 := hide e15
        clear o
        have w2 : IntKind.i64.wrap ((k : Int) - 2) = (a2 : Int) := by rw [IntKind.wrap_i64]; omega
        have w7 : IntKind.i64.wrap ((k : Int) - 7) = (a7 : Int) := by rw [IntKind.wrap_i64]; omega
        have w15 : IntKind.i64.wrap ((k : Int) - 15) = (a15 : Int) := by rw [IntKind.wrap_i64]; omega
        have w16 : IntKind.i64.wrap ((k : Int) - 16) = (a16 : Int) := by rw [IntKind.wrap_i64]; omega
        have p2 : (0 : Int) ≤ a2 := by omega
        have p7 : (0 : Int) ≤ a7 := by omega
        have p15 : (0 : Int) ≤ a15 := by omega
        have p16 : (0 : Int) ≤ a16 := by omega
        have q2 : (a2 : Int) < 64 := by omega
        have q7 : (a7 : Int) < 64 := by omega
        have q15 : (a15 : Int) < 64 := by omega
        have q16 : (a16 : Int) < 64 := by omega
        have pk : (0 : Int) ≤ k := by omega
        clear F en e2 e15 g2 g7 g15 g16 t2 t7 t15 t16 HV HZ hbel EW
        go_wp2
        go_region_held3 (fun w' => w'.cell? ⟨w.heap.size + 1, a2, none⟩ = some (.int .u32 x2) ∧ w'.cell? ⟨w.heap.size + 1, a7, none⟩ = some (.int .u32 x7) ∧ w'.cell? ⟨w.heap.size + 1, a15, none⟩ = some (.int .u32 x15) ∧ w'.cell? ⟨w.heap.size + 1, a16, none⟩ = some (.int .u32 x16)) (first | (with_reducible exact HKp.out) | go_keep) (first
          | (go_at_call 95; with_reducible refine Calls.mono (mixed_w2 x2 _ b2) ?_; rintro e w' ⟨rfl, rfl⟩; rw [E2.out])
          | (go_at_call 95; with_reducible refine Calls.mono (mixed_w15 x15 _ b15) ?_; rintro e w' ⟨rfl, rfl⟩; rw [E15.out]))
        have HV3 : Hid (VAt (wr.setCell ⟨w.heap.size + 1, k, none⟩ (.int .u32 y3)).drew (w.heap.size + 1) (arrN (k + 1) b.data.toList)) := HV2
        have HZ3 : Hid (VAt (wr.setCell ⟨w.heap.size + 1, k, none⟩ (.int .u32 y3)).drew w.heap.size (List.replicate 64 0)) := HZ2
        have HB3 := hide hb2.drew
        generalize (wr.setCell ⟨w.heap.size + 1, k, none⟩ (.int .u32 y3)).drew = w3 at HV3 HZ3 HB3
        clear HV2 HZ2 hb2 HKp k2 k7 k15 k16 kc kf z1 z2 z3 w2 w7 w15 w16 E2 E15
        go_wp2
        go_roundw
        case rel => exact ⟨k + 1, by omega, by go_num, HV3, HZ3, HB3.out⟩
        case measure => simp [intOf]; omega
    · have e64 : k = 64 := by omega
      subst e64
      have hw64 : (sched 48 (words b.data.toList)).length = 64 := by rw [← EW.out, fillN_len]
      have HV8 : Hid (VAt wr (w.heap.size + 1) (sched 48 (words b.data.toList))) := by
        have := HV.out
        unfold arrN at this
        rw [EW.out] at this
        show VAt _ _ _
        simpa using this
      obtain ⟨L, hL⟩ : ∃ L, sched 48 (words b.data.toList) = L := ⟨_, rfl⟩
      rw [hL] at HV8 hw64
      have EL := hide hL
      clear hL EW
      have hr : (List.replicate 64 0 : List Nat).length = 64 := List.length_replicate
      clear HV
      go_wp2_with (first
        | refine wpList_load_words rfl _ _ rfl (w.heap.size + 1) rfl L _ HV8.out.1 Tryd.underlying133 rfl (by rw [hw64]; exact info64) ?_
        | (refine wpList_store_words rfl _ _ _ rfl w.heap.size L (List.replicate 64 0) rfl rfl HZ.out (by rw [hw64, hr]) (by rw [hw64]; exact info64) ?_; intro w2 hw2))
      have hV2 : VAt (wr.setCells w.heap.size 0 (wcells L)) w.heap.size L := HZ.out.store L (by rw [hw64, hr])
      exact bodyPost_ret (results_words rfl _ _ _ _ _ rfl hV2.1 Tryd.underlying133 rfl (by rw [hw64]; exact info64)) rfl ⟨by rw [EL.out], below_cellsD (Nat.le_refl _) _ _ _ hbel⟩
end Go.Proofs.YtaolinlginloaacDoor
