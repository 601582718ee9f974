/-
  Keeps; Round; ImplR
-/
import Derived.Test.YtcjgjkejhkhknabGreatDoorPk0
import Derived.Deep.AppendLies
import Derived.Test.YtcjgjkejhkhknabGreatDoorPk44
/-
  An append to a row that the call owns leaves the cells that the row had.
-/
namespace Go.Proofs.YtcjgjkejhkhknabGreatDoor
open Go.RowKit

section
variable {P : Program}
theorem append_keeps (w : World) (t ty : TypeId) (base : Nat) (e : TypeId) (i : TypeInfo) (z : Value) (bytes : Nat) (ht : P.underlying t = some (.slice e)) (hi : P.info? e = some i) (hz : i.zero = some z)
    (hsize : i.size = 1) (hby : i.bytes = bytes) (hzs : z.cells.size = 1) (g0 cap0 n : Nat) (xs : List Value) (hown : w.ownsRow base e 1 (.slice (some ⟨g0, 0, none⟩) n cap0) n xs)
    (ad : Addr) (m c : Nat) (news : List Value) (hl : news.length = m) (hnews : ∀ j u, news[j]? = some u → w.cell? (ad.add j) = some u) (h1 : ∀ u ∈ news, u.oneCell' = true)
    (hm : 0 < m) (h63 : n + m ≤ maxLen) (hbytes : (n + m) * bytes ≤ 140737488355328) (hbase : base ≤ w.heap.size) :
    ∃ g cap w', (Builtin.append_ #[t, t] ty #[.slice (some ⟨g0, 0, none⟩) n cap0, .slice (some ad) m c]).run P w = .ok (.slice (some ⟨g, 0, none⟩) (n + m) cap) w' ∧
      w'.ownsRow base e 1 (.slice (some ⟨g, 0, none⟩) (n + m) cap) (n + m) (xs ++ news) ∧ w.grownBy w' (some g0) ∧ ∀ j, j < n → w'.cell? ⟨g0, j, none⟩ = w.cell? ⟨g0, j, none⟩ := by
  obtain ⟨g, cap, w', hr, h2, h3, -, -⟩ := run_append_lies (P := P) w t ty base e i z 1 bytes ht hi hz hsize hby hzs (by omega) _ n xs hown ad m c news (by omega) hnews h1 hm h63 hbytes hbase _ rfl
  refine ⟨g, cap, w', hr, h2, h3, ?_⟩
  intro j hj
  have hsm : n + m ≤ 9223372036854775807 := by simp only [maxLen] at h63; omega
  rcases hown.2 with ⟨h, -⟩ | ⟨g1, cap1, cur, h, -, hg, hnc, -, hcs, -⟩
  · cases h
  · obtain ⟨rfl, rfl⟩ : g0 = g1 ∧ cap0 = cap1 := by
      injection h with h h' h''
      simp at h
      exact ⟨h, h''⟩
    by_cases hroom : n + m ≤ cap0
    · have hx := run_append_room (P := P) w t ty e i ht hi g0 n cap0 cur hg ad m c news (by rw [hsize]; omega) hnews h1 hroom (by rw [hsize, hcs]; omega)
      rw [hr] at hx
      injection hx with _ hw
      rw [hw, cell_of_row _ g0 j _ e (0, 0) (setRow_heap w g0 cur _ e _ hg), cell_of_row w g0 j cur e (0, 0) hg]
      have hjc : j < cur.size := by rw [hcs]; omega
      have hjn : j < n * i.size := by rw [hsize]; omega
      rw [List.getElem?_toArray, List.append_assoc, List.getElem?_append_left (by rw [List.length_take]; simp; omega), List.getElem?_take_of_lt hjn]
      simp
    · have holds : ∀ j u, xs[j]? = some u → w.cell? ((⟨g0, 0, none⟩ : Addr).add j) = some u := hown.cells (g := g0) rfl
      have hx := run_append_grow (P := P) w t ty e i z ht hi hz ⟨g0, 0, none⟩ n cap0 xs (by rw [hsize]; exact hown.1) holds ad m c news (by rw [hsize]; omega) hnews (by omega) (by omega) (growslice_fits (by omega) (by rw [hby]; exact hbytes))
      rw [hr] at hx
      injection hx with _ hw
      have hlt : g0 < w.heap.size := (Array.getElem?_eq_some_iff.1 hg).1
      rw [hw, World.cell?_alloc_lt _ _ _ (show g0 < w.drew.heap.size from hlt)]
      rfl

/-- At a step of a region that draws. -/
theorem step_append_keeps (w : World) {ops : Array Oper} {o : Oper} {a : Act} {K : Act → World → Prop} {Q : Exit → Act → World → Prop} {E : Prop} (hgd : o.guard = none) (s x : Operand) (t : TypeId)
    (ho : o.op = .call { callee := .builtin .append, args := #[s, x], argTypes := #[t, t] })
    (base : Nat) (e : TypeId) (i : TypeInfo) (z : Value) (bytes : Nat) (ht : P.underlying t = some (.slice e)) (hi : P.info? e = some i) (hz : i.zero = some z)
    (hsize : i.size = 1) (hby : i.bytes = bytes) (hzs : z.cells.size = 1) (g0 cap0 n : Nat) (xs : List Value) (hs : a.eval s = .slice (some ⟨g0, 0, none⟩) n cap0) (hown : w.ownsRow base e 1 (.slice (some ⟨g0, 0, none⟩) n cap0) n xs)
    (ad : Addr) (m c : Nat) (news : List Value) (hx : a.eval x = .slice (some ad) m c) (hl : news.length = m) (hnews : ∀ j u, news[j]? = some u → w.cell? (ad.add j) = some u) (h1 : ∀ u ∈ news, u.oneCell' = true)
    (hm : 0 < m) (h63 : n + m ≤ maxLen) (hbytes : (n + m) * bytes ≤ 140737488355328) (hbase : base ≤ w.heap.size)
    (h : ∀ g cap w', w'.ownsRow base e 1 (.slice (some ⟨g, 0, none⟩) (n + m) cap) (n + m) (xs ++ news) → w.grownBy w' (some g0) → (∀ j, j < n → w'.cell? ⟨g0, j, none⟩ = w.cell? ⟨g0, j, none⟩) → K (a.put o.dst (.slice (some ⟨g, 0, none⟩) (n + m) cap)) w') :
    if Region.wanted o (yielded ops a.tmps) = true then Oper.wp P o a w K Q else E := by
  have hw : Region.wanted o (yielded ops a.tmps) = true := by simp [Region.wanted, hgd]
  rw [if_pos hw]
  obtain ⟨g, cap, w', hr, h2, h3, h4⟩ := append_keeps (P := P) w t o.type base e i z bytes ht hi hz hsize hby hzs g0 cap0 n xs hown ad m c news hl hnews h1 hm h63 hbytes hbase
  unfold Oper.wp execOp
  simp only [ho, resolve, invoke, builtin, Sem.run_bind, Sem.run_pure, Result.andThen_ok, List.map_toArray, List.map_cons, List.map_nil, hs, hx, hr]
  exact h g cap w' h2 h3 h4
end
end Go.Proofs.YtcjgjkejhkhknabGreatDoor

/-
  The walk of the specification's round of a block.
-/
namespace Go.Proofs.YtcjgjkejhkhknabGreatDoor
open Go.RowKit
open Dig

theorem own_open {w : World} {base : Nat} {v : Value} {l : List Nat} (h : w.ownsRow base 131 1 v l.length (wcells l)) (h0 : 0 < l.length) :
    ∃ g cap, v = .slice (some ⟨g, 0, none⟩) l.length cap ∧ base ≤ g ∧ WordsAt w g l ∧ ∀ j, w.frozen? ⟨g, j, none⟩ = false := by
  have h1 := h.lt
  have h2 := h
  rcases h.2 with ⟨-, h0'⟩ | ⟨g, cap, cur, rfl, -, -, -, -, -, -⟩
  · omega
  · have hg := h1 g rfl
    refine ⟨g, cap, rfl, hg.1, ⟨hg.2, fun j hj => ?_⟩, fun j => h2.frozenAt j⟩
    have := h2.cells (g := g) rfl j _ (wcells_at l j hj)
    rw [addr_at] at this
    exact this

theorem grown_below' {B g : Nat} {w w1 w2 : World} (h : Below B w w1) (hg : w1.grownBy w2 (some g)) (hB : B ≤ g) (hs : B ≤ w1.heap.size) : Below B w w2 :=
  h.grown hg hs (fun k hk => by cases hk; exact hB)
theorem joined_at {v u : List Nat} (h : St v) (k : St u) (i : Nat) (hi : i < 8) : ∃ x y z : Nat, v[i]? = some x ∧ u[i]? = some y ∧ IntKind.u32.wrap ((x : Int) + y) = z ∧ (joined v u).take (i + 1) = (joined v u).take i ++ [z] := by
  have hl : i < (joined v u).length := by rw [(joined_st h k).1]; omega
  have hv : i < v.length := by rw [h.1]; omega
  have hu : i < u.length := by rw [k.1]; omega
  refine ⟨v[i], u[i], (v[i] + u[i]) % 4294967296, List.getElem?_eq_getElem hv, List.getElem?_eq_getElem hu, by rw [IntKind.wrap_u32']; omega, ?_⟩
  rw [List.take_succ_eq_append_getElem hl]
  simp [joined]
theorem low_17 : Low 131072 := ⟨by decide, by decide⟩
theorem low_19 : Low 524288 := ⟨by decide, by decide⟩
theorem low_10 : Low 1024 := ⟨by decide, by decide⟩
theorem low_7 : Low 128 := ⟨by decide, by decide⟩
theorem low_18 : Low 262144 := ⟨by decide, by decide⟩
theorem low_3 : Low 8 := ⟨by decide, by decide⟩
theorem low_6 : Low 64 := ⟨by decide, by decide⟩
theorem low_11 : Low 2048 := ⟨by decide, by decide⟩
theorem low_25 : Low 33554432 := ⟨by decide, by decide⟩
theorem low_2 : Low 4 := ⟨by decide, by decide⟩
theorem low_13 : Low 8192 := ⟨by decide, by decide⟩
theorem low_22 : Low 4194304 := ⟨by decide, by decide⟩

/-- What a step of the schedule reads and makes. -/
theorem next_open (L : List Nat) (t : Nat) (ht : L.length = t) (h16 : 16 ≤ t) (hL : ∀ x ∈ L, x < 4294967296) :
    ∃ (a2 a7 a15 a16 x2 x7 x15 x16 s2 s15 y1 y2 y3 : Nat), a2 < t ∧ a7 < t ∧ a15 < t ∧ a16 < t ∧ (t : Int) - 2 = a2 ∧ (t : Int) - 7 = a7 ∧ (t : Int) - 15 = a15 ∧ (t : Int) - 16 = a16 ∧
      L[a2]? = some x2 ∧ L[a7]? = some x7 ∧ L[a15]? = some x15 ∧ L[a16]? = some x16 ∧ x2 < 4294967296 ∧ x15 < 4294967296 ∧
      sig x2 131072 524288 1024 true = s2 ∧ sig x15 128 262144 8 true = s15 ∧ IntKind.u32.wrap ((s2 : Int) + x7) = y1 ∧ IntKind.u32.wrap ((y1 : Int) + s15) = y2 ∧ IntKind.u32.wrap ((y2 : Int) + x16) = y3 ∧ next L = y3 := by
  have g : ∀ k, 2 ≤ k → k ≤ 16 → L[t - k]? = some (L.getD (t - k) 0) ∧ L.getD (t - k) 0 < 4294967296 := by
    intro k h1 h2
    have hlt : t - k < L.length := by omega
    rw [List.getD_eq_getElem?_getD, List.getElem?_eq_getElem hlt]
    exact ⟨rfl, hL _ (List.getElem_mem _)⟩
  refine ⟨t - 2, t - 7, t - 15, t - 16, L.getD (t - 2) 0, L.getD (t - 7) 0, L.getD (t - 15) 0, L.getD (t - 16) 0, _, _,
    (sig (L.getD (t - 2) 0) 131072 524288 1024 true + L.getD (t - 7) 0) % 4294967296,
    ((sig (L.getD (t - 2) 0) 131072 524288 1024 true + L.getD (t - 7) 0) % 4294967296 + sig (L.getD (t - 15) 0) 128 262144 8 true) % 4294967296,
    (((sig (L.getD (t - 2) 0) 131072 524288 1024 true + L.getD (t - 7) 0) % 4294967296 + sig (L.getD (t - 15) 0) 128 262144 8 true) % 4294967296 + L.getD (t - 16) 0) % 4294967296,
    by omega, by omega, by omega, by omega, by omega, by omega, by omega, by omega,
    (g 2 (by omega) (by omega)).1, (g 7 (by omega) (by omega)).1, (g 15 (by omega) (by omega)).1, (g 16 (by omega) (by omega)).1, (g 2 (by omega) (by omega)).2, (g 15 (by omega) (by omega)).2, rfl, rfl, ?_, ?_, ?_, ?_⟩
  · rw [IntKind.wrap_u32']; omega
  · rw [IntKind.wrap_u32']; omega
  · rw [IntKind.wrap_u32']; omega
  · unfold next
    rw [ht]
    omega

end Go.Proofs.YtcjgjkejhkhknabGreatDoor

/-
  The walk of impl's spread of a block's words.
-/
namespace Go.Proofs.YtcjgjkejhkhknabGreatDoor
open Go.RowKit
open Dig

theorem info64 : (Tryz.prog.info? 202).map (·.size) = some 64 := by kernel_rfl

/-- The words of a block, as far as they are there. -/
def fillN (k : Nat) (b : List UInt8) : List Nat := if k ≤ 16 then wordsN k b else sched (k - 16) (wordsN 16 b)
theorem fillN_len (k : Nat) (b : List UInt8) : (fillN k b).length = k := by
  unfold fillN
  split
  · exact wordsN_len k b
  · rw [sched_len, wordsN_len]; omega
theorem fillN_lt (k : Nat) (b : List UInt8) : ∀ x ∈ fillN k b, x < 4294967296 := by
  unfold fillN
  split
  · exact wordsN_lt k b
  · exact sched_lt _ _ (wordsN_lt 16 b)
theorem fillN_low (k : Nat) (b : List UInt8) (hk : k < 16) : fillN (k + 1) b = fillN k b ++ [word (b.drop (4 * k))] := by
  unfold fillN
  rw [if_pos (by omega), if_pos (by omega)]
  rfl
theorem fillN_high (k : Nat) (b : List UInt8) (hk : 16 ≤ k) : fillN (k + 1) b = fillN k b ++ [next (fillN k b)] := by
  unfold fillN
  rw [if_neg (by omega)]
  have e : k + 1 - 16 = (k - 16) + 1 := by omega
  rw [e]
  show sched (k - 16) _ ++ [next (sched (k - 16) _)] = _
  by_cases h : k ≤ 16
  · have : k = 16 := by omega
    subst this
    rfl
  · rw [if_neg h]
theorem fillN_all (b : List UInt8) (hb : b.length = 64) : fillN 64 b = sched 48 (words b) := by
  unfold fillN words
  rw [if_neg (by omega), hb]

/-- The array as far as it is filled. -/
def arrN (k : Nat) (b : List UInt8) : List Nat := fillN k b ++ List.replicate (64 - k) 0
theorem arrN_len (k : Nat) (b : List UInt8) (hk : k ≤ 64) : (arrN k b).length = 64 := fill_len _ 64 k (fillN_len k b) hk
theorem arrN_set (k x : Nat) (b : List UInt8) (hk : k < 64) (hx : fillN (k + 1) b = fillN k b ++ [x]) : (arrN k b).set k x = arrN (k + 1) b := by
  unfold arrN
  rw [fill_set _ 64 k x (fillN_len k b) hk, hx]
theorem arrN_at (k j : Nat) (b : List UInt8) (hj : j < k) : (arrN k b)[j]? = (fillN k b)[j]? := by
  unfold arrN
  rw [List.getElem?_append_left (by rw [fillN_len]; exact hj)]

set_option maxHeartbeats 1000000 in
set_option maxRecDepth 100000 in
theorem spread_any (b : ByteArray) (w : World) (hb : b.size = 64) :
    Calls Tryz.prog 137 #[.string b] w fun e w' => e = .returned (wagg (sched 48 (words b.data.toList))) ∧ Below w.heap.size w w' := by
  have EW := hide (fillN_all b.data.toList (by simpa using hb))
  go_enter Tryz.func137, Tryz.ntmps137
  go_wp2
  go_loopw [5] (fun iv wr => ∃ k : Nat, k ≤ 64 ∧ iv = .int .i64 k ∧ Hid (VAt wr (w.heap.size + 1) (arrN k b.data.toList)) ∧ Hid (VAt wr w.heap.size (List.replicate 64 0)) ∧ Below w.heap.size w wr) (fun iv _ => 64 - (intOf iv).toNat)
  case atStart =>
    refine ⟨0, by omega, rfl, ?_, ?_, ((Below.refl _ _).alloc (Nat.le_refl _) _).alloc (by simp) _⟩
    · have := v_new (w.alloc (.cells (List.replicate 64 (Value.int .u32 0)).toArray 202)) (List.replicate 64 0) (List.replicate 64 (Value.int .u32 0)).toArray 202 rfl
      have e : (w.alloc (.cells (List.replicate 64 (Value.int .u32 0)).toArray 202)).heap.size = w.heap.size + 1 := by simp
      rw [e] at this
      exact this
    · exact (v_new w (List.replicate 64 0) (List.replicate 64 (Value.int .u32 0)).toArray _ rfl).alloc _
  case round =>
    obtain ⟨k, hk, rfl, HV, HZ, hbel⟩ := hrel
    have hsz := hbel.size
    by_cases hlt : (k : Int) < 64
    · have hlen := arrN_len k b.data.toList (by omega)
      by_cases h16 : (k : Int) < 16
      · have F := hide (arrN_set k _ b.data.toList (by omega) (fillN_low k b.data.toList (by omega)))
        go_wp2_with fail
        refine (wordAt_int b _ (4 * k) (by omega) _ (by unfold maxLen; omega) (by omega)).mono ?_
        rintro e w1 ⟨rfl, hb1⟩
        have hbb : Below w.heap.size w w1 := hbel.trans (hb1.mono hsz)
        have HV1 := hide (HV.out.below hb1 HV.out.1.1)
        have HZ1 := hide (HZ.out.below hb1 HZ.out.1.1)
        obtain ⟨xo, kc⟩ : ∃ xo, w1.cell? ⟨w.heap.size + 1, k, none⟩ = some xo := ⟨_, HV1.out.1.2 k (by omega)⟩
        have kf := HV1.out.2 k
        have HV2 := hide (HV1.out.set k (word (b.data.toList.drop (4 * k))))
        rw [F.out] at HV2
        generalize word (b.data.toList.drop (4 * k)) = x at HV2
        have HZ2 := hide (HZ1.out.other (r := w.heap.size + 1) (i := k) (u := .int .u32 x) (by omega))
        have hb2 := hbb.setCell (p := ⟨w.heap.size + 1, k, none⟩) (by show w.heap.size ≤ w.heap.size + 1; omega) (.int .u32 x)
        clear HV HZ hbel hb1 HV1 HZ1 F hbb
        go_wp2
        go_roundw
        case rel => exact ⟨k + 1, by omega, by go_num, HV2, HZ2, hb2⟩
        case measure => simp [intOf]; omega
      · obtain ⟨a2, a7, a15, a16, x2, x7, x15, x16, s2, s15, y1, y2, y3, la2, la7, la15, la16, t2, t7, t15, t16, g2, g7, g15, g16, b2, b15, e2, e15, z1, z2, z3, en⟩ := next_open (fillN k b.data.toList) k (fillN_len k _) (by omega) (fillN_lt k _)
        have F := arrN_set k _ b.data.toList (by omega) (fillN_high k b.data.toList (by omega))
        rw [en] at F
        rw [← arrN_at k _ _ la2] at g2
        rw [← arrN_at k _ _ la7] at g7
        rw [← arrN_at k _ _ la15] at g15
        rw [← arrN_at k _ _ la16] at g16
        have k2 := words_at HV.out.1 a2 x2 g2
        have k7 := words_at HV.out.1 a7 x7 g7
        have k15 := words_at HV.out.1 a15 x15 g15
        have k16 := words_at HV.out.1 a16 x16 g16
        obtain ⟨xo, kc⟩ : ∃ xo, wr.cell? ⟨w.heap.size + 1, k, none⟩ = some xo := ⟨_, HV.out.1.2 k (by omega)⟩
        have kf := HV.out.2 k
        have HV2 := hide (HV.out.set k y3)
        rw [F] at HV2
        have HZ2 := hide (HZ.out.other (r := w.heap.size + 1) (i := k) (u := .int .u32 y3) (by omega))
        have hb2 := hbel.setCell (p := ⟨w.heap.size + 1, k, none⟩) (by show w.heap.size ≤ w.heap.size + 1; omega) (.int .u32 y3)
        have o : ∀ (j x : Nat), j < k → wr.cell? ⟨w.heap.size + 1, j, none⟩ = some (.int .u32 x) → ((wr.setCell ⟨w.heap.size + 1, k, none⟩ (.int .u32 y3)).drew).cell? ⟨w.heap.size + 1, j, none⟩ = some (.int .u32 x) := by
          intro j x hj hc
          show (wr.setCell ⟨w.heap.size + 1, k, none⟩ (.int .u32 y3)).cell? ⟨w.heap.size + 1, j, none⟩ = _
          rw [World.cell?_setCell_other _ _ _ _ (fun e => by injection e with _ e; omega)]
          exact hc
        have HKp := hide (And.intro (o a2 x2 la2 k2) (And.intro (o a7 x7 la7 k7) (And.intro (o a15 x15 la15 k15) (o a16 x16 la16 k16))))
        have E2 := hide e2
        have E15 := hide e15
        clear o
        have w2 : IntKind.i64.wrap ((k : Int) - 2) = (a2 : Int) := by rw [IntKind.wrap_i64]; omega
        have w7 : IntKind.i64.wrap ((k : Int) - 7) = (a7 : Int) := by rw [IntKind.wrap_i64]; omega
        have w15 : IntKind.i64.wrap ((k : Int) - 15) = (a15 : Int) := by rw [IntKind.wrap_i64]; omega
        have w16 : IntKind.i64.wrap ((k : Int) - 16) = (a16 : Int) := by rw [IntKind.wrap_i64]; omega
        have p2 : (0 : Int) ≤ a2 := by omega
        have p7 : (0 : Int) ≤ a7 := by omega
        have p15 : (0 : Int) ≤ a15 := by omega
        have p16 : (0 : Int) ≤ a16 := by omega
        have q2 : (a2 : Int) < 64 := by omega
        have q7 : (a7 : Int) < 64 := by omega
        have q15 : (a15 : Int) < 64 := by omega
        have q16 : (a16 : Int) < 64 := by omega
        have pk : (0 : Int) ≤ k := by omega
        clear F en e2 e15 g2 g7 g15 g16 t2 t7 t15 t16 HV HZ hbel EW
        go_wp2
        go_region_held3 (fun w' => w'.cell? ⟨w.heap.size + 1, a2, none⟩ = some (.int .u32 x2) ∧ w'.cell? ⟨w.heap.size + 1, a7, none⟩ = some (.int .u32 x7) ∧ w'.cell? ⟨w.heap.size + 1, a15, none⟩ = some (.int .u32 x15) ∧ w'.cell? ⟨w.heap.size + 1, a16, none⟩ = some (.int .u32 x16)) (first | (with_reducible exact HKp.out) | go_keep) (first
          | (go_at_call 138; with_reducible refine Calls.mono (mixed_w2 x2 _ b2) ?_; rintro e w' ⟨rfl, rfl⟩; rw [E2.out])
          | (go_at_call 138; with_reducible refine Calls.mono (mixed_w15 x15 _ b15) ?_; rintro e w' ⟨rfl, rfl⟩; rw [E15.out]))
        have HV3 : Hid (VAt (wr.setCell ⟨w.heap.size + 1, k, none⟩ (.int .u32 y3)).drew (w.heap.size + 1) (arrN (k + 1) b.data.toList)) := HV2
        have HZ3 : Hid (VAt (wr.setCell ⟨w.heap.size + 1, k, none⟩ (.int .u32 y3)).drew w.heap.size (List.replicate 64 0)) := HZ2
        have HB3 := hide hb2.drew
        generalize (wr.setCell ⟨w.heap.size + 1, k, none⟩ (.int .u32 y3)).drew = w3 at HV3 HZ3 HB3
        clear HV2 HZ2 hb2 HKp k2 k7 k15 k16 kc kf z1 z2 z3 w2 w7 w15 w16 E2 E15
        go_wp2
        go_roundw
        case rel => exact ⟨k + 1, by omega, by go_num, HV3, HZ3, HB3.out⟩
        case measure => simp [intOf]; omega
    · have e64 : k = 64 := by omega
      subst e64
      have hw64 : (sched 48 (words b.data.toList)).length = 64 := by rw [← EW.out, fillN_len]
      have HV8 : Hid (VAt wr (w.heap.size + 1) (sched 48 (words b.data.toList))) := by
        have := HV.out
        unfold arrN at this
        rw [EW.out] at this
        show VAt _ _ _
        simpa using this
      obtain ⟨L, hL⟩ : ∃ L, sched 48 (words b.data.toList) = L := ⟨_, rfl⟩
      rw [hL] at HV8 hw64
      have EL := hide hL
      clear hL EW
      have hr : (List.replicate 64 0 : List Nat).length = 64 := List.length_replicate
      clear HV
      go_wp2_with (first
        | refine wpList_load_words rfl _ _ rfl (w.heap.size + 1) rfl L _ HV8.out.1 Tryz.underlying202 rfl (by rw [hw64]; exact info64) ?_
        | (refine wpList_store_words rfl _ _ _ rfl w.heap.size L (List.replicate 64 0) rfl rfl HZ.out (by rw [hw64, hr]) (by rw [hw64]; exact info64) ?_; intro w2 hw2))
      have hV2 : VAt (wr.setCells w.heap.size 0 (wcells L)) w.heap.size L := HZ.out.store L (by rw [hw64, hr])
      exact bodyPost_ret (results_words rfl _ _ _ _ _ rfl hV2.1 Tryz.underlying202 rfl (by rw [hw64]; exact info64)) rfl ⟨by rw [EL.out], below_cellsD (Nat.le_refl _) _ _ _ hbel⟩
end Go.Proofs.YtcjgjkejhkhknabGreatDoor
