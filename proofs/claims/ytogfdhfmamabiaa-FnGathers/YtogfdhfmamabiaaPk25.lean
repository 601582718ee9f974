/-
  TxPC; FdR; TxC; D3; DrMany
-/
import Derived.Test.YtogfdhfmamabiaaPk17
import Derived.Test.YtogfdhfmamabiaaTxMath2
import Derived.Test.YtogfdhfmamabiaaPk13
import Derived.Test.YtogfdhfmamabiaaPk14
import Derived.Test.YtogfdhfmamabiaaTxN
import Derived.Test.YtogfdhfmamabiaaPk1
/-
  What TxPages does.
-/
namespace Go.Proofs.Ytogfdhfmamabiaa
open Go.RowKit
open Words

/-- What a TxPages does. -/
def TxPagesC (f : Nat) : Prop := ∀ (seq tx : Int) (ad : Option Addr) (len cap : Nat) (l : List Rc) (w : World), len ≤ 33554432 → RcRow w ad len (l.map Rc.tu) → Calls Try.prog f #[.int .i64 seq, .int .i64 tx, .slice ad len cap] w (PgOut w (txOut seq tx l) (@decide (TxOk seq tx l) (decTx seq tx l)))
end Go.Proofs.Ytogfdhfmamabiaa

/-
  Rows of what a scan found that can be read.
-/
namespace Go.Proofs.Ytogfdhfmamabiaa
open Go.RowKit
open Words

def FdRd (w : World) (a : Option Addr) (len : Nat) (ls : List Fnd) : Prop :=
  ls.length = len ∧ len ≤ maxLen ∧ (0 < len → ∃ b off, a = some ⟨b, off, none⟩ ∧ b < w.heap.size ∧ ∀ i t, ls[i]? = some t → ∀ j v, (fdCells t)[j]? = some v → w.cell? ⟨b, off + (i * 8 + j), none⟩ = some v)
theorem FdRd.below {w w' : World} {a : Option Addr} {len : Nat} {ls : List Fnd} (h : FdRd w a len ls) (hb : Below w.heap.size w w') : FdRd w' a len ls := by
  obtain ⟨h1, h2, h4⟩ := h
  refine ⟨h1, h2, fun h0 => ?_⟩
  obtain ⟨b, off, e, hl, hc⟩ := h4 h0
  have hs := hb.size
  exact ⟨b, off, e, by omega, fun i t ht j v hv => (hb.cell (show b < w.heap.size from hl)).trans (hc i t ht j v hv)⟩
theorem FdRd.at {w : World} {a : Option Addr} {len : Nat} {ls : List Fnd} (h : FdRd w a len ls) {k : Nat} {t : Fnd} (hk : ls[k]? = some t) :
    ∃ b off, a = some ⟨b, off, none⟩ ∧ b < w.heap.size ∧ w.cell? ⟨b, off + k * 8, none⟩ = some (.int .i64 t.block) ∧ w.cell? ⟨b, off + k * 8 + 1, none⟩ = some (.int .i64 t.leaf) ∧
      w.cell? ⟨b, off + k * 8 + 2, none⟩ = some (.int .i64 t.page.kind) ∧ w.cell? ⟨b, off + k * 8 + 2 + 1, none⟩ = some (.int .i64 t.page.seq) ∧ w.cell? ⟨b, off + k * 8 + 2 + 2, none⟩ = some (.int .i64 t.page.tx) ∧
      w.cell? ⟨b, off + k * 8 + 2 + 3, none⟩ = some (.int .i64 t.page.part) ∧ w.cell? ⟨b, off + k * 8 + 2 + 4, none⟩ = some (.int .i64 t.page.count) ∧ w.cell? ⟨b, off + k * 8 + 2 + 5, none⟩ = some (.string t.page.text) := by
  obtain ⟨h1, -, h4⟩ := h
  have hl := (List.getElem?_eq_some_iff.1 hk).1
  obtain ⟨b, off, e, hb, hc⟩ := h4 (by omega)
  have hc := hc k t hk
  refine ⟨b, off, e, hb, hc 0 _ rfl, ?_, ?_, ?_, ?_, ?_, ?_, ?_⟩
  · have := hc 1 _ rfl; rwa [← Nat.add_assoc] at this
  · have := hc 2 _ rfl; rwa [← Nat.add_assoc] at this
  · have := hc 3 _ rfl; rwa [← Nat.add_assoc] at this
  · have := hc 4 _ rfl; rwa [← Nat.add_assoc] at this
  · have := hc 5 _ rfl; rwa [← Nat.add_assoc] at this
  · have := hc 6 _ rfl; rwa [← Nat.add_assoc] at this
  · have := hc 7 _ rfl; rwa [← Nat.add_assoc] at this
theorem Sli.fdrd {lo hi n c : Nat} {ad : Option Addr} {M : List Fnd} {W : World} (h : Sli 42 lo hi (.slice ad n c) n (fcells M) W) (hn : M.length = n) (hm : n ≤ maxLen) (hh : hi ≤ W.heap.size) : FdRd W ad n M := by
  refine ⟨hn, hm, fun h0 => ?_⟩
  rcases h with ⟨e, rfl⟩ | ⟨g, cap, e, h1, h2, h3⟩
  · omega
  · injection e with e1 e2 e3
    refine ⟨g, 0, e1, by omega, fun i t hi j v hj => ?_⟩
    rw [Nat.zero_add]
    exact h3.cell (fcells_at M i t hi j v hj)
end Go.Proofs.Ytogfdhfmamabiaa

/-
  What TxPages, Gather and SinceBase do.
-/
namespace Go.Proofs.Ytogfdhfmamabiaa
open Go.RowKit
open Words

/-- What a Gather does. -/
def GatherC (f : Nat) : Prop := ∀ (ad : Option Addr) (len cap : Nat) (M : List Fnd) (w : World), len ≤ 1048576 → sumF (fun p => p.text.size) (M.map Fnd.page) ≤ 1048576 → FdRd w ad len M → Calls Try.prog f #[.slice ad len cap] w (TxOut w (gatherP (M.map Fnd.page)))
/-- What a SinceBase does. -/
def SinceC (f : Nat) : Prop := ∀ (ad : Option Addr) (len cap : Nat) (rs : List Xw) (L : List TxR) (w : World), len ≤ 1048576 → len ≤ cap → (∀ r ∈ rs, r.2.2.2.length ≤ 1048576) → rs.map xtell = L.map TxR.tu → TxRd w ad len rs → Calls Try.prog f #[.slice ad len cap] w (TxOut w (sinceP L))
theorem XOwn.cap {W : World} {B n c : Nat} {ad : Option Addr} {rs : List Xw} (h : XOwn W B (.slice ad n c) rs) : n ≤ c := by
  rcases h.1.2 with ⟨e, -⟩ | ⟨g, cap, cur, e, -, -, h1, -⟩
  · cases e; exact Nat.le_refl _
  · injection e with e1 e2 e3
    omega
theorem TxOut.rows {w w' : World} {L : List TxR} {e : Ending} (h : TxOut w L e w') {n : Nat} (hn : L.length = n) : ∃ (ad : Option Addr) (c : Nat) (rs : List Xw), e = .returned (.slice ad n c) ∧ rs.length = n ∧ rs.map xtell = L.map TxR.tu ∧ XOwn w' w.heap.size (.slice ad n c) rs ∧ Below w.heap.size w w' := by
  obtain ⟨uv, rs, rfl, hx, ht, hb⟩ := h
  have hl : rs.length = n := by have := congrArg List.length ht; simp only [List.length_map] at this; omega
  obtain ⟨ad, c, rfl⟩ := hx.form
  rw [hl] at hx ⊢
  exact ⟨ad, c, rs, rfl, hl, ht, hx, hb⟩
end Go.Proofs.Ytogfdhfmamabiaa

/-
  A new cursor.
-/
namespace Go.Proofs.Ytogfdhfmamabiaa
open Go.RowKit

set_option maxHeartbeats 400000 in
set_option maxRecDepth 100000 in
theorem new_any (ad : Option Addr) (len cap B : Nat) (w : World) (hl : len ≤ 1048576) (hd : CodeIn w ad len B) :
    Calls Try.prog 22 #[.slice ad len cap] w fun e w' => ∃ p, e = .returned (.pointer (some ⟨p, 0, none⟩)) ∧ w.heap.size ≤ p ∧ CurIn w' p ad len cap ∧ Below w.heap.size w w' := by
  have HD := hide hd
  clear hd
  go_enter Try.func22, Try.ntmps22
  go_wp2
  go_loop [3, 4] (fun hv iv => ∃ (x : Int) (k : Nat), k ≤ len ∧ hv = .int .i64 x ∧ iv = .int .i64 k) (fun _ iv => len - (intOf iv).toNat)
  case atStart => exact ⟨_, 0, Nat.zero_le _, rfl, rfl⟩
  case round =>
    obtain ⟨x, k, hk, rfl, rfl⟩ := hrel
    by_cases hlt : (k : Int) < len
    · by_cases h4 : (k : Int) < 4000
      · obtain ⟨b, off, rfl, hbB, c, hc8, hcell⟩ := HD.out k (by omega)
        go_wp2
        go_round
        case rel => exact ⟨_, k + 1, by omega, rfl, by go_num⟩
        case measure => simp [intOf]; omega
      · go_wp2
        go_ret
        refine ⟨w.heap.size, rfl, Nat.le_refl _, ?_, (Below.refl _ _).alloc (Nat.le_refl _) _⟩
        exact ⟨by simp, ⟨0, by omega, by simp⟩, ⟨x, by simp⟩, by simp, by simp, by simp⟩
    · go_wp2
      go_ret
      refine ⟨w.heap.size, rfl, Nat.le_refl _, ?_, (Below.refl _ _).alloc (Nat.le_refl _) _⟩
      exact ⟨by simp, ⟨0, by omega, by simp⟩, ⟨x, by simp⟩, by simp, by simp, by simp⟩
end Go.Proofs.Ytogfdhfmamabiaa

/-
  The draw of many right records: spec.DrawManyRecords.
-/
namespace Go.Proofs.Ytogfdhfmamabiaa
open Go.RowKit
open Words

theorem varL_two (n : Nat) (h : n < 16384) : (varL n).length ≤ 2 := by
  by_cases h1 : n < 128
  · rw [varL_low n h1]; simp
  · rw [varL_high n (by omega), varL_low (n / 128) (by omega)]; simp
theorem recL_four (r : Rc) (h1 : r.arg.toNat < 128) (h2 : r.chunk.toNat < 16384) : (recL r).length ≤ 4 := by
  have := varL_two r.chunk.toNat h2
  simp only [recL, List.length_cons, List.length_append, varL_low r.arg.toNat h1, List.length_nil]
  omega
/-- Right records, not too many, in a row of their own. -/
def ManyIn (w : World) (e : Ending) (w' : World) : Prop := ∃ (g c : Nat) (l : List Rc), e = .returned (.slice (some ⟨g, 0, none⟩) l.length c) ∧ l.length ≤ 119 ∧ (∀ r ∈ l, r.Right) ∧ (recsL l).length ≤ 152 + 4 * l.length ∧ w'.ownsRow w.heap.size 34 4 (.slice (some ⟨g, 0, none⟩) l.length c) l.length (rccells (l.map Rc.tu)) ∧ Below w.heap.size w w'

set_option maxHeartbeats 2000000 in
set_option maxRecDepth 100000 in
theorem drawMany (ad : Option Addr) (len cap : Nat) (w : World) (hl : len ≤ 1048576) (hd : CodeIn w ad len w.heap.size) :
    Calls Try.prog 12 #[.slice ad len cap] w (ManyIn w) := by
  obtain ⟨i0, hi0, hz0, hz1, hz2⟩ := info_parts infoRc
  have I0 := hide hi0
  have Y0 := hide hz0
  have Y1 := hide hz1
  have Y2 := hide hz2
  clear hi0 hz0 hz1 hz2
  have HD := hide hd
  clear hd
  go_enter Try.func12, Try.ntmps12
  go_wp2_with fail
  refine (new_any ad len cap w.heap.size _ hl HD.out).mono ?_
  rintro e w1 ⟨p, rfl, hp, hc, hb⟩
  have HC := hide hc
  have HB := hide hb
  have hs := hb.size
  have hpw := hc.2.2.2.2.2
  have HD1 := hide (HD.out.on hb (Nat.le_refl _))
  clear hc hb HD
  go_wp2_with fail
  refine (drecs p ad len cap w.heap.size _ hl HC.out HD1.out hp).mono ?_
  rintro e w2 ⟨g, c, l, rfl, h8, hr, ho, d2⟩
  have R2 := hide (show Drawn w1 w2 p ad len cap ∧ w2.ownsRow w1.heap.size 34 4 (.slice (some ⟨g, 0, none⟩) l.length c) l.length (rccells (l.map Rc.tu)) from ⟨d2, ho⟩)
  have HR := hide hr
  have HZ : Hid ((recsL l).length ≤ 152 + 4 * l.length) := by have := (recsL_len l hr).2; show _ ≤ _; omega
  clear ho d2 hr HC
  go_wp2_with fail
  refine (once_any 2 p ad len cap w.heap.size _ (by omega) hl R2.out.1.2 (R2.out.1.code HD1.out hp hpw) hp).mono ?_
  rintro e w3 ⟨o, rfl, d3⟩
  have hug := (R2.out.2.lt g rfl).1
  have R3 : Hid (Drawn w1 w3 p ad len cap ∧ w3.ownsRow w1.heap.size 34 4 (.slice (some ⟨g, 0, none⟩) l.length c) l.length (rccells (l.map Rc.tu))) :=
    ⟨R2.out.1.trans d3, own_kept R2.out.2 (fun i hi e => d3.1.block i hi (row_ne e hug hpw))⟩
  clear d3 R2
  cases o with
  | false =>
    have HB5 := hide (HB.out.trans (grown_below R3.out.1.1 hp hs))
    go_wp2_with fail
    go_ret
    exact ⟨g, c, l, rfl, by omega, HR.out, HZ.out, own_lower R3.out.2 hs, HB5.out⟩
  | true =>
    go_wp2
    go_loopw [4] (fun uv wr => ∃ (ug uc : Nat) (l : List Rc), l.length ≤ 119 ∧ uv = .slice (some ⟨ug, 0, none⟩) l.length uc ∧ Hid ((∀ r ∈ l, r.Right) ∧ (recsL l).length ≤ 152 + 4 * l.length) ∧ Hid (Drawn w1 wr p ad len cap ∧ wr.ownsRow w1.heap.size 34 4 (.slice (some ⟨ug, 0, none⟩) l.length uc) l.length (rccells (l.map Rc.tu)))) (fun uv _ => 119 - rcLen uv)
    case atStart => exact ⟨g, c, l, by omega, rfl, ⟨HR.out, HZ.out⟩, R3⟩
    case round =>
      obtain ⟨ug, uc, l, h9, rfl, HA, R⟩ := hrel
      clear R3 HR HZ
      go_wp2_with fail
      refine (below_any 90 p ad len cap w.heap.size _ (by omega) hl R.out.1.2 (R.out.1.code HD1.out hp hpw) hp).mono ?_
      rintro e x1 ⟨y, rfl, y0, y1, -, d1⟩
      have y2 := y1 (by omega)
      have hug := (R.out.2.lt ug rfl).1
      have R1 : Hid (Drawn w1 x1 p ad len cap ∧ x1.ownsRow w1.heap.size 34 4 (.slice (some ⟨ug, 0, none⟩) l.length uc) l.length (rccells (l.map Rc.tu))) :=
        ⟨R.out.1.trans d1, own_kept R.out.2 (fun i hi e => d1.1.block i hi (row_ne e hug hpw))⟩
      clear d1 R y1
      by_cases hlt : (l.length : Int) < 30 + y
      · obtain ⟨n, hn⟩ : ∃ n, l.length = n := ⟨_, rfl⟩
        obtain ⟨r, hr⟩ : ∃ r : Rc, r = ⟨4, 1 + (n : Int) % 3, (n : Int) % 16, 100 + (n : Int)⟩ := ⟨_, rfl⟩
        have hh9 : n < 119 := by omega
        have hrr : r.Right := by subst hr; exact ⟨⟨by simp only; omega, by simp only; omega⟩, .inr ⟨⟨by simp only; omega, by simp only; omega⟩, .inr (.inr (.inl ⟨rfl, by simp only; omega, by simp only; omega, by simp only; omega⟩))⟩⟩
        have hr4 : (recL r).length ≤ 4 := recL_four r (by subst hr; simp only; omega) (by subst hr; simp only; omega)
        have em3 : (n : Int).tmod 3 = (n : Int) % 3 := Int.tmod_eq_emod_of_nonneg (by omega)
        have em16 : (n : Int).tmod 16 = (n : Int) % 16 := Int.tmod_eq_emod_of_nonneg (by omega)
        have b3 : 0 ≤ (n : Int) % 3 ∧ (n : Int) % 3 < 3 := by omega
        have b16 : 0 ≤ (n : Int) % 16 ∧ (n : Int) % 16 < 16 := by omega
        have ba : Below x1.heap.size x1 (x1.alloc (.cells #[.int .i64 r.kind, .int .i64 r.vol, .int .i64 r.arg, .int .i64 r.chunk] 34)) := (Below.refl _ _).alloc (Nat.le_refl _) _
        have D3 := hide (R1.out.1.below (ba.mono R1.out.1.1.size) hpw)
        have OW := hide (own_kept R1.out.2 (fun i hi _ => ba.block i hi))
        have HNw := hide (rc_new x1 r x1.heap.size rfl)
        have HO := hide (rc_one r)
        have HZ := hide D3.out.1.size
        have HSn := hide (rc_snoc l r)
        have HA' : Hid ((∀ z ∈ l ++ [r], z.Right) ∧ (recsL (l ++ [r])).length ≤ 152 + 4 * (l ++ [r]).length) := by
          refine ⟨?_, ?_⟩
          · intro z hz
            rcases List.mem_append.1 hz with h | h
            · exact HA.out.1 z h
            · simp at h; subst h; exact hrr
          · have := HA.out.2
            rw [recsL_snoc, List.length_append, List.length_append]
            simp only [List.length_cons, List.length_nil]
            omega
        have hll : (l ++ [r]).length = n + 1 := by simp [hn]
        have HLL := hide hll
        have HNL := hide hn
        rw [hr] at HNw HO D3 OW HZ
        simp only at HNw HO D3 OW HZ
        rw [hn] at OW
        have HRE := hide hr
        rw [hn] at hlt
        rw [hn]
        clear ba R1 hrr hr4 hr hn hll HA h9
        obtain ⟨q3, hq3⟩ : ∃ q, (n : Int) % 3 = q := ⟨_, rfl⟩
        obtain ⟨q16, hq16⟩ : ∃ q, (n : Int) % 16 = q := ⟨_, rfl⟩
        rw [hq3] at em3 b3 HNw HO D3 OW HZ HRE
        rw [hq16] at em16 b16 HNw HO D3 OW HZ HRE
        clear hq3 hq16
        go_wp2_with (at_builtin; refine wpList_append_own_at _ rfl _ _ 29 rfl w1.heap.size 34 i0 (.agg #[.int .i64 0, .int .i64 0, .int .i64 0, .int .i64 0]) 4 32 Try.underlying29 I0.out Y0.out Y1.out Y2.out rfl (by decide) _ n (rccells (l.map Rc.tu)) rfl OW.out ⟨x1.heap.size, 0, none⟩ 1 1 [Value.int .i64 4, Value.int .i64 (1 + q3), Value.int .i64 q16, Value.int .i64 (100 + n)] rfl rfl HNw.out HO.out ?m1 ?m2 HZ.out ?_)
        case m1 => unfold maxLen; omega
        case m2 => omega
        intro u' y' ho hg _ hw
        have es := HSn.out
        rw [HRE.out] at es
        simp only at es
        rw [es, ← HRE.out, ← HLL.out] at ho
        have DN : Hid (Drawn w1 y' p ad len cap) := D3.out.below ((Below.refl _ _).grown hg D3.out.1.size (fun k hk => (OW.out.lt k hk).1)) hpw
        have hll := HLL.out
        generalize l ++ [r] = l' at ho HA' hll
        rcases id ho.2 with ⟨-, h0⟩ | ⟨ug', uc', cur, rfl, -, -, -, -, -, -⟩
        · omega
        have RN := hide (And.intro DN.out ho)
        clear ho hg hw HNw HO HZ OW D3 DN es HSn HRE HLL
        go_wp2
        go_roundw
        case rel => exact ⟨ug', uc', l', by omega, rfl, HA', RN⟩
        case measure => have := HNL.out; simp [rcLen]; omega
      · have HB5 := hide (HB.out.trans (grown_below R1.out.1.1 hp hs))
        go_wp2_with fail
        go_ret
        exact ⟨ug, uc, l, rfl, by omega, HA.out.1, HA.out.2, own_lower R1.out.2 hs, HB5.out⟩
end Go.Proofs.Ytogfdhfmamabiaa
