/-
  The draw of many right records: spec.DrawManyRecords.
-/
import Derived.Test.YtogfdhfmamabiaaPk25
import Derived.Test.YtogfdhfmamabiaaPk23
namespace Go.Proofs.Ytogfdhfmamabiaa
open Go.RowKit
open Words

theorem varL_two (n : Nat) (h : n < 16384) : (varL n).length ≤ 2 := by
  by_cases h1 : n < 128
  · rw [varL_low n h1]; simp
  · rw [varL_high n (by omega), varL_low (n / 128) (by omega)]; simp
theorem recL_four (r : Rc) (h1 : r.arg.toNat < 128) (h2 : r.chunk.toNat < 16384) : (recL r).length ≤ 4 := by
  have := varL_two r.chunk.toNat h2
  simp only [recL, List.length_cons, List.length_append, varL_low r.arg.toNat h1, List.length_nil]
  omega
/-- Right records, not too many, in a row of their own. -/
def ManyIn (w : World) (e : Ending) (w' : World) : Prop := ∃ (g c : Nat) (l : List Rc), e = .returned (.slice (some ⟨g, 0, none⟩) l.length c) ∧ l.length ≤ 119 ∧ (∀ r ∈ l, r.Right) ∧ (recsL l).length ≤ 152 + 4 * l.length ∧ w'.ownsRow w.heap.size 34 4 (.slice (some ⟨g, 0, none⟩) l.length c) l.length (rccells (l.map Rc.tu)) ∧ Below w.heap.size w w'

set_option maxHeartbeats 2000000 in
set_option maxRecDepth 100000 in
theorem drawMany (ad : Option Addr) (len cap : Nat) (w : World) (hl : len ≤ 1048576) (hd : CodeIn w ad len w.heap.size) :
    Calls Try.prog 12 #[.slice ad len cap] w (ManyIn w) := by
  obtain ⟨i0, hi0, hz0, hz1, hz2⟩ := info_parts infoRc
  have I0 := hide hi0
  have Y0 := hide hz0
  have Y1 := hide hz1
  have Y2 := hide hz2
  clear hi0 hz0 hz1 hz2
  have HD := hide hd
  clear hd
  go_enter Try.func12, Try.ntmps12
  go_wp2_with fail
  refine (new_any ad len cap w.heap.size _ hl HD.out).mono ?_
  rintro e w1 ⟨p, rfl, hp, hc, hb⟩
  have HC := hide hc
  have HB := hide hb
  have hs := hb.size
  have hpw := hc.2.2.2.2.2
  have HD1 := hide (HD.out.on hb (Nat.le_refl _))
  clear hc hb HD
  go_wp2_with fail
  refine (drecs p ad len cap w.heap.size _ hl HC.out HD1.out hp).mono ?_
  rintro e w2 ⟨g, c, l, rfl, h8, hr, ho, d2⟩
  have R2 := hide (show Drawn w1 w2 p ad len cap ∧ w2.ownsRow w1.heap.size 34 4 (.slice (some ⟨g, 0, none⟩) l.length c) l.length (rccells (l.map Rc.tu)) from ⟨d2, ho⟩)
  have HR := hide hr
  have HZ : Hid ((recsL l).length ≤ 152 + 4 * l.length) := by have := (recsL_len l hr).2; show _ ≤ _; omega
  clear ho d2 hr HC
  go_wp2_with fail
  refine (once_any 2 p ad len cap w.heap.size _ (by omega) hl R2.out.1.2 (R2.out.1.code HD1.out hp hpw) hp).mono ?_
  rintro e w3 ⟨o, rfl, d3⟩
  have hug := (R2.out.2.lt g rfl).1
  have R3 : Hid (Drawn w1 w3 p ad len cap ∧ w3.ownsRow w1.heap.size 34 4 (.slice (some ⟨g, 0, none⟩) l.length c) l.length (rccells (l.map Rc.tu))) :=
    ⟨R2.out.1.trans d3, own_kept R2.out.2 (fun i hi e => d3.1.block i hi (row_ne e hug hpw))⟩
  clear d3 R2
  cases o with
  | false =>
    have HB5 := hide (HB.out.trans (grown_below R3.out.1.1 hp hs))
    go_wp2_with fail
    go_ret
    exact ⟨g, c, l, rfl, by omega, HR.out, HZ.out, own_lower R3.out.2 hs, HB5.out⟩
  | true =>
    go_wp2
    go_loopw [4] (fun uv wr => ∃ (ug uc : Nat) (l : List Rc), l.length ≤ 119 ∧ uv = .slice (some ⟨ug, 0, none⟩) l.length uc ∧ Hid ((∀ r ∈ l, r.Right) ∧ (recsL l).length ≤ 152 + 4 * l.length) ∧ Hid (Drawn w1 wr p ad len cap ∧ wr.ownsRow w1.heap.size 34 4 (.slice (some ⟨ug, 0, none⟩) l.length uc) l.length (rccells (l.map Rc.tu)))) (fun uv _ => 119 - rcLen uv)
    case atStart => exact ⟨g, c, l, by omega, rfl, ⟨HR.out, HZ.out⟩, R3⟩
    case round =>
      obtain ⟨ug, uc, l, h9, rfl, HA, R⟩ := hrel
      clear R3 HR HZ
      go_wp2_with fail
      refine (below_any 90 p ad len cap w.heap.size _ (by omega) hl R.out.1.2 (R.out.1.code HD1.out hp hpw) hp).mono ?_
      rintro e x1 ⟨y, rfl, y0, y1, -, d1⟩
      have y2 := y1 (by omega)
      have hug := (R.out.2.lt ug rfl).1
      have R1 : Hid (Drawn w1 x1 p ad len cap ∧ x1.ownsRow w1.heap.size 34 4 (.slice (some ⟨ug, 0, none⟩) l.length uc) l.length (rccells (l.map Rc.tu))) :=
        ⟨R.out.1.trans d1, own_kept R.out.2 (fun i hi e => d1.1.block i hi (row_ne e hug hpw))⟩
      clear d1 R y1
      by_cases hlt : (l.length : Int) < 30 + y
      · obtain ⟨n, hn⟩ : ∃ n, l.length = n := ⟨_, rfl⟩
        obtain ⟨r, hr⟩ : ∃ r : Rc, r = ⟨4, 1 + (n : Int) % 3, (n : Int) % 16, 100 + (n : Int)⟩ := ⟨_, rfl⟩
        have hh9 : n < 119 := by omega
        have hrr : r.Right := by subst hr; exact ⟨⟨by simp only; omega, by simp only; omega⟩, .inr ⟨⟨by simp only; omega, by simp only; omega⟩, .inr (.inr (.inl ⟨rfl, by simp only; omega, by simp only; omega, by simp only; omega⟩))⟩⟩
        have hr4 : (recL r).length ≤ 4 := recL_four r (by subst hr; simp only; omega) (by subst hr; simp only; omega)
        have em3 : (n : Int).tmod 3 = (n : Int) % 3 := Int.tmod_eq_emod_of_nonneg (by omega)
        have em16 : (n : Int).tmod 16 = (n : Int) % 16 := Int.tmod_eq_emod_of_nonneg (by omega)
        have b3 : 0 ≤ (n : Int) % 3 ∧ (n : Int) % 3 < 3 := by omega
        have b16 : 0 ≤ (n : Int) % 16 ∧ (n : Int) % 16 < 16 := by omega
        have ba : Below x1.heap.size x1 (x1.alloc (.cells #[.int .i64 r.kind, .int .i64 r.vol, .int .i64 r.arg, .int .i64 r.chunk] 34)) := (Below.refl _ _).alloc (Nat.le_refl _) _
        have D3 := hide (R1.out.1.below (ba.mono R1.out.1.1.size) hpw)
        have OW := hide (own_kept R1.out.2 (fun i hi _ => ba.block i hi))
        have HNw := hide (rc_new x1 r x1.heap.size rfl)
        have HO := hide (rc_one r)
        have HZ := hide D3.out.1.size
        have HSn := hide (rc_snoc l r)
        have HA' : Hid ((∀ z ∈ l ++ [r], z.Right) ∧ (recsL (l ++ [r])).length ≤ 152 + 4 * (l ++ [r]).length) := by
          refine ⟨?_, ?_⟩
          · intro z hz
            rcases List.mem_append.1 hz with h | h
            · exact HA.out.1 z h
            · simp at h; subst h; exact hrr
          · have := HA.out.2
            rw [recsL_snoc, List.length_append, List.length_append]
            simp only [List.length_cons, List.length_nil]
            omega
        have hll : (l ++ [r]).length = n + 1 := by simp [hn]
        have HLL := hide hll
        have HNL := hide hn
        rw [hr] at HNw HO D3 OW HZ
        simp only at HNw HO D3 OW HZ
        rw [hn] at OW
        have HRE := hide hr
        rw [hn] at hlt
        rw [hn]
        clear ba R1 hrr hr4 hr hn hll HA h9
        obtain ⟨q3, hq3⟩ : ∃ q, (n : Int) % 3 = q := ⟨_, rfl⟩
        obtain ⟨q16, hq16⟩ : ∃ q, (n : Int) % 16 = q := ⟨_, rfl⟩
        rw [hq3] at em3 b3 HNw HO D3 OW HZ HRE
        rw [hq16] at em16 b16 HNw HO D3 OW HZ HRE
        clear hq3 hq16
        go_wp2_with (at_builtin; refine wpList_append_own_at _ rfl _ _ 29 rfl w1.heap.size 34 i0 (.agg #[.int .i64 0, .int .i64 0, .int .i64 0, .int .i64 0]) 4 32 Try.underlying29 I0.out Y0.out Y1.out Y2.out rfl (by decide) _ n (rccells (l.map Rc.tu)) rfl OW.out ⟨x1.heap.size, 0, none⟩ 1 1 [Value.int .i64 4, Value.int .i64 (1 + q3), Value.int .i64 q16, Value.int .i64 (100 + n)] rfl rfl HNw.out HO.out ?m1 ?m2 HZ.out ?_)
        case m1 => unfold maxLen; omega
        case m2 => omega
        intro u' y' ho hg _ hw
        have es := HSn.out
        rw [HRE.out] at es
        simp only at es
        rw [es, ← HRE.out, ← HLL.out] at ho
        have DN : Hid (Drawn w1 y' p ad len cap) := D3.out.below ((Below.refl _ _).grown hg D3.out.1.size (fun k hk => (OW.out.lt k hk).1)) hpw
        have hll := HLL.out
        generalize l ++ [r] = l' at ho HA' hll
        rcases id ho.2 with ⟨-, h0⟩ | ⟨ug', uc', cur, rfl, -, -, -, -, -, -⟩
        · omega
        have RN := hide (And.intro DN.out ho)
        clear ho hg hw HNw HO HZ OW D3 DN es HSn HRE HLL
        go_wp2
        go_roundw
        case rel => exact ⟨ug', uc', l', by omega, rfl, HA', RN⟩
        case measure => have := HNL.out; simp [rcLen]; omega
      · have HB5 := hide (HB.out.trans (grown_below R1.out.1.1 hp hs))
        go_wp2_with fail
        go_ret
        exact ⟨ug, uc, l, rfl, by omega, HA.out.1, HA.out.2, own_lower R1.out.2 hs, HB5.out⟩
end Go.Proofs.Ytogfdhfmamabiaa
