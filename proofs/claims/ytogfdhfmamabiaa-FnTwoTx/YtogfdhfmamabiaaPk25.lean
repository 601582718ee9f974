/-
  DrawRcs; D3
-/
import Derived.Test.YtogfdhfmamabiaaDrawRc
import Derived.Test.YtogfdhfmamabiaaSReadRecs
import Derived.Test.YtogfdhfmamabiaaPk23
/-
  The draw of right records: spec.l09Recs.
-/
namespace Go.Proofs.Ytogfdhfmamabiaa
open Go.RowKit
open Words

theorem row_ne {ug i p B n c : Nat} (e : (Value.slice (some ⟨ug, 0, none⟩) n c).ownBlock = some i) (h : B ≤ ug) (hp : p < B) : some i ≠ some p := by
  have h1 : ug = i := by injection e
  intro h2
  injection h2 with h2
  omega
/-- What the draw answers: at most eight right records, in a row of its own. -/
def RecsD (w : World) (p : Nat) (ad : Option Addr) (len cap : Nat) (e : Ending) (w' : World) : Prop := ∃ (g c : Nat) (l : List Rc), e = .returned (.slice (some ⟨g, 0, none⟩) l.length c) ∧ l.length ≤ 8 ∧ (∀ r ∈ l, r.Right) ∧ w'.ownsRow w.heap.size 34 4 (.slice (some ⟨g, 0, none⟩) l.length c) l.length (rccells (l.map Rc.tu)) ∧ Drawn w w' p ad len cap

set_option maxHeartbeats 2000000 in
set_option maxRecDepth 100000 in
theorem drecs (p : Nat) (ad : Option Addr) (len cap B : Nat) (w : World) (hl : len ≤ 1048576) (hc : CurIn w p ad len cap) (hd : CodeIn w ad len B) (hB : B ≤ p) :
    Calls Try.prog 31 #[.pointer (some ⟨p, 0, none⟩)] w (RecsD w p ad len cap) := by
  obtain ⟨i0, hi0, hz0, hz1, hz2⟩ := info_parts infoRc
  have I0 := hide hi0
  have Y0 := hide hz0
  have Y1 := hide hz1
  have Y2 := hide hz2
  clear hi0 hz0 hz1 hz2
  have hpw := hc.2.2.2.2.2
  have HD := hide hd
  have R0 : Hid (Drawn w (w.alloc (.cells #[] 34)) p ad len cap ∧ (w.alloc (.cells #[] 34)).ownsRow w.heap.size 34 4 (.slice (some ⟨w.heap.size, 0, none⟩) 0 0) ([] : List Rc).length (rccells (([] : List Rc).map Rc.tu))) :=
    ⟨(Drawn.refl hc).below ((Below.refl _ _).alloc (Nat.le_refl _) _) hpw, (rc_fresh (Below.refl _ _) _ rfl).1⟩
  clear hc hd
  go_enter Try.func31, Try.ntmps31
  go_wp2
  generalize w.alloc (.cells #[] 34) = wa at R0 ⊢
  go_loopw [3, 4] (fun uv iv wr => ∃ (ug uc : Nat) (l : List Rc), l.length ≤ 8 ∧ iv = .int .i64 l.length ∧ uv = .slice (some ⟨ug, 0, none⟩) l.length uc ∧ Hid (∀ r ∈ l, r.Right) ∧ Hid (Drawn w wr p ad len cap ∧ wr.ownsRow w.heap.size 34 4 (.slice (some ⟨ug, 0, none⟩) l.length uc) l.length (rccells (l.map Rc.tu)))) (fun _ iv _ => 9 - (intOf iv).toNat)
  case atStart => exact ⟨w.heap.size, 0, [], by simp, rfl, rfl, (fun r h => by cases h), R0⟩
  case round =>
    obtain ⟨ug, uc, l, h8, rfl, rfl, HA, R⟩ := hrel
    clear R0
    go_wp2_with fail
    refine (below_any 9 p ad len cap B _ (by omega) hl R.out.1.2 (R.out.1.code HD.out hB hpw) hB).mono ?_
    rintro e x1 ⟨y, rfl, y0, y1, -, d1⟩
    have y2 := y1 (by omega)
    have hug := (R.out.2.lt ug rfl).1
    have R1 : Hid (Drawn w x1 p ad len cap ∧ x1.ownsRow w.heap.size 34 4 (.slice (some ⟨ug, 0, none⟩) l.length uc) l.length (rccells (l.map Rc.tu))) :=
      ⟨R.out.1.trans d1, own_kept R.out.2 (fun i hi e => d1.1.block i hi (row_ne e hug hpw))⟩
    clear d1 R y1
    by_cases hlt : (l.length : Int) < y
    · go_wp2_with fail
      refine (drec p ad len cap B _ hl R1.out.1.2 (R1.out.1.code HD.out hB hpw) hB).mono ?_
      rintro e x2 ⟨r, rfl, hr, d2⟩
      have R2 : Hid (Drawn w x2 p ad len cap ∧ x2.ownsRow w.heap.size 34 4 (.slice (some ⟨ug, 0, none⟩) l.length uc) l.length (rccells (l.map Rc.tu))) :=
        ⟨R1.out.1.trans d2, own_kept R1.out.2 (fun i hi e => d2.1.block i hi (row_ne e hug hpw))⟩
      clear d2 R1
      have HR := hide hr
      clear hr
      have ba : Below x2.heap.size x2 (x2.alloc (.cells #[.int .i64 r.kind, .int .i64 r.vol, .int .i64 r.arg, .int .i64 r.chunk] 34)) := (Below.refl _ _).alloc (Nat.le_refl _) _
      have D3 := hide (R2.out.1.below (ba.mono R2.out.1.1.size) hpw)
      have OW := hide (own_kept R2.out.2 (fun i hi _ => ba.block i hi))
      have HN := hide (rc_new x2 r x2.heap.size rfl)
      have HO := hide (rc_one r)
      have HZ := hide D3.out.1.size
      have hh8 : l.length < 8 := by omega
      clear ba R2
      unfold rcVal
      go_wp2_with (at_builtin; refine wpList_append_own_at _ rfl _ _ 29 rfl w.heap.size 34 i0 (.agg #[.int .i64 0, .int .i64 0, .int .i64 0, .int .i64 0]) 4 32 Try.underlying29 I0.out Y0.out Y1.out Y2.out rfl (by decide) _ l.length (rccells (l.map Rc.tu)) rfl OW.out ⟨x2.heap.size, 0, none⟩ 1 1 [Value.int .i64 r.kind, Value.int .i64 r.vol, Value.int .i64 r.arg, Value.int .i64 r.chunk] rfl rfl HN.out HO.out ?m1 ?m2 HZ.out ?_)
      case m1 => unfold maxLen; omega
      case m2 => omega
      intro u' y' ho hg _ hw
      rw [rc_snoc l r, show l.length + 1 = (l ++ [r]).length by simp] at ho
      have hA' : Hid (∀ z ∈ l ++ [r], z.Right) := by
        intro z hz
        rcases List.mem_append.1 hz with h | h
        · exact HA.out z h
        · simp at h; subst h; exact HR.out
      have DN : Hid (Drawn w y' p ad len cap) := D3.out.below ((Below.refl _ _).grown hg D3.out.1.size (fun k hk => (OW.out.lt k hk).1)) hpw
      have hll : (l ++ [r]).length = l.length + 1 := by simp
      generalize l ++ [r] = l' at ho hA' hll
      rcases id ho.2 with ⟨-, h0⟩ | ⟨ug', uc', cur, rfl, -, -, -, -, -, -⟩
      · omega
      have RN := hide (And.intro DN.out ho)
      clear ho hg hw HN HO HZ OW D3 DN HA
      go_wp2
      go_roundw
      case rel => exact ⟨ug', uc', l', by omega, by rw [hll]; go_num, rfl, hA', RN⟩
      case measure => simp [intOf]; omega
    · go_wp2_with fail
      go_ret
      exact ⟨ug, uc, l, rfl, h8, HA.out, R1.out.2, R1.out.1⟩
end Go.Proofs.Ytogfdhfmamabiaa

/-
  A new cursor.
-/
namespace Go.Proofs.Ytogfdhfmamabiaa
open Go.RowKit

set_option maxHeartbeats 400000 in
set_option maxRecDepth 100000 in
theorem new_any (ad : Option Addr) (len cap B : Nat) (w : World) (hl : len ≤ 1048576) (hd : CodeIn w ad len B) :
    Calls Try.prog 22 #[.slice ad len cap] w fun e w' => ∃ p, e = .returned (.pointer (some ⟨p, 0, none⟩)) ∧ w.heap.size ≤ p ∧ CurIn w' p ad len cap ∧ Below w.heap.size w w' := by
  have HD := hide hd
  clear hd
  go_enter Try.func22, Try.ntmps22
  go_wp2
  go_loop [3, 4] (fun hv iv => ∃ (x : Int) (k : Nat), k ≤ len ∧ hv = .int .i64 x ∧ iv = .int .i64 k) (fun _ iv => len - (intOf iv).toNat)
  case atStart => exact ⟨_, 0, Nat.zero_le _, rfl, rfl⟩
  case round =>
    obtain ⟨x, k, hk, rfl, rfl⟩ := hrel
    by_cases hlt : (k : Int) < len
    · by_cases h4 : (k : Int) < 4000
      · obtain ⟨b, off, rfl, hbB, c, hc8, hcell⟩ := HD.out k (by omega)
        go_wp2
        go_round
        case rel => exact ⟨_, k + 1, by omega, rfl, by go_num⟩
        case measure => simp [intOf]; omega
      · go_wp2
        go_ret
        refine ⟨w.heap.size, rfl, Nat.le_refl _, ?_, (Below.refl _ _).alloc (Nat.le_refl _) _⟩
        exact ⟨by simp, ⟨0, by omega, by simp⟩, ⟨x, by simp⟩, by simp, by simp, by simp⟩
    · go_wp2
      go_ret
      refine ⟨w.heap.size, rfl, Nat.le_refl _, ?_, (Below.refl _ _).alloc (Nat.le_refl _) _⟩
      exact ⟨by simp, ⟨0, by omega, by simp⟩, ⟨x, by simp⟩, by simp, by simp, by simp⟩
end Go.Proofs.Ytogfdhfmamabiaa
