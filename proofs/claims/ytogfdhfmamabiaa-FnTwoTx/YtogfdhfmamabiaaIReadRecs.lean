/-
  impl.ReadRecs.
-/
import Derived.Test.YtogfdhfmamabiaaIReadRec
import Derived.Test.YtogfdhfmamabiaaSReadRecs
namespace Go.Proofs.Ytogfdhfmamabiaa
open Go.RowKit
open Words

/-- The row of records that was read so far. -/
def RO (w W : World) (uv : Value) (acc : List Rc) : Prop := Below w.heap.size w W ∧ W.ownsRow w.heap.size 34 4 uv acc.length (rccells (acc.map Rc.tu))
theorem RO.below {w W W' : World} {uv : Value} {acc : List Rc} (h : RO w W uv acc) (b : Below W.heap.size W W') : RO w W' uv acc :=
  ⟨h.1.trans (b.mono h.1.size), own_kept h.2 (fun i hi _ => b.block i hi)⟩
theorem rc_new2 (W : World) (r : Rc) (g : Nat) (hg : W.heap.size + 1 = g) : ∀ (j : Nat) (u : Value), [Value.int .i64 r.kind, Value.int .i64 r.vol, Value.int .i64 r.arg, Value.int .i64 r.chunk][j]? = some u → ((W.alloc (.cells #[.int .i64 r.kind, .int .i64 r.vol, .int .i64 r.arg, .int .i64 r.chunk] 34)).alloc (.cells #[.int .i64 r.kind, .int .i64 r.vol, .int .i64 r.arg, .int .i64 r.chunk] 34)).cell? ((⟨g, 0, none⟩ : Addr).add j) = some u :=
  rc_new (W.alloc (.cells #[.int .i64 r.kind, .int .i64 r.vol, .int .i64 r.arg, .int .i64 r.chunk] 34)) r g (by simpa using hg)

set_option maxHeartbeats 1000000 in
set_option maxRecDepth 100000 in
theorem ireadRecs (t : ByteArray) (w : World) (hs : t.size ≤ 1048576) :
    Calls Try.prog 60 #[.string t] w (RcOut w t) := by
  go_enter Try.func60, Try.ntmps60
  go_wp2
  go_loopw [4, 5] (fun uv iv wr => ∃ (q : Nat) (acc : List Rc), iv = .int .i64 q ∧ acc.length ≤ q ∧ q ≤ t.size ∧ Hid (RO w wr uv acc) ∧ Hid (recs t.data.toList 0 = (recs t.data.toList q).map (acc ++ ·))) (fun _ iv _ => t.size - (intOf iv).toNat)
  case atStart => exact ⟨0, [], rfl, Nat.le_refl _, Nat.zero_le _, ⟨Below.refl _ _, World.ownsRow_nil _ _ _ _⟩, by show _ = Option.map _ _; cases recs t.data.toList 0 <;> simp⟩
  case round =>
    obtain ⟨q, acc, rfl, ha, hq, R, E⟩ := hrel
    by_cases hlt : (q : Int) < t.size
    · have hqt : q < t.size := by omega
      go_wp2_with fail
      refine (ireadRec t q _ hs hqt).mono ?_
      rintro e x1 ⟨r, j, ok, rfl, hr, b1⟩
      have R1 := hide (R.out.below b1)
      clear b1 R
      cases ok with
      | false =>
        have HN : Hid (recs t.data.toList q = none) := recs_none (by simpa using hqt) (by simpa using hr)
        unfold rcVal
        have B := hide (R1.out.1.alloc R1.out.1.size (.cells #[.int .i64 r.kind, .int .i64 r.vol, .int .i64 r.arg, .int .i64 r.chunk] 34))
        clear hr
        go_wp2
        go_ret2
        exact ⟨_, [], false, rfl, World.ownsRow_nil _ _ _ _, B.out, .inl ⟨by rw [E.out, HN.out]; rfl, rfl, rfl⟩⟩
      | true =>
        have hrec : rec1 t.data.toList q = some (r, j) := by simpa using hr
        obtain ⟨-, -, hqj, hjl, -⟩ := rec1_cut hrec
        have hjl2 : j ≤ t.size := by simpa using hjl
        have E' : Hid (recs t.data.toList 0 = (recs t.data.toList j).map ((acc ++ [r]) ++ ·)) := by
          show _ = _
          rw [E.out, recs_some hrec]
          cases recs t.data.toList j <;> simp
        clear hr hrec E hjl
        have HN := hide (rc_new2 x1 r (x1.heap.size + 1) rfl)
        have HO := hide (rc_one r)
        have R2 := hide ((R1.out.below ((Below.refl _ _).alloc (Nat.le_refl _) (.cells #[.int .i64 r.kind, .int .i64 r.vol, .int .i64 r.arg, .int .i64 r.chunk] 34))).below ((Below.refl _ _).alloc (Nat.le_refl _) (.cells #[.int .i64 r.kind, .int .i64 r.vol, .int .i64 r.arg, .int .i64 r.chunk] 34)))
        have HZ := hide R2.out.1.size
        have OW := hide R2.out.2
        obtain ⟨k, v, a, d⟩ := r
        unfold rcVal
        simp only at *
        clear R1
        obtain ⟨i0, hi0, hz0, hz1, hz2⟩ := info_parts infoRc
        have I0 := hide hi0
        have Z0 := hide hz0
        have Z1 := hide hz1
        have Z2 := hide hz2
        clear hi0 hz0 hz1 hz2
        go_wp2_with (at_builtin; refine wpList_append_own _ rfl _ _ 29 rfl w.heap.size 34 i0 (.agg #[.int .i64 0, .int .i64 0, .int .i64 0, .int .i64 0]) 4 32 Try.underlying29 I0.out Z0.out Z1.out Z2.out rfl (by decide) _ acc.length (rccells (acc.map Rc.tu)) rfl OW.out ⟨x1.heap.size + 1, 0, none⟩ 1 1 [Value.int .i64 k, Value.int .i64 v, Value.int .i64 a, Value.int .i64 d] rfl rfl HN.out HO.out ?m1 ?m2 HZ.out ?_)
        case m1 => unfold maxLen; omega
        case m2 => omega
        intro u' y ho hg _
        have es := rc_snoc acc (Rc.mk k v a d)
        simp only at es
        rw [es, show acc.length + 1 = (acc ++ [Rc.mk k v a d]).length by simp] at ho
        have RN : Hid (RO w y u' (acc ++ [Rc.mk k v a d])) := ⟨R2.out.1.grown hg R2.out.1.size (fun k hk => (R2.out.2.lt k hk).1), ho⟩
        have hll : (acc ++ [Rc.mk k v a d]).length = acc.length + 1 := by simp
        generalize acc ++ [Rc.mk k v a d] = acc' at RN hll ho E'
        clear ho hg HN HO HZ OW es I0 Z0 Z1 Z2 R2
        go_wp2
        go_roundw
        case rel => exact ⟨j, acc', rfl, by omega, hjl2, RN, E'⟩
        case measure => simp [intOf]; omega
    · have hq2 : q = t.size := by omega
      have HN : Hid (recs t.data.toList q = some []) := recs_end (show t.size ≤ q by omega)
      go_wp2_with fail
      go_ret2
      exact ⟨_, acc, true, rfl, R.out.2, R.out.1, .inr ⟨by rw [E.out, HN.out]; simp, rfl⟩⟩
end Go.Proofs.Ytogfdhfmamabiaa
