/-
  DPl; TkStD; Big; IAll; Code
-/
import Derived.Test.YtcnaahajaaifjaaPq29
import Derived.Test.YtcnaahajaaifjaaDrSR
import Derived.Test.YtcnaahajaaifjaaStoM7
import Derived.Test.YtcnaahajaaifjaaPq22
import Derived.Test.YtcnaahajaaifjaaPq0
import Derived.Test.YtcnaahajaaifjaaPq25
import Derived.Test.YtcnaahajaaifjaaPq27
/-
  The draw of twelve places.
-/
namespace Go.Proofs.Ytcnaahajaaifjaa
open Go.RowKit

theorem CodeIn.up {w : World} {ad : Option Addr} {len B C : Nat} (h : CodeIn w ad len B) (hB : B ≤ C) : CodeIn w ad len C := by
  intro j hj
  obtain ⟨b, off, h1, h2, c⟩ := h j hj
  exact ⟨b, off, h1, by omega, c⟩
/-- Twelve numbers below 10000, in a new block. -/
def Placed (w : World) (e : Ending) (w' : World) : Prop :=
  ∃ (g cp : Nat) (l : List Int), e = .returned (.slice (some ⟨g, 0, none⟩) 12 cp) ∧ w.heap.size ≤ g ∧ g < w'.heap.size ∧ l.length = 12 ∧ (∀ x ∈ l, 0 ≤ x ∧ x < 10000) ∧ (∀ j (hj : j < l.length), w'.cell? ⟨g, j, none⟩ = some (.int .i64 l[j])) ∧ Below w.heap.size w w'

set_option maxHeartbeats 400000 in
set_option maxRecDepth 100000 in
theorem places_any (ad : Option Addr) (len cap : Nat) (w : World) (hl : len ≤ 1048576) (hd : CodeIn w ad len w.heap.size) :
    Calls Try.prog 19 #[.slice ad len cap] w fun e w' => Placed w e w' := by
  obtain ⟨i0, hi, hz0, hz1, hz2⟩ := info_parts infoInt
  have HD := hide hd
  clear hd
  go_enter Try.func19, Try.ntmps19
  go_wp2_with fail
  refine (new_any ad len cap w.heap.size _ hl HD.out).mono ?_
  rintro e w1 ⟨p, rfl, hp, hc, hb⟩
  have HC := hide hc
  have hs := hb.size
  have hpw := hc.2.2.2.2.2
  have HD1 := hide (HD.out.on hb (Nat.le_refl _))
  clear hc
  go_wp2_with fail
  refine (byte_any p ad len cap w.heap.size _ hl HC.out HD1.out hp).mono ?_
  rintro e w2 ⟨x, rfl, x0, x1, g1, c1⟩
  have hb2 : Below w.heap.size w w2 := hb.trans (grown_below g1 hp hs)
  have HD2 := hide (Drawn.code ⟨g1, c1⟩ HD1.out hp hpw)
  have HC2 := hide c1
  have hp2 := c1.2.2.2.2.2
  have hs2 := hb2.size
  clear g1 c1 hb HC HD1 HD
  go_wp2
  go_loopw [4, 5] (fun out iv wr => ∃ l : List Int, l.length ≤ 12 ∧ iv = .int .i64 l.length ∧ Hid (∀ x ∈ l, 0 ≤ x ∧ x < 10000) ∧ wr.ownsRow w2.heap.size 3 1 out l.length (icells l) ∧ w2.heap.size ≤ wr.heap.size ∧ Hid (Drawn w2 wr p ad len cap)) (fun _ iv _ => 12 - (intOf iv).toNat)
  case atStart => exact ⟨[], by simp, rfl, (by intro x hx; cases hx), World.ownsRow_made w2 #[] 0 (Nat.le_refl _) (by unfold maxLen; omega) (by simp), by simp, Drawn.below (Drawn.refl HC2.out) ((Below.refl _ _).alloc (Nat.le_refl _) _) hp2⟩
  case round =>
    obtain ⟨l, ht, rfl, hall, hown, hsz, hdr⟩ := hrel
    by_cases hlt : (l.length : Int) < 12
    · have HDr := hide (hdr.out.code HD2.out hp hp2)
      go_wp2_with fail
      refine (below_any 10000 p ad len cap w.heap.size _ (by omega) hl hdr.out.2 HDr.out hp).mono ?_
      rintro e w3 ⟨x, rfl, x0, x1, _, D⟩
      have x2 := x1 (by omega)
      have hlow := hown.lt
      have hown1 := hown.kept D.1 (.inr (fun h => by have := hlow p h; omega))
      have D1 : Hid (Drawn w2 w3 p ad len cap) := hdr.out.trans D
      have hs1 := D.1.size
      clear D hown hdr HDr x1
      go_wp2_with (at_builtin; refine wpList_append_own _ rfl _ _ 43 rfl w2.heap.size 3 i0 (.int .i64 0) 1 8 Try.underlying43 hi hz0 hz1 hz2 rfl (by decide) _ _ _ rfl (by exact hown1.alloc _) ⟨w3.heap.size, 0, none⟩ 1 1 [Value.int .i64 _] rfl rfl (by exact one_cell _ _ _) (one_i64 _) (by unfold maxLen; omega) (by omega) (by simp; omega) ?_)
      intro v' w4 hown2 hgrow _
      have hb4 : Below w2.heap.size w3 w4 := own_grown (Below.refl _ _) (by omega) hown1 hgrow
      have D2 : Hid (Drawn w2 w4 p ad len cap) := D1.out.below hb4 hp2
      rw [icells_snoc l x] at hown2
      have hs4 := hb4.size
      have hall2 : Hid (∀ y ∈ l ++ [x], 0 ≤ y ∧ y < 10000) := by
        intro y hy
        rcases List.mem_append.1 hy with h | h
        · exact hall.out y h
        · simp at h; subst h; exact ⟨x0, x2⟩
      clear hown1 hgrow hb4 D1 hall
      go_wp2
      go_roundw
      case rel => exact ⟨l ++ [x], by simp; omega, by simp, hall2, by simpa using hown2, by omega, D2⟩
      case measure => simp [intOf]; omega
    · have e12 : l.length = 12 := by omega
      have hb5 : Below w.heap.size w wr := hb2.trans (grown_below hdr.out.1 hp hs2)
      rw [e12] at hown
      have hlow := hown.lt
      have hcs := hown
      rcases hown.2 with ⟨-, h0⟩ | ⟨g, cp, cur, rfl, -, -, -, -, -, -⟩
      · omega
      · have hlt := hlow g rfl
        have hge : w.heap.size ≤ g := by omega
        have hgw : g < wr.heap.size := hlt.2
        have hcell : ∀ j (hj : j < l.length), wr.cell? ⟨g, j, none⟩ = some (.int .i64 l[j]) := by
          intro j hj
          have := hcs.cells (g := g) rfl j _ (icells_at l j hj)
          rw [addr_at] at this
          exact this
        have HO := hide hcell
        have E := hide e12
        clear e12 hcell hcs hown hlow
        go_wp2
        go_ret
        exact ⟨g, cp, l, rfl, hge, hgw, E.out, hall.out, HO.out, hb5⟩
end Go.Proofs.Ytcnaahajaaifjaa

/-
  The functions on stores over what a drawn law holds.
-/
namespace Go.Proofs.Ytcnaahajaaifjaa
open Go.RowKit
open Words

theorem drn_fit {s : Sto} (h : s.Drn) : s.Fit := right_fit h.1
theorem dsr_tk {w wi : World} {hs : List Hold} {ad : Option Addr} {len cap : Nat} (T : Tk w wi hs) (hl : len ≤ 1048576) (hd : CodeIn w ad len w.heap.size) :
    Calls Try.prog 10 #[.slice ad len cap] wi fun e w' => ∃ (va : Option Addr) (vl vc : Nat) (kd : Option Addr) (kl kc : Nat) (s : Sto) (kind vol arg chunk : Int), e = .returned (.tuple #[.agg #[.slice va vl vc, .slice kd kl kc, .int .i64 s.next], .agg #[.int .i64 kind, .int .i64 vol, .int .i64 arg, .int .i64 chunk]]) ∧ (s.Drn ∧ vol ≤ 3 ∧ vl = s.vols.length ∧ kl = s.kns.length ∧ vl ≤ vc) ∧ Tk w w' ((wi.heap.size, w'.heap.size, Sts wi.heap.size w'.heap.size (.agg #[.slice va vl vc, .slice kd kl kc, .int .i64 s.next]) s) :: hs) ∧ wi.heap.size ≤ w'.heap.size := by
  refine (drawSR ad len cap wi hl ((hd.on T.1 (Nat.le_refl _)).up T.1.size)).mono ?_
  rintro e w' ⟨u, s, ⟨kind, vol, arg, chunk⟩, rfl, h1, h2, h3, h4, hb⟩
  obtain ⟨va, vc, kd, kc, rfl⟩ := h4.form
  exact ⟨va, _, vc, kd, _, kc, s, kind, vol, arg, chunk, rfl, ⟨h1, h2, rfl, rfl, vcap_le h3⟩, T.add hb (Sts.loc _ _ _ _) h4, hb.size⟩
theorem gent_tk {f : Nat} (HC : EnterC f) {w wi : World} {hs : List Hold} {lo hi : Nat} {v : Value} {s R1 : Sto} {R2 : Bool} {kind vol arg chunk : Int} (hR : enterS s ⟨kind, vol, arg, chunk⟩ = (R1, R2)) (T : Tk w wi hs) (n1 : Nat) (ho : s.Fit) (e1 : hs[n1]? = some (lo, hi, Sts lo hi v s)) :
    Calls Try.prog f #[v, .agg #[.int .i64 kind, .int .i64 vol, .int .i64 arg, .int .i64 chunk]] wi fun e w' => ∃ x xl xc y yl yc, e = .returned (.tuple #[.agg #[.slice x xl xc, .slice y yl yc, .int .i64 R1.next], .bool R2]) ∧ (xl = R1.vols.length ∧ yl = R1.kns.length) ∧ Tk w w' ((wi.heap.size, w'.heap.size, Sts wi.heap.size w'.heap.size (.agg #[.slice x xl xc, .slice y yl yc, .int .i64 R1.next]) R1) :: hs) ∧ wi.heap.size ≤ w'.heap.size := by
  refine (HC v s ⟨kind, vol, arg, chunk⟩ wi ((T.get n1 e1).rd ho (T.hi n1 e1))).mono ?_
  rintro e w' ⟨u, rfl, hu⟩
  rw [hR] at hu
  simp only at hu
  obtain ⟨x, xc, y, yc, rfl⟩ := hu.sts.form
  rw [hR]
  exact ⟨x, _, xc, y, _, yc, rfl, ⟨rfl, rfl⟩, T.add hu.blw (Sts.loc _ _ _ _) hu.sts, hu.blw.size⟩
theorem sent_tk {w wi : World} {hs : List Hold} {lo hi vl vc : Nat} {va : Option Addr} {k x0 : Value} {s R1 : Sto} {R2 : Bool} {kind vol arg chunk : Int} (hR : enterS s ⟨kind, vol, arg, chunk⟩ = (R1, R2)) (T : Tk w wi hs) (n1 : Nat) (ho : s.Fit) (hc : vl ≤ vc) (e1 : hs[n1]? = some (lo, hi, Sts lo hi (.agg #[.slice va vl vc, k, x0]) s)) :
    Calls Try.prog 12 #[.agg #[.slice va vl vc, k, x0], .agg #[.int .i64 kind, .int .i64 vol, .int .i64 arg, .int .i64 chunk]] wi fun e w' => ∃ x xl xc y yl yc, e = .returned (.tuple #[.agg #[.slice x xl xc, .slice y yl yc, .int .i64 R1.next], .bool R2]) ∧ (xl = R1.vols.length ∧ yl = R1.kns.length) ∧ Tk w w' ((wi.heap.size, w'.heap.size, Sts wi.heap.size w'.heap.size (.agg #[.slice x xl xc, .slice y yl yc, .int .i64 R1.next]) R1) :: hs) ∧ wi.heap.size ≤ w'.heap.size := by
  refine (senter _ s ⟨kind, vol, arg, chunk⟩ wi ((T.get n1 e1).rd ho (T.hi n1 e1)) ⟨_, _, _, _, _, rfl, hc⟩).mono ?_
  rintro e w' ⟨u, rfl, hu, -⟩
  rw [hR] at hu
  simp only at hu
  obtain ⟨x, xc, y, yc, rfl⟩ := hu.sts.form
  rw [hR]
  exact ⟨x, _, xc, y, _, yc, rfl, ⟨rfl, rfl⟩, T.add hu.blw (Sts.loc _ _ _ _) hu.sts, hu.blw.size⟩
/-- Records that lie in a row somewhere. -/
theorem rows_of {W : World} {g : Nat} {l : List Rc} (hl : l.length ≤ 1048576) (h : Flt 31 g (rccells (l.map Rc.tu)) W) : RcRow W (some ⟨g, 0, none⟩) l.length (l.map Rc.tu) := by
  refine ⟨by rw [List.length_map], by unfold maxLen; omega, by simp, fun h0 => ⟨g, 0, rfl, ?_, fun i t hi => ?_⟩⟩
  · obtain ⟨cs, h1, -⟩ := h
    exact (Array.getElem?_eq_some_iff.1 h1).1
  · have hc := fun j v hj => h.cell (rccells_at (l.map Rc.tu) i t hi j v hj)
    exact ⟨by simpa using hc 0 _ rfl, by simpa using hc 1 _ rfl, by simpa using hc 2 _ rfl, by simpa using hc 3 _ rfl⟩
theorem gena_tk {f : Nat} (HC : EnterAllC f) {w wi : World} {hs : List Hold} {lo hi n c : Nat} {a : Option Addr} {v : Value} {s R1 : Sto} {R2 : Bool} {l : List Rc} (hR : enterAllS s l = (R1, R2)) (hm : n ≤ 1048576) (hr : RcRow wi a n (l.map Rc.tu)) (T : Tk w wi hs) (n1 : Nat) (ho : s.Fit) (e1 : hs[n1]? = some (lo, hi, Sts lo hi v s)) :
    Calls Try.prog f #[v, .slice a n c] wi fun e w' => ∃ x xl xc y yl yc, e = .returned (.tuple #[.agg #[.slice x xl xc, .slice y yl yc, .int .i64 R1.next], .bool R2]) ∧ (xl = R1.vols.length ∧ yl = R1.kns.length) ∧ Tk w w' ((wi.heap.size, w'.heap.size, Sts wi.heap.size w'.heap.size (.agg #[.slice x xl xc, .slice y yl yc, .int .i64 R1.next]) R1) :: hs) ∧ wi.heap.size ≤ w'.heap.size := by
  refine (HC v s a n c l wi (by omega) ((T.get n1 e1).rd ho (T.hi n1 e1)) hr).mono ?_
  rintro e w' ⟨u, rfl, hu⟩
  rw [hR] at hu
  simp only at hu
  obtain ⟨x, xc, y, yc, rfl⟩ := hu.sts.form
  rw [hR]
  exact ⟨x, _, xc, y, _, yc, rfl, ⟨rfl, rfl⟩, T.add hu.blw (Sts.loc _ _ _ _) hu.sts, hu.blw.size⟩
theorem gsam_tk {f : Nat} (HC : SameC f) {w wi : World} {hs : List Hold} {lo hi l2 h2 : Nat} {v u : Value} {s t : Sto} {b : Bool} (hb : sameS s t = b) (T : Tk w wi hs) (n1 n2 : Nat) (ho : s.Fit) (ht : t.Fit) (e1 : hs[n1]? = some (lo, hi, Sts lo hi v s)) (e2 : hs[n2]? = some (l2, h2, Sts l2 h2 u t)) :
    Calls Try.prog f #[v, u] wi fun e w' => e = .returned (.bool b) ∧ Tk w w' hs ∧ wi.heap.size ≤ w'.heap.size := by
  refine (HC v s u t wi ((T.get n1 e1).rd ho (T.hi n1 e1)) ((T.get n2 e2).rd ht (T.hi n2 e2))).mono ?_
  rintro e w' ⟨rfl, hbl⟩
  rw [hb]
  exact ⟨rfl, T.below hbl, hbl.size⟩
theorem gsok_tk {f : Nat} (HC : OkC f) {w wi : World} {hs : List Hold} {lo hi : Nat} {v : Value} {s : Sto} {b : Bool} (hb : stoB s = b) (T : Tk w wi hs) (n1 : Nat) (ho : s.Fit) (e1 : hs[n1]? = some (lo, hi, Sts lo hi v s)) :
    Calls Try.prog f #[v] wi fun e w' => e = .returned (.bool b) ∧ Tk w w' hs ∧ wi.heap.size ≤ w'.heap.size := by
  refine (HC v s wi ((T.get n1 e1).rd ho (T.hi n1 e1))).mono ?_
  rintro e w' ⟨rfl, hbl⟩
  rw [hb]
  exact ⟨rfl, T.below hbl, hbl.size⟩
theorem gchk_tk {f : Nat} (HC : ChunkC f) {w wi : World} {hs : List Hold} {lo hi : Nat} {v : Value} {s : Sto} {vol sec b : Int} (hb : chunkS s vol sec = b) (T : Tk w wi hs) (n1 : Nat) (ho : s.Fit) (e1 : hs[n1]? = some (lo, hi, Sts lo hi v s)) :
    Calls Try.prog f #[v, .int .i64 vol, .int .i64 sec] wi fun e w' => e = .returned (.int .i64 b) ∧ Tk w w' hs ∧ wi.heap.size ≤ w'.heap.size := by
  refine (HC v s vol sec wi ((T.get n1 e1).rd ho (T.hi n1 e1))).mono ?_
  rintro e w' ⟨rfl, hbl⟩
  rw [hb]
  exact ⟨rfl, T.below hbl, hbl.size⟩
theorem gref_tk {f : Nat} (HC : RefsC f) {w wi : World} {hs : List Hold} {lo hi b : Nat} {v : Value} {s : Sto} {c : Int} (hb : refsS s c = b) (T : Tk w wi hs) (n1 : Nat) (ho : s.Fit) (e1 : hs[n1]? = some (lo, hi, Sts lo hi v s)) :
    Calls Try.prog f #[v, .int .i64 c] wi fun e w' => e = .returned (.int .i64 (b : Int)) ∧ Tk w w' hs ∧ wi.heap.size ≤ w'.heap.size := by
  refine (HC v s c wi ((T.get n1 e1).rd ho (T.hi n1 e1))).mono ?_
  rintro e w' ⟨rfl, hbl⟩
  rw [hb]
  exact ⟨rfl, T.below hbl, hbl.size⟩
theorem gnew_tk {f : Nat} (HC : NewC f) {w wi : World} {hs : List Hold} (T : Tk w wi hs) :
    Calls Try.prog f #[] wi fun e w' => ∃ x xc y yc, e = .returned (.agg #[.slice x 0 xc, .slice y 0 yc, .int .i64 1]) ∧ Tk w w' ((wi.heap.size, w'.heap.size, Sts wi.heap.size w'.heap.size (.agg #[.slice x 0 xc, .slice y 0 yc, .int .i64 1]) stoNew) :: hs) ∧ wi.heap.size ≤ w'.heap.size := by
  refine (HC wi).mono ?_
  rintro e w' ⟨u, rfl, hu⟩
  obtain ⟨x, xc, y, yc, rfl⟩ := hu.sts.form
  exact ⟨x, xc, y, yc, rfl, T.add hu.blw (Sts.loc _ _ _ _) hu.sts, hu.blw.size⟩
end Go.Proofs.Ytcnaahajaaifjaa

/-
  The laws' own look at a code that is too long.
-/
namespace Go.Proofs.Ytcnaahajaaifjaa
open Go.RowKit

theorem big_any (ad : Option Addr) (len cap : Nat) (w : World) :
    Calls Try.prog 9 #[.slice ad len cap] w fun e w' => e = .returned (.bool (decide ((1048576 : Int) < len))) ∧ w' = w := by
  by_cases h : (1048576 : Int) < len
  all_goals
    go_enter Try.func9, Try.ntmps9
    go_wp2
    go_ret
    exact ⟨by simp [h], rfl⟩
end Go.Proofs.Ytcnaahajaaifjaa

/-
  impl.AllAt.
-/
namespace Go.Proofs.Ytcnaahajaaifjaa
open Go.RowKit
open Words

theorem allT_at (L : List Kn) (r : Int) {k : Nat} (h : k < 16) : (allT L r)[k]? = some (getT L r (k : Int)) := by
  rw [allT, List.getElem?_map, List.getElem?_range h]
  rfl
theorem allT_no {L : List Kn} {r : Int} (h : (arB L && rootB L r) = false) : allT L r = List.replicate 16 0 := by
  refine List.eq_replicate_iff.2 ⟨allT_len L r, fun n hn => ?_⟩
  obtain ⟨s, -, rfl⟩ := List.mem_map.1 hn
  exact if_neg (by rw [askB, h]; simp)

set_option maxHeartbeats 1000000 in
set_option maxRecDepth 100000 in
theorem iallAt : AllC 54 := by
  intro ad len cap rs r w hl h
  obtain ⟨i0, hi, hz0, hz1, hz2⟩ := info_parts infoInt
  have BX := hide (box_at w (.slice ad len cap))
  have bx := BX.out
  have B0 : Hid (Below w.heap.size w (w.alloc (.cells #[.slice ad len cap] 27))) := (Below.refl _ _).alloc (Nat.le_refl _) _
  have H := hide (h.below B0.out)
  clear h
  obtain ⟨L, hL⟩ : ∃ L, rs.map ktell = L := ⟨_, rfl⟩
  have HL := hide hL
  rw [hL]
  clear hL
  go_enter Try.func54, Try.ntmps54
  go_wp2_with (at_make; refine wpList_make_full _ rfl _ _ 43 rfl (w.heap.size + 1) 3 i0 (.int .i64 0) 1 Try.underlying43 hi hz0 hz1 .i64 .i64 _ _ 16 rfl rfl rfl rfl (by rw [hz2]; omega) (by unfold maxLen; omega) (by simp) ?_)
  intro w1 hown hgrow
  rw [toList_madeCells_one, icells_rep] at hown
  clear hi hz0 hz1 hz2
  have BG : Hid (Below (w.alloc (.cells #[.slice ad len cap] 27)).heap.size (w.alloc (.cells #[.slice ad len cap] 27)) w1) := (Below.refl _ _).grown hgrow (Nat.le_refl _) (fun k hk => by cases hk)
  have HSZ : Hid ((w.alloc (.cells #[.slice ad len cap] 27)).heap.size = w.heap.size + 1) := by show _ = _; simp
  have HO := hide hown
  have bx1 := (BG.out.cell (show w.heap.size < (w.alloc (.cells #[.slice ad len cap] 27)).heap.size by simp)).trans BX.out
  have H1 := hide (H.out.below BG.out)
  have B1 : Hid (Below w.heap.size w w1) := B0.out.trans (BG.out.mono B0.out.size)
  clear hown hgrow bx BX BG B0 H HSZ
  obtain ⟨z, hz⟩ : ∃ z, w.heap.size = z := ⟨_, rfl⟩
  have HZ := hide hz
  rw [hz] at HO bx1 ⊢
  clear hz
  go_wp2_with fail
  refine (iatree ad len cap rs r w1 hl H1.out).mono ?_
  rw [HL.out]
  rintro e w2 ⟨b2, h2⟩
  have HO2 := hide (own_below HO.out b2)
  have B2 : Hid (Below w.heap.size w w2) := B1.out.trans (b2.mono B1.out.size)
  clear b2 HO B1 H1 bx1
  rcases h2 with ⟨hA, hR, b, bs, rfl, hT⟩ | ⟨hA, rfl⟩
  · have HA := hide hA
    have HR := hide hR
    have S0 : Hid (∃ xs : List Int, xs = (allT L r).take 0 ++ (List.replicate 16 0).drop 0 ∧ w2.ownsRow (z + 1) 3 1 (.slice (some ⟨z + 1, 0, none⟩) 16 16) 16 (icells xs) ∧ TreeAt w2 b bs L r ∧ Below w.heap.size w w2) := ⟨_, rfl, HO2.out, hT, B2.out⟩
    clear hA hR hT HO2
    unfold ptr
    go_wp2
    go_loopw [17] (fun iv W => ∃ k : Nat, k ≤ 16 ∧ iv = .int .i64 k ∧ Hid (∃ xs : List Int, xs = (allT L r).take k ++ (List.replicate 16 0).drop k ∧ W.ownsRow (z + 1) 3 1 (.slice (some ⟨z + 1, 0, none⟩) 16 16) 16 (icells xs) ∧ TreeAt W b bs L r ∧ Below w.heap.size w W)) (fun iv _ => 16 - (intOf iv).toNat)
    case atStart => exact ⟨0, by omega, rfl, S0⟩
    case round =>
      obtain ⟨k, hk, rfl, HS⟩ := hrel
      clear S0
      by_cases hlt : (k : Int) < 16
      · have hk16 : k < 16 := by omega
        obtain ⟨xs, hxs, ho, ht, hb⟩ := HS.out
        have HT := hide ht
        have k0 : (0 : Int) ≤ k := by omega
        have hx0 : xs[k]? = some 0 := by rw [hxs, part_at (by rw [allT_len]; exact hk16), List.getElem?_replicate, if_pos hk16]
        have oc : wr.cell? ⟨z + 1, k, none⟩ = some (.int .i64 0) := by
          rw [← addr_at]
          exact ho.cells (g := z + 1) rfl k _ (icells_get hx0)
        have of : wr.frozen? ⟨z + 1, k, none⟩ = false := by
          obtain ⟨-, -, cs, q⟩ := own_kind ho (z + 1) rfl
          exact frozen_of_row _ _ k _ _ q
        have HN : Hid (∃ xs : List Int, xs = (allT L r).take (k + 1) ++ (List.replicate 16 0).drop (k + 1) ∧ (wr.setCell ⟨z + 1, k, none⟩ (.int .i64 (getP L r k))).ownsRow (z + 1) 3 1 (.slice (some ⟨z + 1, 0, none⟩) 16 16) 16 (icells xs) ∧ TreeAt (wr.setCell ⟨z + 1, k, none⟩ (.int .i64 (getP L r k))) b bs L r ∧ Below w.heap.size w (wr.setCell ⟨z + 1, k, none⟩ (.int .i64 (getP L r k)))) := by
          have hg : getT L r (k : Int) = getP L r k := if_pos (by rw [askB, HA.out, HR.out, decide_eq_true (show (0 : Int) ≤ k by omega), decide_eq_true (show (k : Int) ≤ 15 by omega)]; rfl)
          refine ⟨xs.set k (getP L r k), ?_, by rw [← icells_set]; exact fown_set ho rfl k _, ?_, hb.setCell (p := ⟨z + 1, k, none⟩) (by rw [HZ.out]; show z ≤ z + 1; omega) _⟩
          · rw [hxs]
            exact part_set (by rw [allT_at L r hk16, hg]) (by rw [allT_len]; rfl)
          · obtain ⟨-, -, cs, q⟩ := own_kind ho (z + 1) rfl
            have hne : ∀ {c : Nat} {x : Lk}, LkAt wr c x → c ≠ z + 1 := by
              intro c x hc e
              have := hc.1
              rw [e, q] at this
              injection this with this
              injection this with _ this
              simp at this
            refine ⟨⟨ht.1.1, fun i c x h1 h2 => (ht.1.2 i c x h1 h2).other (hne (ht.1.2 i c x h1 h2)) _⟩, ?_⟩
            rcases ht.2 with ⟨e, q⟩ | q
            · exact .inl ⟨e, q.other (hne q) _⟩
            · exact .inr q
        clear hxs ho ht hb hx0 HS
        go_wp2_with fail
        refine (inum b bs L r k wr (by omega) HA.out HT.out).mono ?_
        rintro e w3 ⟨rfl, rfl⟩
        go_wp2
        go_roundw
        case rel => exact ⟨k + 1, by omega, by go_num, HN⟩
        case measure => simp [intOf]; omega
      · have e16 : k = 16 := by omega
        subst e16
        obtain ⟨xs, hxs, ho, ht, hb⟩ := HS.out
        have e : xs = allT L r := by
          rw [hxs, List.take_of_length_le (by rw [allT_len]; omega)]
          simp
        subst e
        have HO := hide ho
        have HB := hide hb
        clear ho hb ht hxs HS
        go_wp2
        go_ret
        exact ⟨_, rfl, by rw [allT_len, HZ.out]; exact own_lower HO.out (by omega), HB.out⟩
  · have E : Hid (allT L r = List.replicate 16 0) := allT_no hA
    clear hA
    go_wp2
    go_ret
    exact ⟨_, rfl, by rw [allT_len, E.out, HZ.out]; exact own_lower HO2.out (by omega), B2.out⟩
end Go.Proofs.Ytcnaahajaaifjaa

/-
  Bytes that came in as an argument, as the draws take them.
-/
namespace Go.Proofs.Ytcnaahajaaifjaa
open Go.RowKit

/-- A row of bytes that came in: nil, or cells that hold them. -/
def ByteRow (w : World) (a : Option Addr) (len cap : Nat) (zs : List Int) : Prop :=
  (a = none ∧ len = 0 ∧ cap = 0 ∧ zs = []) ∨
  ∃ x, a = some x ∧ len ≤ cap ∧ cap ≤ maxLen ∧ zs.length = cap ∧ (∀ i, i < zs.length → w.cell? (x.add i) = some (.int .u8 (zs.getD i 0))) ∧ ∀ n ∈ zs, (Lit.int .u8 n).wf = true
theorem addr_off (b off j : Nat) : (⟨b, off, none⟩ : Addr).add j = ⟨b, off + j, none⟩ := by
  simp only [Addr.add]
  split <;> simp_all
theorem code_of_row {w : World} {a : Option Addr} {len cap : Nat} {zs : List Int} (h : ByteRow w a len cap zs) : CodeIn w a len w.heap.size := by
  intro j hj
  rcases h with ⟨_, h2, _⟩ | ⟨x, rfl, h2, _, h4, h5, h6⟩
  · omega
  · obtain ⟨b, off, spot⟩ := x
    have hc := h5 j (by omega)
    have hspot : spot = none := by simpa [Addr.add] using World.cell?_spot (h5 0 (by omega))
    subst hspot
    rw [addr_off] at hc
    have hm : zs.getD j 0 ∈ zs := by
      rw [List.getD_eq_getElem?_getD, List.getElem?_eq_getElem (by omega)]
      exact List.getElem_mem _
    have hw : 0 ≤ zs.getD j 0 ∧ zs.getD j 0 ≤ 255 := by simpa [Lit.wf, IntKind.min, IntKind.max, IntKind.signed, IntKind.bits] using h6 _ hm
    refine ⟨b, off, rfl, World.block_lt_of_cell? w _ hc, (zs.getD j 0).toNat, by omega, ?_⟩
    rw [hc]
    congr 2
    omega
end Go.Proofs.Ytcnaahajaaifjaa
