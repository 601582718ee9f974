/-
  SameIs; TkTree
-/
import Derived.Test.YtnebelflnpbbiadKnN
import Derived.Deep.RegionHeld3
import Derived.Test.YtnebelflnpbbiadTreeC
import Derived.Test.YtnebelflnpbbiadTrMath4
/-
  laws.sameInts: two rows of the same numbers.
-/
namespace Go.Proofs.Ytnebelflnpbbiad
open Go.RowKit
open Words

set_option maxHeartbeats 400000 in
set_option maxRecDepth 100000 in
theorem sameIs_same (a b : Value) (M : List Int) (n : Nat) (B1 C1 B2 C2 : Nat) (w : World) (hn : M.length = n) (hM : n ≤ 1000000000000000000) (ha : Sli 3 B1 C1 a n (icells M) w) (hb : Sli 3 B2 C2 b n (icells M) w) :
    Calls Try.prog 9 #[a, b] w fun e w' => e = .returned (.bool true) ∧ Below w.heap.size w w' := by
  obtain ⟨ad, capa, rfl, a3⟩ := ha.form
  obtain ⟨bd, capb, rfl, b3⟩ := hb.form
  have HSA := hide ha
  have HSB := hide hb
  have A3 := hide a3
  have B3 := hide b3
  have HN := hide hn
  clear ha hb a3 b3 hn
  go_enter Try.func9, Try.ntmps9
  go_wp2
  go_loopw [5] (fun iv wr => ∃ k : Nat, k ≤ n ∧ iv = .int .i64 k ∧ Hid (∃ q, wr = w.drewN q)) (fun iv _ => n - (intOf iv).toNat)
  case atStart => exact ⟨0, Nat.zero_le _, rfl, ⟨0, rfl⟩⟩
  case round =>
    obtain ⟨k, hk, rfl, HQ⟩ := hrel
    obtain ⟨q, hq⟩ := HQ.out
    subst hq
    clear HQ
    by_cases hlt : (k : Int) < n
    · obtain ⟨ga, e, -, -⟩ := A3.out (by omega)
      subst e
      obtain ⟨gb, e, -, -⟩ := B3.out (by omega)
      subst e
      obtain ⟨x, hx⟩ : ∃ x, M[k]? = some x := ⟨_, List.getElem?_eq_getElem (by have := HN.out; omega)⟩
      have c1 := HSA.out.flt.cell (icells_get hx)
      have c2 := HSB.out.flt.cell (icells_get hx)
      have hxx : (x != x) = false := by simp
      have k0 : (0 : Int) ≤ k := by omega
      clear hx
      go_wp2
      go_quiet (fail)
      go_wp2
      go_roundw
      case rel => exact ⟨k + 1, by omega, by go_num, ⟨_, rfl⟩⟩
      case measure => simp [intOf]; omega
    · go_wp2
      go_ret
      exact ⟨rfl, below_drewN (Below.refl _ _) _⟩
end Go.Proofs.Ytnebelflnpbbiad

/-
  The program's PutAt, GetAt, AllAt, ArenaOk, SharedBy over what a drawn law holds.
-/
namespace Go.Proofs.Ytnebelflnpbbiad
open Go.RowKit
open Words

/-- A row of sixteen numbers, held. -/
def H16 (lo hi : Nat) (v : Value) (l : List Int) : World → Prop := Sli 3 lo hi v 16 (icells l)
theorem H16.loc (lo hi : Nat) (v : Value) (l : List Int) : Loc lo hi (H16 lo hi v l) := Sli.loc _ _ _ _ _ _
theorem gput_tk {f : Nat} (HC : PutC f) {w wi : World} {hs : List Hold} {c l1 h1 m : Nat} {ad : Option Addr} {M : List Kn} {r n : Int} {s : Nat} (ok : TrOk M r) (hs15 : s ≤ 15) (hn : 0 ≤ n) (T : Tk w wi hs) (n1 : Nat) (hm : M.length = m) (hl : m ≤ 1048578) (e1 : hs[n1]? = some (l1, h1, Kns l1 h1 (.slice ad m c) M)) :
    Calls Try.prog f #[.agg #[.slice ad m c], .int .i64 r, .int .i64 (s : Int), .int .i64 n] wi fun e w' => ∃ a c', e = .returned (.tuple #[.agg #[.slice a (m + 2) c'], .int .i64 (ptR M)]) ∧ Tk w w' ((wi.heap.size, w'.heap.size, Kns wi.heap.size w'.heap.size (.slice a (m + 2) c') (pt M r s n)) :: hs) ∧ wi.heap.size ≤ w'.heap.size := by
  obtain ⟨rs, hr, hx⟩ := (T.get n1 e1).rd hm (T.hi n1 e1)
  refine (HC _ _ _ rs r (s : Int) n wi hl (fun x hx2 => ?_) hx).mono ?_
  · obtain ⟨i, hi⟩ := List.getElem?_of_mem hx2
    have q : (rs.map ktell)[i]? = some (ktell x) := by rw [List.getElem?_map, hi]; rfl
    rw [hr] at q
    have := knB_len (arB_at ok.1 q)
    show (ktell x).kids.length ≤ _
    omega
  · rintro e w' ⟨v, rfl, uv, ss, rfl, ko, hss, hb⟩
    obtain ⟨q1, q2⟩ := pt_put (n := n) ok hs15 hn
    rw [hr, q1] at hss
    rw [hr, q2]
    obtain ⟨ua, uc, rfl⟩ := ko.form
    have hlen : ss.length = m + 2 := by have := congrArg List.length hss; rw [← hm]; simpa [pt] using this
    rw [hlen] at ko ⊢
    exact ⟨ua, uc, rfl, T.add hb (Kns.loc _ _ _ _) ⟨ss, hss, ko.kns⟩, hb.size⟩
theorem gget_tk {f : Nat} (HC : GetC f) {w wi : World} {hs : List Hold} {c l1 h1 m : Nat} {ad : Option Addr} {M : List Kn} {r s : Int} (T : Tk w wi hs) (n1 : Nat) (hm : M.length = m) (hl : m ≤ 1048578) (e1 : hs[n1]? = some (l1, h1, Kns l1 h1 (.slice ad m c) M)) :
    Calls Try.prog f #[.agg #[.slice ad m c], .int .i64 r, .int .i64 s] wi fun e w' => e = .returned (.int .i64 (getT M r s)) ∧ Tk w w' hs ∧ wi.heap.size ≤ w'.heap.size := by
  obtain ⟨rs, hr, hx⟩ := (T.get n1 e1).rd hm (T.hi n1 e1)
  refine (HC _ _ _ rs r s wi hl hx).mono ?_
  rintro e w' ⟨rfl, hb⟩
  rw [hr]
  exact ⟨rfl, T.below hb, hb.size⟩
theorem gok_tk {f : Nat} (HC : ArC f) {w wi : World} {hs : List Hold} {c l1 h1 m : Nat} {ad : Option Addr} {M : List Kn} (T : Tk w wi hs) (n1 : Nat) (hm : M.length = m) (hl : m ≤ 1048578) (e1 : hs[n1]? = some (l1, h1, Kns l1 h1 (.slice ad m c) M)) :
    Calls Try.prog f #[.agg #[.slice ad m c]] wi fun e w' => e = .returned (.bool (arB M)) ∧ Tk w w' hs ∧ wi.heap.size ≤ w'.heap.size := by
  obtain ⟨rs, hr, hx⟩ := (T.get n1 e1).rd hm (T.hi n1 e1)
  refine (HC _ _ _ rs wi hl hx).mono ?_
  rintro e w' ⟨rfl, hb⟩
  rw [hr]
  exact ⟨rfl, T.below hb, hb.size⟩
theorem gshare_tk {f : Nat} (HC : ShareC f) {w wi : World} {hs : List Hold} {c l1 h1 m : Nat} {ad : Option Addr} {M : List Kn} {r s : Int} (T : Tk w wi hs) (n1 : Nat) (hm : M.length = m) (hl : m ≤ 1048578) (e1 : hs[n1]? = some (l1, h1, Kns l1 h1 (.slice ad m c) M)) :
    Calls Try.prog f #[.agg #[.slice ad m c], .int .i64 r, .int .i64 s] wi fun e w' => e = .returned (.int .i64 (shareT M r s)) ∧ Tk w w' hs ∧ wi.heap.size ≤ w'.heap.size := by
  obtain ⟨rs, hr, hx⟩ := (T.get n1 e1).rd hm (T.hi n1 e1)
  refine (HC _ _ _ rs r s wi hl hx).mono ?_
  rintro e w' ⟨rfl, hb⟩
  rw [hr]
  exact ⟨rfl, T.below hb, hb.size⟩
theorem gall_tk {f : Nat} (HC : AllC f) {w wi : World} {hs : List Hold} {c l1 h1 m : Nat} {ad : Option Addr} {M : List Kn} {r : Int} (T : Tk w wi hs) (n1 : Nat) (hm : M.length = m) (hl : m ≤ 1048578) (e1 : hs[n1]? = some (l1, h1, Kns l1 h1 (.slice ad m c) M)) :
    Calls Try.prog f #[.agg #[.slice ad m c], .int .i64 r] wi fun e w' => ∃ a c', e = .returned (.slice a 16 c') ∧ Tk w w' ((wi.heap.size, w'.heap.size, H16 wi.heap.size w'.heap.size (.slice a 16 c') (allT M r)) :: hs) ∧ wi.heap.size ≤ w'.heap.size := by
  obtain ⟨rs, hr, hx⟩ := (T.get n1 e1).rd hm (T.hi n1 e1)
  refine (HC _ _ _ rs r wi hl hx).mono ?_
  rintro e w' ⟨v, rfl, ho, hb⟩
  rw [hr] at ho
  have hS := Sli.of ho
  rw [allT_len] at hS
  obtain ⟨a, c', rfl, -⟩ := hS.form
  exact ⟨a, c', rfl, T.add hb (H16.loc _ _ _ _) hS, hb.size⟩
/-- Two rows of sixteen numbers that are the same. -/
theorem same_tk {w wi : World} {hs : List Hold} {a b : Value} {l : List Int} {l1 h1 l2 h2 : Nat} (T : Tk w wi hs) (n1 n2 : Nat) (hl : l.length = 16) (e1 : hs[n1]? = some (l1, h1, H16 l1 h1 a l)) (e2 : hs[n2]? = some (l2, h2, H16 l2 h2 b l)) :
    Calls Try.prog 9 #[a, b] wi fun e w' => e = .returned (.bool true) ∧ Tk w w' hs ∧ wi.heap.size ≤ w'.heap.size := by
  refine (sameIs_same a b l 16 _ _ _ _ wi hl (by omega) (T.get n1 e1) (T.get n2 e2)).mono ?_
  rintro e w' ⟨rfl, hb⟩
  exact ⟨rfl, T.below hb, hb.size⟩
end Go.Proofs.Ytnebelflnpbbiad
