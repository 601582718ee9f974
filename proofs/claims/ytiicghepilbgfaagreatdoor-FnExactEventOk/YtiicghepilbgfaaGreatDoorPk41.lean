/-
  SAll; SRoots; VlApp; StApp
-/
import Derived.Test.YtiicghepilbgfaaGreatDoorSGet
import Derived.Test.YtiicghepilbgfaaGreatDoorPk36
import Derived.Test.YtiicghepilbgfaaGreatDoorStoM3
import Derived.Test.YtiicghepilbgfaaGreatDoorPk37
import Derived.Test.YtiicghepilbgfaaGreatDoorPk27
import Derived.Deep.AppendLies
import Derived.Maps.AppendAt
/-
  spec.AllAt.
-/
namespace Go.Proofs.YtiicghepilbgfaaGreatDoor
open Go.RowKit
open Words

/-- A row of numbers of the call's own. -/
def IOut (w : World) (l : List Int) (e : Ending) (w' : World) : Prop := ∃ v, e = .returned v ∧ w'.ownsRow w.heap.size 3 1 v l.length (icells l) ∧ Below w.heap.size w w'
theorem allT_len (l : List Kn) (r : Int) : (allT l r).length = 16 := by simp [allT]
theorem allT_take (l : List Kn) (r : Int) {k : Nat} (hk : k < 16) : (allT l r).take (k + 1) = (allT l r).take k ++ [getT l r k] := by
  rw [List.take_add_one, allT, List.getElem?_map, List.getElem?_range hk]
  rfl

end Go.Proofs.YtiicghepilbgfaaGreatDoor

/-
  spec.l12Roots and spec.l12At: the roots of a store's volumes, and where one is.
-/
namespace Go.Proofs.YtiicghepilbgfaaGreatDoor
open Go.RowKit
open Words

theorem infoSto : (Tryz.prog.info? 55).map (·.size) = some 3 := by kernel_rfl
/-- A store that came in, in a block of its own. -/
abbrev SBox (va : Option Addr) (vl vc : Nat) (ad : Option Addr) (len cap : Nat) (nx : Int) : Array Value := #[.slice va vl vc, .slice ad len cap, .int .i64 nx]
theorem sbox_at (w : World) (a b c : Value) : (w.alloc (.cells #[a, b, c] 55)).cell? ⟨w.heap.size, 0, none⟩ = some a ∧ (w.alloc (.cells #[a, b, c] 55)).cell? ⟨w.heap.size, 1, none⟩ = some b ∧ (w.alloc (.cells #[a, b, c] 55)).cell? ⟨w.heap.size, 2, none⟩ = some c := by
  have h := heap_alloc_new w (.cells #[a, b, c] 55)
  exact ⟨cell_of_row _ _ 0 _ _ _ h, cell_of_row _ _ 1 _ _ _ h, cell_of_row _ _ 2 _ _ _ h⟩
theorem roots_take {vs : List (Int × Int)} {k : Nat} {v : Int × Int} (h : vs[k]? = some v) : rootsV (vs.take k) ++ [v.2] = rootsV (vs.take (k + 1)) := by
  obtain ⟨h1, h2⟩ := List.getElem?_eq_some_iff.1 h
  rw [List.take_succ_eq_append_getElem h1, h2]
  simp [rootsV]

def atI : Option Nat → Int
  | some k => k
  | none => -1
set_option maxHeartbeats 400000 in
set_option maxRecDepth 100000 in
theorem satV (va : Option Addr) (vl vc : Nat) (ad : Option Addr) (len cap : Nat) (nx : Int) (vs : List (Int × Int)) (id : Int) (w : World) (hl : vl ≤ 1048578) (h : VlRow w va vl vs) :
    Calls Tryz.prog 43 #[.agg (SBox va vl vc ad len cap nx), .int .i64 id] w fun e w' => e = .returned (.int .i64 (atI (atV vs id))) ∧ Below w.heap.size w w' := by
  have BX := hide (sbox_at w (.slice va vl vc) (.slice ad len cap) (.int .i64 nx)).1
  have B0 : Hid (Below w.heap.size w (w.alloc (.cells #[.slice va vl vc, .slice ad len cap, .int .i64 nx] 55))) := (Below.refl _ _).alloc (Nat.le_refl _) _
  have H := hide (h.below B0.out)
  have HVL := hide h.1
  have HZ := hide (show w.heap.size < (w.alloc (.cells #[.slice va vl vc, .slice ad len cap, .int .i64 nx] 55)).heap.size by simp)
  clear h
  unfold SBox
  go_enter Tryz.func43, Tryz.ntmps43
  go_wp2_with fail
  generalize w.alloc (.cells #[.slice va vl vc, .slice ad len cap, .int .i64 nx] 55) = wb at BX B0 H HZ ⊢
  obtain ⟨z, hz⟩ : ∃ z, w.heap.size = z := ⟨_, rfl⟩
  rw [hz] at BX HZ ⊢
  have HZW := hide hz
  clear hz
  go_loopw [5] (fun kv W => ∃ k : Nat, k ≤ vl ∧ kv = .int .i64 k ∧ Hid (atK vs id k = none) ∧ Hid (Below wb.heap.size wb W)) (fun kv _ => vl - (intOf kv).toNat)
  case atStart => exact ⟨0, Nat.zero_le _, rfl, (rfl : atK vs id 0 = none), Below.refl _ _⟩
  case round =>
    obtain ⟨k, hk, rfl, HN, HW⟩ := hrel
    have bx := (HW.out.cell (show z < wb.heap.size from HZ.out)).trans BX.out
    have HF : Hid (Below w.heap.size w wr) := B0.out.trans (HW.out.mono B0.out.size)
    rw [HZW.out] at HF
    by_cases hlt : (k : Int) < vl
    · have hv := List.getElem?_eq_getElem (show k < vs.length by have := HVL.out; omega)
      generalize vs[k]'(by have := HVL.out; omega) = v at hv
      obtain ⟨b, off, e, hb, c0, c1⟩ := (H.out.below HW.out).at hv
      subst e
      have k0 : (0 : Int) ≤ k := by omega
      by_cases hid : (v.1 == id) = true
      · have HE : Hid (atV vs id = some k) := atK_yes HN.out hv (by simpa using hid) _ (by have := HVL.out; omega)
        clear hv
        go_wp2
        go_ret
        exact ⟨by rw [HE.out]; rfl, by rw [HZW.out]; exact HF.out⟩
      · have HE : Hid (atK vs id (k + 1) = none) := atK_no HN.out hv (by simpa using hid)
        clear hv
        go_wp2
        go_roundw
        case rel => exact ⟨k + 1, by omega, by go_num, HE, HW⟩
        case measure => simp [intOf]; omega
    · have HE : Hid (atV vs id = none) := by
        have e : k = vs.length := by have := HVL.out; omega
        have := HN.out
        rw [e] at this
        exact this
      go_wp2
      go_ret
      exact ⟨by rw [HE.out]; rfl, by rw [HZW.out]; exact HF.out⟩
end Go.Proofs.YtiicghepilbgfaaGreatDoor

/-
  append([]Vol{}, list...).
-/
namespace Go.Proofs.YtiicghepilbgfaaGreatDoor
open Go.RowKit
open Words

/-- A slice of volumes, wherever it lies. -/
def VlSl (W : World) (v : Value) (ls : List (Int × Int)) : Prop := ∃ a c, v = .slice a ls.length c ∧ (a = none → c = 0) ∧ VlRow W a ls.length ls
theorem VlSl.below {W W' : World} {v : Value} {ls : List (Int × Int)} (h : VlSl W v ls) (b : Below W.heap.size W W') : VlSl W' v ls := by
  obtain ⟨a, c, e, h1, h2⟩ := h
  exact ⟨a, c, e, h1, h2.below b⟩
theorem VlSl.of {lo hi : Nat} {v : Value} {ls : List (Int × Int)} {W : World} (h : Sli 72 lo hi v ls.length (vlcells ls) W) (hm : ls.length ≤ maxLen) (hh : hi ≤ W.heap.size) : VlSl W v ls := by
  rcases h with ⟨rfl, h0⟩ | ⟨g, cap, rfl, h1, h2, h3⟩
  · exact ⟨none, 0, by rw [h0], fun _ => rfl, rfl, hm, by simp, fun h => by omega⟩
  · refine ⟨_, _, rfl, (fun e => by cases e), rfl, hm, by simp, fun _ => ⟨g, 0, rfl, by omega, fun i t hi => ?_⟩⟩
    have hc := fun j v hj => h3.cell (vlcells_at ls i t hi j v hj)
    refine ⟨?_, ?_⟩
    · simpa using hc 0 _ rfl
    · simpa using hc 1 _ rfl
theorem VlSl.one {W : World} {v : Value} {ls : List (Int × Int)} (h : VlSl W v ls) : v.oneCell' = true := by
  obtain ⟨a, c, rfl, -⟩ := h
  rfl

theorem addr_off3v (b off j : Nat) : (⟨b, off, none⟩ : Addr).add j = ⟨b, off + j, none⟩ := by
  simp only [Addr.add]
  split <;> simp_all
theorem empty_vols (w : World) : (w.alloc (.cells #[] 72)).ownsRow w.heap.size 72 2 (.slice (some ⟨w.heap.size, 0, none⟩) 0 0) 0 (vlcells []) :=
  ⟨rfl, .inr ⟨w.heap.size, 0, #[], rfl, Nat.le_refl _, heap_alloc_new w _, Nat.le_refl _, by unfold maxLen; omega, rfl, rfl⟩⟩
theorem vlcells_back (M : List (Int × Int)) (i : Nat) (v : Value) (h : (vlcells M)[i]? = some v) : ∃ x, M[i / 2]? = some x ∧ (vlcell x)[i % 2]? = some v := by
  have hl := (List.getElem?_eq_some_iff.1 h).1
  rw [vlcells_len] at hl
  obtain ⟨x, hx⟩ : ∃ x, M[i / 2]? = some x := ⟨_, List.getElem?_eq_getElem (by omega)⟩
  obtain ⟨u, hu⟩ : ∃ u, (vlcell x)[i % 2]? = some u := ⟨_, List.getElem?_eq_getElem (by show i % 2 < 2; omega)⟩
  have := vlcells_at M (i / 2) x hx (i % 2) u hu
  rw [show i / 2 * 2 + i % 2 = i by omega, h] at this
  cases this
  exact ⟨x, hx, hu⟩
theorem VlRow.cells {w : World} {b off len : Nat} {ls : List (Int × Int)} (h : VlRow w (some ⟨b, off, none⟩) len ls) (j : Nat) (u : Value) (hj : (vlcells ls)[j]? = some u) : w.cell? ⟨b, off + j, none⟩ = some u := by
  obtain ⟨x, hx, hu⟩ := vlcells_back ls j u hj
  obtain ⟨b', off', e, -, c0, c1⟩ := h.at hx
  injection e with e
  injection e with e1 e2
  subst e1
  subst e2
  have hm : j = j / 2 * 2 + j % 2 := by omega
  have h4 : j % 2 < 2 := by omega
  generalize j % 2 = m at hm h4 hu
  rw [hm, ← Nat.add_assoc]
  match m, h4, hu with
  | 0, _, hu => simp only [vlcell] at hu; simp at hu; subst hu; simpa using c0
  | 1, _, hu => simp only [vlcell] at hu; simp at hu; subst hu; exact c1
/-- append([]Vol{}, ls...), wherever they lie. -/
theorem vol_append_rd (w : World) {ops : Array Oper} {rest : List Oper} {o : Oper} {a : Act} {Q : Exit → Act → World → Prop} (hg : o.guard = none) (s x : Operand)
    (hop : o.op = Op.call { callee := Callee.builtin Builtin.append, args := #[s, x], argTypes := #[50, 50] }) (g : Nat) (hs : a.eval s = .slice (some ⟨g, 0, none⟩) 0 0)
    (hown : w.ownsRow g 72 2 (.slice (some ⟨g, 0, none⟩) 0 0) 0 (vlcells [])) (v : Value) (ls : List (Int × Int)) (hx : a.eval x = v) (hl : ls.length ≤ 1048576)
    (hsrc : VlSl w v ls)
    (hK : ∀ v' w', w'.ownsRow g 72 2 v' ls.length (vlcells ls) → w.grownBy w' (some g) → wpList Tryz.prog ops Q rest (a.put o.dst v') w') : wpList Tryz.prog ops Q (o :: rest) a w := by
  obtain ⟨i0, hi, hz0, hz1, hz2⟩ := info_parts infoVl
  obtain ⟨ao, c, rfl, hc0, hrow⟩ := hsrc
  have hgl := (own_block_lt hown g rfl).2
  by_cases h0 : ls.length = 0
  · have hls : ls = [] := List.eq_nil_of_length_eq_zero h0
    subst hls
    refine wpList_append_fits_any w hg s x _ hop g _ i0 2 Tryz.underlying50 hi hz1 g 0 0 [] hs hown ao 0 c [] hx rfl ?_ (by simp) (by simp) (Nat.le_refl _) (fun w' h1 h2 => hK _ w' h1 h2)
    exact fun hn => ⟨rfl, hc0 hn⟩
  · obtain ⟨b, off, rfl, -, -⟩ := hrow.2.2.2 (by omega)
    refine wpList_append_own w hg s x _ hop g _ i0 (.agg #[.int .i64 0, .int .i64 0]) 2 16 Tryz.underlying50 hi hz0 hz1 hz2 rfl (by decide) _ 0 [] hs hown ⟨b, off, none⟩ ls.length c (vlcells ls) hx (vlcells_len ls) (fun j u hj => by rw [addr_off3v]; exact hrow.cells j u hj) (vlcells_one ls) (by unfold maxLen; omega) (by omega) (by omega) ?_
    intro v' w' h1 h2 _
    rw [Nat.zero_add] at h1
    exact hK v' w' h1 h2
end Go.Proofs.YtiicghepilbgfaaGreatDoor

/-
  append at a step of a region that draws.
-/
namespace Go.Proofs.YtiicghepilbgfaaGreatDoor
open Go.RowKit

/-- append onto a row of the call's own, at a step of a region that draws: however many are appended. -/
theorem step_append_own {P : Program} (w : World) {ops : Array Oper} {o : Oper} {a : Act} {K : Act → World → Prop} {Q : Exit → Act → World → Prop} {E : Prop} (hgd : o.guard = none) (s x : Operand) (t : TypeId)
    (ho : o.op = .call { callee := .builtin .append, args := #[s, x], argTypes := #[t, t] })
    (base : Nat) (e : TypeId) (i : TypeInfo) (z : Value) (size bytes : Nat) (ht : P.underlying t = some (.slice e)) (hi : P.info? e = some i) (hz : i.zero = some z)
    (hsize : i.size = size) (hby : i.bytes = bytes) (hzs : z.cells.size = size) (hsz : 0 < size)
    (v : Value) (n : Nat) (xs : List Value) (hs : a.eval s = v) (hown : w.ownsRow base e size v n xs)
    (ad : Addr) (m c : Nat) (news : List Value) (hx : a.eval x = .slice (some ad) m c) (hl : news.length = m * size) (hnews : ∀ j u, news[j]? = some u → w.cell? (ad.add j) = some u) (h1 : ∀ u ∈ news, u.oneCell' = true)
    (h63 : n + m ≤ maxLen) (hbytes : (n + m) * bytes ≤ 140737488355328) (hbase : base ≤ w.heap.size)
    (h : ∀ v' w', w'.ownsRow base e size v' (n + m) (xs ++ news) → w.grownBy w' v.ownBlock → K (a.put o.dst v') w') :
    if Region.wanted o (yielded ops a.tmps) = true then Oper.wp P o a w K Q else E := by
  have hw : Region.wanted o (yielded ops a.tmps) = true := by simp [Region.wanted, hgd]
  rw [if_pos hw]
  obtain ⟨v', w', hr, h2, h3, _, _⟩ := run_append_own_at (P := P) w base t o.type e i z size bytes ht hi hz hsize hby hzs hsz v n xs hown ad m c news hl hnews h1 h63 hbytes hbase
  unfold Oper.wp execOp
  simp only [ho, resolve, invoke, builtin, Sem.run_bind, Sem.run_pure, Result.andThen_ok, List.map_toArray, List.map_cons, List.map_nil, hs, hx, hr]
  exact h v' w' h2 h3
end Go.Proofs.YtiicghepilbgfaaGreatDoor
