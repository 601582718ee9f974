/-
  ScC; SRdOf; SRecOk; IRecOk; IVol; PartL; LkN; ILeaf
-/
import Derived.Test.YtnnieljlkdlliaaGreatDoorPk32
import Derived.Test.YtnnieljlkdlliaaGreatDoorSScan
import Derived.Test.YtnnieljlkdlliaaGreatDoorPk16
import Derived.Test.YtnnieljlkdlliaaGreatDoorPk9
import Derived.Test.YtnnieljlkdlliaaGreatDoorPk42
import Derived.Deep.RegionHeld3
import Derived.Deep.QuietTactic
import Derived.BigQuiet
import Derived.Test.YtnnieljlkdlliaaGreatDoorPk0
import Derived.Test.YtnnieljlkdlliaaGreatDoorPk2
import Derived.Test.YtnnieljlkdlliaaGreatDoorPk4
import Derived.Test.YtnnieljlkdlliaaGreatDoorPk8
import Derived.Lib.SliceRun
import Derived.Test.YtnnieljlkdlliaaGreatDoorPk6
import Derived.Test.YtnnieljlkdlliaaGreatDoorPk3
namespace Go.Proofs.YtnnieljlkdlliaaGreatDoor
open Go.RowKit
open Words Sums
def ScOut (w : World) (bs : List Bk) (e : Ending) (w' : World) : Prop :=
  ∃ (ad : Option Addr) (cap : Nat), e = .returned (.slice ad (scanF bs).length cap) ∧ FdRd w' ad (scanF bs).length (scanF bs) ∧ (scanF bs).length ≤ 1099511627776 ∧ Below w.heap.size w w'
theorem scOut {w w' : World} {rs : List Rw} {e : Ending} (hl : rs.length ≤ 1048576) (hll : ∀ r ∈ rs, r.2.2.2.length ≤ 1048576) (h : ∃ u M, e = .returned u ∧ Asc M ∧ Akin (founds (rs.map tellOf) rs.length) M ∧ FRes w' w.heap.size u M ∧ Below w.heap.size w w') : ScOut w (rs.map tellOf) e w' := by
  obtain ⟨u, M, rfl, h1, h2, h3, h4⟩ := h
  have e1 : M = scanF (rs.map tellOf) := scanF_is h1 (by rw [List.length_map]; exact h2)
  obtain ⟨ad, cap, rfl, h5, -⟩ := h3.rd
  subst e1
  refine ⟨ad, cap, rfl, h5, ?_, h4⟩
  refine Nat.le_trans (scan_count (rs.map tellOf) 1048576 (fun b hb => ?_)) ?_
  · obtain ⟨r, hr, rfl⟩ := List.mem_map.1 hb
    exact hll r hr
  · rw [List.length_map]
    exact Nat.le_trans (Nat.mul_le_mul_right _ hl) (by decide)
theorem sscanO (v : Value) (rs : List Rw) (w : World) (hl : rs.length ≤ 1048576) (hll : ∀ r ∈ rs, r.2.2.2.length ≤ 1048576) (htx : TxB rs) (ha : FlashRd w v rs) : Calls Tryz.prog 37 #[.agg #[v]] w (ScOut w (rs.map tellOf)) :=
  (sscan_rd v rs w hl hll htx ha).mono (fun _ _ h => scOut hl hll h)
theorem iscanO (v : Value) (rs : List Rw) (w : World) (hl : rs.length ≤ 1048576) (hll : ∀ r ∈ rs, r.2.2.2.length ≤ 1048576) (htx : TxB rs) (ha : FlashRd w v rs) (ht : HalvIn w) : Calls Tryz.prog 66 #[.agg #[v]] w (ScOut w (rs.map tellOf)) :=
  (iscan_rd v rs w hl hll htx ha ht).mono (fun _ _ h => scOut hl hll h)
theorem scan_text {bs : List Bk} : ∀ x ∈ scanF bs, x.page.text.size ≤ 1048576 := fun x hx => by
  have := (scan_right hx).2.2.2.2.2
  omega
end Go.Proofs.YtnnieljlkdlliaaGreatDoor

namespace Go.Proofs.YtnnieljlkdlliaaGreatDoor
open Go.RowKit
open Words Sums Pack
theorem sat_in {v : Value} {s : Sto} {w : World} (id : Int) (h : StIn w v s) : Calls Tryz.prog 25 #[v, .int .i64 id] w fun e w' => e = .returned (.int .i64 (atI (atV s.vols id))) ∧ Below w.heap.size w w' := by
  obtain ⟨va, vl, vc, ad, len, cap, rs, rfl, hks, hvl, hl, hll, hvc, h, hk⟩ := h
  exact satV va vl vc ad len cap s.next s.vols id w (by omega) h
theorem schunk_in {v : Value} {s : Sto} {w : World} (vol sec : Int) (h : StIn w v s) : Calls Tryz.prog 59 #[v, .int .i64 vol, .int .i64 sec] w fun e w' => e = .returned (.int .i64 (chunkS s vol sec)) ∧ Below w.heap.size w w' := by
  obtain ⟨va, vl, vc, ad, len, cap, rs, rfl, hks, hvl, hl, hll, hvc, h, hk⟩ := h
  have := schunk va vl vc ad len cap s.next s.vols rs vol sec w (by omega) (by omega) h hk
  rw [← hks] at this
  exact this
def readL (M : List Fnd) (s : Sto) (vol sector : Int) : Value :=
  if (atV s.vols vol).isSome then
    if chunkS s vol sector = 0 then .tuple #[.string ⟨#[]⟩, .bool true]
    else plainV (textP M (chunkS s vol sector))
  else .tuple #[.string ⟨#[]⟩, .bool false]
theorem readL_is (d : Dv) (vol sec : Int) : readL (scanF d.flash) d.store vol sec = .tuple #[.string (readP d vol sec).1, .bool (readP d vol sec).2] := by
  unfold readL readP
  split
  · split
    · rfl
    · cases textP (scanF d.flash) (chunkS d.store vol sec) <;> rfl
  · rfl
set_option maxHeartbeats 1000000 in
set_option maxRecDepth 100000 in
theorem sl15Read (fa : Option Addr) (fl fc : Nat) (M : List Fnd) (v : Value) (s : Sto) (vol sec : Int) (w : World) (hl : fl ≤ 1000000000000000000) (ht : ∀ x ∈ M, x.page.text.size ≤ 1048576) (hM : FdRd w fa fl M) (h : StIn w v s) :
    Calls Tryz.prog 36 #[.slice fa fl fc, v, .int .i64 vol, .int .i64 sec] w fun e w' => e = .returned (readL M s vol sec) ∧ Below w.heap.size w w' := by
  have h0 := h
  obtain ⟨va, vl, vc, ad, ln, cap, -, hv, -⟩ := h0
  subst hv
  unfold SBox at *
  have bA : Below w.heap.size w (w.alloc (.cells #[.slice va vl vc, .slice ad ln cap, .int .i64 s.next] 52)) := (Below.refl _ _).alloc (Nat.le_refl _) _
  have kA : (w.alloc (.cells #[.slice va vl vc, .slice ad ln cap, .int .i64 s.next] 52)).heap[w.heap.size]? = some (.cells #[.slice va vl vc, .slice ad ln cap, .int .i64 s.next] 52 (0, 0)) := heap_alloc_new _ _
  generalize hwa : w.alloc (.cells #[.slice va vl vc, .slice ad ln cap, .int .i64 s.next] 52) = wa at bA kA
  have CA := hide (sat_in vol (h.below bA))
  have HI := hide (h.below bA)
  have HM := hide (hM.below bA)
  have HT := hide ht
  have HB := hide bA
  have KA := hide kA
  have c0 := cell_of_row _ _ 0 _ _ _ kA
  have c1 := cell_of_row _ _ 1 _ _ _ kA
  have c2 := cell_of_row _ _ 2 _ _ _ kA
  obtain ⟨R, hR⟩ : ∃ R, readL M s vol sec = R := ⟨_, rfl⟩
  have HR : Hid (R = if (atV s.vols vol).isSome then if chunkS s vol sec = 0 then .tuple #[.string ⟨#[]⟩, .bool true] else plainV (textP M (chunkS s vol sec)) else .tuple #[.string ⟨#[]⟩, .bool false]) := hR.symm
  rw [hR]
  clear hR bA kA ht hM h
  go_enter Tryz.func36, Tryz.ntmps36
  go_wp2_with fail
  clear hwa
  refine CA.out.mono ?_
  rintro e w1 ⟨rfl, b1⟩
  have B1 := hide (HB.out.trans (b1.mono HB.out.size))
  have I1 := hide (HI.out.below b1)
  have M1 := hide (HM.out.below b1)
  have k1 := (b1.block _ (Array.getElem?_eq_some_iff.1 KA.out).1).trans KA.out
  have K1 := hide k1
  clear CA HB HI HM KA b1 c0 c1 c2
  cases ha : atV s.vols vol with
  | none =>
    have HE : Hid (R = .tuple #[.string ⟨#[]⟩, .bool false]) := by show _ = _; rw [HR.out, ha]; rfl
    have ea : (atI none : Int) = -1 := rfl
    clear HR
    go_wp2
    refine bodyPost_ret (results_tmp2 rfl _ _ _) rfl ?_
    rw [HE.out]
    exact ⟨rfl, B1.out⟩
  | some k =>
    have ea : atI (some k) = (k : Int) := rfl
    have hk0 : ¬ ((k : Int) < 0) := by omega
    have HR2 : Hid (R = if chunkS s vol sec = 0 then .tuple #[.string ⟨#[]⟩, .bool true] else plainV (textP M (chunkS s vol sec))) := by show _ = _; rw [HR.out, ha]; rfl
    have CC := hide (schunk_in vol sec I1.out)
    have c0 := cell_of_row _ _ 0 _ _ _ k1
    have c1 := cell_of_row _ _ 1 _ _ _ k1
    have c2 := cell_of_row _ _ 2 _ _ _ k1
    obtain ⟨c, hc⟩ : ∃ c, chunkS s vol sec = c := ⟨_, rfl⟩
    rw [hc] at CC HR2
    rw [ea]
    clear HR ha k1 hc ea
    go_wp2_with fail
    refine CC.out.mono ?_
    rintro e w2 ⟨rfl, b2⟩
    have B2 := hide (B1.out.trans (b2.mono B1.out.size))
    have M2 := hide (M1.out.below b2)
    clear CC b2 B1 M1 I1 K1 c0 c1 c2
    by_cases c0 : (c == 0) = true
    · have HE : Hid (R = .tuple #[.string ⟨#[]⟩, .bool true]) := by show _ = _; rw [HR2.out, if_pos (by simpa using c0)]
      clear HR2
      go_wp2
      refine bodyPost_ret (results_tmp2 rfl _ _ _) rfl ?_
      rw [HE.out]
      exact ⟨rfl, B2.out⟩
    · have HE : Hid (R = plainV (textP M c)) := by show _ = _; rw [HR2.out, if_neg (by simpa using c0)]
      have c0 : (c == 0) = false := by simpa using c0
      have CT := hide (stextL fa fl fc M c w2 hl HT.out M2.out)
      obtain ⟨p, q, hpq⟩ := plainV_open (textP M c)
      rw [hpq] at CT HE
      clear HR2 hpq
      go_wp2_with fail
      refine CT.out.mono ?_
      rintro e w3 ⟨rfl, b3⟩
      have B3 := hide (B2.out.trans (b3.mono B2.out.size))
      clear b3 CT
      go_wp2
      refine bodyPost_ret (results_tmp2 rfl _ _ _) rfl ?_
      rw [HE.out]
      exact ⟨rfl, B3.out⟩
set_option maxHeartbeats 1000000 in
set_option maxRecDepth 100000 in
theorem sreadOf (v : Value) (d : Dv) (vol sec : Int) (w : World) (h : DvIn w v d) : Calls Tryz.prog 19 #[v, .int .i64 vol, .int .i64 sec] w fun e w' => e = .returned (.tuple #[.string (readP d vol sec).1, .bool (readP d vol sec).2]) ∧ Below w.heap.size w w' := by
  obtain ⟨fd, fc, va, vl, vc, ad, ln, cap, rfl, h1, h2, h3⟩ := h.form
  have bA : Below w.heap.size w (w.alloc (.cells #[.slice fd d.flash.length fc, .slice va vl vc, .slice ad ln cap, .int .i64 d.store.next, .int .i64 d.seq, .int .i64 d.tx, .int .i64 d.base] 54)) := (Below.refl _ _).alloc (Nat.le_refl _) _
  have gA : DAt (w.alloc (.cells #[.slice fd d.flash.length fc, .slice va vl vc, .slice ad ln cap, .int .i64 d.store.next, .int .i64 d.seq, .int .i64 d.tx, .int .i64 d.base] 54)) w.heap.size (.slice fd d.flash.length fc) (.slice va vl vc) (.slice ad ln cap) d.store.next d.seq d.tx d.base := heap_alloc_new _ _
  generalize hwa : w.alloc (.cells #[.slice fd d.flash.length fc, .slice va vl vc, .slice ad ln cap, .int .i64 d.store.next, .int .i64 d.seq, .int .i64 d.tx, .int .i64 d.base] 54) = wa at bA gA
  have bD : Below w.heap.size w wa.drew := bA.drew
  have gD := gA.below (w' := wa.drew) (Below.refl _ _).drew
  obtain ⟨rs, e1, i1, l1, ll1, tb1⟩ := (h1.below bD).lens h2
  have CS := hide (sscanO (.slice fd d.flash.length fc) rs wa.drew l1 ll1 tb1 i1)
  rw [e1] at CS
  unfold ScOut at CS
  have HR := hide (readL_is d vol sec)
  have HT : Hid (∀ x ∈ scanF d.flash, x.page.text.size ≤ 1048576) := scan_text
  obtain ⟨M, hM⟩ : ∃ M, scanF d.flash = M := ⟨_, rfl⟩
  rw [hM] at CS HR HT
  obtain ⟨P, hP⟩ : ∃ P, readP d vol sec = P := ⟨_, rfl⟩
  rw [hP] at HR ⊢
  have HD := hide bD
  have HG := hide gD
  have HI := hide h3
  have SD : wa.drew.cell? ⟨w.heap.size, 0, none⟩ = some (.slice fd d.flash.length fc) ∧ wa.drew.cell? ⟨w.heap.size, 1, none⟩ = some (.slice va vl vc) ∧ wa.drew.cell? ⟨w.heap.size, 2, none⟩ = some (.slice ad ln cap) ∧ wa.drew.cell? ⟨w.heap.size, 3, none⟩ = some (.int .i64 d.store.next) := ⟨gD.cells.1, gD.cells.2.1, gD.cells.2.2.1, gD.cells.2.2.2.1⟩
  clear bA gA bD gD h1 h2 h3 h rs e1 i1 l1 ll1 tb1 hM hP
  go_enter Tryz.func19, Tryz.ntmps19
  go_wp2_with fail
  go_region_held3 (fun w' => w'.cell? ⟨w.heap.size, 0, none⟩ = some (.slice fd d.flash.length fc) ∧ w'.cell? ⟨w.heap.size, 1, none⟩ = some (.slice va vl vc) ∧ w'.cell? ⟨w.heap.size, 2, none⟩ = some (.slice ad ln cap) ∧ w'.cell? ⟨w.heap.size, 3, none⟩ = some (.int .i64 d.store.next)) (first | (with_reducible exact SD) | (with_reducible exact SE) | (with_reducible exact SF) | go_keep) (first
    | (go_at_call 37; refine CS.out.mono ?_; rintro e w1 ⟨la, lc, rfl, f1, f2, f3⟩; have SE := (⟨(f3.cell (World.block_lt_of_cell? _ _ SD.1)).trans SD.1, (f3.cell (World.block_lt_of_cell? _ _ SD.2.1)).trans SD.2.1, (f3.cell (World.block_lt_of_cell? _ _ SD.2.2.1)).trans SD.2.2.1, (f3.cell (World.block_lt_of_cell? _ _ SD.2.2.2)).trans SD.2.2.2⟩ : w1.cell? ⟨w.heap.size, 0, none⟩ = some (.slice fd d.flash.length fc) ∧ w1.cell? ⟨w.heap.size, 1, none⟩ = some (.slice va vl vc) ∧ w1.cell? ⟨w.heap.size, 2, none⟩ = some (.slice ad ln cap) ∧ w1.cell? ⟨w.heap.size, 3, none⟩ = some (.int .i64 d.store.next)); have D1 := hide (HD.out.trans (f3.mono HD.out.size)); have CR := hide (sl15Read la M.length lc M (.agg #[.slice va vl vc, .slice ad ln cap, .int .i64 d.store.next]) d.store vol sec w1 (by omega) HT.out f1 (HI.out.below D1.out)); rw [HR.out] at CR; clear f1 f2 f3)
    | (go_at_call 36; refine CR.out.mono ?_; rintro e w2 ⟨rfl, g3⟩; have D2 := hide (D1.out.trans (g3.mono D1.out.size)); have SF := (⟨(g3.cell (World.block_lt_of_cell? _ _ SE.1)).trans SE.1, (g3.cell (World.block_lt_of_cell? _ _ SE.2.1)).trans SE.2.1, (g3.cell (World.block_lt_of_cell? _ _ SE.2.2.1)).trans SE.2.2.1, (g3.cell (World.block_lt_of_cell? _ _ SE.2.2.2)).trans SE.2.2.2⟩ : w2.cell? ⟨w.heap.size, 0, none⟩ = some (.slice fd d.flash.length fc) ∧ w2.cell? ⟨w.heap.size, 1, none⟩ = some (.slice va vl vc) ∧ w2.cell? ⟨w.heap.size, 2, none⟩ = some (.slice ad ln cap) ∧ w2.cell? ⟨w.heap.size, 3, none⟩ = some (.int .i64 d.store.next)); clear g3))
  all_goals
    go_wp2
    refine bodyPost_ret (results_tmp2 rfl _ _ _) rfl ?_
    exact ⟨rfl, D2.out⟩
end Go.Proofs.YtnnieljlkdlliaaGreatDoor

namespace Go.Proofs.YtnnieljlkdlliaaGreatDoor
open Go.RowKit
open Words
end Go.Proofs.YtnnieljlkdlliaaGreatDoor

namespace Go.Proofs.YtnnieljlkdlliaaGreatDoor
open Go.RowKit
open Words
end Go.Proofs.YtnnieljlkdlliaaGreatDoor

namespace Go.Proofs.YtnnieljlkdlliaaGreatDoor
open Go.RowKit
open Words
def volP (va : Option Addr) : Option Nat → Value
  | none => .pointer none
  | some k => .pointer (va.map (fun a => ⟨a.block, a.off + k * 2, none⟩))
set_option maxHeartbeats 400000 in
set_option maxRecDepth 100000 in
theorem ivolAt (va : Option Addr) (vl vc : Nat) (vs : List (Int × Int)) (id : Int) (w : World) (hl : vl ≤ 1048576) (h : VlRow w va vl vs) :
    Calls Tryz.prog 63 #[.slice va vl vc, .int .i64 id] w fun e w' => e = .returned (volP va (atV vs id)) ∧ w' = w := by
  have HVL := hide h.1
  have H := hide h
  clear h
  go_enter Tryz.func63, Tryz.ntmps63
  go_wp2_with fail
  go_loop [8] (fun kv => ∃ k : Nat, k ≤ vl ∧ kv = .int .i64 k ∧ Hid (atK vs id k = none)) (fun kv => vl - (intOf kv).toNat)
  case atStart => exact ⟨0, Nat.zero_le _, rfl, (rfl : atK vs id 0 = none)⟩
  case round =>
    obtain ⟨k, hk, rfl, HN⟩ := hrel
    by_cases hlt : (k : Int) < vl
    · have hv := List.getElem?_eq_getElem (show k < vs.length by have := HVL.out; omega)
      generalize vs[k]'(by have := HVL.out; omega) = v at hv
      obtain ⟨b, off, e, hb, c0, c1⟩ := H.out.at hv
      subst e
      have k0 : (0 : Int) ≤ k := by omega
      by_cases hid : (v.1 == id) = true
      · have HE : Hid (atV vs id = some k) := atK_yes HN.out hv (by simpa using hid) _ (by have := HVL.out; omega)
        clear hv
        go_wp2
        go_ret
        exact ⟨by rw [HE.out]; rfl, rfl⟩
      · have HE : Hid (atK vs id (k + 1) = none) := atK_no HN.out hv (by simpa using hid)
        clear hv
        go_wp2
        go_round
        case rel => exact ⟨k + 1, by omega, by go_num, HE⟩
        case measure => simp [intOf]; omega
    · have HE : Hid (atV vs id = none) := by
        have e : k = vs.length := by have := HVL.out; omega
        have := HN.out
        rw [e] at this
        exact this
      go_wp2
      go_ret
      exact ⟨by rw [HE.out]; rfl, rfl⟩
end Go.Proofs.YtnnieljlkdlliaaGreatDoor

namespace Go.Proofs.YtnnieljlkdlliaaGreatDoor
open Go.RowKit
theorem part_set {α : Type} {l r : List α} {k : Nat} {v : α} (hl : l[k]? = some v) (hr : r.length = l.length) : (l.take k ++ r.drop k).set k v = l.take (k + 1) ++ r.drop (k + 1) := by
  obtain ⟨hk, e⟩ := List.getElem?_eq_some_iff.1 hl
  rw [List.set_append_right _ _ (by rw [List.length_take]; omega), List.length_take, Nat.min_eq_left (by omega), Nat.sub_self, List.drop_eq_getElem_cons (by omega), List.set_cons_zero, List.take_succ_eq_append_getElem hk, e, List.append_assoc]
  rfl
theorem part_at {α : Type} {l r : List α} {k : Nat} (hk : k < l.length) : (l.take k ++ r.drop k)[k]? = r[k]? := by
  rw [List.getElem?_append_right (by rw [List.length_take]; omega), List.length_take, Nat.min_eq_left (by omega), Nat.sub_self, List.getElem?_drop]
  simp
end Go.Proofs.YtnnieljlkdlliaaGreatDoor

namespace Go.Proofs.YtnnieljlkdlliaaGreatDoor
open Go.RowKit
open Words
structure Lk where
  place : Int
  leaf : Bool
  nums : List Int
  tos : List (Option Nat)
  need : Bool
def ptr (b : Nat) : Value := .pointer (some ⟨b, 0, none⟩)
def pval : Option Nat → Value
  | none => .pointer none
  | some b => ptr b
def pcells (l : List (Option Nat)) : List Value := l.map pval
def bcellsP (l : List Nat) : List Value := l.map ptr
def lkcells (x : Lk) : List Value := [.int .i64 x.place, .bool x.leaf] ++ (icells x.nums ++ (pcells x.tos ++ [.bool x.need]))
def Lk.Four (x : Lk) : Prop := x.nums.length = 4 ∧ x.tos.length = 4
def LkAt (W : World) (b : Nat) (x : Lk) : Prop := W.heap[b]? = some (.cells (lkcells x).toArray 198 (0, 0)) ∧ x.Four
theorem LkAt.lt {W : World} {b : Nat} {x : Lk} (h : LkAt W b x) : b < W.heap.size := (Array.getElem?_eq_some_iff.1 h.1).1
theorem LkAt.below {W W' : World} {b C : Nat} {x : Lk} (h : LkAt W b x) (hb : Below C W W') (hC : b < C) : LkAt W' b x := ⟨(hb.block b hC).trans h.1, h.2⟩
theorem LkAt.blw {W W' : World} {b : Nat} {x : Lk} (h : LkAt W b x) (hb : Below W.heap.size W W') : LkAt W' b x := h.below hb h.lt
theorem LkAt.frozen {W : World} {b : Nat} {x : Lk} (h : LkAt W b x) (o : Nat) : W.frozen? ⟨b, o, none⟩ = false := frozen_of_row _ _ o _ _ h.1
theorem LkAt.cell {W : World} {b k : Nat} {x : Lk} {v : Value} (h : LkAt W b x) (hk : (lkcells x)[k]? = some v) : W.cell? ⟨b, k, none⟩ = some v := by
  rw [cell_of_row _ _ k _ _ _ h.1]
  simpa using hk
theorem LkAt.place {W : World} {b : Nat} {x : Lk} (h : LkAt W b x) : W.cell? ⟨b, 0, none⟩ = some (.int .i64 x.place) := h.cell rfl
theorem LkAt.leaf {W : World} {b : Nat} {x : Lk} (h : LkAt W b x) : W.cell? ⟨b, 1, none⟩ = some (.bool x.leaf) := h.cell rfl
theorem lk_num {x : Lk} {k : Nat} {n : Int} (hk : x.nums[k]? = some n) : (lkcells x)[2 + k]? = some (.int .i64 n) := by
  have hl := (List.getElem?_eq_some_iff.1 hk).1
  rw [lkcells, List.getElem?_append_right (by simp), List.getElem?_append_left (by simp [icells]; omega)]
  simpa using icells_get hk
theorem lk_to {x : Lk} (h4 : x.Four) {k : Nat} {o : Option Nat} (hk : x.tos[k]? = some o) : (lkcells x)[6 + k]? = some (pval o) := by
  have hl := (List.getElem?_eq_some_iff.1 hk).1
  have h1 : (icells x.nums).length = 4 := by simp [icells, h4.1]
  rw [lkcells, List.getElem?_append_right (by simp; omega), List.getElem?_append_right (by rw [h1]; simp; omega), List.getElem?_append_left (by rw [h1]; simp [pcells]; omega), h1]
  have e : 6 + k - [Value.int .i64 x.place, Value.bool x.leaf].length - 4 = k := by simp; omega
  rw [e, pcells, List.getElem?_map, hk]
  rfl
theorem LkAt.num {W : World} {b k : Nat} {x : Lk} {n : Int} (h : LkAt W b x) (hk : x.nums[k]? = some n) : W.cell? ⟨b, 2 + k, none⟩ = some (.int .i64 n) := h.cell (lk_num hk)
theorem LkAt.to {W : World} {b k : Nat} {x : Lk} {o : Option Nat} (h : LkAt W b x) (hk : x.tos[k]? = some o) : W.cell? ⟨b, 6 + k, none⟩ = some (pval o) := h.cell (lk_to h.2 hk)
theorem LkAt.set {W : World} {b k : Nat} {x x' : Lk} {u : Value} (h : LkAt W b x) (h4 : x'.Four) (e : lkcells x' = (lkcells x).set k u) : LkAt (W.setCell ⟨b, k, none⟩ u) b x' := by
  refine ⟨?_, h4⟩
  rw [row_set h.1, e]
  simp
theorem LkAt.other {W : World} {b g k : Nat} {x : Lk} (h : LkAt W b x) (hne : b ≠ g) (u : Value) : LkAt (W.setCell ⟨g, k, none⟩ u) b x := ⟨row_set_ne h.1 hne _ _, h.2⟩
theorem LkAt.setNum {W : World} {b k : Nat} {x : Lk} (h : LkAt W b x) (hk : k < 4) (n : Int) : LkAt (W.setCell ⟨b, 2 + k, none⟩ (.int .i64 n)) b { x with nums := x.nums.set k n } := by
  refine h.set ⟨by simp [h.2.1], h.2.2⟩ ?_
  have h1 : (icells x.nums).length = 4 := by simp [icells, h.2.1]
  rw [lkcells, lkcells, List.set_append_right _ _ (by simp), List.set_append_left _ _ (by rw [h1]; simp; omega)]
  have e : 2 + k - [Value.int .i64 x.place, Value.bool x.leaf].length = k := by simp
  rw [e]
  simp [icells, List.map_set]
theorem LkAt.setTo {W : World} {b k : Nat} {x : Lk} (h : LkAt W b x) (hk : k < 4) (o : Option Nat) : LkAt (W.setCell ⟨b, 6 + k, none⟩ (pval o)) b { x with tos := x.tos.set k o } := by
  refine h.set ⟨h.2.1, by simp [h.2.2]⟩ ?_
  have h1 : (icells x.nums).length = 4 := by simp [icells, h.2.1]
  have h2 : (pcells x.tos).length = 4 := by simp [pcells, h.2.2]
  rw [lkcells, lkcells, List.set_append_right _ _ (by simp; omega), List.set_append_right _ _ (by rw [h1]; simp; omega), List.set_append_left _ _ (by rw [h1, h2]; simp; omega), h1]
  have e : 6 + k - [Value.int .i64 x.place, Value.bool x.leaf].length - 4 = k := by simp; omega
  rw [e]
  simp [pcells, List.map_set]
set_option maxHeartbeats 400000 in
set_option maxRecDepth 100000 in
theorem inumAt (b : Nat) (x : Lk) (s : Nat) (v : Int) (w : World) (hs : s ≤ 15) (h : LkAt w b x) (hv : (∃ k, k = s / 4 ∧ x.tos[k]? = some none ∧ v = 0) ∨ ∃ c y, x.tos[s / 4]? = some (some c) ∧ LkAt w c y ∧ y.nums[s % 4]? = some v) :
    Calls Tryz.prog 94 #[ptr b, .int .i64 s] w fun e w' => e = .returned (.int .i64 v) ∧ w' = w := by
  obtain ⟨q, hq⟩ : ∃ q, s / 4 = q := ⟨_, rfl⟩
  obtain ⟨t, ht⟩ : ∃ t, s % 4 = t := ⟨_, rfl⟩
  rw [hq] at hv
  rw [ht] at hv
  have tq : (s : Int).tdiv 4 = (q : Int) := by rw [Int.tdiv_eq_ediv_of_nonneg (by omega)]; omega
  have tt : (s : Int).tmod 4 = (t : Int) := by rw [Int.tmod_eq_emod_of_nonneg (by omega)]; omega
  have tq2 : (s : Int) / 4 = (q : Int) := by omega
  have tt2 : (s : Int) % 4 = (t : Int) := by omega
  have q0 : (0 : Int) ≤ q := by omega
  have q4 : (q : Int) < 4 := by omega
  have t0 : (0 : Int) ≤ t := by omega
  have t4 : (t : Int) < 4 := by omega
  rcases hv with ⟨k, rfl, hk, rfl⟩ | ⟨c, y, hk, hy, hn⟩
  · have c1 : w.cell? ⟨b, 6 + k, none⟩ = some (.pointer none) := h.to hk
    clear h hk hq ht
    unfold ptr
    go_enter Tryz.func94, Tryz.ntmps94
    go_wp2
    go_ret
    exact ⟨rfl, rfl⟩
  · have c1 : w.cell? ⟨b, 6 + q, none⟩ = some (.pointer (some ⟨c, 0, none⟩)) := h.to hk
    have c2 : w.cell? ⟨c, 2 + t, none⟩ = some (.int .i64 v) := hy.num hn
    clear h hk hq ht hy hn
    unfold ptr
    go_enter Tryz.func94, Tryz.ntmps94
    go_wp2
    go_ret
    exact ⟨rfl, rfl⟩
end Go.Proofs.YtnnieljlkdlliaaGreatDoor

namespace Go.Proofs.YtnnieljlkdlliaaGreatDoor
open Go.RowKit
open Words
def PRow (W : World) (fa : Option Addr) (n : Nat) (bs : List Nat) : Prop := bs.length = n ∧ n ≤ maxLen ∧ (0 < n → ∃ g, fa = some ⟨g, 0, none⟩ ∧ g < W.heap.size ∧ ∀ (i b : Nat), bs[i]? = some b → W.cell? ⟨g, i, none⟩ = some (ptr b))
theorem PRow.below {W W' : World} {fa : Option Addr} {n : Nat} {bs : List Nat} (h : PRow W fa n bs) (hb : Below W.heap.size W W') : PRow W' fa n bs := by
  obtain ⟨h1, h2, h3⟩ := h
  refine ⟨h1, h2, fun h0 => ?_⟩
  obtain ⟨g, e, hg, hc⟩ := h3 h0
  have := hb.size
  exact ⟨g, e, by omega, fun i b hi => (hb.cell (show g < W.heap.size from hg)).trans (hc i b hi)⟩
theorem PRow.at {W : World} {fa : Option Addr} {n : Nat} {bs : List Nat} (h : PRow W fa n bs) {i b : Nat} (hi : bs[i]? = some b) : ∃ g, fa = some ⟨g, 0, none⟩ ∧ g < W.heap.size ∧ W.cell? ⟨g, i, none⟩ = some (ptr b) := by
  have := (List.getElem?_eq_some_iff.1 hi).1
  obtain ⟨g, e, hg, hc⟩ := h.2.2 (by have := h.1; omega)
  exact ⟨g, e, hg, hc i b hi⟩
theorem bcellsP_get {l : List Nat} {k b : Nat} (h : l[k]? = some b) : (bcellsP l)[k]? = some (ptr b) := by rw [bcellsP, List.getElem?_map, h]; rfl
theorem bcellsP_snoc (l : List Nat) (b : Nat) : bcellsP l ++ [ptr b] = bcellsP (l ++ [b]) := by simp [bcellsP]
theorem PRow.of {W : World} {B : Nat} {v : Value} {bs : List Nat} (h : W.ownsRow B 161 1 v bs.length (bcellsP bs)) : ∃ fa c, v = .slice fa bs.length c ∧ PRow W fa bs.length bs := by
  rcases h.2 with ⟨rfl, h0⟩ | ⟨g, cap, cur, rfl, h1, h2, h3, h4, h5, h6⟩
  · exact ⟨none, 0, by rw [h0], rfl, by rw [h0]; unfold maxLen; omega, fun h => by omega⟩
  · refine ⟨_, _, rfl, rfl, by omega, fun _ => ⟨g, rfl, (Array.getElem?_eq_some_iff.1 h2).1, fun i b hi => ?_⟩⟩
    rw [← addr_at]
    exact h.cells (g := g) rfl i _ (bcellsP_get hi)
def FAt (W : World) (bs : List Nat) (xs : List Lk) : Prop := bs.length = xs.length ∧ ∀ (i b : Nat) (x : Lk), bs[i]? = some b → xs[i]? = some x → LkAt W b x
theorem FAt.below {W W' : World} {bs : List Nat} {xs : List Lk} (h : FAt W bs xs) (hb : Below W.heap.size W W') : FAt W' bs xs := ⟨h.1, fun i b x h1 h2 => (h.2 i b x h1 h2).blw hb⟩
theorem FAt.get {W : World} {bs : List Nat} {xs : List Lk} (h : FAt W bs xs) {i : Nat} {x : Lk} (hx : xs[i]? = some x) : ∃ b, bs[i]? = some b ∧ LkAt W b x := by
  have := (List.getElem?_eq_some_iff.1 hx).1
  exact ⟨_, List.getElem?_eq_getElem (by rw [h.1]; exact this), h.2 i _ x (List.getElem?_eq_getElem (by rw [h.1]; exact this)) hx⟩
theorem FAt.nil (W : World) : FAt W [] [] := ⟨rfl, fun _ _ _ h => by simp at h⟩
def leafP (bs : List Nat) (xs : List Lk) (p : Int) : Option Nat := if p < 0 then none else (xs[p.toNat]?).bind (fun x => if x.leaf = true then bs[p.toNat]? else none)
set_option maxHeartbeats 400000 in
set_option maxRecDepth 100000 in
theorem ileafAt (fa : Option Addr) (n c : Nat) (bs : List Nat) (xs : List Lk) (p : Int) (w : World) (hr : PRow w fa n bs) (hf : FAt w bs xs) :
    Calls Tryz.prog 161 #[.slice fa n c, .int .i64 p] w fun e w' => e = .returned (pval (leafP bs xs p)) ∧ w' = w := by
  have hl : xs.length = n := by rw [← hf.1]; exact hr.1
  by_cases h0 : p < 0
  · have E : Hid (leafP bs xs p = none) := if_pos h0
    rw [E.out]
    clear hr hf hl E
    go_enter Tryz.func161, Tryz.ntmps161
    go_wp2
    go_ret
    exact ⟨rfl, rfl⟩
  · obtain ⟨m, rfl⟩ : ∃ m : Nat, p = (m : Int) := ⟨p.toNat, by omega⟩
    by_cases h1 : (n : Int) ≤ m
    · have E : Hid (leafP bs xs (m : Int) = none) := by
        show _ = _
        rw [leafP, if_neg h0, Int.toNat_natCast, List.getElem?_eq_none (by omega)]
        rfl
      rw [E.out]
      clear hr hf hl E
      go_enter Tryz.func161, Tryz.ntmps161
      go_wp2
      go_ret
      exact ⟨rfl, rfl⟩
    · obtain ⟨x, hx⟩ : ∃ x, xs[m]? = some x := ⟨_, List.getElem?_eq_getElem (by omega)⟩
      obtain ⟨b, hb, ha⟩ := hf.get hx
      obtain ⟨g, rfl, -, hc⟩ := hr.at hb
      have c1 := ha.leaf
      unfold ptr at hc
      have m0 : (0 : Int) ≤ m := by omega
      have mn : (m : Int) < n := by omega
      have E : Hid (leafP bs xs (m : Int) = if x.leaf = true then some b else none) := by
        show _ = _
        rw [leafP, if_neg h0, Int.toNat_natCast, hx, hb]
        rfl
      rw [E.out]
      clear hr hf hl E ha hb hx h0 h1
      cases hxl : x.leaf with
      | true =>
        rw [hxl] at c1
        clear hxl
        go_enter Tryz.func161, Tryz.ntmps161
        go_wp2
        go_ret
        exact ⟨rfl, rfl⟩
      | false =>
        rw [hxl] at c1
        clear hxl
        go_enter Tryz.func161, Tryz.ntmps161
        go_wp2
        go_ret
        exact ⟨rfl, rfl⟩
def lkNone : Lk := ⟨-1, false, [0, 0, 0, 0], [none, none, none, none], false⟩
set_option maxHeartbeats 400000 in
set_option maxRecDepth 100000 in
theorem itree_new (fv : Value) (w : World) :
    Calls Tryz.prog 124 #[fv, .int .i64 (-1)] w fun e w' => e = .returned (ptr w.heap.size) ∧ LkAt w' w.heap.size lkNone ∧ Below w.heap.size w w' := by
  go_enter Tryz.func124, Tryz.ntmps124
  go_wp2
  go_ret
  exact ⟨rfl, ⟨heap_alloc_new w _, rfl, rfl⟩, (Below.refl _ _).alloc (Nat.le_refl _) _⟩
set_option maxHeartbeats 400000 in
set_option maxRecDepth 100000 in
theorem itree_at (fa : Option Addr) (n c : Nat) (bs : List Nat) (xs : List Lk) (m b : Nat) (x : Lk) (w : World) (hr : PRow w fa n bs) (hf : FAt w bs xs) (hx : xs[m]? = some x) (hb : bs[m]? = some b) (hl : x.leaf = false) :
    Calls Tryz.prog 124 #[.slice fa n c, .int .i64 m] w fun e w' => e = .returned (ptr b) ∧ w' = w := by
  have hlt := (List.getElem?_eq_some_iff.1 hb).1
  rw [hr.1] at hlt
  obtain ⟨g, rfl, -, hc⟩ := hr.at hb
  have c1 := (hf.2 m b x hb hx).leaf
  rw [hl] at c1
  unfold ptr at hc ⊢
  have m0 : (0 : Int) ≤ m := by omega
  have mn : (m : Int) < n := by omega
  have m1 : ((m : Int) == -1) = false := by rw [beq_eq_false_iff_ne]; omega
  clear hr hf hx hb hl hlt
  go_enter Tryz.func124, Tryz.ntmps124
  go_wp2
  go_ret
  exact ⟨rfl, rfl⟩
set_option maxHeartbeats 400000 in
set_option maxRecDepth 100000 in
theorem itree_no (fa : Option Addr) (n c : Nat) (bs : List Nat) (xs : List Lk) (r : Int) (w : World) (hr : PRow w fa n bs) (hf : FAt w bs xs) (h1 : r ≠ -1) (h2 : r < 0 ∨ (n : Int) ≤ r ∨ ∃ x, xs[r.toNat]? = some x ∧ x.leaf = true) :
    Calls Tryz.prog 124 #[.slice fa n c, .int .i64 r] w fun e w' => e = .returned (.pointer none) ∧ w' = w := by
  have m1 : (r == -1) = false := by rw [beq_eq_false_iff_ne]; exact h1
  by_cases h0 : r < 0
  · clear hr hf h2 h1
    go_enter Tryz.func124, Tryz.ntmps124
    go_wp2
    go_ret
    exact ⟨rfl, rfl⟩
  · by_cases h3 : (n : Int) ≤ r
    · clear hr hf h2 h1
      go_enter Tryz.func124, Tryz.ntmps124
      go_wp2
      go_ret
      exact ⟨rfl, rfl⟩
    · obtain ⟨x, hx, hl⟩ : ∃ x, xs[r.toNat]? = some x ∧ x.leaf = true := by
        rcases h2 with h | h | h
        · omega
        · omega
        · exact h
      obtain ⟨m, rfl⟩ : ∃ m : Nat, r = (m : Int) := ⟨r.toNat, by omega⟩
      rw [Int.toNat_natCast] at hx
      obtain ⟨b, hb, ha⟩ := hf.get hx
      obtain ⟨g, rfl, -, hc⟩ := hr.at hb
      have c1 := ha.leaf
      rw [hl] at c1
      unfold ptr at hc
      have m0 : (0 : Int) ≤ m := by omega
      have mn : (m : Int) < n := by omega
      clear hr hf hx hb hl ha h2 h1 h0 h3
      go_enter Tryz.func124, Tryz.ntmps124
      go_wp2
      go_ret
      exact ⟨rfl, rfl⟩
end Go.Proofs.YtnnieljlkdlliaaGreatDoor
