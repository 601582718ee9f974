/-
  INewest; ISpot; IRdOf; KcM; DigM
-/
import Derived.Test.YtcjgjkejhkhknacGreatDoorPk28
import Derived.Test.YtcjgjkejhkhknacGreatDoorPk38
import Derived.Test.YtcjgjkejhkhknacGreatDoorPk33
import Derived.Test.YtcjgjkejhkhknacGreatDoorPk35
import Derived.WalkLawsBesides
import Derived.Test.YtcjgjkejhkhknacGreatDoorPk37
import Derived.Deep.QuietTactic
import Derived.BigQuiet
import Derived.Test.YtcjgjkejhkhknacGreatDoorPk4
import Derived.Test.YtcjgjkejhkhknacGreatDoorPk32
set_option maxHeartbeats 2000000
set_option maxRecDepth 100000
namespace Go.Proofs.YtcjgjkejhkhknacGreatDoor
open Go.RowKit
open Words Pack
def NewL (M : List Fnd) (l : List (Int × Value)) : Prop := ∀ c, atG l c = (newP M c).map fdVal
theorem tyNP : Tryz.prog.underlying 132 = some (.map 3 127) := Tryz.underlying132
theorem zeroFd (w : World) : (zeroValue 127).run Tryz.prog w = .ok (.agg #[.int .i64 0, .int .i64 0, .int .i64 0, .int .i64 0, .int .i64 0, .int .i64 0, .int .i64 0, .string ⟨#[]⟩]) w := by kernel_rfl
def NM (W : World) (B : Nat) (M : List Fnd) : Prop := ∃ l, MapG enI W B l ∧ NewL M l
theorem NM.below {W W' : World} {B : Nat} {M : List Fnd} (h : NM W B M) (b : Below W.heap.size W W') : NM W' B M := by
 obtain ⟨l, h1, h2⟩ := h
 exact ⟨l, h1.below b, h2⟩
theorem NM.look {W : World} {B : Nat} {M : List Fnd} (h : NM W B M) (x : Int) (c : Bool) :
 (Instr.lookup 132 (.map (some B)) (.int .i64 x) c).run Tryz.prog W = .ok (if c then .tuple #[fdVal (fdOr (newP M x)), .bool (newP M x).isSome] else fdVal (fdOr (newP M x))) W := by
 obtain ⟨l, h1, h2⟩ := h
 have := h1.look tyNP keysI (zeroFd W) x c
 rw [h2 x] at this
 rw [show (Value.int .i64 x) = enI x from rfl, this]
 cases newP M x <;> rfl
theorem NM.put {W : World} {B : Nat} {M : List Fnd} (h : NM W B M) {x : Fnd} (hx : x.page.kind = 1) :
 ∃ W', (Instr.mapUpdate 132 (.map (some B)) (.int .i64 x.page.tx) (fdVal x)).run Tryz.prog W = .ok () W' ∧ NM W' B (M ++ [x]) ∧ W.grownBy W' (some B) := by
 obtain ⟨l, h1, h2⟩ := h
 obtain ⟨W', e1, e2, e3, -⟩ := h1.new tyNP keysI x.page.tx (fdVal x)
 refine ⟨W', e1, ⟨_, e2, fun c => ?_⟩, e3⟩
 rw [atG_new, newP_snoc, h2 c]
 unfold isData
 rw [hx]
 by_cases e : c = x.page.tx
 ·subst e; simp
 ·have : ¬ x.page.tx = c := fun q => e q.symm
  simp [e, this]
theorem NM.skip {W : World} {B : Nat} {M : List Fnd} (h : NM W B M) {x : Fnd} (hx : x.page.kind ≠ 1) : NM W B (M ++ [x]) := by
 obtain ⟨l, h1, h2⟩ := h
 refine ⟨l, h1, fun c => ?_⟩
 rw [newP_snoc, h2 c]
 unfold isData
 simp [hx]
theorem take_snoc {M : List Fnd} {k : Nat} {x : Fnd} (h : M[k]? = some x) : M.take (k + 1) = M.take k ++ [x] := by rw [List.take_add_one, h]; rfl
theorem inewestOf (ad : Option Addr) (len cap : Nat) (M : List Fnd) (w : World) (hl : len ≤ 1099511627776) (h : FdRd w ad len M) :
 Calls Tryz.prog 65 #[.slice ad len cap] w fun e w' => ∃ B, e = .returned (.map (some B)) ∧ w.heap.size ≤ B ∧ NM w' B M ∧ Below w.heap.size w w' := by
 have HN := hide (show M.length = len from h.1)
 have HR := hide h
 have hmm := @run_makeMap Tryz.prog
 have b0 : Below w.heap.size w (w.alloc (.map #[] 0)) := (Below.refl _ _).alloc (Nat.le_refl _) _
 have N0 : Hid (NM (w.alloc (.map #[] 0)) w.heap.size (M.take 0)) := ⟨[], MapG.made w, fun c => rfl⟩
 have B0 := hide b0
 clear h b0
 go_enter Tryz.func65, Tryz.ntmps65
 go_wp2
 go_loopw [9] (fun iv wr => ∃ k : Nat, iv = .int .i64 k ∧ k ≤ len ∧ Hid (NM wr w.heap.size (M.take k)) ∧ Hid (Below w.heap.size w wr)) (fun iv _ => len - (intOf iv).toNat)
 case atStart => exact ⟨0, rfl, Nat.zero_le _, N0, B0⟩
 case round =>
  rename World => wr
  obtain ⟨k, rfl, hk, N1, B1⟩ := hrel
  clear N0 B0
  have hk0 : (0 : Int) ≤ k := by omega
  by_cases hlt : (k : Int) < len
  ·obtain ⟨x, hx⟩ : ∃ x, M[k]? = some x := ⟨_, List.getElem?_eq_getElem (by have := HN.out; omega)⟩
   obtain ⟨rb, ro, rfl, -, c0, c1, c2, c3, c4, c5, c6, c7, d4⟩ := (HR.out.below B1.out).all hx
   have hT := take_snoc hx
   obtain ⟨xb, xl, pk, pq, px, pp, pc, pt⟩ := x
   simp only at c0 c1 c2 c3 c4 c5 c6 c7 d4
   have ba : Below wr.heap.size wr (wr.alloc (.cells #[.int .i64 xb, .int .i64 xl, .int .i64 pk, .int .i64 pq, .int .i64 px, .int .i64 pp, .int .i64 pc, .string pt] 127)) := (Below.refl _ _).alloc (Nat.le_refl _) _
   have N2 := hide (N1.out.below ba)
   have B2 := hide (B1.out.trans (ba.mono B1.out.size))
   have FA : Hid (FdAt (wr.alloc (.cells #[.int .i64 xb, .int .i64 xl, .int .i64 pk, .int .i64 pq, .int .i64 px, .int .i64 pp, .int .i64 pc, .string pt] 127)) wr.heap.size ⟨xb, xl, pk, pq, px, pp, pc, pt⟩) := heap_alloc_new _ _
   obtain ⟨y0, y1, y2, y3, y4, y5, y6, y7⟩ := FA.out.cells
   simp only at y0 y1 y2 y3 y4 y5 y6 y7
   by_cases q1 : (pk == 1) = true
   ·obtain ⟨W3, e3, n3, g3⟩ := N2.out.put (x := ⟨xb, xl, pk, pq, px, pp, pc, pt⟩) (by simpa using q1)
    unfold fdVal at e3
    simp only at e3
    have N3 : Hid (NM W3 w.heap.size (M.take (k + 1))) := by rw [hT]; exact n3
    have B3 := hide (B2.out.grown g3 B2.out.size (fun j hj => by cases hj; exact Nat.le_refl _))
    clear hx hT n3 g3 N1 B1 N2 B2 ba FA
    go_wp2
    go_roundw
    case rel => exact ⟨k + 1, by go_num, by omega, N3, B3⟩
    case measure => simp [intOf]; omega
   ·have N3 : Hid (NM (wr.alloc (.cells #[.int .i64 xb, .int .i64 xl, .int .i64 pk, .int .i64 pq, .int .i64 px, .int .i64 pp, .int .i64 pc, .string pt] 127)) w.heap.size (M.take (k + 1))) := by rw [hT]; exact N2.out.skip (by simpa using q1)
    have q1 : (pk == 1) = false := by simpa using q1
    clear hx hT N1 B1 N2 ba FA
    go_wp2
    go_roundw
    case rel => exact ⟨k + 1, by go_num, by omega, N3, B2⟩
    case measure => simp [intOf]; omega
  ·have N2 : Hid (NM wr w.heap.size M) := by
    have := N1.out
    rw [List.take_of_length_le (by have := HN.out; omega)] at this
    exact this
   clear N1
   go_wp2
   go_ret
   exact ⟨w.heap.size, rfl, Nat.le_refl _, N2.out, B1.out⟩
theorem itextOf (B : Nat) (M : List Fnd) (c : Int) (w : World) (ht : ∀ x ∈ M, x.page.text.size ≤ 1048576) (h : NM w B M) :
 Calls Tryz.prog 67 #[.map (some B), .int .i64 c] w fun e w' => e = .returned (plainV (textP M c)) ∧ Below w.heap.size w w' := by
 have hlk := h.look c true
 simp only [if_true] at hlk
 cases hn : newP M c with
 | none =>
  have HO : Hid (textP M c = none) := by show _ = _; unfold textP; rw [hn]; rfl
  rw [hn] at hlk
  unfold fdOr fd0 fdVal at hlk
  simp only [Option.getD_none, Option.isSome_none] at hlk
  have B1 := hide ((Below.refl w.heap.size w).alloc (Nat.le_refl _) (.cells #[.int .i64 0, .int .i64 0, .int .i64 0, .int .i64 0, .int .i64 0, .int .i64 0, .int .i64 0, .string ⟨#[]⟩] 127))
  clear h ht hn
  go_enter Tryz.func67, Tryz.ntmps67
  go_wp2
  refine bodyPost_ret (results_tmp2 rfl _ _ _) rfl ?_
  rw [HO.out]
  exact ⟨rfl, B1.out⟩
 | some x =>
  have HO : Hid (textP M c = unpackL x.page.text.data.toList) := by show _ = _; unfold textP; rw [hn]; rfl
  have hsz := ht x (newP_mem hn).1
  rw [hn] at hlk
  obtain ⟨xb, xl, pk, pq, px, pp, pc, pt⟩ := x
  unfold fdOr fdVal at hlk
  simp only [Option.getD_some, Option.isSome_some] at hlk
  have CU := hide (fun W => iunp_any pt.data.toList W (Nat.le_trans hsz (by decide)))
  rw [show BA pt.data.toList = pt from by unfold BA; simp] at CU
  simp only at HO
  obtain ⟨p, q, hpq⟩ := plainV_open (unpackL pt.data.toList)
  rw [hpq] at CU
  have HPQ := hide hpq
  have b2 : Below w.heap.size w (w.alloc (.cells #[.int .i64 xb, .int .i64 xl, .int .i64 pk, .int .i64 pq, .int .i64 px, .int .i64 pp, .int .i64 pc, .string pt] 127)) := (Below.refl _ _).alloc (Nat.le_refl _) _
  have B1 := hide b2
  have FA : Hid (FdAt (w.alloc (.cells #[.int .i64 xb, .int .i64 xl, .int .i64 pk, .int .i64 pq, .int .i64 px, .int .i64 pp, .int .i64 pc, .string pt] 127)) w.heap.size ⟨xb, xl, pk, pq, px, pp, pc, pt⟩) := heap_alloc_new _ _
  obtain ⟨-, -, -, -, -, -, -, k7⟩ := FA.out.cells
  simp only at k7
  clear h ht hn hpq b2 FA
  go_enter Tryz.func67, Tryz.ntmps67
  go_wp2_with fail
  refine (CU.out _).mono ?_
  rintro e w2 ⟨rfl, b3⟩
  have B2 := hide (B1.out.trans (b3.mono B1.out.size))
  clear b3 B1
  go_wp2
  refine bodyPost_ret (results_tmp2 rfl _ _ _) rfl ?_
  rw [HO.out, HPQ.out]
  exact ⟨rfl, B2.out⟩
end Go.Proofs.YtcjgjkejhkhknacGreatDoor
namespace Go.Proofs.YtcjgjkejhkhknacGreatDoor
open Go.RowKit
open Words Sums Pack
theorem stin_vols {W : World} {va : Option Addr} {vl vc : Nat} {ad : Option Addr} {ln cap : Nat} {n : Int} {s : Sto} (h : StIn W (.agg #[.slice va vl vc, .slice ad ln cap, .int .i64 n]) s) : vl ≤ 1048576 ∧ VlRow W va vl s.vols := by
 obtain ⟨va', vl', vc', ad', ln', cap', rs', e, -, e3, -, -, -, e4, -⟩ := h
 unfold SBox at e
 injection e with e
 injection e with e
 simp only [List.cons.injEq, Value.slice.injEq, and_true] at e
 obtain ⟨⟨e0, e1, -⟩, -⟩ := e
 subst e0 e1
 exact ⟨e3, e4⟩
theorem ihasVol (x : Value) (d : Dv) (id : Int) (w : World) (h : DvIn w x d) : Calls Tryz.prog 38 #[x, .int .i64 id] w fun e w' => e = .returned (.bool (atV d.store.vols id).isSome) ∧ Below w.heap.size w w' := by
 obtain ⟨fd, fc, va, vl, vc, ad, ln, cap, rfl, h1, h2, h3⟩ := h.form
 have bA : Below w.heap.size w (w.alloc (.cells #[.slice fd d.flash.length fc, .slice va vl vc, .slice ad ln cap, .int .i64 d.store.next, .int .i64 d.seq, .int .i64 d.tx, .int .i64 d.base] 54)) := (Below.refl _ _).alloc (Nat.le_refl _) _
 have gA : DAt (w.alloc (.cells #[.slice fd d.flash.length fc, .slice va vl vc, .slice ad ln cap, .int .i64 d.store.next, .int .i64 d.seq, .int .i64 d.tx, .int .i64 d.base] 54)) w.heap.size (.slice fd d.flash.length fc) (.slice va vl vc) (.slice ad ln cap) d.store.next d.seq d.tx d.base := heap_alloc_new _ _
 generalize hwa : w.alloc (.cells #[.slice fd d.flash.length fc, .slice va vl vc, .slice ad ln cap, .int .i64 d.store.next, .int .i64 d.seq, .int .i64 d.tx, .int .i64 d.base] 54) = wa at bA gA
 obtain ⟨hvl, hv⟩ := stin_vols (h3.below bA)
 have c1 := gA.cells.2.1
 have HV := hide hv
 have CV := hide (ivolAt va vl vc d.store.vols id wa hvl hv)
 have HB := hide bA
 clear bA gA h h1 h2 h3 hv
 go_enter Tryz.func38, Tryz.ntmps38
 go_wp2_with fail
 clear hwa
 refine CV.out.mono ?_
 rintro e w1 ⟨rfl, rfl⟩
 cases ha : atV d.store.vols id with
 | none =>
  have ev : volP va none = .pointer none := rfl
  have HE : Hid ((atV d.store.vols id).isSome = false) := by show _ = _; rw [ha]; rfl
  rw [ev]
  clear ev ha CV
  go_wp2
  go_ret
  exact ⟨by rw [HE.out]; rfl, HB.out⟩
 | some k =>
  obtain ⟨v, hv, -⟩ := atV_some ha
  obtain ⟨b, off, e, -⟩ := HV.out.at hv
  subst e
  have ev : volP (some ⟨b, off, none⟩) (some k) = .pointer (some ⟨b, off + k * 2, none⟩) := rfl
  have HE : Hid ((atV d.store.vols id).isSome = true) := by show _ = _; rw [ha]; rfl
  rw [ev]
  clear ev ha CV hv
  go_wp2
  go_ret
  exact ⟨by rw [HE.out]; rfl, HB.out⟩
end Go.Proofs.YtcjgjkejhkhknacGreatDoor
namespace Go.Proofs.YtcjgjkejhkhknacGreatDoor
open Words Sums Pack
def firstN (l : List (Int × List UInt8)) (t : List UInt8) : Int := ((l.find? fun p => decide (p.2 = t)).map (·.1)).getD 0
theorem firstN_cons (p : Int × List UInt8) (l : List (Int × List UInt8)) (t : List UInt8) : firstN (p :: l) t = if p.2 = t then p.1 else firstN l t := by
 unfold firstN
 rw [List.find?_cons]
 by_cases h : p.2 = t <;> simp [h]
theorem firstN_drop {l : List (Int × List UInt8)} {k : Nat} {p : Int × List UInt8} (t : List UInt8) (h : l[k]? = some p) : firstN (l.drop k) t = if p.2 = t then p.1 else firstN (l.drop (k + 1)) t := by
 obtain ⟨hk, e⟩ := List.getElem?_eq_some_iff.1 h
 rw [List.drop_eq_getElem_cons hk, firstN_cons, e]
theorem firstN_filter (dg : List UInt8 → List UInt8) (t : List UInt8) : ∀ l : List (Int × List UInt8), firstN (l.filter fun p => decide (dg p.2 = dg t)) t = firstN l t
 | [] => rfl
 | p :: l => by
  rw [List.filter_cons]
  by_cases h : dg p.2 = dg t
  ·simp only [h, decide_true, if_true]
   rw [firstN_cons, firstN_cons, firstN_filter dg t l]
  ·simp only [h, decide_false, Bool.false_eq_true, if_false]
   rw [firstN_cons, firstN_filter dg t l, if_neg (fun e => h (by rw [e]))]
def keptL (M : List Fnd) (live : List Int) : List (Int × List UInt8) := live.filterMap fun c => (textP M c).map fun t => (c, t)
theorem same_first (M : List Fnd) (t : List UInt8) : ∀ live : List Int, sameP M live t = firstN (keptL M live) t
 | [] => rfl
 | c :: live => by
  have ih := same_first M t live
  unfold keptL at ih ⊢
  rw [sameP_cons, List.filterMap_cons]
  cases h : textP M c with
  | none => simp [ih]
  | some o =>
   simp only [Option.map_some]
   rw [firstN_cons, ih]
   simp
theorem kept_none {M : List Fnd} {live : List Int} {k : Nat} {c : Int} (hc : live[k]? = some c) (h : textP M c = none) : keptL M (live.take (k + 1)) = keptL M (live.take k) := by
 unfold keptL
 rw [List.take_add_one, hc, List.filterMap_append]
 simp [h]
theorem kept_some {M : List Fnd} {live : List Int} {k : Nat} {c : Int} {t : List UInt8} (hc : live[k]? = some c) (h : textP M c = some t) : keptL M (live.take (k + 1)) = keptL M (live.take k) ++ [(c, t)] := by
 unfold keptL
 rw [List.take_add_one, hc, List.filterMap_append]
 simp [h]
theorem unpack_len {t s : List UInt8} (h : unpackL t = some s) : s.length ≤ 64 := by
 unfold unpackL at h
 split at h
 ·cases h
 ·rename_i c r
  cases hx : (if c = 122 then (readT r.length r).bind plain else some r) with
  | none => rw [hx] at h; cases h
  | some o =>
   rw [hx] at h
   simp only [Option.bind_some] at h
   split at h
   ·rename_i hp
    cases h
    unfold packL at hp
    split at hp
    ·cases hp
    ·omega
   ·cases h
theorem text_len {M : List Fnd} {c : Int} {s : List UInt8} (h : textP M c = some s) : s.length ≤ 64 := by
 unfold textP at h
 cases hn : newP M c with
 | none => rw [hn] at h; cases h
 | some x => rw [hn] at h; exact unpack_len h
end Go.Proofs.YtcjgjkejhkhknacGreatDoor
namespace Go.Proofs.YtcjgjkejhkhknacGreatDoor
open Go.RowKit
open Words Pack
def kccells (l : List (Int × List UInt8)) : List Value := l.flatMap fun p => [.int .i64 p.1, .string (BA p.2)]
theorem kccells_snoc (l : List (Int × List UInt8)) (p : Int × List UInt8) : kccells l ++ [.int .i64 p.1, .string (BA p.2)] = kccells (l ++ [p]) := by simp [kccells]
theorem kccells_at : ∀ (l : List (Int × List UInt8)) (i : Nat) (p : Int × List UInt8), l[i]? = some p → (kccells l)[i * 2]? = some (.int .i64 p.1) ∧ (kccells l)[i * 2 + 1]? = some (.string (BA p.2))
 | [], i, p, h => by simp at h
 | a :: l, i, p, h => by
  have e : kccells (a :: l) = [Value.int .i64 a.1, .string (BA a.2)] ++ kccells l := by simp [kccells]
  rw [e]
  cases i with
  | zero =>
   simp at h
   subst h
   exact ⟨rfl, rfl⟩
  | succ i =>
   rw [List.getElem?_cons_succ] at h
   obtain ⟨h1, h2⟩ := kccells_at l i p h
   rw [List.getElem?_append_right (by simp; omega), List.getElem?_append_right (by simp; omega)]
   simp only [List.length_cons, List.length_nil]
   rw [show (i + 1) * 2 - (0 + 1 + 1) = i * 2 by omega, show (i + 1) * 2 + 1 - (0 + 1 + 1) = i * 2 + 1 by omega]
   exact ⟨h1, h2⟩
theorem infoKc : (Tryz.prog.info? 226).map (fun i => (i.zero, i.size, i.bytes)) = some (some (.agg #[.int .i64 0, .string ⟨#[]⟩]), 2, 24) := by kernel_rfl
theorem tyCD : Tryz.prog.underlying 201 = some (.map 9 224) := Tryz.underlying201
theorem zeroKc (w : World) : (zeroValue 224).run Tryz.prog w = .ok (.slice none 0 0) w := by kernel_rfl
abbrev Dg := List (List UInt8 × (Value × List (Int × List UInt8)))
def Dg.get (G : Dg) (d : List UInt8) : Value × List (Int × List UInt8) := (atG G d).getD (.slice none 0 0, [])
theorem atG_map {K α β : Type} [DecidableEq K] (f : α → β) (l : List (K × α)) (k : K) : atG (l.map fun p => (p.1, f p.2)) k = (atG l k).map f := by
 induction l with
 | nil => rfl
 | cons a l ih =>
  rw [List.map_cons, atG_cons, atG_cons, ih]
  by_cases h : a.1 = k <;> simp [h]
theorem newG_map {K α β : Type} [DecidableEq K] (f : α → β) (l : List (K × α)) (k : K) (v : α) : newG (l.map fun p => (p.1, f p.2)) k (f v) = (newG l k v).map fun p => (p.1, f p.2) := by
 unfold newG
 rw [atG_map]
 cases h : atG l k with
 | none => simp
 | some u =>
  simp only [Option.map_some, Option.isSome_some, if_true, List.map_map]
  apply List.map_congr_left
  intro p _
  simp only [Function.comp_apply]
  by_cases e : p.1 = k <;> simp [e]
theorem newG_mem {K α : Type} [DecidableEq K] {l : List (K × α)} {k : K} {v : α} {p : K × α} (h : p ∈ newG l k v) : p = (k, v) ∨ (p ∈ l ∧ p.1 ≠ k) := by
 unfold newG at h
 split at h
 ·obtain ⟨a, ha, e⟩ := List.mem_map.1 h
  by_cases q : a.1 = k
  ·rw [if_pos q] at e; exact .inl e.symm
  ·rw [if_neg q] at e; subst e; exact .inr ⟨ha, q⟩
 ·rename_i hn
  have hn : atG l k = none := by
   cases e : atG l k with
   | none => rfl
   | some u => rw [e] at hn; simp at hn
  rcases List.mem_append.1 h with h | h
  ·exact .inr ⟨h, atG_none.1 hn p h⟩
  ·rw [List.mem_singleton] at h; exact .inl h
theorem newG_pair {K α : Type} [DecidableEq K] {R : K × α → K × α → Prop} {l : List (K × α)} {k : K} {v : α} (hk : KeydG l) (h : l.Pairwise R) (h1 : ∀ p ∈ l, p.1 ≠ k → R (k, v) p ∧ R p (k, v)) : (newG l k v).Pairwise R := by
 unfold newG
 split
 ·rw [List.pairwise_map]
  have h2 := h.and hk
  refine List.Pairwise.imp_of_mem ?_ h2
  intro a b ha hb ⟨hab, hne⟩
  by_cases e1 : a.1 = k <;> by_cases e2 : b.1 = k
  ·exact absurd (e1.trans e2.symm) hne
  ·rw [if_pos e1, if_neg e2]; exact (h1 b hb e2).1
  ·rw [if_neg e1, if_pos e2]; exact (h1 a ha e1).2
  ·rw [if_neg e1, if_neg e2]; exact hab
 ·rename_i hn
  have hn : atG l k = none := by
   cases e : atG l k with
   | none => rfl
   | some u => rw [e] at hn; simp at hn
  refine List.pairwise_append.2 ⟨h, List.pairwise_singleton _ _, ?_⟩
  intro a ha b hb
  rw [List.mem_singleton] at hb
  subst hb
  exact (h1 a ha (atG_none.1 hn a ha)).2
def DM (lo : Nat) (W : World) (B : Nat) (G : Dg) : Prop :=
 lo ≤ B ∧ MapG enS W B (G.map fun g => (g.1, g.2.1)) ∧ (∀ g ∈ G, W.ownsRow lo 226 2 g.2.1 g.2.2.length (kccells g.2.2)) ∧ G.Pairwise (fun a b => ∀ q, a.2.1.ownBlock = some q → b.2.1.ownBlock ≠ some q)
theorem DM.keyd {lo : Nat} {W : World} {B : Nat} {G : Dg} (h : DM lo W B G) : KeydG G := by
 have := h.2.1.1
 unfold KeydG at this ⊢
 rw [List.pairwise_map] at this
 exact this
theorem DM.below {lo : Nat} {W W' : World} {B : Nat} {G : Dg} (h : DM lo W B G) (b : Below W.heap.size W W') : DM lo W' B G :=
 ⟨h.1, h.2.1.below b, fun g hg => own_below (h.2.2.1 g hg) b, h.2.2.2⟩
theorem DM.made (w : World) : DM w.heap.size (w.alloc (.map #[] 0)) w.heap.size [] := ⟨Nat.le_refl _, MapG.made w, (fun g h => by cases h), List.Pairwise.nil⟩
theorem DM.look {lo : Nat} {W : World} {B : Nat} {G : Dg} (h : DM lo W B G) (d : List UInt8) : (Instr.lookup 201 (.map (some B)) (.string ⟨d.toArray⟩) false).run Tryz.prog W = .ok (G.get d).1 W := by
 have := h.2.1.look tyCD keysS (zeroKc W) d false
 rw [atG_map (fun v : Value × List (Int × List UInt8) => v.1)] at this
 rw [show (Value.string ⟨d.toArray⟩) = enS d from rfl, this]
 unfold Dg.get
 cases atG G d <;> rfl
theorem DM.own {lo : Nat} {W : World} {B : Nat} {G : Dg} (h : DM lo W B G) (d : List UInt8) : W.ownsRow lo 226 2 (G.get d).1 (G.get d).2.length (kccells (G.get d).2) := by
 unfold Dg.get
 cases e : atG G d with
 | none => exact World.ownsRow_nil _ _ _ _
 | some u => exact h.2.2.1 _ (atG_mem e)
theorem own_cells {W : World} {lo : Nat} {t : TypeId} {v : Value} {n s : Nat} {xs : List Value} (h : W.ownsRow lo t s v n xs) {q : Nat} (hq : v.ownBlock = some q) : ∃ cs z, W.heap[q]? = some (.cells cs t z) := by
 rcases h.2 with ⟨rfl, -⟩ | ⟨g, cap, cur, rfl, -, h4, -⟩
 ·cases hq
 ·cases hq
  exact ⟨_, _, h4⟩
theorem DM.put {lo : Nat} {W W2 : World} {B : Nat} {G : Dg} (h : DM lo W B G) (d : List UInt8) {v' : Value} {xs : List (Int × List UInt8)} (hg : W.grownBy W2 (G.get d).1.ownBlock) (ho : W2.ownsRow lo 226 2 v' xs.length (kccells xs)) (hv : v'.ownBlock = (G.get d).1.ownBlock ∨ ∃ q, v'.ownBlock = some q ∧ W.heap.size ≤ q) :
 ∃ W3, (Instr.mapUpdate 201 (.map (some B)) (.string ⟨d.toArray⟩) v').run Tryz.prog W2 = .ok () W3 ∧ DM lo W3 B (newG G d (v', xs)) ∧ W2.grownBy W3 (some B) := by
 have hB : some B ≠ (G.get d).1.ownBlock := fun e => by
  obtain ⟨cs, z, q⟩ := own_cells (h.own d) e.symm
  exact h.2.1.not_cells q
 have hm := h.2.1.grown hg hB
 obtain ⟨W3, e1, e2, e3, -⟩ := hm.new tyCD keysS d v'
 rw [newG_map (fun v : Value × List (Int × List UInt8) => v.1) G d (v', xs)] at e2
 have far : ∀ g ∈ G, g.1 ≠ d → ∀ q, g.2.1.ownBlock = some q → (G.get d).1.ownBlock ≠ some q := by
  intro g hgm hne q hq e
  unfold Dg.get at e
  cases ha : atG G d with
  | none => rw [ha] at e; cases e
  | some u =>
   rw [ha] at e
   have hu := atG_mem ha
   obtain ⟨i, hi, ei⟩ := List.getElem_of_mem hgm
   obtain ⟨j, hj, ej⟩ := List.getElem_of_mem hu
   have hij : i ≠ j := fun q => by subst q; rw [ei] at ej; exact hne (by rw [ej])
   rcases Nat.lt_or_gt_of_ne hij with hlt | hlt
   ·have := List.pairwise_iff_getElem.1 h.2.2.2 i j hi hj hlt q (by rw [ei]; exact hq)
    rw [ej] at this
    exact this e
   ·have := List.pairwise_iff_getElem.1 h.2.2.2 j i hj hi hlt q (by rw [ej]; exact e)
    rw [ei] at this
    exact this hq
 have nb : ∀ {X : World} {u : Value} {n : Nat} {ys : List Value}, X.ownsRow lo 226 2 u n ys → MapG enS X B (G.map fun g => (g.1, g.2.1)) → u.ownBlock ≠ some B := by
  intro X u n ys hu hmx e
  obtain ⟨cs, z, q⟩ := own_cells hu e
  exact hmx.not_cells q
 refine ⟨W3, e1, ⟨h.1, e2, ?_, ?_⟩, e3⟩
 ·intro g hgm
  rcases newG_mem hgm with rfl | ⟨hgm, hne⟩
  ·exact ho.kept e3 (.inr (nb ho hm))
  ·have h0 : g.2.1.ownBlock = none ∨ g.2.1.ownBlock ≠ (G.get d).1.ownBlock := by
    cases eo : g.2.1.ownBlock with
    | none => exact .inl rfl
    | some q => exact .inr (fun e => far g hgm hne q eo e.symm)
   have h1 := (h.2.2.1 g hgm).kept hg h0
   exact h1.kept e3 (.inr (nb h1 hm))
 ·refine newG_pair h.keyd h.2.2.2 ?_
  intro p hp hne
  have hlt : ∀ q, p.2.1.ownBlock = some q → q < W.heap.size := fun q hq => ((h.2.2.1 p hp).lt q hq).2
  constructor
  ·intro q hq e
   rcases hv with hv | ⟨z, hz, hz2⟩
   ·rw [hv] at hq; exact far p hp hne q e hq
   ·simp only at hq; rw [hz] at hq; cases hq; have := hlt _ e; omega
  ·intro q hq e
   rcases hv with hv | ⟨z, hz, hz2⟩
   ·simp only at e; rw [hv] at e; exact far p hp hne q hq e
   ·simp only at e; rw [hz] at e; cases e; have := hlt _ hq; omega
def DK (dg : List UInt8 → List UInt8) (G : Dg) (kept : List (Int × List UInt8)) : Prop := ∀ d, (G.get d).2 = kept.filter fun p => decide (dg p.2 = d)
theorem DK.put {dg : List UInt8 → List UInt8} {G : Dg} {kept : List (Int × List UInt8)} (h : DK dg G kept) (p : Int × List UInt8) (v' : Value) : DK dg (newG G (dg p.2) (v', (G.get (dg p.2)).2 ++ [p])) (kept ++ [p]) := by
 intro d
 unfold Dg.get
 rw [atG_new, List.filter_append]
 by_cases e : d = dg p.2
 ·subst e
  rw [if_pos rfl]
  have := h (dg p.2)
  unfold Dg.get at this
  simp only [Option.getD_some]
  rw [this]
  simp
 ·rw [if_neg e]
  have := h d
  unfold Dg.get at this
  rw [this]
  have e' : ¬ dg p.2 = d := fun q => e q.symm
  simp [e']
theorem DK.made (dg : List UInt8 → List UInt8) : DK dg [] [] := fun _ => rfl
end Go.Proofs.YtcjgjkejhkhknacGreatDoor
