/-
  INewest; ISpot; Vars
-/
import Derived.Test.YtcjgjkejhkhknabDoorPq34
import Derived.Test.YtcjgjkejhkhknabDoorPq49
import Derived.Test.YtcjgjkejhkhknabDoorIUnp
import Derived.Test.YtcjgjkejhkhknabDoorPq46
import Derived.WalkLawsBesides
import Derived.Deep.QuietTactic
import Derived.BigQuiet
import Derived.Test.YtcjgjkejhkhknabDoorPq0
import Derived.ChangeVars
/-
  impl's newestOf and textOf.
-/
namespace Go.Proofs.YtcjgjkejhkhknabDoor
open Go.RowKit
open Words Pack

/-- At each chunk's number its newest page. -/
def NewL (M : List Fnd) (l : List (Int × Value)) : Prop := ∀ c, atG l c = (newP M c).map fdVal
theorem tyNP : Tryd.prog.underlying 42 = some (.map 3 49) := Tryd.underlying42
theorem zeroFd (w : World) : (zeroValue 49).run Tryd.prog w = .ok (.agg #[.int .i64 0, .int .i64 0, .int .i64 0, .int .i64 0, .int .i64 0, .int .i64 0, .int .i64 0, .string ⟨#[]⟩]) w := by kernel_rfl
/-- The map of newest pages lies in block B. -/
def NM (W : World) (B : Nat) (M : List Fnd) : Prop := ∃ l, MapG enI W B l ∧ NewL M l
theorem NM.below {W W' : World} {B : Nat} {M : List Fnd} (h : NM W B M) (b : Below W.heap.size W W') : NM W' B M := by
  obtain ⟨l, h1, h2⟩ := h
  exact ⟨l, h1.below b, h2⟩
theorem NM.lt {W : World} {B : Nat} {M : List Fnd} (h : NM W B M) : B < W.heap.size := by
  obtain ⟨l, h1, -⟩ := h
  exact h1.lt
theorem NM.look {W : World} {B : Nat} {M : List Fnd} (h : NM W B M) (x : Int) (c : Bool) :
    (Instr.lookup 42 (.map (some B)) (.int .i64 x) c).run Tryd.prog W = .ok (if c then .tuple #[fdVal (fdOr (newP M x)), .bool (newP M x).isSome] else fdVal (fdOr (newP M x))) W := by
  obtain ⟨l, h1, h2⟩ := h
  have := h1.look tyNP keysI (zeroFd W) x c
  rw [h2 x] at this
  rw [show (Value.int .i64 x) = enI x from rfl, this]
  cases newP M x <;> rfl
theorem NM.put {W : World} {B : Nat} {M : List Fnd} (h : NM W B M) {x : Fnd} (hx : x.page.kind = 1) :
    ∃ W', (Instr.mapUpdate 42 (.map (some B)) (.int .i64 x.page.tx) (fdVal x)).run Tryd.prog W = .ok () W' ∧ NM W' B (M ++ [x]) ∧ W.grownBy W' (some B) := by
  obtain ⟨l, h1, h2⟩ := h
  obtain ⟨W', e1, e2, e3, -⟩ := h1.new tyNP keysI x.page.tx (fdVal x)
  refine ⟨W', e1, ⟨_, e2, fun c => ?_⟩, e3⟩
  rw [atG_new, newP_snoc, h2 c]
  unfold isData
  rw [hx]
  by_cases e : c = x.page.tx
  · subst e; simp
  · have : ¬ x.page.tx = c := fun q => e q.symm
    simp [e, this]
theorem NM.skip {W : World} {B : Nat} {M : List Fnd} (h : NM W B M) {x : Fnd} (hx : x.page.kind ≠ 1) : NM W B (M ++ [x]) := by
  obtain ⟨l, h1, h2⟩ := h
  refine ⟨l, h1, fun c => ?_⟩
  rw [newP_snoc, h2 c]
  unfold isData
  simp [hx]
theorem take_snoc {M : List Fnd} {k : Nat} {x : Fnd} (h : M[k]? = some x) : M.take (k + 1) = M.take k ++ [x] := by rw [List.take_add_one, h]; rfl

set_option maxHeartbeats 2000000 in
set_option maxRecDepth 100000 in
theorem inewestOf (ad : Option Addr) (len cap : Nat) (M : List Fnd) (w : World) (hl : len ≤ 1099511627776) (h : FdRd w ad len M) :
    Calls Tryd.prog 16 #[.slice ad len cap] w fun e w' => ∃ B, e = .returned (.map (some B)) ∧ w.heap.size ≤ B ∧ NM w' B M ∧ Below w.heap.size w w' := by
  have HN := hide (show M.length = len from h.1)
  have HR := hide h
  have hmm := @run_makeMap Tryd.prog
  have b0 : Below w.heap.size w (w.alloc (.map #[] 0)) := (Below.refl _ _).alloc (Nat.le_refl _) _
  have N0 : Hid (NM (w.alloc (.map #[] 0)) w.heap.size (M.take 0)) := ⟨[], MapG.made w, fun c => rfl⟩
  have B0 := hide b0
  clear h b0
  go_enter Tryd.func16, Tryd.ntmps16
  go_wp2
  go_loopw [9] (fun iv wr => ∃ k : Nat, iv = .int .i64 k ∧ k ≤ len ∧ Hid (NM wr w.heap.size (M.take k)) ∧ Hid (Below w.heap.size w wr)) (fun iv _ => len - (intOf iv).toNat)
  case atStart => exact ⟨0, rfl, Nat.zero_le _, N0, B0⟩
  case round =>
    rename World => wr
    obtain ⟨k, rfl, hk, N1, B1⟩ := hrel
    clear N0 B0
    have hk0 : (0 : Int) ≤ k := by omega
    by_cases hlt : (k : Int) < len
    · obtain ⟨x, hx⟩ : ∃ x, M[k]? = some x := ⟨_, List.getElem?_eq_getElem (by have := HN.out; omega)⟩
      obtain ⟨rb, ro, rfl, -, c0, c1, c2, c3, c4, c5, c6, c7, d4⟩ := (HR.out.below B1.out).all hx
      have hT := take_snoc hx
      obtain ⟨xb, xl, pk, pq, px, pp, pc, pt⟩ := x
      simp only at c0 c1 c2 c3 c4 c5 c6 c7 d4
      have ba : Below wr.heap.size wr (wr.alloc (.cells #[.int .i64 xb, .int .i64 xl, .int .i64 pk, .int .i64 pq, .int .i64 px, .int .i64 pp, .int .i64 pc, .string pt] 49)) := (Below.refl _ _).alloc (Nat.le_refl _) _
      have N2 := hide (N1.out.below ba)
      have B2 := hide (B1.out.trans (ba.mono B1.out.size))
      have FA : Hid (FdAt (wr.alloc (.cells #[.int .i64 xb, .int .i64 xl, .int .i64 pk, .int .i64 pq, .int .i64 px, .int .i64 pp, .int .i64 pc, .string pt] 49)) wr.heap.size ⟨xb, xl, pk, pq, px, pp, pc, pt⟩) := heap_alloc_new _ _
      obtain ⟨y0, y1, y2, y3, y4, y5, y6, y7⟩ := FA.out.cells
      simp only at y0 y1 y2 y3 y4 y5 y6 y7
      by_cases q1 : (pk == 1) = true
      · obtain ⟨W3, e3, n3, g3⟩ := N2.out.put (x := ⟨xb, xl, pk, pq, px, pp, pc, pt⟩) (by simpa using q1)
        unfold fdVal at e3
        simp only at e3
        have N3 : Hid (NM W3 w.heap.size (M.take (k + 1))) := by rw [hT]; exact n3
        have B3 := hide (B2.out.grown g3 B2.out.size (fun j hj => by cases hj; exact Nat.le_refl _))
        clear hx hT n3 g3 N1 B1 N2 B2 ba FA
        go_wp2
        go_roundw
        case rel => exact ⟨k + 1, by go_num, by omega, N3, B3⟩
        case measure => simp [intOf]; omega
      · have N3 : Hid (NM (wr.alloc (.cells #[.int .i64 xb, .int .i64 xl, .int .i64 pk, .int .i64 pq, .int .i64 px, .int .i64 pp, .int .i64 pc, .string pt] 49)) w.heap.size (M.take (k + 1))) := by rw [hT]; exact N2.out.skip (by simpa using q1)
        have q1 : (pk == 1) = false := by simpa using q1
        clear hx hT N1 B1 N2 ba FA
        go_wp2
        go_roundw
        case rel => exact ⟨k + 1, by go_num, by omega, N3, B2⟩
        case measure => simp [intOf]; omega
    · have N2 : Hid (NM wr w.heap.size M) := by
        have := N1.out
        rw [List.take_of_length_le (by have := HN.out; omega)] at this
        exact this
      clear N1
      go_wp2
      go_ret
      exact ⟨w.heap.size, rfl, Nat.le_refl _, N2.out, B1.out⟩
set_option maxHeartbeats 1000000 in
set_option maxRecDepth 100000 in
theorem itextOf (B : Nat) (M : List Fnd) (c : Int) (w : World) (ht : ∀ x ∈ M, x.page.text.size ≤ 1048576) (h : NM w B M) :
    Calls Tryd.prog 18 #[.map (some B), .int .i64 c] w fun e w' => e = .returned (plainV (textP M c)) ∧ Below w.heap.size w w' := by
  have hlk := h.look c true
  simp only [if_true] at hlk
  cases hn : newP M c with
  | none =>
    have HO : Hid (textP M c = none) := by show _ = _; unfold textP; rw [hn]; rfl
    rw [hn] at hlk
    unfold fdOr fd0 fdVal at hlk
    simp only [Option.getD_none, Option.isSome_none] at hlk
    have B1 := hide ((Below.refl w.heap.size w).alloc (Nat.le_refl _) (.cells #[.int .i64 0, .int .i64 0, .int .i64 0, .int .i64 0, .int .i64 0, .int .i64 0, .int .i64 0, .string ⟨#[]⟩] 49))
    clear h ht hn
    go_enter Tryd.func18, Tryd.ntmps18
    go_wp2
    refine bodyPost_ret (results_tmp2 rfl _ _ _) rfl ?_
    rw [HO.out]
    exact ⟨rfl, B1.out⟩
  | some x =>
    have HO : Hid (textP M c = unpackL x.page.text.data.toList) := by show _ = _; unfold textP; rw [hn]; rfl
    have hsz := ht x (newP_mem hn).1
    rw [hn] at hlk
    obtain ⟨xb, xl, pk, pq, px, pp, pc, pt⟩ := x
    unfold fdOr fdVal at hlk
    simp only [Option.getD_some, Option.isSome_some] at hlk
    have CU := hide (fun W => iunp_any pt.data.toList W (Nat.le_trans hsz (by decide)))
    rw [show BA pt.data.toList = pt from by unfold BA; simp] at CU
    simp only at HO
    obtain ⟨p, q, hpq⟩ := plainV_open (unpackL pt.data.toList)
    rw [hpq] at CU
    have HPQ := hide hpq
    have b2 : Below w.heap.size w (w.alloc (.cells #[.int .i64 xb, .int .i64 xl, .int .i64 pk, .int .i64 pq, .int .i64 px, .int .i64 pp, .int .i64 pc, .string pt] 49)) := (Below.refl _ _).alloc (Nat.le_refl _) _
    have B1 := hide b2
    have FA : Hid (FdAt (w.alloc (.cells #[.int .i64 xb, .int .i64 xl, .int .i64 pk, .int .i64 pq, .int .i64 px, .int .i64 pp, .int .i64 pc, .string pt] 49)) w.heap.size ⟨xb, xl, pk, pq, px, pp, pc, pt⟩) := heap_alloc_new _ _
    obtain ⟨-, -, -, -, -, -, -, k7⟩ := FA.out.cells
    simp only at k7
    clear h ht hn hpq b2 FA
    go_enter Tryd.func18, Tryd.ntmps18
    go_wp2_with fail
    refine (CU.out _).mono ?_
    rintro e w2 ⟨rfl, b3⟩
    have B2 := hide (B1.out.trans (b3.mono B1.out.size))
    clear b3 B1
    go_wp2
    refine bodyPost_ret (results_tmp2 rfl _ _ _) rfl ?_
    rw [HO.out, HPQ.out]
    exact ⟨rfl, B2.out⟩
end Go.Proofs.YtcjgjkejhkhknabDoor

/-
  impl.ChunkText, impl.SpotOf.
-/
namespace Go.Proofs.YtcjgjkejhkhknabDoor
open Go.RowKit
open Words Sums Pack

set_option maxHeartbeats 1000000 in
set_option maxRecDepth 100000 in
theorem ichunkText (v : Value) (rs : List Rw) (c : Int) (w : World) (hl : rs.length ≤ 1048576) (hll : ∀ r ∈ rs, r.2.2.2.length ≤ 1048576) (htx : TxB rs) (ha : FlashRd w v rs) (hH : HalvIn w) :
    Calls Tryd.prog 8 #[.agg #[v], .int .i64 c] w fun e w' => e = .returned (plainV (textP (scanF (rs.map tellOf)) c)) ∧ Below w.heap.size w w' := by
  have b0 : Below w.heap.size w (w.alloc (.cells #[v] 30)) := (Below.refl _ _).alloc (Nat.le_refl _) _
  have k0 : (w.alloc (.cells #[v] 30)).cell? ⟨w.heap.size, 0, none⟩ = some v := cell_of_row _ _ 0 _ _ _ (heap_alloc_new w (.cells #[v] 30))
  have C := hide (iscanO v rs _ hl hll htx (ha.below b0) (hH.on b0))
  have B0 := hide b0
  obtain ⟨M, hM⟩ : ∃ M, scanF (rs.map tellOf) = M := ⟨_, rfl⟩
  have HT : Hid (∀ x ∈ M, x.page.text.size ≤ 1048576) := by rw [← hM]; exact scan_text
  unfold ScOut at C
  rw [hM] at C ⊢
  obtain ⟨p, q, hpq⟩ := plainV_open (textP M c)
  have HPQ := hide hpq
  clear hl hll htx ha b0 hM hpq hH
  go_enter Tryd.func8, Tryd.ntmps8
  go_wp2_with fail
  refine C.out.mono ?_
  rintro e w1 ⟨ad, cap, rfl, h1, h2, h3⟩
  have CN := hide (inewestOf ad M.length cap M w1 h2 h1)
  have B1 := hide (B0.out.trans (h3.mono B0.out.size))
  clear C h1 h2 h3 B0 k0
  go_wp2_with fail
  refine CN.out.mono ?_
  rintro e w2 ⟨BN, rfl, -, hN, b2⟩
  have CT := hide (itextOf BN M c w2 HT.out hN)
  have B2 := hide (B1.out.trans (b2.mono B1.out.size))
  rw [HPQ.out] at CT
  clear CN b2 hN B1
  go_wp2_with fail
  refine CT.out.mono ?_
  rintro e w3 ⟨rfl, b3⟩
  have B3 := hide (B2.out.trans (b3.mono B2.out.size))
  clear b3 CT
  go_wp2
  refine bodyPost_ret (results_tmp2 rfl _ _ _) rfl ?_
  rw [HPQ.out]
  exact ⟨rfl, B3.out⟩
set_option maxHeartbeats 1000000 in
set_option maxRecDepth 100000 in
theorem ispot (v : Value) (rs : List Rw) (c : Int) (w : World) (hl : rs.length ≤ 1048576) (hll : ∀ r ∈ rs, r.2.2.2.length ≤ 1048576) (htx : TxB rs) (ha : FlashRd w v rs) (hH : HalvIn w) :
    Calls Tryd.prog 11 #[.agg #[v], .int .i64 c] w fun e w' => e = .returned (.tuple #[.int .i64 (spotP (scanF (rs.map tellOf)) c).1, .int .i64 (spotP (scanF (rs.map tellOf)) c).2.1, .bool (spotP (scanF (rs.map tellOf)) c).2.2]) ∧ Below w.heap.size w w' := by
  have b0 : Below w.heap.size w (w.alloc (.cells #[v] 30)) := (Below.refl _ _).alloc (Nat.le_refl _) _
  have k0 : (w.alloc (.cells #[v] 30)).cell? ⟨w.heap.size, 0, none⟩ = some v := cell_of_row _ _ 0 _ _ _ (heap_alloc_new w (.cells #[v] 30))
  have C := hide (iscanO v rs _ hl hll htx (ha.below b0) (hH.on b0))
  have B0 := hide b0
  obtain ⟨M, hM⟩ : ∃ M, scanF (rs.map tellOf) = M := ⟨_, rfl⟩
  unfold ScOut at C
  rw [hM] at C ⊢
  obtain ⟨y, hy⟩ : ∃ y, fdOr (newP M c) = y := ⟨_, rfl⟩
  have HY : Hid (spotP M c = (y.block, y.leaf, (newP M c).isSome)) := by
    show _ = _
    rw [← hy]
    unfold spotP
    cases newP M c <;> rfl
  have HFY := hide hy
  clear hl hll htx ha b0 hM hy hH
  obtain ⟨xb, xl, pk, pq, px, pp, pc, pt⟩ := y
  go_enter Tryd.func11, Tryd.ntmps11
  go_wp2_with fail
  refine C.out.mono ?_
  rintro e w1 ⟨ad, cap, rfl, h1, h2, h3⟩
  have CN := hide (inewestOf ad M.length cap M w1 h2 h1)
  have B1 := hide (B0.out.trans (h3.mono B0.out.size))
  clear C h1 h2 h3 B0 k0
  go_wp2_with fail
  refine CN.out.mono ?_
  rintro e w2 ⟨BN, rfl, -, hN, b2⟩
  have hlk := hN.look c true
  simp only [if_true] at hlk
  rw [HFY.out] at hlk
  unfold fdVal at hlk
  simp only at hlk
  have b3 : Below w2.heap.size w2 (w2.alloc (.cells #[.int .i64 xb, .int .i64 xl, .int .i64 pk, .int .i64 pq, .int .i64 px, .int .i64 pp, .int .i64 pc, .string pt] 49)) := (Below.refl _ _).alloc (Nat.le_refl _) _
  have FA : Hid (FdAt (w2.alloc (.cells #[.int .i64 xb, .int .i64 xl, .int .i64 pk, .int .i64 pq, .int .i64 px, .int .i64 pp, .int .i64 pc, .string pt] 49)) w2.heap.size ⟨xb, xl, pk, pq, px, pp, pc, pt⟩) := heap_alloc_new _ _
  have B2 := hide ((B1.out.trans (b2.mono B1.out.size)).trans (b3.mono (B1.out.trans (b2.mono B1.out.size)).size))
  obtain ⟨y0, y1, -⟩ := FA.out.cells
  simp only at y0 y1
  have BD : Hid (∀ n, Below w.heap.size w ((w2.alloc (.cells #[.int .i64 xb, .int .i64 xl, .int .i64 pk, .int .i64 pq, .int .i64 px, .int .i64 pp, .int .i64 pc, .string pt] 49)).drewN n)) := fun n => below_drewN B2.out n
  clear b2 b3 CN FA B2 hN
  go_wp2
  go_quiet (fail)
  go_wp2
  go_ret3
  rw [HY.out]
  exact ⟨rfl, BD.out _⟩
end Go.Proofs.YtcjgjkejhkhknabDoor

/-
  Package variables that are arrays of integers, where a row names them: they read behind the call as they did ahead of it.
-/
namespace Go.Proofs.YtcjgjkejhkhknabDoor
open Go.ChangeShapes Go.RowKit

theorem trod_ints {H : Type} {enc : TypeId × Value → H} {P : Program} {t e : TypeId} {n : Nat} {k : IntKind} (ht : P.underlying t = some (.array n e)) (he : P.underlying e = some (.int k))
    (V V' : World) (b b' : Nat) (sp sp' : Nat → Bool) (held : Bool) (fuel : Nat) (cs : List Value) :
    DataW.trod enc P V b sp held fuel t cs = DataW.trod enc P V' b' sp' held fuel t cs := by
  cases fuel with
  | zero => rfl
  | succ fuel =>
    have h : ∀ x : List Value, DataW.trod enc P V b sp held fuel e x = DataW.trod enc P V' b' sp' held fuel e x := by
      intro x
      cases fuel with
      | zero => rfl
      | succ fuel =>
        simp only [DataW.trod, he]
        rcases x with _ | ⟨v, _ | ⟨v2, r⟩⟩
        · rfl
        · cases v <;> rfl
        · cases v <;> rfl
    simp only [DataW.trod, ht, h]

theorem vars_length {H : Type} {enc : TypeId × Value → H} {P : Program} {W : World} {sp : Nat → Bool} : ∀ {ns : List String} {gs : List (DataW H)} {q : List MemPlace}, DataW.TrodVars enc P W sp ns gs q → gs.length = ns.length
  | [], [], _, _ => rfl
  | [], _ :: _, _, h => by simp [DataW.TrodVars] at h
  | _ :: _, [], _, h => by simp [DataW.TrodVars] at h
  | _ :: _, _ :: _, _, h => by
    obtain ⟨_, _, _, _, _, _, _, _, _, _, hs, _⟩ := h
    simp [vars_length hs]

theorem vars_nil {H : Type} {enc : TypeId × Value → H} {P : Program} {W W' : World} {sp sp' : Nat → Bool} (gs : List (DataW H)) (q : List MemPlace) (h : DataW.TrodVars enc P W sp [] gs q) : DataW.TrodVars enc P W' sp' [] gs q := by
  cases gs with
  | nil => exact h
  | cons => simp [DataW.TrodVars] at h

theorem vars_cons {H : Type} {enc : TypeId × Value → H} {P : Program} {W W' : World} {sp sp' : Nat → Bool} {n : String} {ns : List String} {g : Nat} {t e : TypeId} {m : Nat} {k : IntKind}
    (hg : P.globalNamed n = some g) (hty : (P.globals[g]?).map (·.type) = some t) (ht : P.underlying t = some (.array m e)) (he : P.underlying e = some (.int k)) (hb : Below W.heap.size W W')
    (rest : ∀ gs q, DataW.TrodVars enc P W sp ns gs q → DataW.TrodVars enc P W' sp' ns gs q) (gs : List (DataW H)) (q : List MemPlace) (h : DataW.TrodVars enc P W sp (n :: ns) gs q) : DataW.TrodVars enc P W' sp' (n :: ns) gs q := by
  cases gs with
  | nil => simp [DataW.TrodVars] at h
  | cons d ds =>
    obtain ⟨g', t', cs, fuel, p, q', h1, h2, h3, h4, hs, rfl⟩ := h
    obtain rfl := Option.some.inj (hg.symm.trans h1)
    obtain rfl := Option.some.inj (hty.symm.trans h2)
    have hlt : g < W.heap.size := by
      rcases Nat.lt_or_ge g W.heap.size with h' | h'
      · exact h'
      · unfold World.var? at h3
        simp [hg, Array.getElem?_eq_none h'] at h3
    refine ⟨g, t, cs, fuel, p, q', h1, h2, var?_below hb hg hlt h3, ?_, rest _ _ hs, rfl⟩
    rw [trod_ints ht he W' W 0 0 sp' sp]
    exact h4
end Go.Proofs.YtcjgjkejhkhknabDoor
