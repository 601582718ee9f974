import Derived.Test.YtfmnaidhfgmemaaGreatDoorSPut16
import Derived.Test.YtfmnaidhfgmemaaGreatDoorPk31
import Derived.Test.YtfmnaidhfgmemaaGreatDoorPk27
namespace Go.Proofs.YtfmnaidhfgmemaaGreatDoor
open Go.RowKit
open Words Sums
def WsOut (w : World) (r : List Stp × Bool) (e : Ending) (w' : World) : Prop := ∃ uv, e = .returned (.tuple #[uv, .bool r.2]) ∧ w'.ownsRow w.heap.size 67 4 uv r.1.length (stcells r.1) ∧ Below w.heap.size w w'
theorem st_fresh {w W : World} (b : Below w.heap.size w W) (n : Nat) (hn : W.heap.size = n) : (W.alloc (.cells #[] 67)).ownsRow w.heap.size 67 4 (.slice (some ⟨n, 0, none⟩) 0 0) ([] : List Stp).length (stcells []) ∧ Below w.heap.size w (W.alloc (.cells #[] 67)) := by
  subst hn
  exact ⟨⟨rfl, .inr ⟨W.heap.size, 0, #[], rfl, b.size, heap_alloc_new W _, Nat.le_refl _, by unfold maxLen; omega, rfl, rfl⟩⟩, b.alloc b.size _⟩
def WSt (w W : World) (g : Nat) (v u : Value) (bs : List Bk) (l : List Stp) : Prop :=
  Below w.heap.size w W ∧ W.heap[g]? = some (.cells #[v] 39 (0, 0)) ∧ RdN g W v bs ∧ W.ownsRow w.heap.size 67 4 u l.length (stcells l) ∧ Sml bs ∧ w.heap.size ≤ g
theorem WSt.below {w W W' : World} {g : Nat} {v u : Value} {bs : List Bk} {l : List Stp} (h : WSt w W g v u bs l) (hb : Below W.heap.size W W') : WSt w W' g v u bs l := by
  obtain ⟨h1, h2, h3, h4, h5, h6⟩ := h
  exact ⟨h1.trans (hb.mono h1.size), (hb.block _ (Array.getElem?_eq_some_iff.1 h2).1).trans h2, h3.keep hb.size (fun x _ hx => hb.block x hx), own_below h4 hb, h5, h6⟩
theorem WSt.put {w W W' : World} {g : Nat} {v u v' u' : Value} {bs bs' : List Bk} {l l' : List Stp} (h : WSt w W g v u bs l) (hk : Kept2 W W' (fun x => u.ownBlock ≠ some x)) (hr : RdN g W' v' bs') (ho : W'.ownsRow w.heap.size 67 4 u' l'.length (stcells l')) (hs : Sml bs') : WSt w (W'.setCell ⟨g, 0, none⟩ v') g v' u' bs' l' := by
  obtain ⟨h1, h2, h3, h4, h5, h6⟩ := h
  have hlt := own_block_lt h4
  have hg : W'.heap[g]? = some (.cells #[v] 39 (0, 0)) := by
    refine (hk.2.2.2.2 g (Array.getElem?_eq_some_iff.1 h2).1 (fun e => ?_)).trans h2
    rcases h4.2 with ⟨rfl, -⟩ | ⟨x, c, cur, rfl, -, e1, -⟩
    · cases e
    · simp only [Value.ownBlock, Option.some.injEq] at e
      subst e
      rw [h2] at e1
      simp at e1
  have hb : Below w.heap.size w W' := h1.trans (hk.down h1.size (fun i hi e => by have := (hlt i e).1; omega))
  exact ⟨hb.setCell (p := ⟨g, 0, none⟩) h6 _, heap_setCell_same _ _ 0 _ _ _ hg, hr.keep (by simp [World.setCell]) (fun x hx _ => Below.heap_setCell _ _ _ _ hx), own_type16 ho hg, hs, h6⟩
theorem put_sml {bs : List Bk} (h : Sml bs) (l : List Stp) (p : Pg) : Sml (putP bs l p).1 := by
  unfold putP
  split
  · exact h.step _
  · exact h
theorem put_len16 (bs : List Bk) (l : List Stp) (p : Pg) : (putP bs l p).2.1.length ≤ l.length + 1 := by
  unfold putP
  split
  · simp
  · simp
theorem puts_stop (s : List Bk × List Stp × Bool) (Q : List Pg) (h : s.2.2 = false) : putsP s Q = s := by
  cases Q with
  | nil => rfl
  | cons p Q => rw [putsP, if_neg (by rw [h]; decide)]
theorem txOut_len16 (seq tx : Int) (l : List Rc) : (txOut seq tx l).length ≤ 9 := by
  unfold txOut
  split
  · rename_i h
    rw [txPgs_len]
    exact h.2.1
  · simp
theorem own_down16 {W : World} {B B' e s n : Nat} {v : Value} {xs : List Value} (h : W.ownsRow B e s v n xs) (hB : B' ≤ B) : W.ownsRow B' e s v n xs := by
  obtain ⟨h0, h⟩ := h
  refine ⟨h0, ?_⟩
  rcases h with h | ⟨g, cap, cur, e, h1, h2⟩
  · exact .inl h
  · exact .inr ⟨g, cap, cur, e, by omega, h2⟩
def PgR (w W : World) (pb np pcap : Nat) (Q : List Pg) : Prop := W.ownsRow w.heap.size 92 6 (.slice (some ⟨pb, 0, none⟩) np pcap) np (pgcells (Q.map Pg.tu))
theorem PgR.kept {w W W' : World} {g pb np pcap : Nat} {v u v' : Value} {bs : List Bk} {l : List Stp} {Q : List Pg} (h : PgR w W pb np pcap Q) (hw : WSt w W g v u bs l) (hk : Kept2 W W' (fun x => u.ownBlock ≠ some x)) : PgR w (W'.setCell ⟨g, 0, none⟩ v') pb np pcap Q := by
  obtain ⟨h0, h⟩ := h
  refine ⟨h0, ?_⟩
  rcases h with ⟨e, -⟩ | ⟨x, c, cur, e, h1, h2, h3⟩
  · cases e
  · refine .inr ⟨x, c, cur, e, h1, ?_, h3⟩
    have hxl := (Array.getElem?_eq_some_iff.1 h2).1
    have hxg : x ≠ g := fun hh => by
      subst hh
      rw [hw.2.1] at h2
      simp at h2
    refine (Below.heap_setCell _ _ _ _ hxg).trans ((hk.2.2.2.2 x hxl (fun hh => ?_)).trans h2)
    rcases hw.2.2.2.1.2 with ⟨rfl, -⟩ | ⟨y, c', cur', rfl, -, e1, -⟩
    · cases hh
    · simp only [Value.ownBlock, Option.some.injEq] at hh
      subst hh
      rw [h2] at e1
      simp at e1
theorem PgR.kept0 {w W W' : World} {g pb np pcap : Nat} {v u : Value} {bs : List Bk} {l : List Stp} {Q : List Pg} (h : PgR w W pb np pcap Q) (hw : WSt w W g v u bs l) (hk : Kept2 W W' (fun x => u.ownBlock ≠ some x)) : PgR w W' pb np pcap Q := by
  obtain ⟨h0, h⟩ := h
  refine ⟨h0, ?_⟩
  rcases h with ⟨e, -⟩ | ⟨x, c, cur, e, h1, h2, h3⟩
  · cases e
  · refine .inr ⟨x, c, cur, e, h1, ?_, h3⟩
    have hxl := (Array.getElem?_eq_some_iff.1 h2).1
    refine (hk.2.2.2.2 x hxl (fun hh => ?_)).trans h2
    rcases hw.2.2.2.1.2 with ⟨rfl, -⟩ | ⟨y, c', cur', rfl, -, e1, -⟩
    · cases hh
    · simp only [Value.ownBlock, Option.some.injEq] at hh
      subst hh
      rw [h2] at e1
      simp at e1
theorem WSt.cell {w W : World} {g : Nat} {v u : Value} {bs : List Bk} {l : List Stp} (h : WSt w W g v u bs l) {W' : World} (hk : Kept2 W W' (fun x => u.ownBlock ≠ some x)) : W'.cell? ⟨g, 0, none⟩ = some v ∧ W'.frozen? ⟨g, 0, none⟩ = false := by
  obtain ⟨h1, h2, h3, h4, h5, h6⟩ := h
  have hg : W'.heap[g]? = some (.cells #[v] 39 (0, 0)) := by
    refine (hk.2.2.2.2 g (Array.getElem?_eq_some_iff.1 h2).1 (fun e => ?_)).trans h2
    rcases h4.2 with ⟨rfl, -⟩ | ⟨x, c, cur, rfl, -, e1, -⟩
    · cases e
    · simp only [Value.ownBlock, Option.some.injEq] at e
      subst e
      rw [h2] at e1
      simp at e1
  exact ⟨cell_of_row _ _ 0 _ _ _ hg, frozen_of_row _ _ 0 _ _ hg⟩
theorem PgR.at {w W : World} {pb np pcap k : Nat} {Q : List Pg} {p : Pg} (h : PgR w W pb np pcap Q) (hk : Q[k]? = some p) : W.cell? ⟨pb, k * 6, none⟩ = some (.int .i64 p.kind) ∧ W.cell? ⟨pb, k * 6 + 1, none⟩ = some (.int .i64 p.seq) ∧ W.cell? ⟨pb, k * 6 + 2, none⟩ = some (.int .i64 p.tx) ∧ W.cell? ⟨pb, k * 6 + 3, none⟩ = some (.int .i64 p.part) ∧ W.cell? ⟨pb, k * 6 + 4, none⟩ = some (.int .i64 p.count) ∧ W.cell? ⟨pb, k * 6 + 5, none⟩ = some (.string p.text) := by
  have hm : (Q.map Pg.tu)[k]? = some p.tu := by rw [List.getElem?_map, hk]; rfl
  have hc := fun (j : Nat) (v : Value) (hj : (pgcell p.tu)[j]? = some v) => World.ownsRow.cells h (g := pb) rfl (k * 6 + j) v (pgcells_at _ k _ hm j v hj)
  have e : ∀ j, (⟨pb, 0, none⟩ : Addr).add j = ⟨pb, j, none⟩ := addr_at pb
  refine ⟨?_, ?_, ?_, ?_, ?_, ?_⟩
  · have := hc 0 _ rfl; rw [e] at this; exact this
  · have := hc 1 _ rfl; rw [e] at this; exact this
  · have := hc 2 _ rfl; rw [e] at this; exact this
  · have := hc 3 _ rfl; rw [e] at this; exact this
  · have := hc 4 _ rfl; rw [e] at this; exact this
  · have := hc 5 _ rfl; rw [e] at this; exact this
set_option maxHeartbeats 4000000 in
set_option maxRecDepth 100000 in
theorem swrite (x : Value) (d : Dv) (ra : Option Addr) (n rc : Nat) (l : List Rc) (t : ByteArray) (w : World) (h : DvIn w x d) (hn : n ≤ 33554432) (hr : RcRow w ra n (l.map Rc.tu)) : Calls Tryz.prog 21 #[x, .slice ra n rc, .string t] w (WsOut w (writeP d l t)) := by
  obtain ⟨fd, fc, va, vl, vc, ad, ln, cap, rfl, h1, h2, h3⟩ := h.form
  have hln : l.length = n := by have := hr.1; simpa using this
  have HLN := hide hln
  have s0 : (w.alloc (.cells #[.slice fd d.flash.length fc, .slice va vl vc, .slice ad ln cap, .int .i64 d.store.next, .int .i64 d.seq, .int .i64 d.tx, .int .i64 d.base] 47)).heap.size = w.heap.size + 1 := by simp
  have s1 : ((w.alloc (.cells #[.slice fd d.flash.length fc, .slice va vl vc, .slice ad ln cap, .int .i64 d.store.next, .int .i64 d.seq, .int .i64 d.tx, .int .i64 d.base] 47)).alloc (.cells #[] 67)).heap.size = w.heap.size + 1 + 1 := by simp
  have b0 : Below w.heap.size w (w.alloc (.cells #[.slice fd d.flash.length fc, .slice va vl vc, .slice ad ln cap, .int .i64 d.store.next, .int .i64 d.seq, .int .i64 d.tx, .int .i64 d.base] 47)) := (Below.refl _ _).alloc (Nat.le_refl _) _
  have n1 := st_fresh b0 (w.heap.size + 1) s0
  have g0 : DAt ((w.alloc (.cells #[.slice fd d.flash.length fc, .slice va vl vc, .slice ad ln cap, .int .i64 d.store.next, .int .i64 d.seq, .int .i64 d.tx, .int .i64 d.base] 47)).alloc (.cells #[] 67)) w.heap.size (.slice fd d.flash.length fc) (.slice va vl vc) (.slice ad ln cap) d.store.next d.seq d.tx d.base := (heap_alloc_old _ _ (by simp)).trans (heap_alloc_new w _)
  have HW : Hid (writeP d l t = if l.length = 0 then ([], true) else if (putsP (write0 d l t) (txOut (writeQ d t) d.tx l)).2.2 && @decide (TxOk (writeQ d t) d.tx l) (decTx (writeQ d t) d.tx l) then ((putsP (write0 d l t) (txOut (writeQ d t) d.tx l)).2.1, true) else ([], false)) := rfl
  obtain ⟨R, hR⟩ : ∃ R, writeP d l t = R := ⟨_, rfl⟩
  rw [hR] at HW ⊢
  clear hR
  by_cases hz : n = 0
  · have HE : Hid (R = ([], true)) := by show _ = _; rw [HW.out, if_pos (by omega)]
    have FN : Hid (WsOut w ([], true) (.returned (.tuple #[.slice (some ⟨w.heap.size + 1, 0, none⟩) 0 0, .bool true])) ((w.alloc (.cells #[.slice fd d.flash.length fc, .slice va vl vc, .slice ad ln cap, .int .i64 d.store.next, .int .i64 d.seq, .int .i64 d.tx, .int .i64 d.base] 47)).alloc (.cells #[] 67))) := ⟨_, rfl, n1.1, n1.2⟩
    have hnz : ((n : Int) == 0) = true := by simp [hz]
    clear HW b0 n1 g0 h h1 h2 h3 hr s0 s1 hln hz
    go_enter Tryz.func21, Tryz.ntmps21
    go_wp2
    refine bodyPost_ret (results_tmp2 rfl _ _ _) rfl ?_
    rw [HE.out]
    exact FN.out
  have hnz : ((n : Int) == 0) = false := by rw [beq_eq_false_iff_ne]; omega
  rw [if_neg (by rw [HLN.out]; exact hz)] at HW
  have b2 : Below w.heap.size w (((w.alloc (.cells #[.slice fd d.flash.length fc, .slice va vl vc, .slice ad ln cap, .int .i64 d.store.next, .int .i64 d.seq, .int .i64 d.tx, .int .i64 d.base] 47)).alloc (.cells #[] 67)).alloc (.cells #[.slice fd d.flash.length fc] 39)) := n1.2.alloc n1.2.size _
  have hb2 : Below ((w.alloc (.cells #[.slice fd d.flash.length fc, .slice va vl vc, .slice ad ln cap, .int .i64 d.store.next, .int .i64 d.seq, .int .i64 d.tx, .int .i64 d.base] 47)).alloc (.cells #[] 67)).heap.size ((w.alloc (.cells #[.slice fd d.flash.length fc, .slice va vl vc, .slice ad ln cap, .int .i64 d.store.next, .int .i64 d.seq, .int .i64 d.tx, .int .i64 d.base] 47)).alloc (.cells #[] 67)) (((w.alloc (.cells #[.slice fd d.flash.length fc, .slice va vl vc, .slice ad ln cap, .int .i64 d.store.next, .int .i64 d.seq, .int .i64 d.tx, .int .i64 d.base] 47)).alloc (.cells #[] 67)).alloc (.cells #[.slice fd d.flash.length fc] 39)) := (Below.refl _ _).alloc (Nat.le_refl _) _
  have g2 : (((w.alloc (.cells #[.slice fd d.flash.length fc, .slice va vl vc, .slice ad ln cap, .int .i64 d.store.next, .int .i64 d.seq, .int .i64 d.tx, .int .i64 d.base] 47)).alloc (.cells #[] 67)).alloc (.cells #[.slice fd d.flash.length fc] 39)).heap[((w.alloc (.cells #[.slice fd d.flash.length fc, .slice va vl vc, .slice ad ln cap, .int .i64 d.store.next, .int .i64 d.seq, .int .i64 d.tx, .int .i64 d.base] 47)).alloc (.cells #[] 67)).heap.size]? = some (.cells #[.slice fd d.flash.length fc] 39 (0, 0)) := heap_alloc_new _ _
  have W2 : Hid (WSt w (((w.alloc (.cells #[.slice fd d.flash.length fc, .slice va vl vc, .slice ad ln cap, .int .i64 d.store.next, .int .i64 d.seq, .int .i64 d.tx, .int .i64 d.base] 47)).alloc (.cells #[] 67)).alloc (.cells #[.slice fd d.flash.length fc] 39)) ((w.alloc (.cells #[.slice fd d.flash.length fc, .slice va vl vc, .slice ad ln cap, .int .i64 d.store.next, .int .i64 d.seq, .int .i64 d.tx, .int .i64 d.base] 47)).alloc (.cells #[] 67)).heap.size (.slice fd d.flash.length fc) (.slice (some ⟨w.heap.size + 1, 0, none⟩) 0 0) d.flash []) :=
    ⟨b2, g2, RdN.of_rdb h1 b2 (by omega), own_below n1.1 hb2, h2, by omega⟩
  have G2 := hide (g0.below hb2)
  have y0 := g0.cells.1
  have HRC := hide hr
  have hs1 := s1
  clear b0 n1 g0 b2 hb2 g2 s0 s1 h h1 h2 h3 hr hln
  generalize hw1 : (w.alloc (.cells #[.slice fd d.flash.length fc, .slice va vl vc, .slice ad ln cap, .int .i64 d.store.next, .int .i64 d.seq, .int .i64 d.tx, .int .i64 d.base] 47)).alloc (.cells #[] 67) = w1 at y0 W2 G2 hs1
  generalize hw2 : w1.alloc (.cells #[.slice fd d.flash.length fc] 39) = w2 at W2 G2
  obtain ⟨-, -, -, -, y4, y5, -⟩ := G2.out.cells
  have HS1 := hide hs1
  clear hs1
  go_enter Tryz.func21, Tryz.ntmps21
  go_upto_region 7 with fail
  clear hw1 hw2 y0
  by_cases ht : t.size = 0
  · have hte : t.toList.isEmpty = true := by rw [ask_empty]; exact dcY ht
    have HQ : Hid (write0 d l t = (d.flash, [], true)) := by show _ = _; unfold write0; rw [if_pos ht]
    have HSQ : Hid (d.seq = writeQ d t ∨ true = false) := .inl (by unfold writeQ; rw [if_pos ht])
    have hl4 : ([] : List Stp).length ≤ 1 := Nat.zero_le _
    clear ht
    obtain ⟨u4, hu4⟩ : ∃ u4, Value.slice (some ⟨w.heap.size + 1, 0, none⟩) 0 0 = u4 := ⟨_, rfl⟩
    obtain ⟨l4, hl4e⟩ : ∃ l4 : List Stp, [] = l4 := ⟨_, rfl⟩
    rw [hl4e] at W2 HQ hl4
    go_upto_region 10 with fail
    rw [hu4] at W2 ⊢
    clear hu4 hl4e hte
    have CT := hide (stxPages d.seq d.tx _ n rc l w2 hn (HRC.out.below W2.out.1))
    obtain ⟨Q, hQ⟩ : ∃ Q, txOut d.seq d.tx l = Q := ⟨_, rfl⟩
    have hnp9 : Q.length ≤ 9 := by rw [← hQ]; exact txOut_len16 _ _ _
    obtain ⟨np, hnp⟩ : ∃ np, Q.length = np := ⟨_, rfl⟩
    obtain ⟨tok, htok⟩ : ∃ tok, @decide (TxOk d.seq d.tx l) (decTx d.seq d.tx l) = tok := ⟨_, rfl⟩
    rw [hQ, htok] at CT
    have HR2 : Hid (R = if (putsP (d.flash, l4, true) Q).2.2 && tok then ((putsP (d.flash, l4, true) Q).2.1, true) else ([], false)) := by
      show _ = _
      rw [HW.out, HQ.out]
      rcases HSQ.out with e | e
      · rw [← e, hQ, htok]
      · rw [puts_stop _ _ (by exact e), puts_stop _ _ (by exact e)]
        show (if (true && _) = true then _ else _) = (if (true && _) = true then _ else _)
        rw [e]
        rfl
    rw [hnp] at hnp9
    have HNP := hide hnp
    clear HW HQ HSQ hQ htok hnp
    go_wp2_with fail
    refine CT.out.mono ?_
    rintro e w5 ⟨pv, rfl, po, b5⟩
    have W5 := hide (W2.out.below b5)
    obtain ⟨pa, pcap, rfl, -, -, hpf⟩ := frow_form po
    rw [HNP.out] at po hpf ⊢
    have hpa : 0 < np → ∃ pb, pa = some ⟨pb, 0, none⟩ := fun hp => by
      obtain ⟨pb, e, -⟩ := hpf hp
      exact ⟨pb, e⟩
    have PG5 : Hid (∀ pb, pa = some ⟨pb, 0, none⟩ → PgR w w5 pb np pcap Q) := fun pb e => by subst e; exact own_down16 po W2.out.1.size
    clear hpf po b5 CT W2 G2 y4 y5
    go_wp2
    go_loopw [8, 11, 14] (fun uv okv iv wr => ∃ (k : Nat) (u6 v6 : Value) (bs6 : List Bk) (l6 : List Stp) (ok6 : Bool), u6 = uv ∧ okv = .bool ok6 ∧ iv = .int .i64 k ∧ k ≤ np ∧ l6.length ≤ k + 1 ∧ Hid (WSt w wr w1.heap.size v6 u6 bs6 l6) ∧ Hid (∀ pb, pa = some ⟨pb, 0, none⟩ → PgR w wr pb np pcap Q) ∧ Hid (putsP (d.flash, l4, true) Q = putsP (bs6, l6, ok6) (Q.drop k))) (fun _ _ iv _ => np - (intOf iv).toNat)
    case atStart => exact ⟨0, _, _, _, _, _, rfl, rfl, rfl, Nat.zero_le _, hl4, W5, PG5, rfl⟩
    case round =>
      rename World => wr
      obtain ⟨k, u6, v6, bs6, l6, ok6, hu6, rfl, rfl, hk, hl6, W6, PG6, HQ6⟩ := hrel
      subst hu6
      clear W5 PG5
      have hk0 : (0 : Int) ≤ k := by omega
      by_cases hlt : (k : Int) < np
      · cases ok6 with
        | true =>
          obtain ⟨pb, rfl⟩ := hpa (by omega)
          obtain ⟨p, hp⟩ : ∃ p, Q[k]? = some p := ⟨_, List.getElem?_eq_getElem (by have := HNP.out; omega)⟩
          have HD : Hid (Q.drop k = p :: Q.drop (k + 1)) := List.drop_eq_getElem_cons (List.getElem?_eq_some_iff.1 hp).1 |>.trans (by rw [(List.getElem?_eq_some_iff.1 hp).2])
          have HP := hide hp
          obtain ⟨p0, p1, p2, p3, p4, p5⟩ := p
          have b7 : Below wr.heap.size wr wr.drew := (Below.refl _ _).drew
          have W7 := hide (W6.out.below b7)
          have PR7 : Hid (PgR w wr.drew pb np pcap Q) := own_below (PG6.out pb rfl) b7
          have SD : wr.drew.cell? ⟨pb, k * 6, none⟩ = some (.int .i64 p0) ∧ wr.drew.cell? ⟨pb, k * 6 + 1, none⟩ = some (.int .i64 p1) ∧ wr.drew.cell? ⟨pb, k * 6 + 2, none⟩ = some (.int .i64 p2) ∧ wr.drew.cell? ⟨pb, k * 6 + 3, none⟩ = some (.int .i64 p3) ∧ wr.drew.cell? ⟨pb, k * 6 + 4, none⟩ = some (.int .i64 p4) ∧ wr.drew.cell? ⟨pb, k * 6 + 5, none⟩ = some (.string p5) := PR7.out.at hp
          obtain ⟨vd, vc, rfl⟩ := W7.out.2.2.1.rdb.form
          have y9 : wr.drew.cell? ⟨w1.heap.size, 0, none⟩ = some (.slice vd bs6.length vc) := cell_of_row _ _ 0 _ _ _ W7.out.2.1
          have CP := hide (sput16 (.slice vd bs6.length vc) u6 bs6 l6 ⟨p0, p1, p2, p3, p4, p5⟩ w.heap.size w1.heap.size wr.drew W7.out.2.2.2.2.1 (by omega) W7.out.2.2.1 W7.out.2.2.2.1 W7.out.1.size (Array.getElem?_eq_some_iff.1 W7.out.2.1).1)
          have HSM := hide (put_sml W7.out.2.2.2.2.1 l6 ⟨p0, p1, p2, p3, p4, p5⟩)
          have HLE := put_len16 bs6 l6 ⟨p0, p1, p2, p3, p4, p5⟩
          have HQ7 : Hid (putsP (d.flash, l4, true) Q = putsP (putP bs6 l6 ⟨p0, p1, p2, p3, p4, p5⟩) (Q.drop (k + 1))) := by show _ = _; rw [HQ6.out, HD.out, putsP, if_pos rfl]
          obtain ⟨bs8, l8, ok8, h8⟩ : ∃ bs8 l8 ok8, putP bs6 l6 ⟨p0, p1, p2, p3, p4, p5⟩ = (bs8, l8, ok8) := ⟨_, _, _, rfl⟩
          rw [h8] at CP HSM HQ7 HLE
          simp only at HSM HLE
          unfold pgVal at CP
          simp only at CP
          clear h8 hp b7 PG6 HQ6 HD W6
          go_upto_region 14 with fail
          refine wp_region_ops (fun w' => w'.cell? ⟨pb, k * 6, none⟩ = some (.int .i64 p0) ∧ w'.cell? ⟨pb, k * 6 + 1, none⟩ = some (.int .i64 p1) ∧ w'.cell? ⟨pb, k * 6 + 2, none⟩ = some (.int .i64 p2) ∧ w'.cell? ⟨pb, k * 6 + 3, none⟩ = some (.int .i64 p3) ∧ w'.cell? ⟨pb, k * 6 + 4, none⟩ = some (.int .i64 p4) ∧ w'.cell? ⟨pb, k * 6 + 5, none⟩ = some (.string p5)) (by kernel_rfl) SD (fun hHeld => ?_)
          simp only [List.length_cons, List.length_nil, Nat.reduceAdd]
          refine takeL 1 (v := ?_) rfl (by kernel_rfl) (by kernel_rfl) (by kernel_rfl) (fun _ _ _ h => h) (by rfl) (by assumption) ?_ ?_
          rotate_left 1
          · (intro w hSw; (try dsimp only at hSw); go_simp; all_goals with_reducible rfl)
          simp only [Act.put, List.setIfInBounds_toArray, List.set_cons_zero, List.set_cons_succ]
          refine takeL 2 (v := ?_) rfl (by kernel_rfl) (by kernel_rfl) (by kernel_rfl) (fun _ _ _ h => h) (by rfl) (by assumption) ?_ ?_
          rotate_left 1
          · (intro w hSw; (try dsimp only at hSw); go_simp; all_goals with_reducible rfl)
          simp only [Act.put, List.setIfInBounds_toArray, List.set_cons_zero, List.set_cons_succ]
          refine takeL 3 (v := ?_) rfl (by kernel_rfl) (by kernel_rfl) (by kernel_rfl) (fun _ _ _ h => h) (by rfl) (by assumption) ?_ ?_
          rotate_left 1
          · (intro w hSw; (try dsimp only at hSw); go_simp; all_goals with_reducible rfl)
          simp only [Act.put, List.setIfInBounds_toArray, List.set_cons_zero, List.set_cons_succ]
          refine takeL 4 (v := ?_) rfl (by kernel_rfl) (by kernel_rfl) (by kernel_rfl) (fun _ _ _ h => h) (by rfl) (by assumption) ?_ ?_
          rotate_left 1
          · (intro w hSw; (try dsimp only at hSw); go_simp; all_goals with_reducible rfl)
          simp only [Act.put, List.setIfInBounds_toArray, List.set_cons_zero, List.set_cons_succ]
          refine takeL 5 (v := ?_) rfl (by kernel_rfl) (by kernel_rfl) (by kernel_rfl) (fun _ _ _ h => h) (by rfl) (by assumption) ?_ ?_
          rotate_left 1
          · (intro w hSw; (try dsimp only at hSw); go_simp; all_goals with_reducible rfl)
          simp only [Act.put, List.setIfInBounds_toArray, List.set_cons_zero, List.set_cons_succ]
          refine oneL 0 rfl (by kernel_rfl) (fun K hK => ?_)
          go_simp
          refine hK.out _ _ SD (fun hHeld2 => ?_)
          clear hK K hHeld
          have hHeld := hHeld2
          clear hHeld2
          (try simp only [Act.put, List.setIfInBounds_toArray, List.set_cons_zero, List.set_cons_succ])
          refine oneL 6 rfl (by kernel_rfl) (fun K hK => ?_)
          go_simp
          refine CP.out.mono ?_
          rintro e w8 ⟨v8, u8, rfl, r8, o8, k8⟩
          obtain ⟨v8d, v8c, rfl⟩ := r8.rdb.form
          have W8 := hide (W7.out.put k8 r8 o8 HSM.out)
          have PR8 := hide (PR7.out.kept0 W7.out k8)
          have PR9 : Hid (∀ pb', some (⟨pb, 0, none⟩ : Addr) = some ⟨pb', 0, none⟩ → PgR w (w8.setCell ⟨w1.heap.size, 0, none⟩ (.slice v8d bs8.length v8c)) pb' np pcap Q) := fun pb' e => by
            injection e with e
            injection e with e
            subst e
            exact PR7.out.kept W7.out k8
          have SE : w8.cell? ⟨pb, k * 6, none⟩ = some (.int .i64 p0) ∧ w8.cell? ⟨pb, k * 6 + 1, none⟩ = some (.int .i64 p1) ∧ w8.cell? ⟨pb, k * 6 + 2, none⟩ = some (.int .i64 p2) ∧ w8.cell? ⟨pb, k * 6 + 3, none⟩ = some (.int .i64 p3) ∧ w8.cell? ⟨pb, k * 6 + 4, none⟩ = some (.int .i64 p4) ∧ w8.cell? ⟨pb, k * 6 + 5, none⟩ = some (.string p5) := PR8.out.at HP.out
          have SF : (w8.setCell ⟨w1.heap.size, 0, none⟩ (.slice v8d bs8.length v8c)).cell? ⟨pb, k * 6, none⟩ = some (.int .i64 p0) ∧ (w8.setCell ⟨w1.heap.size, 0, none⟩ (.slice v8d bs8.length v8c)).cell? ⟨pb, k * 6 + 1, none⟩ = some (.int .i64 p1) ∧ (w8.setCell ⟨w1.heap.size, 0, none⟩ (.slice v8d bs8.length v8c)).cell? ⟨pb, k * 6 + 2, none⟩ = some (.int .i64 p2) ∧ (w8.setCell ⟨w1.heap.size, 0, none⟩ (.slice v8d bs8.length v8c)).cell? ⟨pb, k * 6 + 3, none⟩ = some (.int .i64 p3) ∧ (w8.setCell ⟨w1.heap.size, 0, none⟩ (.slice v8d bs8.length v8c)).cell? ⟨pb, k * 6 + 4, none⟩ = some (.int .i64 p4) ∧ (w8.setCell ⟨w1.heap.size, 0, none⟩ (.slice v8d bs8.length v8c)).cell? ⟨pb, k * 6 + 5, none⟩ = some (.string p5) := (PR9.out pb rfl).at HP.out
          have hcf := W7.out.cell k8
          have z0 := hcf.1
          have z1 := hcf.2
          clear hcf r8 o8 k8 CP W7 PR7 PR8
          refine hK.out _ _ SE (fun hHeld2 => ?_)
          clear hK K hHeld
          have hHeld := hHeld2
          clear hHeld2
          refine takeL 7 (v := ?_) rfl (by kernel_rfl) (by kernel_rfl) (by kernel_rfl) (fun _ _ _ h => h) (by rfl) (by assumption) ?_ ?_
          rotate_left 1
          · (intro w hSw; (try dsimp only at hSw); go_simp; all_goals with_reducible rfl)
          simp only [Act.put, List.setIfInBounds_toArray, List.set_cons_zero, List.set_cons_succ]
          refine takeL 8 (v := ?_) rfl (by kernel_rfl) (by kernel_rfl) (by kernel_rfl) (fun _ _ _ h => h) (by rfl) (by assumption) ?_ ?_
          rotate_left 1
          · (intro w hSw; (try dsimp only at hSw); go_simp; all_goals with_reducible rfl)
          simp only [Act.put, List.setIfInBounds_toArray, List.set_cons_zero, List.set_cons_succ]
          refine takeL 9 (v := ?_) rfl (by kernel_rfl) (by kernel_rfl) (by kernel_rfl) (fun _ _ _ h => h) (by rfl) (by assumption) ?_ ?_
          rotate_left 1
          · (intro w hSw; (try dsimp only at hSw); go_simp; all_goals with_reducible rfl)
          simp only [Act.put, List.setIfInBounds_toArray, List.set_cons_zero, List.set_cons_succ]
          refine takeL 10 (v := ?_) rfl (by kernel_rfl) (by kernel_rfl) (by kernel_rfl) (fun _ _ _ h => h) (by rfl) (by assumption) ?_ ?_
          rotate_left 1
          · (intro w hSw; (try dsimp only at hSw); go_simp; all_goals with_reducible rfl)
          simp only [Act.put, List.setIfInBounds_toArray, List.set_cons_zero, List.set_cons_succ]
          refine oneL 11 rfl (by kernel_rfl) (fun K hK => ?_)
          go_simp
          refine hK.out _ _ SF (fun hHeld2 => ?_)
          clear hK K hHeld
          have hHeld := hHeld2
          clear hHeld2
          (try simp only [Act.put, List.setIfInBounds_toArray, List.set_cons_zero, List.set_cons_succ])
          refine takeL 12 (v := ?_) rfl (by kernel_rfl) (by kernel_rfl) (by kernel_rfl) (fun _ _ _ h => h) (by rfl) (by assumption) ?_ ?_
          rotate_left 1
          · (intro w hSw; (try dsimp only at hSw); go_simp; all_goals with_reducible rfl)
          simp only [Act.put, List.setIfInBounds_toArray, List.set_cons_zero, List.set_cons_succ]
          refine takeL 13 (v := ?_) rfl (by kernel_rfl) (by kernel_rfl) (by kernel_rfl) (fun _ _ _ h => h) (by rfl) (by assumption) ?_ ?_
          rotate_left 1
          · (intro w hSw; (try dsimp only at hSw); go_simp; all_goals with_reducible rfl)
          simp only [Act.put, List.setIfInBounds_toArray, List.set_cons_zero, List.set_cons_succ]
          refine doneL (by kernel_rfl) ?_
          clear hHeld SD SE SF z0 z1 y9 HP
          go_wp2
          go_roundw
          case rel => exact ⟨k + 1, u8, _, bs8, l8, ok8, rfl, rfl, by go_num, by omega, by omega, W8, PR9, HQ7⟩
          case measure => simp [intOf]; omega
        | false =>
          have HF : Hid (putsP (d.flash, l4, true) Q = (bs6, l6, false)) := by show _ = _; rw [HQ6.out]; exact puts_stop _ _ rfl
          have HE : Hid (R = ([], false)) := by show _ = _; rw [HR2.out, HF.out]; rfl
          have FR := st_fresh W6.out.1 wr.heap.size rfl
          have FN : Hid (WsOut w ([], false) (.returned (.tuple #[.slice (some ⟨wr.heap.size, 0, none⟩) 0 0, .bool false])) (wr.alloc (.cells #[] 67))) := ⟨_, rfl, FR.1, FR.2⟩
          clear HR2 HF FR W6 PG6 HQ6
          go_wp2
          refine bodyPost_ret (results_tmp2 rfl _ _ _) rfl ?_
          rw [HE.out]
          exact FN.out
      · have HF : Hid (putsP (d.flash, l4, true) Q = (bs6, l6, ok6)) := by show _ = _; rw [HQ6.out, List.drop_of_length_le (by have := HNP.out; omega)]; rfl
        cases ok6 with
        | false =>
          have HE : Hid (R = ([], false)) := by show _ = _; rw [HR2.out, HF.out]; rfl
          have FR := st_fresh W6.out.1 wr.heap.size rfl
          have FN : Hid (WsOut w ([], false) (.returned (.tuple #[.slice (some ⟨wr.heap.size, 0, none⟩) 0 0, .bool false])) (wr.alloc (.cells #[] 67))) := ⟨_, rfl, FR.1, FR.2⟩
          clear HR2 HF FR W6 PG6 HQ6
          go_wp2
          refine bodyPost_ret (results_tmp2 rfl _ _ _) rfl ?_
          rw [HE.out]
          exact FN.out
        | true =>
          cases tok with
          | false =>
            have HE : Hid (R = ([], false)) := by show _ = _; rw [HR2.out, HF.out]; rfl
            have FR := st_fresh W6.out.1 wr.heap.size rfl
            have FN : Hid (WsOut w ([], false) (.returned (.tuple #[.slice (some ⟨wr.heap.size, 0, none⟩) 0 0, .bool false])) (wr.alloc (.cells #[] 67))) := ⟨_, rfl, FR.1, FR.2⟩
            clear HR2 HF FR W6 PG6 HQ6
            go_wp2
            refine bodyPost_ret (results_tmp2 rfl _ _ _) rfl ?_
            rw [HE.out]
            exact FN.out
          | true =>
            have HE : Hid (R = (l6, true)) := by show _ = _; rw [HR2.out, HF.out]; rfl
            have FN : Hid (WsOut w (l6, true) (.returned (.tuple #[u6, .bool true])) wr) := ⟨_, rfl, W6.out.2.2.2.1, W6.out.1⟩
            clear HR2 HF W6 PG6 HQ6
            go_wp2
            refine bodyPost_ret (results_tmp2 rfl _ _ _) rfl ?_
            rw [HE.out]
            exact FN.out
  · have hte : t.toList.isEmpty = false := by rw [ask_empty]; exact dcN ht
    obtain ⟨m, hm⟩ : ∃ m, n = m + 1 := ⟨n - 1, by omega⟩
    obtain ⟨r, hrm⟩ : ∃ r, l[m]? = some r := ⟨_, List.getElem?_eq_getElem (by have := HLN.out; omega)⟩
    obtain ⟨ck, hck⟩ : ∃ ck, r.chunk = ck := ⟨_, rfl⟩
    have hlc : lastCk l = ck := by
      unfold lastCk
      rw [List.getLast?_eq_getElem?, show l.length - 1 = m by have := HLN.out; omega, hrm, ← hck]
      rfl
    obtain ⟨rb, ro, hra, hrb, hrc⟩ := HRC.out.2.2.2 (by omega)
    have SW : w.cell? ⟨rb, ro + m * 4 + 3, none⟩ = some (.int .i64 ck) := by
      have := (hrc m r.tu (by rw [List.getElem?_map, hrm]; rfl)).2.2.2
      rw [← hck]
      exact this
    have SD : w2.drew.cell? ⟨rb, ro + m * 4 + 3, none⟩ = some (.int .i64 ck) := (W2.out.1.cell hrb).trans SW
    subst hra
    have hwm : IntKind.i64.wrap ((n : Int) - 1) = (m : Int) := by rw [IntKind.wrap_i64]; omega
    have hm0 : (0 : Int) ≤ m := by omega
    have hm1 : (m : Int) < n := by omega
    have b7 : Below w2.heap.size w2 w2.drew := (Below.refl _ _).drew
    have W7 := hide (W2.out.below b7)
    have G7 := hide (G2.out.below b7)
    have y9 : w2.drew.cell? ⟨w1.heap.size, 0, none⟩ = some (.slice fd d.flash.length fc) := cell_of_row _ _ 0 _ _ _ W7.out.2.1
    have CP := hide (sput16 (.slice fd d.flash.length fc) (.slice (some ⟨w.heap.size + 1, 0, none⟩) 0 0) d.flash [] (dataPg d.seq ck t) w.heap.size w1.heap.size w2.drew W7.out.2.2.2.2.1 (by simp) W7.out.2.2.1 W7.out.2.2.2.1 W7.out.1.size (Array.getElem?_eq_some_iff.1 W7.out.2.1).1)
    have HSM := hide (put_sml W7.out.2.2.2.2.1 [] (dataPg d.seq ck t))
    have hl4 := put_len16 d.flash [] (dataPg d.seq ck t)
    have HQ : Hid (write0 d l t = putP d.flash [] (dataPg d.seq ck t)) := by show _ = _; unfold write0; rw [if_neg ht, hlc]
    have HSQ : Hid (IntKind.i64.wrap (d.seq + 1) = writeQ d t ∨ (putP d.flash [] (dataPg d.seq ck t)).2.2 = false) := by
      by_cases hr : (dataPg d.seq ck t).Right
      · left
        have h1 : 1 ≤ d.seq := hr.2.1
        have h2 : d.seq ≤ 1000000000 := hr.2.2.1
        unfold writeQ
        rw [if_neg ht, IntKind.wrap_i64]
        omega
      · right
        unfold putP
        rw [if_neg (by unfold pgT; rw [if_neg hr]; simp)]
    obtain ⟨bs8, l8, ok8, h8⟩ : ∃ bs8 l8 ok8, putP d.flash [] (dataPg d.seq ck t) = (bs8, l8, ok8) := ⟨_, _, _, rfl⟩
    rw [h8] at CP HSM HQ HSQ hl4
    simp only at HSM HSQ hl4
    unfold pgVal dataPg at CP
    simp only at CP
    have hg7 : w.heap.size < w2.drew.heap.size := G7.out.lt
    have HM := hide hm
    clear h8 b7 hrc hlc hck hrm ht SW W2 G2 hm
    go_upto_region 8 with fail
    refine wp_region_ops (fun w' => w'.cell? ⟨rb, ro + m * 4 + 3, none⟩ = some (.int .i64 ck)) (by kernel_rfl) SD (fun hHeld => ?_)
    simp only [List.length_cons, List.length_nil, Nat.reduceAdd]
    refine takeL 1 (v := ?_) rfl (by kernel_rfl) (by kernel_rfl) (by kernel_rfl) (fun _ _ _ h => h) (by rfl) (by assumption) ?_ ?_
    rotate_left 1
    · (intro w hSw; (try dsimp only at hSw); go_simp; all_goals with_reducible rfl)
    simp only [Act.put, List.setIfInBounds_toArray, List.set_cons_zero, List.set_cons_succ]
    refine takeL 2 (v := ?_) rfl (by kernel_rfl) (by kernel_rfl) (by kernel_rfl) (fun _ _ _ h => h) (by rfl) (by assumption) ?_ ?_
    rotate_left 1
    · (intro w hSw; (try dsimp only at hSw); go_simp; all_goals with_reducible rfl)
    simp only [Act.put, List.setIfInBounds_toArray, List.set_cons_zero, List.set_cons_succ]
    refine takeL 3 (v := ?_) rfl (by kernel_rfl) (by kernel_rfl) (by kernel_rfl) (fun _ _ _ h => h) (by rfl) (by assumption) ?_ ?_
    rotate_left 1
    · (intro w hSw; (try dsimp only at hSw); go_simp; all_goals with_reducible rfl)
    simp only [Act.put, List.setIfInBounds_toArray, List.set_cons_zero, List.set_cons_succ]
    refine takeL 4 (v := ?_) rfl (by kernel_rfl) (by kernel_rfl) (by kernel_rfl) (fun _ _ _ h => h) (by rfl) (by assumption) ?_ ?_
    rotate_left 1
    · (intro w hSw; (try dsimp only at hSw); go_simp; all_goals with_reducible rfl)
    simp only [Act.put, List.setIfInBounds_toArray, List.set_cons_zero, List.set_cons_succ]
    refine takeL 5 (v := ?_) rfl (by kernel_rfl) (by kernel_rfl) (by kernel_rfl) (fun _ _ _ h => h) (by rfl) (by assumption) ?_ ?_
    rotate_left 1
    · (intro w hSw; (try dsimp only at hSw); go_simp; all_goals with_reducible rfl)
    simp only [Act.put, List.setIfInBounds_toArray, List.set_cons_zero, List.set_cons_succ]
    refine takeL 6 (v := ?_) rfl (by kernel_rfl) (by kernel_rfl) (by kernel_rfl) (fun _ _ _ h => h) (by rfl) (by assumption) ?_ ?_
    rotate_left 1
    · (intro w hSw; (try dsimp only at hSw); go_simp; all_goals with_reducible rfl)
    simp only [Act.put, List.setIfInBounds_toArray, List.set_cons_zero, List.set_cons_succ]
    refine takeL 7 (v := ?_) rfl (by kernel_rfl) (by kernel_rfl) (by kernel_rfl) (fun _ _ _ h => h) (by rfl) (by assumption) ?_ ?_
    rotate_left 1
    · (intro w hSw; (try dsimp only at hSw); go_simp; all_goals with_reducible rfl)
    simp only [Act.put, List.setIfInBounds_toArray, List.set_cons_zero, List.set_cons_succ]
    refine takeL 8 (v := ?_) rfl (by kernel_rfl) (by kernel_rfl) (by kernel_rfl) (fun _ _ _ h => h) (by rfl) (by assumption) ?_ ?_
    rotate_left 1
    · (intro w hSw; (try dsimp only at hSw); go_simp; all_goals with_reducible rfl)
    simp only [Act.put, List.setIfInBounds_toArray, List.set_cons_zero, List.set_cons_succ]
    refine takeL 9 (v := ?_) rfl (by kernel_rfl) (by kernel_rfl) (by kernel_rfl) (fun _ _ _ h => h) (by rfl) (by assumption) ?_ ?_
    rotate_left 1
    · (intro w hSw; (try dsimp only at hSw); go_simp; all_goals with_reducible rfl)
    simp only [Act.put, List.setIfInBounds_toArray, List.set_cons_zero, List.set_cons_succ]
    refine takeL 10 (v := ?_) rfl (by kernel_rfl) (by kernel_rfl) (by kernel_rfl) (fun _ _ _ h => h) (by rfl) (by assumption) ?_ ?_
    rotate_left 1
    · (intro w hSw; (try dsimp only at hSw); go_simp; all_goals with_reducible rfl)
    simp only [Act.put, List.setIfInBounds_toArray, List.set_cons_zero, List.set_cons_succ]
    refine takeL 11 (v := ?_) rfl (by kernel_rfl) (by kernel_rfl) (by kernel_rfl) (fun _ _ _ h => h) (by rfl) (by assumption) ?_ ?_
    rotate_left 1
    · (intro w hSw; (try dsimp only at hSw); go_simp; all_goals with_reducible rfl)
    simp only [Act.put, List.setIfInBounds_toArray, List.set_cons_zero, List.set_cons_succ]
    refine oneL 0 rfl (by kernel_rfl) (fun K hK => ?_)
    go_simp
    refine hK.out _ _ SD (fun hHeld2 => ?_)
    clear hK K hHeld
    have hHeld := hHeld2
    clear hHeld2
    (try simp only [Act.put, List.setIfInBounds_toArray, List.set_cons_zero, List.set_cons_succ])
    refine oneL 12 rfl (by kernel_rfl) (fun K hK => ?_)
    go_simp
    refine CP.out.mono ?_
    rintro e w8 ⟨v8, u8, rfl, r8, o8, k8⟩
    obtain ⟨v8d, v8c, rfl⟩ := r8.rdb.form
    have W8 := hide (W7.out.put k8 r8 o8 HSM.out)
    have hcf := W7.out.cell k8
    have z0 := hcf.1
    have z1 := hcf.2
    have SE : w8.cell? ⟨rb, ro + m * 4 + 3, none⟩ = some (.int .i64 ck) := ((k8.down W7.out.1.size (fun i hi e => by simp [Value.ownBlock] at e; omega)).cell hrb).trans SD
    have SF : (w8.setCell ⟨w1.heap.size, 0, none⟩ (.slice v8d bs8.length v8c)).cell? ⟨rb, ro + m * 4 + 3, none⟩ = some (.int .i64 ck) := (World.cell?_setCell_other _ _ _ _ (fun e => by have h5 := congrArg Addr.block e; have h6 := HS1.out; have h7 := W7.out.2.2.2.2.2; simp only at h5; have h8 : rb < w.heap.size := hrb; omega)).trans SE
    have G8 : Hid (DAt (w8.setCell ⟨w1.heap.size, 0, none⟩ (.slice v8d bs8.length v8c)) w.heap.size (.slice fd d.flash.length fc) (.slice va vl vc) (.slice ad ln cap) d.store.next d.seq d.tx d.base) := (Below.heap_setCell _ _ _ _ (show w.heap.size ≠ w1.heap.size by have := HS1.out; omega)).trans ((k8.2.2.2.2 w.heap.size hg7 (fun e => by simp [Value.ownBlock] at e)).trans G7.out)
    clear hcf r8 o8 k8 CP W7 G7
    refine hK.out _ _ SE (fun hHeld2 => ?_)
    clear hK K hHeld
    have hHeld := hHeld2
    clear hHeld2
    refine takeL 13 (v := ?_) rfl (by kernel_rfl) (by kernel_rfl) (by kernel_rfl) (fun _ _ _ h => h) (by rfl) (by assumption) ?_ ?_
    rotate_left 1
    · (intro w hSw; (try dsimp only at hSw); go_simp; all_goals with_reducible rfl)
    simp only [Act.put, List.setIfInBounds_toArray, List.set_cons_zero, List.set_cons_succ]
    refine takeL 14 (v := ?_) rfl (by kernel_rfl) (by kernel_rfl) (by kernel_rfl) (fun _ _ _ h => h) (by rfl) (by assumption) ?_ ?_
    rotate_left 1
    · (intro w hSw; (try dsimp only at hSw); go_simp; all_goals with_reducible rfl)
    simp only [Act.put, List.setIfInBounds_toArray, List.set_cons_zero, List.set_cons_succ]
    refine takeL 15 (v := ?_) rfl (by kernel_rfl) (by kernel_rfl) (by kernel_rfl) (fun _ _ _ h => h) (by rfl) (by assumption) ?_ ?_
    rotate_left 1
    · (intro w hSw; (try dsimp only at hSw); go_simp; all_goals with_reducible rfl)
    simp only [Act.put, List.setIfInBounds_toArray, List.set_cons_zero, List.set_cons_succ]
    refine takeL 16 (v := ?_) rfl (by kernel_rfl) (by kernel_rfl) (by kernel_rfl) (fun _ _ _ h => h) (by rfl) (by assumption) ?_ ?_
    rotate_left 1
    · (intro w hSw; (try dsimp only at hSw); go_simp; all_goals with_reducible rfl)
    simp only [Act.put, List.setIfInBounds_toArray, List.set_cons_zero, List.set_cons_succ]
    refine oneL 17 rfl (by kernel_rfl) (fun K hK => ?_)
    go_simp
    refine hK.out _ _ SF (fun hHeld2 => ?_)
    clear hK K hHeld
    have hHeld := hHeld2
    clear hHeld2
    (try simp only [Act.put, List.setIfInBounds_toArray, List.set_cons_zero, List.set_cons_succ])
    refine takeL 18 (v := ?_) rfl (by kernel_rfl) (by kernel_rfl) (by kernel_rfl) (fun _ _ _ h => h) (by rfl) (by assumption) ?_ ?_
    rotate_left 1
    · (intro w hSw; (try dsimp only at hSw); go_simp; all_goals with_reducible rfl)
    simp only [Act.put, List.setIfInBounds_toArray, List.set_cons_zero, List.set_cons_succ]
    refine takeL 19 (v := ?_) rfl (by kernel_rfl) (by kernel_rfl) (by kernel_rfl) (fun _ _ _ h => h) (by rfl) (by assumption) ?_ ?_
    rotate_left 1
    · (intro w hSw; (try dsimp only at hSw); go_simp; all_goals with_reducible rfl)
    simp only [Act.put, List.setIfInBounds_toArray, List.set_cons_zero, List.set_cons_succ]
    refine doneL (by kernel_rfl) ?_
    clear hHeld SD SE SF z0 z1 y9 y4 y5 hwm
    obtain ⟨sq, hsq⟩ : ∃ sq, IntKind.i64.wrap (d.seq + 1) = sq := ⟨_, rfl⟩
    rw [hsq] at HSQ
    obtain ⟨-, -, -, -, y4, y5, -⟩ := G8.out.cells
    generalize w8.setCell ⟨w1.heap.size, 0, none⟩ (.slice v8d bs8.length v8c) = w9 at W8 G8 y4 y5 ⊢
    go_upto_region 10 with fail
    clear hsq
    have CT := hide (stxPages sq d.tx _ n rc l w9 hn (HRC.out.below W8.out.1))
    obtain ⟨Q, hQ⟩ : ∃ Q, txOut sq d.tx l = Q := ⟨_, rfl⟩
    have hnp9 : Q.length ≤ 9 := by rw [← hQ]; exact txOut_len16 _ _ _
    obtain ⟨np, hnp⟩ : ∃ np, Q.length = np := ⟨_, rfl⟩
    obtain ⟨tok, htok⟩ : ∃ tok, @decide (TxOk sq d.tx l) (decTx sq d.tx l) = tok := ⟨_, rfl⟩
    rw [hQ, htok] at CT
    have HR2 : Hid (R = if (putsP (bs8, l8, ok8) Q).2.2 && tok then ((putsP (bs8, l8, ok8) Q).2.1, true) else ([], false)) := by
      show _ = _
      rw [HW.out, HQ.out]
      rcases HSQ.out with e | e
      · rw [← e, hQ, htok]
      · rw [puts_stop _ _ (by exact e), puts_stop _ _ (by exact e)]
        show (if (ok8 && _) = true then _ else _) = (if (ok8 && _) = true then _ else _)
        rw [e]
        rfl
    rw [hnp] at hnp9
    have HNP := hide hnp
    clear HW HQ HSQ hQ htok hnp
    go_wp2_with fail
    refine CT.out.mono ?_
    rintro e w5 ⟨pv, rfl, po, b5⟩
    have W5 := hide (W8.out.below b5)
    obtain ⟨pa, pcap, rfl, -, -, hpf⟩ := frow_form po
    rw [HNP.out] at po hpf ⊢
    have hpa : 0 < np → ∃ pb, pa = some ⟨pb, 0, none⟩ := fun hp => by
      obtain ⟨pb, e, -⟩ := hpf hp
      exact ⟨pb, e⟩
    have PG5 : Hid (∀ pb, pa = some ⟨pb, 0, none⟩ → PgR w w5 pb np pcap Q) := fun pb e => by subst e; exact own_down16 po W8.out.1.size
    clear hpf po b5 CT W8 G8 y4 y5
    go_wp2
    go_loopw [8, 11, 14] (fun uv okv iv wr => ∃ (k : Nat) (u6 v6 : Value) (bs6 : List Bk) (l6 : List Stp) (ok6 : Bool), u6 = uv ∧ okv = .bool ok6 ∧ iv = .int .i64 k ∧ k ≤ np ∧ l6.length ≤ k + 1 ∧ Hid (WSt w wr w1.heap.size v6 u6 bs6 l6) ∧ Hid (∀ pb, pa = some ⟨pb, 0, none⟩ → PgR w wr pb np pcap Q) ∧ Hid (putsP (bs8, l8, ok8) Q = putsP (bs6, l6, ok6) (Q.drop k))) (fun _ _ iv _ => np - (intOf iv).toNat)
    case atStart => exact ⟨0, _, _, _, _, _, rfl, rfl, rfl, Nat.zero_le _, hl4, W5, PG5, rfl⟩
    case round =>
      rename World => wr
      obtain ⟨k, u6, v6, bs6, l6, ok6, hu6, rfl, rfl, hk, hl6, W6, PG6, HQ6⟩ := hrel
      subst hu6
      clear W5 PG5
      have hk0 : (0 : Int) ≤ k := by omega
      by_cases hlt : (k : Int) < np
      · cases ok6 with
        | true =>
          obtain ⟨pb, rfl⟩ := hpa (by omega)
          obtain ⟨p, hp⟩ : ∃ p, Q[k]? = some p := ⟨_, List.getElem?_eq_getElem (by have := HNP.out; omega)⟩
          have HD : Hid (Q.drop k = p :: Q.drop (k + 1)) := List.drop_eq_getElem_cons (List.getElem?_eq_some_iff.1 hp).1 |>.trans (by rw [(List.getElem?_eq_some_iff.1 hp).2])
          have HP := hide hp
          obtain ⟨p0, p1, p2, p3, p4, p5⟩ := p
          have b7 : Below wr.heap.size wr wr.drew := (Below.refl _ _).drew
          have W7 := hide (W6.out.below b7)
          have PR7 : Hid (PgR w wr.drew pb np pcap Q) := own_below (PG6.out pb rfl) b7
          have SD : wr.drew.cell? ⟨pb, k * 6, none⟩ = some (.int .i64 p0) ∧ wr.drew.cell? ⟨pb, k * 6 + 1, none⟩ = some (.int .i64 p1) ∧ wr.drew.cell? ⟨pb, k * 6 + 2, none⟩ = some (.int .i64 p2) ∧ wr.drew.cell? ⟨pb, k * 6 + 3, none⟩ = some (.int .i64 p3) ∧ wr.drew.cell? ⟨pb, k * 6 + 4, none⟩ = some (.int .i64 p4) ∧ wr.drew.cell? ⟨pb, k * 6 + 5, none⟩ = some (.string p5) := PR7.out.at hp
          obtain ⟨vd, vc, rfl⟩ := W7.out.2.2.1.rdb.form
          have y9 : wr.drew.cell? ⟨w1.heap.size, 0, none⟩ = some (.slice vd bs6.length vc) := cell_of_row _ _ 0 _ _ _ W7.out.2.1
          have CP := hide (sput16 (.slice vd bs6.length vc) u6 bs6 l6 ⟨p0, p1, p2, p3, p4, p5⟩ w.heap.size w1.heap.size wr.drew W7.out.2.2.2.2.1 (by omega) W7.out.2.2.1 W7.out.2.2.2.1 W7.out.1.size (Array.getElem?_eq_some_iff.1 W7.out.2.1).1)
          have HSM := hide (put_sml W7.out.2.2.2.2.1 l6 ⟨p0, p1, p2, p3, p4, p5⟩)
          have HLE := put_len16 bs6 l6 ⟨p0, p1, p2, p3, p4, p5⟩
          have HQ7 : Hid (putsP (bs8, l8, ok8) Q = putsP (putP bs6 l6 ⟨p0, p1, p2, p3, p4, p5⟩) (Q.drop (k + 1))) := by show _ = _; rw [HQ6.out, HD.out, putsP, if_pos rfl]
          obtain ⟨bs8, l8, ok8, h8⟩ : ∃ bs8 l8 ok8, putP bs6 l6 ⟨p0, p1, p2, p3, p4, p5⟩ = (bs8, l8, ok8) := ⟨_, _, _, rfl⟩
          rw [h8] at CP HSM HQ7 HLE
          simp only at HSM HLE
          unfold pgVal at CP
          simp only at CP
          clear h8 hp b7 PG6 HQ6 HD W6
          go_upto_region 14 with fail
          refine wp_region_ops (fun w' => w'.cell? ⟨pb, k * 6, none⟩ = some (.int .i64 p0) ∧ w'.cell? ⟨pb, k * 6 + 1, none⟩ = some (.int .i64 p1) ∧ w'.cell? ⟨pb, k * 6 + 2, none⟩ = some (.int .i64 p2) ∧ w'.cell? ⟨pb, k * 6 + 3, none⟩ = some (.int .i64 p3) ∧ w'.cell? ⟨pb, k * 6 + 4, none⟩ = some (.int .i64 p4) ∧ w'.cell? ⟨pb, k * 6 + 5, none⟩ = some (.string p5)) (by kernel_rfl) SD (fun hHeld => ?_)
          simp only [List.length_cons, List.length_nil, Nat.reduceAdd]
          refine takeL 1 (v := ?_) rfl (by kernel_rfl) (by kernel_rfl) (by kernel_rfl) (fun _ _ _ h => h) (by rfl) (by assumption) ?_ ?_
          rotate_left 1
          · (intro w hSw; (try dsimp only at hSw); go_simp; all_goals with_reducible rfl)
          simp only [Act.put, List.setIfInBounds_toArray, List.set_cons_zero, List.set_cons_succ]
          refine takeL 2 (v := ?_) rfl (by kernel_rfl) (by kernel_rfl) (by kernel_rfl) (fun _ _ _ h => h) (by rfl) (by assumption) ?_ ?_
          rotate_left 1
          · (intro w hSw; (try dsimp only at hSw); go_simp; all_goals with_reducible rfl)
          simp only [Act.put, List.setIfInBounds_toArray, List.set_cons_zero, List.set_cons_succ]
          refine takeL 3 (v := ?_) rfl (by kernel_rfl) (by kernel_rfl) (by kernel_rfl) (fun _ _ _ h => h) (by rfl) (by assumption) ?_ ?_
          rotate_left 1
          · (intro w hSw; (try dsimp only at hSw); go_simp; all_goals with_reducible rfl)
          simp only [Act.put, List.setIfInBounds_toArray, List.set_cons_zero, List.set_cons_succ]
          refine takeL 4 (v := ?_) rfl (by kernel_rfl) (by kernel_rfl) (by kernel_rfl) (fun _ _ _ h => h) (by rfl) (by assumption) ?_ ?_
          rotate_left 1
          · (intro w hSw; (try dsimp only at hSw); go_simp; all_goals with_reducible rfl)
          simp only [Act.put, List.setIfInBounds_toArray, List.set_cons_zero, List.set_cons_succ]
          refine takeL 5 (v := ?_) rfl (by kernel_rfl) (by kernel_rfl) (by kernel_rfl) (fun _ _ _ h => h) (by rfl) (by assumption) ?_ ?_
          rotate_left 1
          · (intro w hSw; (try dsimp only at hSw); go_simp; all_goals with_reducible rfl)
          simp only [Act.put, List.setIfInBounds_toArray, List.set_cons_zero, List.set_cons_succ]
          refine oneL 0 rfl (by kernel_rfl) (fun K hK => ?_)
          go_simp
          refine hK.out _ _ SD (fun hHeld2 => ?_)
          clear hK K hHeld
          have hHeld := hHeld2
          clear hHeld2
          (try simp only [Act.put, List.setIfInBounds_toArray, List.set_cons_zero, List.set_cons_succ])
          refine oneL 6 rfl (by kernel_rfl) (fun K hK => ?_)
          go_simp
          refine CP.out.mono ?_
          rintro e w8 ⟨v8, u8, rfl, r8, o8, k8⟩
          obtain ⟨v8d, v8c, rfl⟩ := r8.rdb.form
          have W8 := hide (W7.out.put k8 r8 o8 HSM.out)
          have PR8 := hide (PR7.out.kept0 W7.out k8)
          have PR9 : Hid (∀ pb', some (⟨pb, 0, none⟩ : Addr) = some ⟨pb', 0, none⟩ → PgR w (w8.setCell ⟨w1.heap.size, 0, none⟩ (.slice v8d bs8.length v8c)) pb' np pcap Q) := fun pb' e => by
            injection e with e
            injection e with e
            subst e
            exact PR7.out.kept W7.out k8
          have SE : w8.cell? ⟨pb, k * 6, none⟩ = some (.int .i64 p0) ∧ w8.cell? ⟨pb, k * 6 + 1, none⟩ = some (.int .i64 p1) ∧ w8.cell? ⟨pb, k * 6 + 2, none⟩ = some (.int .i64 p2) ∧ w8.cell? ⟨pb, k * 6 + 3, none⟩ = some (.int .i64 p3) ∧ w8.cell? ⟨pb, k * 6 + 4, none⟩ = some (.int .i64 p4) ∧ w8.cell? ⟨pb, k * 6 + 5, none⟩ = some (.string p5) := PR8.out.at HP.out
          have SF : (w8.setCell ⟨w1.heap.size, 0, none⟩ (.slice v8d bs8.length v8c)).cell? ⟨pb, k * 6, none⟩ = some (.int .i64 p0) ∧ (w8.setCell ⟨w1.heap.size, 0, none⟩ (.slice v8d bs8.length v8c)).cell? ⟨pb, k * 6 + 1, none⟩ = some (.int .i64 p1) ∧ (w8.setCell ⟨w1.heap.size, 0, none⟩ (.slice v8d bs8.length v8c)).cell? ⟨pb, k * 6 + 2, none⟩ = some (.int .i64 p2) ∧ (w8.setCell ⟨w1.heap.size, 0, none⟩ (.slice v8d bs8.length v8c)).cell? ⟨pb, k * 6 + 3, none⟩ = some (.int .i64 p3) ∧ (w8.setCell ⟨w1.heap.size, 0, none⟩ (.slice v8d bs8.length v8c)).cell? ⟨pb, k * 6 + 4, none⟩ = some (.int .i64 p4) ∧ (w8.setCell ⟨w1.heap.size, 0, none⟩ (.slice v8d bs8.length v8c)).cell? ⟨pb, k * 6 + 5, none⟩ = some (.string p5) := (PR9.out pb rfl).at HP.out
          have hcf := W7.out.cell k8
          have z0 := hcf.1
          have z1 := hcf.2
          clear hcf r8 o8 k8 CP W7 PR7 PR8
          refine hK.out _ _ SE (fun hHeld2 => ?_)
          clear hK K hHeld
          have hHeld := hHeld2
          clear hHeld2
          refine takeL 7 (v := ?_) rfl (by kernel_rfl) (by kernel_rfl) (by kernel_rfl) (fun _ _ _ h => h) (by rfl) (by assumption) ?_ ?_
          rotate_left 1
          · (intro w hSw; (try dsimp only at hSw); go_simp; all_goals with_reducible rfl)
          simp only [Act.put, List.setIfInBounds_toArray, List.set_cons_zero, List.set_cons_succ]
          refine takeL 8 (v := ?_) rfl (by kernel_rfl) (by kernel_rfl) (by kernel_rfl) (fun _ _ _ h => h) (by rfl) (by assumption) ?_ ?_
          rotate_left 1
          · (intro w hSw; (try dsimp only at hSw); go_simp; all_goals with_reducible rfl)
          simp only [Act.put, List.setIfInBounds_toArray, List.set_cons_zero, List.set_cons_succ]
          refine takeL 9 (v := ?_) rfl (by kernel_rfl) (by kernel_rfl) (by kernel_rfl) (fun _ _ _ h => h) (by rfl) (by assumption) ?_ ?_
          rotate_left 1
          · (intro w hSw; (try dsimp only at hSw); go_simp; all_goals with_reducible rfl)
          simp only [Act.put, List.setIfInBounds_toArray, List.set_cons_zero, List.set_cons_succ]
          refine takeL 10 (v := ?_) rfl (by kernel_rfl) (by kernel_rfl) (by kernel_rfl) (fun _ _ _ h => h) (by rfl) (by assumption) ?_ ?_
          rotate_left 1
          · (intro w hSw; (try dsimp only at hSw); go_simp; all_goals with_reducible rfl)
          simp only [Act.put, List.setIfInBounds_toArray, List.set_cons_zero, List.set_cons_succ]
          refine oneL 11 rfl (by kernel_rfl) (fun K hK => ?_)
          go_simp
          refine hK.out _ _ SF (fun hHeld2 => ?_)
          clear hK K hHeld
          have hHeld := hHeld2
          clear hHeld2
          (try simp only [Act.put, List.setIfInBounds_toArray, List.set_cons_zero, List.set_cons_succ])
          refine takeL 12 (v := ?_) rfl (by kernel_rfl) (by kernel_rfl) (by kernel_rfl) (fun _ _ _ h => h) (by rfl) (by assumption) ?_ ?_
          rotate_left 1
          · (intro w hSw; (try dsimp only at hSw); go_simp; all_goals with_reducible rfl)
          simp only [Act.put, List.setIfInBounds_toArray, List.set_cons_zero, List.set_cons_succ]
          refine takeL 13 (v := ?_) rfl (by kernel_rfl) (by kernel_rfl) (by kernel_rfl) (fun _ _ _ h => h) (by rfl) (by assumption) ?_ ?_
          rotate_left 1
          · (intro w hSw; (try dsimp only at hSw); go_simp; all_goals with_reducible rfl)
          simp only [Act.put, List.setIfInBounds_toArray, List.set_cons_zero, List.set_cons_succ]
          refine doneL (by kernel_rfl) ?_
          clear hHeld SD SE SF z0 z1 y9 HP
          go_wp2
          go_roundw
          case rel => exact ⟨k + 1, u8, _, bs8, l8, ok8, rfl, rfl, by go_num, by omega, by omega, W8, PR9, HQ7⟩
          case measure => simp [intOf]; omega
        | false =>
          have HF : Hid (putsP (bs8, l8, ok8) Q = (bs6, l6, false)) := by show _ = _; rw [HQ6.out]; exact puts_stop _ _ rfl
          have HE : Hid (R = ([], false)) := by show _ = _; rw [HR2.out, HF.out]; rfl
          have FR := st_fresh W6.out.1 wr.heap.size rfl
          have FN : Hid (WsOut w ([], false) (.returned (.tuple #[.slice (some ⟨wr.heap.size, 0, none⟩) 0 0, .bool false])) (wr.alloc (.cells #[] 67))) := ⟨_, rfl, FR.1, FR.2⟩
          clear HR2 HF FR W6 PG6 HQ6
          go_wp2
          refine bodyPost_ret (results_tmp2 rfl _ _ _) rfl ?_
          rw [HE.out]
          exact FN.out
      · have HF : Hid (putsP (bs8, l8, ok8) Q = (bs6, l6, ok6)) := by show _ = _; rw [HQ6.out, List.drop_of_length_le (by have := HNP.out; omega)]; rfl
        cases ok6 with
        | false =>
          have HE : Hid (R = ([], false)) := by show _ = _; rw [HR2.out, HF.out]; rfl
          have FR := st_fresh W6.out.1 wr.heap.size rfl
          have FN : Hid (WsOut w ([], false) (.returned (.tuple #[.slice (some ⟨wr.heap.size, 0, none⟩) 0 0, .bool false])) (wr.alloc (.cells #[] 67))) := ⟨_, rfl, FR.1, FR.2⟩
          clear HR2 HF FR W6 PG6 HQ6
          go_wp2
          refine bodyPost_ret (results_tmp2 rfl _ _ _) rfl ?_
          rw [HE.out]
          exact FN.out
        | true =>
          cases tok with
          | false =>
            have HE : Hid (R = ([], false)) := by show _ = _; rw [HR2.out, HF.out]; rfl
            have FR := st_fresh W6.out.1 wr.heap.size rfl
            have FN : Hid (WsOut w ([], false) (.returned (.tuple #[.slice (some ⟨wr.heap.size, 0, none⟩) 0 0, .bool false])) (wr.alloc (.cells #[] 67))) := ⟨_, rfl, FR.1, FR.2⟩
            clear HR2 HF FR W6 PG6 HQ6
            go_wp2
            refine bodyPost_ret (results_tmp2 rfl _ _ _) rfl ?_
            rw [HE.out]
            exact FN.out
          | true =>
            have HE : Hid (R = (l6, true)) := by show _ = _; rw [HR2.out, HF.out]; rfl
            have FN : Hid (WsOut w (l6, true) (.returned (.tuple #[u6, .bool true])) wr) := ⟨_, rfl, W6.out.2.2.2.1, W6.out.1⟩
            clear HR2 HF W6 PG6 HQ6
            go_wp2
            refine bodyPost_ret (results_tmp2 rfl _ _ _) rfl ?_
            rw [HE.out]
            exact FN.out
end Go.Proofs.YtfmnaidhfgmemaaGreatDoor
