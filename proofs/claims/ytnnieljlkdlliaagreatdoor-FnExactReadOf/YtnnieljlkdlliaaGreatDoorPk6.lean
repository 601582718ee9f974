/-
  IClone; ICopy; IAt; ISmall; INext; BkP; IBlk; IOk; IUse; After; IProg; AfterW; IWipe; StRd; CeVl; VlRow; MtConv; HexMath; DecMath; MarkTx; Flt; SliL; KnN
-/
import Derived.Test.YtnnieljlkdlliaaGreatDoorPk4
import Derived.Test.YtnnieljlkdlliaaGreatDoorShelf
import Derived.Test.YtnnieljlkdlliaaGreatDoorPk1
import Derived.Deep.AppendLies
import Derived.Test.YtnnieljlkdlliaaGreatDoorPk0
import Derived.Test.YtnnieljlkdlliaaGreatDoorPk3
import Derived.Lib.ItoaNum
import Derived.Lib.ItoaMem
import Derived.Lib.ItoaLen
namespace Go.Proofs.YtnnieljlkdlliaaGreatDoor
open Go.RowKit
theorem fclone_any (s : ByteArray) (w : World) (hs : s.size ≤ 1048576) :
    Calls Tryz.prog 147 #[.string s] w fun e w' => e = .returned (.string s) ∧ Below w.heap.size w w' := by
  go_enter Tryz.func147, Tryz.ntmps147
  go_wp2_with fail
  refine (Tryz.stringslite_Clone s _ (by omega)).mono ?_
  rintro e w' ⟨rfl, hb⟩
  go_wp2
  go_ret
  exact ⟨rfl, hb⟩
end Go.Proofs.YtnnieljlkdlliaaGreatDoor

namespace Go.Proofs.YtnnieljlkdlliaaGreatDoor
open Go.RowKit
end Go.Proofs.YtnnieljlkdlliaaGreatDoor

namespace Go.Proofs.YtnnieljlkdlliaaGreatDoor
open Go.RowKit
set_option maxHeartbeats 400000 in
set_option maxRecDepth 100000 in
theorem iat_in (g n cap k : Nat) (w : World) (_hn : n ≤ 1048576) (hk : k < n) :
    Calls Tryz.prog 145 #[.agg #[.slice (some ⟨g, 0, none⟩) n cap], .int .i64 k] w fun e w' => e = .returned (.pointer (some ⟨g, k * 3, none⟩)) ∧ Below w.heap.size w w' := by
  have HB := hide ((Below.refl w.heap.size w).alloc (Nat.le_refl _) (.cells #[.slice (some ⟨g, 0, none⟩) n cap] 46))
  have h1 : (0 : Int) ≤ k := by omega
  have h2 : (k : Int) < n := by omega
  go_enter Tryz.func145, Tryz.ntmps145
  go_wp2
  go_ret
  exact ⟨rfl, HB.out⟩
set_option maxHeartbeats 400000 in
set_option maxRecDepth 100000 in
theorem iat_out (ad : Option Addr) (n cap : Nat) (b : Int) (w : World) (_hn : n ≤ 1048576) (hb : ¬ (0 ≤ b ∧ b ≤ (n : Int) - 1)) :
    Calls Tryz.prog 145 #[.agg #[.slice ad n cap], .int .i64 b] w fun e w' => e = .returned (.pointer none) ∧ Below w.heap.size w w' := by
  have HB := hide ((Below.refl w.heap.size w).alloc (Nat.le_refl _) (.cells #[.slice ad n cap] 46))
  by_cases h0 : b < 0
  · go_enter Tryz.func145, Tryz.ntmps145
    go_wp2
    go_ret
    exact ⟨rfl, HB.out⟩
  · have h1 : (n : Int) ≤ b := by omega
    clear hb
    go_enter Tryz.func145, Tryz.ntmps145
    go_wp2
    go_ret
    exact ⟨rfl, HB.out⟩
set_option maxHeartbeats 400000 in
set_option maxRecDepth 100000 in
theorem ilat_off (g o gl lo n cap k : Nat) (w : World) (_hn : n ≤ 1048576) (hk : k < n) (hc : w.cell? ⟨g, o + 2, none⟩ = some (.slice (some ⟨gl, lo, none⟩) n cap)) :
    Calls Tryz.prog 146 #[.pointer (some ⟨g, o, none⟩), .int .i64 k] w fun e w' => e = .returned (.pointer (some ⟨gl, lo + k * 2, none⟩)) ∧ w' = w := by
  have h1 : (0 : Int) ≤ k := by omega
  have h2 : (k : Int) < n := by omega
  go_enter Tryz.func146, Tryz.ntmps146
  go_wp2
  go_ret
  exact ⟨rfl, rfl⟩
set_option maxHeartbeats 400000 in
set_option maxRecDepth 100000 in
theorem ilat_out (g o n cap : Nat) (ad : Option Addr) (b : Int) (w : World) (_hn : n ≤ 1048576) (hb : ¬ (0 ≤ b ∧ b ≤ (n : Int) - 1)) (hc : w.cell? ⟨g, o + 2, none⟩ = some (.slice ad n cap)) :
    Calls Tryz.prog 146 #[.pointer (some ⟨g, o, none⟩), .int .i64 b] w fun e w' => e = .returned (.pointer none) ∧ w' = w := by
  by_cases h0 : b < 0
  · go_enter Tryz.func146, Tryz.ntmps146
    go_wp2
    go_ret
    exact ⟨rfl, rfl⟩
  · have h1 : (n : Int) ≤ b := by omega
    clear hb
    go_enter Tryz.func146, Tryz.ntmps146
    go_wp2
    go_ret
    exact ⟨rfl, rfl⟩
end Go.Proofs.YtnnieljlkdlliaaGreatDoor

namespace Go.Proofs.YtnnieljlkdlliaaGreatDoor
open Go.RowKit
end Go.Proofs.YtnnieljlkdlliaaGreatDoor

namespace Go.Proofs.YtnnieljlkdlliaaGreatDoor
open Go.RowKit
end Go.Proofs.YtnnieljlkdlliaaGreatDoor

namespace Go.Proofs.YtnnieljlkdlliaaGreatDoor
end Go.Proofs.YtnnieljlkdlliaaGreatDoor

namespace Go.Proofs.YtnnieljlkdlliaaGreatDoor
open Go.RowKit
end Go.Proofs.YtnnieljlkdlliaaGreatDoor

namespace Go.Proofs.YtnnieljlkdlliaaGreatDoor
open Go.RowKit
end Go.Proofs.YtnnieljlkdlliaaGreatDoor

namespace Go.Proofs.YtnnieljlkdlliaaGreatDoor
open Go.RowKit
end Go.Proofs.YtnnieljlkdlliaaGreatDoor

namespace Go.Proofs.YtnnieljlkdlliaaGreatDoor
open Go.RowKit
end Go.Proofs.YtnnieljlkdlliaaGreatDoor

namespace Go.Proofs.YtnnieljlkdlliaaGreatDoor
open Go.RowKit
end Go.Proofs.YtnnieljlkdlliaaGreatDoor

namespace Go.Proofs.YtnnieljlkdlliaaGreatDoor
open Go.RowKit
end Go.Proofs.YtnnieljlkdlliaaGreatDoor

namespace Go.Proofs.YtnnieljlkdlliaaGreatDoor
open Go.RowKit
end Go.Proofs.YtnnieljlkdlliaaGreatDoor

namespace Go.Proofs.YtnnieljlkdlliaaGreatDoor
open Go.RowKit
def RdB (w : World) (v : Value) (bs : List Bk) : Prop := ∃ rs : List Rw, rs.map tellOf = bs ∧ FlashRd w v rs
def Sml (bs : List Bk) : Prop := bs.length ≤ 1048576 ∧ ∀ r ∈ bs, r.2.2.length ≤ 1048576 ∧ ∀ t ∈ r.2.2, t.2.size ≤ 1048576
theorem RdB.below {w w' : World} {v : Value} {bs : List Bk} (h : RdB w v bs) (hb : Below w.heap.size w w') : RdB w' v bs := by
  obtain ⟨rs, e, h⟩ := h
  exact ⟨rs, e, h.below hb⟩
theorem RdB.form {w : World} {v : Value} {bs : List Bk} (h : RdB w v bs) : ∃ ad cap, v = .slice ad bs.length cap := by
  obtain ⟨rs, rfl, vd, vc, e, -⟩ := h
  exact ⟨vd, vc, by rw [e, List.length_map]⟩
theorem Fla.rdb {w : World} {lo hi : Nat} {v : Value} {bs : List Bk} (h : Fla lo hi v bs w) : RdB w v bs := by
  obtain ⟨ss, e, h⟩ := h
  exact ⟨ss, e, h.rd⟩
theorem RdB.lens {w : World} {v : Value} {bs : List Bk} (h : RdB w v bs) (hs : Sml bs) : ∃ rs : List Rw, rs.map tellOf = bs ∧ FlashRd w v rs ∧ rs.length ≤ 1048576 ∧ (∀ r ∈ rs, r.2.2.2.length ≤ 1048576) ∧ TxB rs := by
  obtain ⟨rs, rfl, h⟩ := h
  refine ⟨rs, rfl, h, by have := hs.1; rwa [List.length_map] at this, fun r hr => (hs.2 _ (List.mem_map_of_mem (f := tellOf) hr)).1, fun r hr t ht => (hs.2 _ (List.mem_map_of_mem (f := tellOf) hr)).2 t ht⟩
end Go.Proofs.YtnnieljlkdlliaaGreatDoor

namespace Go.Proofs.YtnnieljlkdlliaaGreatDoor
open Go.RowKit
def vlcell (t : Int × Int) : List Value := [.int .i64 t.1, .int .i64 t.2]
def vlcells (l : List (Int × Int)) : List Value := l.flatMap vlcell
theorem vlcells_len (l : List (Int × Int)) : (vlcells l).length = l.length * 2 := by
  induction l with
  | nil => rfl
  | cons t l ih => simp [vlcells, vlcell] at ih ⊢; omega
theorem vlcells_app (a b : List (Int × Int)) : vlcells (a ++ b) = vlcells a ++ vlcells b := by simp [vlcells]
theorem vlcells_cons (t : Int × Int) (l : List (Int × Int)) : vlcells (t :: l) = vlcell t ++ vlcells l := by simp [vlcells]
theorem vlcells_at (l : List (Int × Int)) (k : Nat) (t : Int × Int) (h : l[k]? = some t) (j : Nat) (v : Value) (hj : (vlcell t)[j]? = some v) : (vlcells l)[k * 2 + j]? = some v := by
  have hlt : j < 2 := (List.getElem?_eq_some_iff.1 hj).1
  induction l generalizing k with
  | nil => simp at h
  | cons a l ih =>
    rw [vlcells_cons]
    cases k with
    | zero =>
      simp at h
      subst h
      rw [List.getElem?_append_left (by show _ < 2; omega), Nat.zero_mul, Nat.zero_add]
      exact hj
    | succ k =>
      rw [List.getElem?_append_right (by show 2 ≤ _; omega), show (k + 1) * 2 + j - (vlcell a).length = k * 2 + j by show _ - 2 = _; omega]
      exact ih k (by simpa using h)
theorem infoVl : (Tryz.prog.info? 99).map (fun i => (i.zero, i.size, i.bytes)) = some (some (.agg #[.int .i64 0, .int .i64 0]), 2, 16) := by kernel_rfl
theorem infoVlz : (Tryz.prog.info? 99).map (·.size) = some 2 := by kernel_rfl
end Go.Proofs.YtnnieljlkdlliaaGreatDoor

namespace Go.Proofs.YtnnieljlkdlliaaGreatDoor
open Go.RowKit
set_option maxRecDepth 100000
def VlRow (w : World) (a : Option Addr) (len : Nat) (ls : List (Int × Int)) : Prop :=
  ls.length = len ∧ len ≤ maxLen ∧ (∀ t ∈ ls, True) ∧ (0 < len → ∃ b off, a = some ⟨b, off, none⟩ ∧ b < w.heap.size ∧ ∀ i t, ls[i]? = some t → w.cell? ⟨b, off + i * 2, none⟩ = some (.int .i64 t.1) ∧ w.cell? ⟨b, off + i * 2 + 1, none⟩ = some (.int .i64 t.2))
theorem VlRow.below {w w' : World} {a : Option Addr} {len : Nat} {ls : List (Int × Int)} (h : VlRow w a len ls) (hb : Below w.heap.size w w') : VlRow w' a len ls := by
  obtain ⟨h1, h2, h3, h4⟩ := h
  refine ⟨h1, h2, h3, fun h0 => ?_⟩
  obtain ⟨b, off, e, hl, hc⟩ := h4 h0
  have hs := hb.size
  refine ⟨b, off, e, by omega, fun i t ht => ?_⟩
  obtain ⟨c0, c1⟩ := hc i t ht
  exact ⟨(hb.cell (show b < w.heap.size from hl)).trans c0, (hb.cell (show b < w.heap.size from hl)).trans c1⟩
theorem VlRow.at {w : World} {a : Option Addr} {len : Nat} {ls : List (Int × Int)} (h : VlRow w a len ls) {k : Nat} {t : Int × Int} (hk : ls[k]? = some t) :
    ∃ b off, a = some ⟨b, off, none⟩ ∧ b < w.heap.size ∧ w.cell? ⟨b, off + k * 2, none⟩ = some (.int .i64 t.1) ∧ w.cell? ⟨b, off + k * 2 + 1, none⟩ = some (.int .i64 t.2) := by
  obtain ⟨h1, -, -, h4⟩ := h
  have hl := (List.getElem?_eq_some_iff.1 hk).1
  obtain ⟨b, off, e, hb, hc⟩ := h4 (by omega)
  obtain ⟨c0, c1⟩ := hc k t hk
  exact ⟨b, off, e, hb, c0, c1⟩
end Go.Proofs.YtnnieljlkdlliaaGreatDoor

namespace Go.Proofs.YtnnieljlkdlliaaGreatDoor
open Go.RowKit
theorem mt_conv (w : World) (c : UInt8) (x : Int) (h : (c.toNat : Int) = x) :
    (convert 107 9 (.slice (some ⟨w.heap.size, 0, none⟩) 1 1)).run Tryz.prog (w.alloc (.cells #[.int .u8 x] 5)) = .ok (.string ⟨#[c]⟩) (w.alloc (.cells #[.int .u8 x] 5)) := by
  subst h
  exact run_convert_bytes_back (P := Tryz.prog) (w.alloc (.cells #[.int .u8 c.toNat] 5)) 107 9 5 ⟨w.heap.size, 0, none⟩ 1 [c] Tryz.underlying107 Tryz.underlying5 Tryz.underlying9
    (fun j hj => by
      have : j = 0 := by simpa using hj
      subst this
      exact one_cell w _ 5 0 _ rfl)
end Go.Proofs.YtnnieljlkdlliaaGreatDoor

namespace Go.Proofs.YtnnieljlkdlliaaGreatDoor.Words
end Go.Proofs.YtnnieljlkdlliaaGreatDoor.Words

namespace Go.Proofs.YtnnieljlkdlliaaGreatDoor.Words
open Go.Lib (decDigits itoa)
end Go.Proofs.YtnnieljlkdlliaaGreatDoor.Words

namespace Go.Proofs.YtnnieljlkdlliaaGreatDoor
open Go.RowKit
open Words
open Go.Lib (decDigits)
end Go.Proofs.YtnnieljlkdlliaaGreatDoor

namespace Go.Proofs.YtnnieljlkdlliaaGreatDoor
open Go.RowKit
def Flt (t : TypeId) (g : Nat) (xs : List Value) : World → Prop := fun W => ∃ cs : Array Value, W.heap[g]? = some (.cells cs t (0, 0)) ∧ ∀ (i : Nat) (v : Value), xs[i]? = some v → cs[i]? = some v
theorem Flt.loc (t : TypeId) (g : Nat) (xs : List Value) : Loc g (g + 1) (Flt t g xs) := by
  rintro w w' hk ⟨cs, h1, h2⟩
  exact ⟨cs, (hk g (Nat.le_refl _) (by omega)).trans h1, h2⟩
theorem Flt.cell {t : TypeId} {g : Nat} {xs : List Value} {w : World} (h : Flt t g xs w) {k : Nat} {v : Value} (hk : xs[k]? = some v) : w.cell? ⟨g, k, none⟩ = some v := by
  obtain ⟨cs, h1, h2⟩ := h
  rw [cell_of_row _ _ k _ _ _ h1]
  exact h2 k v hk
theorem Flt.below {t : TypeId} {g : Nat} {xs : List Value} {w w' : World} (h : Flt t g xs w) (hb : Below w.heap.size w w') : Flt t g xs w' := by
  have hlt : g < w.heap.size := by obtain ⟨cs, h1, -⟩ := h; exact (Array.getElem?_eq_some_iff.1 h1).1
  exact Flt.loc t g xs w w' (fun q q1 q2 => hb.block q (by omega)) h
def Sli (t : TypeId) (lo hi : Nat) (v : Value) (n : Nat) (xs : List Value) : World → Prop := fun W => (v = .slice none 0 0 ∧ n = 0) ∨ ∃ g cap, v = .slice (some ⟨g, 0, none⟩) n cap ∧ lo ≤ g ∧ g < hi ∧ Flt t g xs W
theorem Sli.loc (t : TypeId) (lo hi : Nat) (v : Value) (n : Nat) (xs : List Value) : Loc lo hi (Sli t lo hi v n xs) := by
  rintro w w' hk (h | ⟨g, cap, h1, h2, h3, h4⟩)
  · exact Or.inl h
  · exact Or.inr ⟨g, cap, h1, h2, h3, Flt.loc t g xs w w' (fun q q1 q2 => hk q (by omega) (by omega)) h4⟩
theorem Sli.form {t : TypeId} {lo hi n : Nat} {v : Value} {xs : List Value} {w : World} (h : Sli t lo hi v n xs w) : ∃ ad cap, v = .slice ad n cap ∧ (0 < n → ∃ g, ad = some ⟨g, 0, none⟩ ∧ lo ≤ g ∧ g < hi) := by
  rcases h with ⟨h1, h2⟩ | ⟨g, cap, h1, h2, h3, -⟩
  · exact ⟨none, 0, by rw [h1, h2], fun h => by omega⟩
  · exact ⟨_, cap, h1, fun _ => ⟨g, rfl, h2, h3⟩⟩
theorem Sli.flt {t : TypeId} {lo hi n g cap : Nat} {xs : List Value} {w : World} (h : Sli t lo hi (.slice (some ⟨g, 0, none⟩) n cap) n xs w) : Flt t g xs w := by
  rcases h with ⟨h1, -⟩ | ⟨g', cap', h1, -, -, h4⟩
  · cases h1
  · injection h1 with a
    injection a with a
    injection a with a
    subst a
    exact h4
theorem Sli.of {t : TypeId} {size lo n : Nat} {v : Value} {xs : List Value} {w : World} (h : w.ownsRow lo t size v n xs) : Sli t lo w.heap.size v n xs w := by
  have hlt := h.lt
  rcases h.2 with ⟨h1, h2⟩ | ⟨g, cap, cur, rfl, h2, h3, h4, h5, h6, h7⟩
  · exact Or.inl ⟨h1, h2⟩
  · refine Or.inr ⟨g, cap, rfl, h2, (hlt g rfl).2, cur, h3, fun i x hx => ?_⟩
    rw [← h7] at hx
    obtain ⟨h8, h9⟩ := List.getElem?_eq_some_iff.1 hx
    rw [List.getElem_take] at h9
    rw [List.length_take] at h8
    rw [← Array.getElem?_toList, List.getElem?_eq_some_iff]
    exact ⟨by omega, h9⟩
end Go.Proofs.YtnnieljlkdlliaaGreatDoor

namespace Go.Proofs.YtnnieljlkdlliaaGreatDoor
open Go.RowKit
theorem Sli.up {t : TypeId} {lo hi hi' n : Nat} {v : Value} {xs : List Value} {w : World} (h : Sli t lo hi v n xs w) (hh : hi ≤ hi') : Sli t lo hi' v n xs w := by
  rcases h with h | ⟨g, cap, e, h1, h2, h3⟩
  · exact .inl h
  · exact .inr ⟨g, cap, e, h1, by omega, h3⟩
theorem Sli.dn {t : TypeId} {lo lo' hi n : Nat} {v : Value} {xs : List Value} {w : World} (h : Sli t lo hi v n xs w) (hh : lo' ≤ lo) : Sli t lo' hi v n xs w := by
  rcases h with h | ⟨g, cap, e, h1, h2, h3⟩
  · exact .inl h
  · exact .inr ⟨g, cap, e, by omega, h2, h3⟩
theorem Sli.blw {t : TypeId} {lo hi n : Nat} {v : Value} {xs : List Value} {w w' : World} (h : Sli t lo hi v n xs w) (hb : Below w.heap.size w w') : Sli t lo hi v n xs w' := by
  rcases h with h | ⟨g, cap, e, h1, h2, h3⟩
  · exact .inl h
  · exact .inr ⟨g, cap, e, h1, h2, h3.below hb⟩
theorem Sli.lt {t : TypeId} {lo hi n : Nat} {v : Value} {xs : List Value} {w : World} (h : Sli t lo hi v n xs w) : ∀ g, v.ownBlock = some g → lo ≤ g ∧ g < hi ∧ ∃ cs, w.heap[g]? = some (.cells cs t (0, 0)) := by
  intro g hg
  rcases h with ⟨rfl, -⟩ | ⟨g', cap, rfl, h1, h2, cs, h3, -⟩
  · cases hg
  · simp only [Value.ownBlock, Option.some.injEq] at hg
    subst hg
    exact ⟨h1, h2, cs, h3⟩
theorem Sli.grown {t : TypeId} {lo hi n : Nat} {v : Value} {xs : List Value} {w y : World} {row : Option Nat} (h : Sli t lo hi v n xs w) (hg : w.grownBy y row) (hr : ∀ g, v.ownBlock = some g → row ≠ some g) : Sli t lo hi v n xs y := by
  rcases h with h | ⟨g, cap, rfl, h1, h2, cs, h3, h4⟩
  · exact .inl h
  · exact .inr ⟨g, cap, rfl, h1, h2, cs, (hg.block g (Array.getElem?_eq_some_iff.1 h3).1 (fun e => hr g rfl e.symm)).trans h3, h4⟩
theorem own_kind {w : World} {B : Nat} {e : TypeId} {size n : Nat} {v : Value} {xs : List Value} (h : w.ownsRow B e size v n xs) : ∀ g, v.ownBlock = some g → B ≤ g ∧ g < w.heap.size ∧ ∃ cs, w.heap[g]? = some (.cells cs e (0, 0)) := by
  intro g hg
  obtain ⟨h1, h2⟩ := h.lt g hg
  rcases h.2 with ⟨rfl, -⟩ | ⟨g', cap, cur, rfl, -, q, -⟩
  · cases hg
  · simp only [Value.ownBlock, Option.some.injEq] at hg
    subst hg
    exact ⟨h1, h2, _, q⟩
end Go.Proofs.YtnnieljlkdlliaaGreatDoor

namespace Go.Proofs.YtnnieljlkdlliaaGreatDoor
open Go.RowKit
open Words
theorem infoKn : (Tryz.prog.info? 175).map (fun i => (i.zero, i.size, i.bytes)) = some (some (.agg #[.bool false, .slice none 0 0]), 2, 32) := by kernel_rfl
theorem infoKnz : (Tryz.prog.info? 175).map (·.size) = some 2 := by kernel_rfl
abbrev Kw := Bool × Value × List Int
def kncell (t : Kw) : List Value := [.bool t.1, t.2.1]
def kncells (l : List Kw) : List Value := l.flatMap kncell
def ktell (t : Kw) : Kn := ⟨t.1, t.2.2⟩
theorem kncells_len (l : List Kw) : (kncells l).length = l.length * 2 := by
  induction l with
  | nil => rfl
  | cons t l ih => simp [kncells, kncell] at ih ⊢; omega
theorem kncells_app (a b : List Kw) : kncells (a ++ b) = kncells a ++ kncells b := by simp [kncells]
theorem kncells_cons (t : Kw) (l : List Kw) : kncells (t :: l) = kncell t ++ kncells l := by simp [kncells]
theorem kncells_at (l : List Kw) (k : Nat) (t : Kw) (h : l[k]? = some t) (j : Nat) (v : Value) (hj : (kncell t)[j]? = some v) : (kncells l)[k * 2 + j]? = some v := by
  have hlt : j < 2 := (List.getElem?_eq_some_iff.1 hj).1
  induction l generalizing k with
  | nil => simp at h
  | cons a l ih =>
    rw [kncells_cons]
    cases k with
    | zero =>
      simp at h
      subst h
      rw [List.getElem?_append_left (by show _ < 2; omega), Nat.zero_mul, Nat.zero_add]
      exact hj
    | succ k =>
      rw [List.getElem?_append_right (by show 2 ≤ _; omega), show (k + 1) * 2 + j - (kncell a).length = k * 2 + j by show _ - 2 = _; omega]
      exact ih k (by simpa using h)
def IRow (w : World) (a : Option Addr) (len : Nat) (ls : List Int) : Prop :=
  ls.length = len ∧ len ≤ maxLen ∧ (0 < len → ∃ b off, a = some ⟨b, off, none⟩ ∧ b < w.heap.size ∧ ∀ i t, ls[i]? = some t → w.cell? ⟨b, off + i, none⟩ = some (.int .i64 t))
theorem IRow.below {w w' : World} {a : Option Addr} {len : Nat} {ls : List Int} (h : IRow w a len ls) (hb : Below w.heap.size w w') : IRow w' a len ls := by
  obtain ⟨h1, h2, h4⟩ := h
  refine ⟨h1, h2, fun h0 => ?_⟩
  obtain ⟨b, off, e, hl, hc⟩ := h4 h0
  have hs := hb.size
  exact ⟨b, off, e, by omega, fun i t ht => (hb.cell (show b < w.heap.size from hl)).trans (hc i t ht)⟩
theorem IRow.at {w : World} {a : Option Addr} {len : Nat} {ls : List Int} (h : IRow w a len ls) {k : Nat} {t : Int} (hk : ls[k]? = some t) :
    ∃ b off, a = some ⟨b, off, none⟩ ∧ b < w.heap.size ∧ w.cell? ⟨b, off + k, none⟩ = some (.int .i64 t) := by
  obtain ⟨h1, -, h4⟩ := h
  have hl := (List.getElem?_eq_some_iff.1 hk).1
  obtain ⟨b, off, e, hb, hc⟩ := h4 (by omega)
  exact ⟨b, off, e, hb, hc k t hk⟩
theorem icells_get {l : List Int} {k : Nat} {x : Int} (h : l[k]? = some x) : (icells l)[k]? = some (.int .i64 x) := by
  obtain ⟨h1, h2⟩ := List.getElem?_eq_some_iff.1 h
  rw [icells_at l k h1, h2]
def ISl (W : World) (v : Value) (ls : List Int) : Prop := ∃ a c, v = .slice a ls.length c ∧ (a = none → c = 0) ∧ IRow W a ls.length ls
theorem ISl.below {W W' : World} {v : Value} {ls : List Int} (h : ISl W v ls) (b : Below W.heap.size W W') : ISl W' v ls := by
  obtain ⟨a, c, e, h1, h2⟩ := h
  exact ⟨a, c, e, h1, h2.below b⟩
theorem ISl.of {lo hi : Nat} {v : Value} {ls : List Int} {W : World} (h : Sli 3 lo hi v ls.length (icells ls) W) (hm : ls.length ≤ maxLen) (hh : hi ≤ W.heap.size) : ISl W v ls := by
  rcases h with ⟨rfl, h0⟩ | ⟨g, cap, rfl, h1, h2, h3⟩
  · exact ⟨none, 0, by rw [h0], fun _ => rfl, rfl, hm, fun h => by omega⟩
  · refine ⟨_, _, rfl, (fun e => by cases e), rfl, hm, fun _ => ⟨g, 0, rfl, by omega, fun i t hi => ?_⟩⟩
    simpa using h3.cell (icells_get hi)
def KnRd (W : World) (ad : Option Addr) (len : Nat) (rs : List Kw) : Prop :=
  rs.length = len ∧ len ≤ maxLen ∧ (∀ r ∈ rs, ISl W r.2.1 r.2.2) ∧ (0 < len → ∃ b off, ad = some ⟨b, off, none⟩ ∧ b < W.heap.size ∧ ∀ i r, rs[i]? = some r → W.cell? ⟨b, off + i * 2, none⟩ = some (.bool r.1) ∧ W.cell? ⟨b, off + i * 2 + 1, none⟩ = some r.2.1)
theorem KnRd.below {W W' : World} {ad : Option Addr} {len : Nat} {rs : List Kw} (h : KnRd W ad len rs) (hb : Below W.heap.size W W') : KnRd W' ad len rs := by
  obtain ⟨h1, h2, h3, h4⟩ := h
  refine ⟨h1, h2, fun r hr => (h3 r hr).below hb, fun h0 => ?_⟩
  obtain ⟨b, off, e, hl, hc⟩ := h4 h0
  have hs := hb.size
  refine ⟨b, off, e, by omega, fun i t ht => ?_⟩
  obtain ⟨c0, c1⟩ := hc i t ht
  exact ⟨(hb.cell (show b < W.heap.size from hl)).trans c0, (hb.cell (show b < W.heap.size from hl)).trans c1⟩
theorem KnRd.at {W : World} {ad : Option Addr} {len : Nat} {rs : List Kw} (h : KnRd W ad len rs) {k : Nat} {r : Kw} (hk : rs[k]? = some r) :
    ∃ b off, ad = some ⟨b, off, none⟩ ∧ b < W.heap.size ∧ W.cell? ⟨b, off + k * 2, none⟩ = some (.bool r.1) ∧ W.cell? ⟨b, off + k * 2 + 1, none⟩ = some r.2.1 := by
  obtain ⟨h1, -, -, h4⟩ := h
  have hl := (List.getElem?_eq_some_iff.1 hk).1
  obtain ⟨b, off, e, hb, hc⟩ := h4 (by omega)
  obtain ⟨c0, c1⟩ := hc k r hk
  exact ⟨b, off, e, hb, c0, c1⟩
theorem KnRd.cell {W : World} {b off len : Nat} {rs : List Kw} (h : KnRd W (some ⟨b, off, none⟩) len rs) {k : Nat} {r : Kw} (hk : rs[k]? = some r) :
    W.cell? ⟨b, off + k * 2, none⟩ = some (.bool r.1) ∧ W.cell? ⟨b, off + k * 2 + 1, none⟩ = some r.2.1 := by
  obtain ⟨b', off', e, -, c0, c1⟩ := h.at hk
  injection e with e
  injection e with e1 e2
  subst e1 e2
  exact ⟨c0, c1⟩
theorem KnRd.adr {W : World} {ad : Option Addr} {len : Nat} {rs : List Kw} (h : KnRd W ad len rs) (h0 : 0 < len) : ∃ b off, ad = some ⟨b, off, none⟩ ∧ b < W.heap.size := by
  obtain ⟨b, off, e, hb, -⟩ := h.2.2.2 h0
  exact ⟨b, off, e, hb⟩
def KLone (rs : List Kw) : Prop := rs.Pairwise (fun a b => ∀ g, a.2.1.ownBlock = some g → b.2.1.ownBlock ≠ some g)
def KOwn (W : World) (B : Nat) (v : Value) (rs : List Kw) : Prop :=
  W.ownsRow B 175 2 v rs.length (kncells rs) ∧ (∀ r ∈ rs, Sli 3 B W.heap.size r.2.1 r.2.2.length (icells r.2.2) W ∧ r.2.2.length ≤ maxLen) ∧ KLone rs
def KIn (lo hi : Nat) (v : Value) (rs : List Kw) (W : World) : Prop :=
  Sli 175 lo hi v rs.length (kncells rs) W ∧ (∀ r ∈ rs, Sli 3 lo hi r.2.1 r.2.2.length (icells r.2.2) W ∧ r.2.2.length ≤ maxLen) ∧ KLone rs ∧ rs.length ≤ maxLen
def Kns (lo hi : Nat) (v : Value) (M : List Kn) : World → Prop := fun W => ∃ rs : List Kw, rs.map ktell = M ∧ KIn lo hi v rs W
theorem int_ne_kn {w : World} {g : Nat} {cs cs' : Array Value} (h : w.heap[g]? = some (.cells cs 3 (0, 0))) (h' : w.heap[g]? = some (.cells cs' 175 (0, 0))) : False := by
  rw [h] at h'
  injection h' with h'
  injection h' with _ h'
  simp at h'
theorem KOwn.down {W : World} {B B' : Nat} {v : Value} {rs : List Kw} (h : KOwn W B v rs) (hB : B' ≤ B) : KOwn W B' v rs :=
  ⟨own_lower h.1 hB, fun r hr => ⟨(h.2.1 r hr).1.dn hB, (h.2.1 r hr).2⟩, h.2.2⟩
theorem KOwn.len {W : World} {B : Nat} {v : Value} {rs : List Kw} (h : KOwn W B v rs) : rs.length ≤ maxLen := by
  rcases h.1.2 with ⟨rfl, h0⟩ | ⟨g, cap, cur, rfl, -, -, h1, h2, -⟩
  · rw [h0]; unfold maxLen; omega
  · omega
theorem KOwn.kns {W : World} {B : Nat} {v : Value} {rs : List Kw} (h : KOwn W B v rs) : KIn B W.heap.size v rs W := ⟨Sli.of h.1, h.2.1, h.2.2, h.len⟩
theorem KIn.rd {W : World} {lo hi c : Nat} {ad : Option Addr} {n : Nat} {rs : List Kw} (h : KIn lo hi (.slice ad n c) rs W) (hn : rs.length = n) (hh : hi ≤ W.heap.size) : KnRd W ad n rs := by
  obtain ⟨h1, h2, h3, h4⟩ := h
  refine ⟨hn, by omega, fun r hr => ISl.of (h2 r hr).1 (h2 r hr).2 hh, fun h0 => ?_⟩
  rcases h1 with ⟨e, q⟩ | ⟨g, cap, e, q1, q2, q3⟩
  · omega
  · injection e with e1 e2 e3
    refine ⟨g, 0, e1, by omega, fun i r hi => ?_⟩
    have hc := fun j v hj => q3.cell (kncells_at rs i r hi j v hj)
    refine ⟨?_, ?_⟩
    · simpa using hc 0 _ rfl
    · simpa using hc 1 _ rfl
theorem KIn.loc (lo hi : Nat) (v : Value) (rs : List Kw) : Loc lo hi (KIn lo hi v rs) := by
  intro w w' hk h
  exact ⟨Sli.loc _ _ _ _ _ _ w w' hk h.1, fun r hr => ⟨Sli.loc _ _ _ _ _ _ w w' hk (h.2.1 r hr).1, (h.2.1 r hr).2⟩, h.2.2⟩
theorem Kns.loc (lo hi : Nat) (v : Value) (M : List Kn) : Loc lo hi (Kns lo hi v M) := by
  rintro w w' hk ⟨rs, h1, h2⟩
  exact ⟨rs, h1, KIn.loc _ _ _ _ w w' hk h2⟩
theorem Kns.form {W : World} {lo hi : Nat} {v : Value} {M : List Kn} (h : Kns lo hi v M W) : ∃ ad c, v = .slice ad M.length c := by
  obtain ⟨rs, rfl, h1, -⟩ := h
  obtain ⟨ad, c, e, -⟩ := h1.form
  exact ⟨ad, c, by rw [e]; simp⟩
theorem ar_ne {lo hi n : Nat} {v : Value} {xs : List Value} {t : TypeId} {W : World} {i : Nat} {cs : Array Value} (h : Sli t lo hi v n xs W) (q : W.heap[i]? = some (.cells cs 50 (0, 0))) (ht : t ≠ 50) : v.ownBlock ≠ some i := by
  intro e
  obtain ⟨-, -, cs', q'⟩ := h.lt i e
  rw [q] at q'
  injection q' with q'
  injection q' with _ q'
  exact ht q'.symm
theorem KOwn.cell {W : World} {B i : Nat} {v : Value} {rs : List Kw} {cs : Array Value} (h : KOwn W B v rs) (q : W.heap[i]? = some (.cells cs 50 (0, 0))) (j : Nat) (u : Value) : KOwn (W.setCell ⟨i, j, none⟩ u) B v rs := by
  have hg := grown_cell W i j u
  refine ⟨h.1.kept hg (.inr ?_), fun r hr => ⟨((h.2.1 r hr).1.grown hg (fun g e e2 => ?_)).up hg.size, (h.2.1 r hr).2⟩, h.2.2⟩
  · exact ar_ne (Sli.of h.1) q (by decide)
  · cases e2; exact ar_ne (h.2.1 r hr).1 q (by decide) e
end Go.Proofs.YtnnieljlkdlliaaGreatDoor
