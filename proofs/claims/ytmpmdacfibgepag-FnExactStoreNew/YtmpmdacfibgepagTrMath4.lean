/-
  Trees that share, in plain words: puts again, and in another order.
-/
import Derived.Test.YtmpmdacfibgepagTrMath3
namespace Go.Proofs.Ytmpmdacfibgepag
namespace Words

/-- An arena with what was put; its new root is behind all. -/
def pt (l : List Kn) (r : Int) (s : Nat) (n : Int) : List Kn := l ++ [putLf l r s n, putTop l r s]
def ptR (l : List Kn) : Int := (l.length : Int) + 1
/-- An arena and a tree in it. -/
def TrOk (l : List Kn) (r : Int) : Prop := arB l = true ∧ rootB l r = true
theorem pt_ok {l : List Kn} {r n : Int} {s : Nat} (h : TrOk l r) (hs : s ≤ 15) (hn : 0 ≤ n) : TrOk (pt l r s n) (ptR l) := ⟨put_right h.1 h.2 hs hn, put_root⟩
theorem pt_old {l : List Kn} {r n k : Int} {s : Nat} (h : TrOk l r) (hs : s ≤ 15) (hn : 0 ≤ n) (hk : rootB l k = true) : TrOk (pt l r s n) k := ⟨put_right h.1 h.2 hs hn, root_old hk⟩
theorem pt_put {l : List Kn} {r n : Int} {s : Nat} (h : TrOk l r) (hs : s ≤ 15) (hn : 0 ≤ n) : putL l r (s : Int) n = pt l r s n ∧ putR l r (s : Int) n = ptR l := by
  have hb : putB l r (s : Int) n = true := by rw [putB, askB, h.1, h.2, decide_eq_true (show (0 : Int) ≤ (s : Int) by omega), decide_eq_true (show (s : Int) ≤ 15 by omega), decide_eq_true hn]; rfl
  exact ⟨by rw [putL, if_pos hb, Int.toNat_natCast]; rfl, by rw [putR, if_pos hb]; rfl⟩
theorem getT_ok {l : List Kn} {r : Int} {i : Nat} (h : TrOk l r) (hi : i ≤ 15) : getT l r (i : Int) = getP l r i := by
  rw [getT, askB, h.1, h.2, decide_eq_true (show (0 : Int) ≤ (i : Int) by omega), decide_eq_true (show (i : Int) ≤ 15 by omega), Int.toNat_natCast]
  rfl
theorem getT_out {l : List Kn} {r s : Int} (h : 15 < s) : getT l r s = 0 := by
  rw [getT, askB, decide_eq_false (show ¬ s ≤ 15 by omega), Bool.and_false, Bool.and_false]
  rfl
/-- What was put is read; all else of that tree is as it was. -/
theorem pt_get {l : List Kn} {r n : Int} {s i : Nat} (h : TrOk l r) (hs : s ≤ 15) (hn : 0 ≤ n) (hi : i ≤ 15) : getT (pt l r s n) (ptR l) (i : Int) = if i = s then n else getT l r (i : Int) := by
  rw [getT_ok (pt_ok h hs hn) hi, getT_ok h hi]
  exact put_get h.1 h.2 hs hi
/-- Every other tree is as it was. -/
theorem pt_keep {l : List Kn} {r n k : Int} {s i : Nat} (h : TrOk l r) (hs : s ≤ 15) (hn : 0 ≤ n) (hk : rootB l k = true) (hi : i ≤ 15) : getT (pt l r s n) k (i : Int) = getT l k (i : Int) := by
  rw [getT_ok (pt_old h hs hn hk) hi, getT_ok ⟨h.1, hk⟩ hi]
  exact get_old h.1 hk hi
theorem all_eq {l m : List Kn} {r k : Int} (h : ∀ i : Nat, i ≤ 15 → getT l r (i : Int) = getT m k (i : Int)) : allT l r = allT m k := by
  refine List.map_congr_left (fun i hi => ?_)
  have := List.mem_range.1 hi
  exact h i (by omega)
theorem all_keep {l : List Kn} {r n k : Int} {s : Nat} (h : TrOk l r) (hs : s ≤ 15) (hn : 0 ≤ n) (hk : rootB l k = true) : allT (pt l r s n) k = allT l k := all_eq (fun _ hi => pt_keep h hs hn hk hi)
/-- The same put again changes nothing that is read. -/
theorem all_again {l : List Kn} {r n : Int} {s : Nat} (h : TrOk l r) (hs : s ≤ 15) (hn : 0 ≤ n) : allT (pt (pt l r s n) (ptR l) s n) (ptR (pt l r s n)) = allT (pt l r s n) (ptR l) :=
  all_eq (fun i hi => by
    rw [pt_get (pt_ok h hs hn) hs hn hi]
    by_cases e : i = s
    · rw [if_pos e, pt_get h hs hn hi, if_pos e]
    · rw [if_neg e])
/-- Two puts of two sectors, in either order. -/
theorem all_order {l : List Kn} {r n m : Int} {s t : Nat} (h : TrOk l r) (hs : s ≤ 15) (ht : t ≤ 15) (hn : 0 ≤ n) (hm : 0 ≤ m) (hst : s ≠ t) : allT (pt (pt l r s n) (ptR l) t m) (ptR (pt l r s n)) = allT (pt (pt l r t m) (ptR l) s n) (ptR (pt l r t m)) :=
  all_eq (fun i hi => by
    rw [pt_get (pt_ok h hs hn) ht hm hi, pt_get h hs hn hi, pt_get (pt_ok h ht hm) hs hn hi, pt_get h ht hm hi]
    by_cases e1 : i = s
    · rw [if_pos e1, if_neg (by omega), if_pos e1]
    · rw [if_neg e1, if_neg e1])
theorem get_both {l : List Kn} {r n m : Int} {s t : Nat} (h : TrOk l r) (hs : s ≤ 15) (ht : t ≤ 15) (hn : 0 ≤ n) (hm : 0 ≤ m) (hst : s ≠ t) : getT (pt (pt l r s n) (ptR l) t m) (ptR (pt l r s n)) (s : Int) = n ∧ getT (pt (pt l r s n) (ptR l) t m) (ptR (pt l r s n)) (t : Int) = m := by
  rw [pt_get (pt_ok h hs hn) ht hm hs, if_neg hst, pt_get h hs hn hs, if_pos rfl, pt_get (pt_ok h hs hn) ht hm ht, if_pos rfl]
  exact ⟨rfl, rfl⟩
/-- How many knots are shared. -/
theorem share_put {l : List Kn} {r n : Int} {s : Nat} (h : TrOk l r) (hs : s ≤ 15) (hn : 0 ≤ n) : 2 ≤ shareT (pt l r s n) (ptR l) (ptR l) ∧ shareT (pt l r s n) (ptR l) r ≤ 3 ∧ shareT (pt l r s n) (-1) (ptR l) = 0 := by
  have ho := pt_ok (n := n) h hs hn
  have hr : rootB (pt l r s n) r = true := root_old h.2
  have h1 : rootB (pt l r s n) (-1) = true := by rw [rootB]; rfl
  refine ⟨?_, ?_, ?_⟩
  · rw [shareT, ho.1, ho.2]
    have := share_self (n := n) h.1 h.2 hs
    show (2 : Int) ≤ ((shareN (pt l r s n) (ptR l) (ptR l) : Nat) : Int)
    unfold pt ptR
    omega
  · rw [shareT, ho.1, ho.2, hr]
    have := share_three (n := n) h.1 h.2 hs
    show ((shareN (pt l r s n) (ptR l) r : Nat) : Int) ≤ 3
    unfold pt ptR
    omega
  · rw [shareT, ho.1, h1, ho.2]
    show ((shareN (pt l r s n) (-1) (ptR l) : Nat) : Int) = 0
    rw [share_none (.inl (by omega))]
    rfl
end Words
end Go.Proofs.Ytmpmdacfibgepag
