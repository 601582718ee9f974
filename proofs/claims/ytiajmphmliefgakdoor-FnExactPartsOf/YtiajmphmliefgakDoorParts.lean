/-
  The walk of spec.PartsOf.
-/
import Derived.Test.YtiajmphmliefgakDoorBase
import Derived.Test.YtiajmphmliefgakDoorPMath
namespace Go.Proofs.YtiajmphmliefgakDoor
open Go.RowKit
open Words
open Go.Lib (fields fieldsGo isSp)

theorem infoStr : (Tryd.prog.info? 9).map (fun i => (i.zero, i.size, i.bytes)) = some (some (.string ⟨#[]⟩), 1, 16) := by kernel_rfl
/-- The cells of texts. -/
def scells (ls : List (List UInt8)) : List Value := ls.map fun l => Value.string ⟨l.toArray⟩
theorem scells_len (ls : List (List UInt8)) : (scells ls).length = ls.length := by simp [scells]
theorem scells_snoc (ls : List (List UInt8)) (l : List UInt8) : scells ls ++ [Value.string ⟨l.toArray⟩] = scells (ls ++ [l]) := by simp [scells]
theorem scells_at (ls : List (List UInt8)) (j : Nat) (hj : j < ls.length) : (scells ls)[j]? = some (.string ⟨ls[j].toArray⟩) := by simp [scells, hj]
theorem one_str (x : ByteArray) : ∀ u ∈ [Value.string x], u.oneCell' = true := by
  intro u hu; simp at hu; subst hu; rfl
theorem ext_eq (s : ByteArray) (b i : Nat) : s.extract b i = ⟨((s.data.toList.drop b).take (i - b)).toArray⟩ := by
  apply ByteArray.ext
  have := Lib.extract_data s b i
  rw [← this]
theorem slice_fact (s : ByteArray) (b i : Nat) (h1 : b ≤ i) (h2 : i ≤ s.size) (W : World) :
    (Instr.slice 9 (.string s) (some (.int .i64 (b : Int))) (some (.int .i64 (i : Int))) none).run Tryd.prog W = .ok (.string ⟨((s.data.toList.drop b).take (i - b)).toArray⟩) W := by
  rw [run_slice_string_if W 9 s .i64 .i64 b i Tryd.underlying9, if_pos (by omega), if_pos (by omega), ← ext_eq]
  rfl

def partsYes (w w' : World) (l : List UInt8) (e : Ending) : Prop := ∃ v, e = .returned (.tuple #[v, .bool true]) ∧ w'.ownsRow w.heap.size 9 1 v (fields l).length (scells (fields l)) ∧ Below w.heap.size w w'
def partsNo (w w' : World) (e : Ending) : Prop := ∃ v, e = .returned (.tuple #[v, .bool false]) ∧ w'.ownsRow w.heap.size 9 1 v 0 [] ∧ Below w.heap.size w w'

set_option maxHeartbeats 1000000 in
set_option maxRecDepth 100000 in
theorem specParts (s : ByteArray) (w : World) (hs : s.size ≤ 600) :
    Calls Tryd.prog 10 #[.string s] w fun e w' => POk s.data.toList ∧ partsYes w w' s.data.toList e ∨ ¬ POk s.data.toList ∧ partsNo w w' e := by
  obtain ⟨i0, hi, hz0, hz1, hz2⟩ := info_parts infoStr
  have g : ¬ (600 : Int) < s.size := by omega
  have HS : Hid (s.data.toList.length = s.size) := by show _ = _; simp
  go_enter Tryd.func10, Tryd.ntmps10
  go_wp2
  go_loopw [4, 5, 6] (fun out bv iv wr => ∃ (i b : Nat) (acc : List (List UInt8)), iv = .int .i64 i ∧ bv = .int .i64 b ∧ i ≤ s.size + 1 ∧ b ≤ s.size + 1 ∧ acc.length ≤ i ∧
      Hid ((i ≤ s.size ∧ At2 s.data.toList i b acc) ∨ (i = s.size + 1 ∧ acc = fields s.data.toList ∧ Plain s.data.toList)) ∧
      wr.ownsRow w.heap.size 9 1 out acc.length (scells acc) ∧ Below w.heap.size w wr) (fun _ _ iv _ => s.size + 1 - (intOf iv).toNat)
  case atStart => exact ⟨0, 0, [], rfl, rfl, by omega, by omega, by simp, .inl ⟨by omega, At2.zero _⟩, World.ownsRow_made w #[] 0 (Nat.le_refl _) (by unfold maxLen; omega) (by simp), (Below.refl _ _).alloc (Nat.le_refl _) _⟩
  case round =>
    obtain ⟨i, b, acc, rfl, rfl, hi1, hb1, hal, hat, hown, hbel⟩ := hrel
    have hsz := hbel.size
    by_cases hlt : (i : Int) ≤ s.size
    · have hA : At2 s.data.toList i b acc := by
        rcases hat.out with h | h
        · exact h.2
        · omega
      have hbi := hA.1
      by_cases hin : (i : Int) < s.size
      · obtain ⟨c, hcc⟩ : ∃ c : Nat, s[i].toNat = c := ⟨_, rfl⟩
        have hc8 : c < 256 := by rw [← hcc]; exact UInt8.toNat_lt _
        have hl : i < s.data.toList.length := by simpa using hin
        have hcl : s.data.toList[i].toNat = c := by rw [← hcc]; rfl
        by_cases hp : 32 ≤ c ∧ c ≤ 126
        · obtain ⟨p1, p2⟩ := hp
          have n1 : ¬ (c : Int) < 32 := by omega
          have n2 : ¬ (126 : Int) < c := by omega
          by_cases hb32 : c = 32
          · have n3 : ((c : Int) != 32) = false := by simp; omega
            by_cases hbi2 : (b : Int) < i
            · have A2 := hA.blank_part hl (by rw [hcl]; exact hb32) (by omega)
              have hsl := slice_fact s b i (by omega) (by omega)
              obtain ⟨t, ht⟩ : ∃ t, (s.data.toList.drop b).take (i - b) = t := ⟨_, rfl⟩
              rw [ht] at A2 hsl
              have HA2 := hide A2
              clear hl hcl hA A2 ht hat hb32
              go_wp2_with (at_builtin; refine wpList_append_own _ rfl _ _ 27 rfl w.heap.size 9 i0 (.string ⟨#[]⟩) 1 16 Tryd.underlying27 hi hz0 hz1 hz2 rfl (by decide) _ _ _ rfl (by exact hown.alloc _) ⟨wr.heap.size, 0, none⟩ 1 1 [Value.string _] rfl rfl (by exact one_cell _ _ _) (one_str _) (by unfold maxLen; omega) (by omega) (by simp; omega) ?_)
              intro v' w1 hown' hgrow _
              have hb2 : Below w.heap.size w w1 := own_grown hbel (by omega) hown hgrow
              rw [scells_snoc] at hown'
              clear hown hgrow hbel hsl
              go_wp2
              go_roundw
              case rel => exact ⟨i + 1, i + 1, acc ++ [t], by go_num, by go_num, by omega, by omega, by simp; omega, .inl ⟨by omega, HA2.out⟩, by simpa using hown', hb2⟩
              case measure => simp [intOf]; omega
            · have A2 := hide (hA.blank_none hl (by rw [hcl]; exact hb32) (by omega))
              clear hl hcl hA hat hb32
              go_wp2
              go_roundw
              case rel => exact ⟨i + 1, i + 1, acc, by go_num, by go_num, by omega, by omega, by omega, .inl ⟨by omega, A2.out⟩, hown, hbel⟩
              case measure => simp [intOf]; omega
          · have n3 : ((c : Int) != 32) = true := by rw [bne_iff_ne]; omega
            have A2 := hide (hA.more hl (by rw [hcl]; omega))
            clear hl hcl hA hat hb32
            go_wp2
            go_roundw
            case rel => exact ⟨i + 1, b, acc, by go_num, rfl, by omega, by omega, by omega, .inl ⟨by omega, A2.out⟩, hown, hbel⟩
            case measure => simp [intOf]; omega
        · have HN : Hid (¬ POk s.data.toList) := fun h => plain_not hl (by rw [hcl]; exact hp) h.2.1
          clear hl hcl hA hat
          by_cases c1 : (c : Int) < 32
          · go_wp2
            go_ret2
            exact .inr ⟨HN.out, _, rfl, World.ownsRow_made wr #[] 0 (by omega) (by unfold maxLen; omega) (by simp), hbel.alloc (by omega) _⟩
          · have c2 : (126 : Int) < c := by omega
            go_wp2
            go_ret2
            exact .inr ⟨HN.out, _, rfl, World.ownsRow_made wr #[] 0 (by omega) (by unfold maxLen; omega) (by simp), hbel.alloc (by omega) _⟩
      · by_cases hbi2 : (b : Int) < i
        · have A2 := hA.end_part (by rw [HS.out]; omega) (by omega)
          have hsl := slice_fact s b i (by omega) (by omega)
          obtain ⟨t, ht⟩ : ∃ t, (s.data.toList.drop b).take (i - b) = t := ⟨_, rfl⟩
          rw [ht] at A2 hsl
          have HA2 := hide A2
          clear hA A2 ht hat
          go_wp2_with (at_builtin; refine wpList_append_own _ rfl _ _ 27 rfl w.heap.size 9 i0 (.string ⟨#[]⟩) 1 16 Tryd.underlying27 hi hz0 hz1 hz2 rfl (by decide) _ _ _ rfl (by exact hown.alloc _) ⟨wr.heap.size, 0, none⟩ 1 1 [Value.string _] rfl rfl (by exact one_cell _ _ _) (one_str _) (by unfold maxLen; omega) (by omega) (by simp; omega) ?_)
          intro v' w1 hown' hgrow _
          have hb2 : Below w.heap.size w w1 := own_grown hbel (by omega) hown hgrow
          rw [scells_snoc] at hown'
          clear hown hgrow hbel hsl
          go_wp2
          go_roundw
          case rel => exact ⟨i + 1, i + 1, acc ++ [t], by go_num, by go_num, by omega, by omega, by simp; omega, .inr ⟨by omega, HA2.out⟩, by simpa using hown', hb2⟩
          case measure => simp [intOf]; omega
        · have A2 := hide (hA.end_none (by rw [HS.out]; omega) (by omega))
          clear hA hat
          go_wp2
          go_roundw
          case rel => exact ⟨i + 1, i + 1, acc, by go_num, by go_num, by omega, by omega, by omega, .inr ⟨by omega, A2.out⟩, hown, hbel⟩
          case measure => simp [intOf]; omega
    · have hE : acc = fields s.data.toList ∧ Plain s.data.toList := by
        rcases hat.out with h | h
        · omega
        · exact h.2
      have HE := hide hE
      clear hE hat
      obtain ⟨ad, cap, hv⟩ : ∃ ad cap, u4 = .slice ad acc.length cap := by
        rcases hown.2 with ⟨h1, h2⟩ | ⟨g, cap, cur, h1, -⟩
        · exact ⟨none, 0, by rw [h1, h2]⟩
        · exact ⟨_, cap, h1⟩
      subst hv
      by_cases h10 : acc.length ≤ 10
      · have n1 : ¬ (10 : Int) < acc.length := by omega
        have F : Hid (POk s.data.toList) := ⟨by rw [HS.out]; omega, HE.out.2, by rw [← HE.out.1]; exact h10⟩
        go_wp2
        go_ret2
        exact .inl ⟨F.out, _, rfl, by rw [← HE.out.1]; exact hown, hbel⟩
      · have n1 : (10 : Int) < acc.length := by omega
        have F : Hid (¬ POk s.data.toList) := fun h => h10 (by rw [HE.out.1]; exact h.2.2)
        go_wp2
        go_ret2
        exact .inr ⟨F.out, _, rfl, World.ownsRow_made wr #[] 0 (by omega) (by unfold maxLen; omega) (by simp), hbel.alloc (by omega) _⟩
end Go.Proofs.YtiajmphmliefgakDoor
