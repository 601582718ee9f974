/-
  The walks of impl.PartsOf and what it calls.
-/
import Derived.Test.YtiajmphmliefgakDoorParts
import Derived.Test.YtiajmphmliefgakDoorShelf
import Derived.Lib.AppendIntMem
namespace Go.Proofs.YtiajmphmliefgakDoor
open Go.RowKit
open Words
open Go.Lib (fields fieldsGo isSp)

theorem clone_any (s : ByteArray) (w : World) (hs : s.size ≤ 281474976710656) :
    Calls Tryd.prog 20 #[.string s] w fun e w' => e = .returned (.string s) ∧ Below w.heap.size w w' := by
  go_enter Tryd.func20, Tryd.ntmps20
  go_wp2_with fail
  refine (Tryd.stringslite_Clone _ _ hs).mono ?_
  rintro e w' ⟨rfl, hb⟩
  go_wp2
  go_ret
  exact ⟨rfl, hb⟩

set_option maxHeartbeats 400000 in
set_option maxRecDepth 100000 in
theorem plain_any (s : ByteArray) (w : World) (hs : s.size ≤ 600) :
    Calls Tryd.prog 18 #[.string s] w fun e w' => (Plain s.data.toList ∧ e = .returned (.bool true) ∨ ¬ Plain s.data.toList ∧ e = .returned (.bool false)) ∧ w' = w := by
  go_enter Tryd.func18, Tryd.ntmps18
  go_wp2
  go_loop [6] (fun iv => ∃ k : Nat, k ≤ s.size ∧ iv = .int .i64 k ∧ Hid (Plain (s.data.toList.take k))) (fun iv => s.size - (intOf iv).toNat)
  case atStart => exact ⟨0, Nat.zero_le _, rfl, fun x hx => by simp at hx⟩
  case round =>
    obtain ⟨k, hk, rfl, HP⟩ := hrel
    by_cases hlt : (k : Int) < s.size
    · obtain ⟨c, hcc⟩ : ∃ c : Nat, s[k].toNat = c := ⟨_, rfl⟩
      have hc8 : c < 256 := by rw [← hcc]; exact UInt8.toNat_lt _
      have hl : k < s.data.toList.length := by simpa using hlt
      have hcl : s.data.toList[k].toNat = c := by rw [← hcc]; rfl
      by_cases hp : 32 ≤ c ∧ c ≤ 126
      · have P2 := hide (plain_take hl HP.out (by rw [hcl]; exact hp))
        obtain ⟨p1, p2⟩ := hp
        have n1 : ¬ (c : Int) < 32 := by omega
        have n2 : ¬ (126 : Int) < c := by omega
        clear hl hcl HP
        go_wp2
        go_round
        case rel => exact ⟨k + 1, by omega, by go_num, P2⟩
        case measure => simp [intOf]; omega
      · have HN := hide (plain_not hl (by rw [hcl]; exact hp))
        clear hl hcl HP
        by_cases c1 : (c : Int) < 32
        · go_wp2
          go_ret
          exact ⟨.inr ⟨HN.out, rfl⟩, rfl⟩
        · have c2 : (126 : Int) < c := by omega
          go_wp2
          go_ret
          exact ⟨.inr ⟨HN.out, rfl⟩, rfl⟩
    · have et : s.data.toList.take k = s.data.toList := List.take_of_length_le (by simp; omega)
      rw [et] at HP
      clear et
      go_wp2
      go_ret
      exact ⟨.inl ⟨HP.out, rfl⟩, rfl⟩

/-- The library's table of blanks lies in this world. -/
def SpIn (w : World) : Prop := Lib.TabIs Tryd.prog w "strings.asciiSpace" .u8 Lib.asciiSpaceTab
theorem SpIn.on {w w' : World} (h : SpIn w) (hb : Below w.heap.size w w') : SpIn w' := Lib.tabBelow_of_tabIs h w' hb

theorem owns_alloc (w : World) (B : Nat) (cs : List Value) (n : Nat) (hn : cs.length = n) (hB : B ≤ w.heap.size) (hm : n ≤ maxLen) :
    (w.alloc (.cells cs.toArray 9)).ownsRow B 9 1 (.slice (some ⟨w.heap.size, 0, none⟩) n n) n cs :=
  ⟨by omega, .inr ⟨w.heap.size, n, cs.toArray, rfl, hB, heap_alloc_new w _, Nat.le_refl _, hm, by simp; omega, by rw [Nat.mul_one, ← hn]; simp⟩⟩

set_option maxHeartbeats 400000 in
set_option maxRecDepth 100000 in
theorem implParts (s : ByteArray) (w : World) (hs : s.size ≤ 600) (ht : SpIn w) :
    Calls Tryd.prog 11 #[.string s] w fun e w' => POk s.data.toList ∧ partsYes w w' s.data.toList e ∨ ¬ POk s.data.toList ∧ partsNo w w' e := by
  have HT := hide ht
  clear ht
  have g : ¬ (600 : Int) < s.size := by omega
  have HS : Hid (s.data.toList.length = s.size) := by show _ = _; simp
  go_enter Tryd.func11, Tryd.ntmps11
  go_wp2_with fail
  refine (plain_any s _ hs).mono ?_
  rintro e w1 ⟨⟨hp, rfl⟩ | ⟨hp, rfl⟩, rfl⟩
  · have HP := hide hp
    clear hp
    go_wp2_with fail
    refine (clone_any s _ (by omega)).mono ?_
    rintro e w2 ⟨rfl, hb2⟩
    go_wp2_with fail
    refine (Tryd.strings_Fields s _ (by omega) (fun j b h => by have := HP.out b (List.mem_of_getElem? h); omega) (HT.out.on hb2)).mono ?_
    rintro e w3 ⟨rfl, hw3⟩
    have hb3 : Below w1.heap.size w1 w3 := by rw [hw3]; exact hb2.alloc hb2.size _
    have hfl := fields_le s.data.toList
    rw [HS.out] at hfl
    have ho : w3.ownsRow w1.heap.size 9 1 (.slice (some ⟨w2.heap.size, 0, none⟩) (fields s.data.toList).length (fields s.data.toList).length) (fields s.data.toList).length (scells (fields s.data.toList)) := by
      rw [hw3]; exact owns_alloc w2 w1.heap.size _ _ (scells_len _) hb2.size (by unfold maxLen; omega)
    clear hw3
    obtain ⟨n, hn⟩ : ∃ n, (fields s.data.toList).length = n := ⟨_, rfl⟩
    rw [hn] at ho hfl
    rw [hn]
    have HN := hide hn
    clear hn
    by_cases h10 : n ≤ 10
    · have n1 : ¬ (10 : Int) < n := by omega
      have F : Hid (POk s.data.toList) := ⟨by rw [HS.out]; omega, HP.out, by rw [HN.out]; exact h10⟩
      go_wp2
      go_ret2
      exact .inl ⟨F.out, _, rfl, by rw [HN.out]; exact ho, hb3⟩
    · have n1 : (10 : Int) < n := by omega
      have F : Hid (¬ POk s.data.toList) := fun h => h10 (by rw [← HN.out]; exact h.2.2)
      go_wp2
      go_ret2
      exact .inr ⟨F.out, _, rfl, World.ownsRow_nil _ _ _ _, hb3⟩
  · have F : Hid (¬ POk s.data.toList) := fun h => hp h.2.1
    clear hp
    go_wp2
    go_ret2
    exact .inr ⟨F.out, _, rfl, World.ownsRow_nil _ _ _ _, Below.refl _ _⟩

theorem specParts_no (s : ByteArray) (w : World) (hs : (600 : Int) < s.size) :
    Calls Tryd.prog 10 #[.string s] w fun e w' => partsNo w w' e := by
  go_enter Tryd.func10, Tryd.ntmps10
  go_wp2
  go_ret2
  exact ⟨_, rfl, World.ownsRow_made w #[] 0 (Nat.le_refl _) (by unfold maxLen; omega) (by simp), (Below.refl _ _).alloc (Nat.le_refl _) _⟩
theorem implParts_no (s : ByteArray) (w : World) (hs : (600 : Int) < s.size) :
    Calls Tryd.prog 11 #[.string s] w fun e w' => partsNo w w' e := by
  go_enter Tryd.func11, Tryd.ntmps11
  go_wp2
  go_ret2
  exact ⟨_, rfl, World.ownsRow_nil _ _ _ _, Below.refl _ _⟩

/-- Both answer the same texts, in rows of their own. -/
theorem parts_all (s : ByteArray) : ∃ (ls : List (List UInt8)) (b : Bool), ls.length ≤ 10 ∧
    (∀ w, Calls Tryd.prog 10 #[.string s] w fun e w' => ∃ v, e = .returned (.tuple #[v, .bool b]) ∧ w'.ownsRow w.heap.size 9 1 v ls.length (scells ls) ∧ Below w.heap.size w w') ∧
    (∀ w, SpIn w → Calls Tryd.prog 11 #[.string s] w fun e w' => ∃ v, e = .returned (.tuple #[v, .bool b]) ∧ w'.ownsRow w.heap.size 9 1 v ls.length (scells ls) ∧ Below w.heap.size w w') := by
  by_cases h : s.size ≤ 600
  · by_cases hok : POk s.data.toList
    · refine ⟨fields s.data.toList, true, hok.2.2, fun w => (specParts s w h).mono ?_, fun w ht => (implParts s w h ht).mono ?_⟩
      · rintro e w' (⟨_, h⟩ | ⟨h, _⟩)
        · exact h
        · exact absurd hok h
      · rintro e w' (⟨_, h⟩ | ⟨h, _⟩)
        · exact h
        · exact absurd hok h
    · refine ⟨[], false, by simp, fun w => (specParts s w h).mono ?_, fun w ht => (implParts s w h ht).mono ?_⟩
      · rintro e w' (⟨h, _⟩ | ⟨_, h⟩)
        · exact absurd h hok
        · exact h
      · rintro e w' (⟨h, _⟩ | ⟨_, h⟩)
        · exact absurd h hok
        · exact h
  · exact ⟨[], false, by simp, fun w => specParts_no s w (by omega), fun w _ => implParts_no s w (by omega)⟩
end Go.Proofs.YtiajmphmliefgakDoor
