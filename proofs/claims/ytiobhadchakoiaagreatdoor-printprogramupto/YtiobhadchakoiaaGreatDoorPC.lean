/- isWord, Name, Variable, Number. -/
import Derived.Test.YtiobhadchakoiaaGreatDoorPA
namespace Go.Proofs.YtiobhadchakoiaaGreatDoor
open Go.RowKit Go.Maps

set_option maxRecDepth 100000 in
theorem isWord_any (s : ByteArray) (k : Int) (w : World) (hT : Tabs w) : Calls Tryz.prog 71 #[.string s, .int .i64 k] w fun e w' => e = .returned (.bool (decide ((wordK s.data.toList : Int) = k) && decide ((wordN s.data.toList : Int) = (s.data.toList.length : Int)))) ∧ w' = w := by
  have hw := word_any s w hT
  rw [show s.data.toList.length = s.size by simp]
  generalize (wordK s.data.toList : Int) = a at *
  generalize (wordN s.data.toList : Int) = b at *
  by_cases h : a = k
  · have hb : (a == k) = true := by simpa using h
    rw [decide_eq_true h]
    clear h hT
    go_enter Tryz.func71, Tryz.ntmps71
    go_wp2_with (go_at_call 80; refine hw.mono ?_; rintro e w' ⟨rfl, rfl⟩)
    go_ret
    refine ⟨?_, rfl⟩
    show Ending.returned (Value.bool _) = _
    simp
    rw [Bool.eq_iff_iff]; simp
  · have hb : (a == k) = false := by simpa using h
    rw [decide_eq_false h]
    clear h hT
    go_enter Tryz.func71, Tryz.ntmps71
    go_wp2_with (go_at_call 80; refine hw.mono ?_; rintro e w' ⟨rfl, rfl⟩)
    go_ret
    exact ⟨rfl, rfl⟩
theorem Name_any (s : ByteArray) (w : World) (hT : Tabs w) : Calls Tryz.prog 60 #[.string s] w fun e w' => e = .returned (.bool (nameB s.data.toList)) ∧ w' = w := by
  have hw := isWord_any s 1 w hT
  rw [word1_eq] at hw
  generalize nameB s.data.toList = q at *
  go_enter Tryz.func60, Tryz.ntmps60
  go_wp2_with (go_at_call 71; refine hw.mono ?_; rintro e w' ⟨rfl, rfl⟩)
  go_ret
  exact ⟨rfl, rfl⟩
theorem Variable_any (s : ByteArray) (w : World) (hT : Tabs w) : Calls Tryz.prog 74 #[.string s] w fun e w' => e = .returned (.bool (varB s.data.toList)) ∧ w' = w := by
  have hw := isWord_any s 2 w hT
  rw [word2_eq] at hw
  generalize varB s.data.toList = q at *
  go_enter Tryz.func74, Tryz.ntmps74
  go_wp2_with (go_at_call 71; refine hw.mono ?_; rintro e w' ⟨rfl, rfl⟩)
  go_ret
  exact ⟨rfl, rfl⟩
theorem Number_any (s : ByteArray) (w : World) (hT : Tabs w) : Calls Tryz.prog 83 #[.string s] w fun e w' => e = .returned (.bool (numB s.data.toList)) ∧ w' = w := by
  have hw := isWord_any s 3 w hT
  rw [word3_eq] at hw
  generalize numB s.data.toList = q at *
  go_enter Tryz.func83, Tryz.ntmps83
  go_wp2_with (go_at_call 71; refine hw.mono ?_; rintro e w' ⟨rfl, rfl⟩)
  go_ret
  exact ⟨rfl, rfl⟩
end Go.Proofs.YtiobhadchakoiaaGreatDoor
