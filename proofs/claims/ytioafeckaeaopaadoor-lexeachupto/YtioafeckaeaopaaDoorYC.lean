/- isWord, Name, Variable, Number, Reserved; the document's Reserved, Name, Variable, Constant. -/
import Derived.Test.YtioafeckaeaopaaDoorYA
namespace Go.Proofs.YtioafeckaeaopaaDoor
open Go.RowKit Go.Maps

set_option maxRecDepth 100000 in
theorem isWord_any (s : ByteArray) (k : Int) (w : World) (hT : Tabs w) : Calls Tryd.prog 34 #[.string s, .int .i64 k] w fun e w' => e = .returned (.bool (decide ((wordK s.data.toList : Int) = k) && decide ((wordN s.data.toList : Int) = (s.data.toList.length : Int)))) ∧ w' = w := by
  have hw := word_any s w hT
  rw [show s.data.toList.length = s.size by simp]
  generalize (wordK s.data.toList : Int) = a at *
  generalize (wordN s.data.toList : Int) = b at *
  by_cases h : a = k
  · have hb : (a == k) = true := by simpa using h
    rw [decide_eq_true h]
    clear h hT
    go_enter Tryd.func34, Tryd.ntmps34
    go_wp2_with (go_at_call 50; refine hw.mono ?_; rintro e w' ⟨rfl, rfl⟩)
    go_ret
    refine ⟨?_, rfl⟩
    show Ending.returned (Value.bool _) = _
    simp
    rw [Bool.eq_iff_iff]; simp
  · have hb : (a == k) = false := by simpa using h
    rw [decide_eq_false h]
    clear h hT
    go_enter Tryd.func34, Tryd.ntmps34
    go_wp2_with (go_at_call 50; refine hw.mono ?_; rintro e w' ⟨rfl, rfl⟩)
    go_ret
    exact ⟨rfl, rfl⟩
theorem Name_any (s : ByteArray) (w : World) (hT : Tabs w) : Calls Tryd.prog 15 #[.string s] w fun e w' => e = .returned (.bool (nameB s.data.toList)) ∧ w' = w := by
  have hw := isWord_any s 1 w hT
  rw [word1_eq] at hw
  generalize nameB s.data.toList = q at *
  go_enter Tryd.func15, Tryd.ntmps15
  go_wp2_with (go_at_call 34; refine hw.mono ?_; rintro e w' ⟨rfl, rfl⟩)
  go_ret
  exact ⟨rfl, rfl⟩
theorem Variable_any (s : ByteArray) (w : World) (hT : Tabs w) : Calls Tryd.prog 19 #[.string s] w fun e w' => e = .returned (.bool (varB s.data.toList)) ∧ w' = w := by
  have hw := isWord_any s 2 w hT
  rw [word2_eq] at hw
  generalize varB s.data.toList = q at *
  go_enter Tryd.func19, Tryd.ntmps19
  go_wp2_with (go_at_call 34; refine hw.mono ?_; rintro e w' ⟨rfl, rfl⟩)
  go_ret
  exact ⟨rfl, rfl⟩
theorem Number_any (s : ByteArray) (w : World) (hT : Tabs w) : Calls Tryd.prog 21 #[.string s] w fun e w' => e = .returned (.bool (numB s.data.toList)) ∧ w' = w := by
  have hw := isWord_any s 3 w hT
  rw [word3_eq] at hw
  generalize numB s.data.toList = q at *
  go_enter Tryd.func21, Tryd.ntmps21
  go_wp2_with (go_at_call 34; refine hw.mono ?_; rintro e w' ⟨rfl, rfl⟩)
  go_ret
  exact ⟨rfl, rfl⟩
theorem Reserved_any (s : ByteArray) (w : World) (hT : Tabs w) : Calls Tryd.prog 17 #[.string s] w fun e w' => e = .returned (.bool (resB s.data.toList)) ∧ w' = w := by
  have hw := reservedKind_any s w hT
  unfold resB
  generalize resK s.data.toList = q at *
  go_enter Tryd.func17, Tryd.ntmps17
  go_wp2_with (go_at_call 37; refine hw.mono ?_; rintro e w' ⟨rfl, rfl⟩)
  go_ret
  refine ⟨?_, rfl⟩
  show Ending.returned (Value.bool _) = _
  by_cases h : q = 0 <;> simp [h]
theorem y_Constant (s : ByteArray) (w : World) : Calls Tryd.prog 24 #[.string s] w fun e w' => e = .returned (.bool (decide (s.data.toList.length ≤ 1024))) ∧ w' = w := by
  rw [show s.data.toList.length = s.size by simp]
  go_enter Tryd.func24, Tryd.ntmps24
  go_wp2
  go_ret
  refine ⟨?_, rfl⟩
  show Ending.returned (Value.bool _) = _
  simp; omega
set_option maxRecDepth 100000 in
theorem y_Reserved (s : ByteArray) (w : World) : Calls Tryd.prog 18 #[.string s] w fun e w' => e = .returned (.bool (resB s.data.toList)) ∧ w' = w := by
  obtain ⟨L, hL⟩ : ∃ L, s.data.toList = L := ⟨_, rfl⟩
  rw [hL]
  unfold resB resK
  by_cases h1 : L = bInput
  · have t1 := toList_yes (hL.trans h1)
    rw [if_pos h1]
    unfold bInput at t1
    clear h1 hL
    go_enter Tryd.func18, Tryd.ntmps18
    go_wp2
    go_ret
    exact ⟨rfl, rfl⟩
  · have t1 := toList_ne hL h1
    rw [if_neg h1]
    unfold bInput at t1
    by_cases h2 : L = bOutput
    · have t2 := toList_yes (hL.trans h2)
      rw [if_pos h2]
      unfold bOutput at t2
      clear h1 h2 hL
      go_enter Tryd.func18, Tryd.ntmps18
      go_wp2
      go_ret
      exact ⟨rfl, rfl⟩
    · have t2 := toList_ne hL h2
      rw [if_neg h2]
      unfold bOutput at t2
      by_cases h3 : L = bNot
      · have t3 := toList_yes (hL.trans h3)
        rw [if_pos h3]
        unfold bNot at t3
        clear h1 h2 h3 hL
        go_enter Tryd.func18, Tryd.ntmps18
        go_wp2
        go_ret
        exact ⟨rfl, rfl⟩
      · have t3 := toList_ne hL h3
        rw [if_neg h3]
        unfold bNot at t3
        clear h1 h2 h3 hL
        go_enter Tryd.func18, Tryd.ntmps18
        go_wp2
        go_ret
        exact ⟨rfl, rfl⟩
end Go.Proofs.YtioafeckaeaopaaDoor
