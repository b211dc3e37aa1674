/- word (the table of reserved words alone). -/
import Derived.Test.YtiobhadchakoiaaGreatDoorXC
import Derived.Test.YtiobhadchakoiaaGreatDoorPD
import Derived.Test.YtiobhadchakoiaaGreatDoorXS
namespace Go.Proofs.YtiobhadchakoiaaGreatDoor
open Go.RowKit Go.Maps

/-- The kind of the longest word that a text begins with; 0: none. -/
def wordK (l : List UInt8) : Nat := if smallZ (runeZ l 0) then (if resK (l.take (runN wordZ l)) = 0 then 1 else resK (l.take (runN wordZ l))) else if greatZ (runeZ l 0) then 2 else if digitZ (runeZ l 0) then 3 else 0
/-- How long it is. -/
def wordN (l : List UInt8) : Nat := if smallZ (runeZ l 0) then runN wordZ l else if greatZ (runeZ l 0) then runN wordZ l else if digitZ (runeZ l 0) then runN digitZ l else 0
theorem wordN_le (l : List UInt8) : wordN l ≤ 64 ∧ wordN l ≤ l.length := by
  have h1 := runN_le wordZ l
  have h2 := runN_le digitZ l
  unfold wordN
  split
  · exact h1
  · split
    · exact h1
    · split
      · exact h2
      · omega
theorem resK_le (l : List UInt8) : resK l ≤ 7 := by
  unfold resK
  repeat' split
  all_goals omega
theorem wordK_le (l : List UInt8) : wordK l ≤ 7 := by
  have h := resK_le (l.take (runN wordZ l))
  unfold wordK
  repeat' split
  all_goals omega

set_option maxRecDepth 100000 in
set_option maxHeartbeats 1000000 in
theorem word_any (s : ByteArray) (w : World) (hT : Tabs w) :
    Calls Tryz.prog 80 #[.string s] w fun e w' => e = .returned (.tuple #[.int .i64 (wordK s.data.toList : Nat), .int .i64 (wordN s.data.toList : Nat)]) ∧ w' = w := by
  have hru := runeAt_any s 0 w (by omega) (by omega)
  have k1 := fun W => isSmall_any (runeZ s.data.toList 0) W
  have k2 := fun W => isGreat_any (runeZ s.data.toList 0) W
  have k3 := fun W => isDigit_any (runeZ s.data.toList 0) W
  have r1 := run_word s
  have r2 := run_digit s
  have hle := runN_le wordZ s.data.toList
  have hrk : Calls Tryz.prog 89 #[.string (s.extract 0 (runN wordZ s.data.toList))] w fun e w' => e = .returned (.int .i64 (resK (s.data.toList.take (runN wordZ s.data.toList)) : Nat)) ∧ w' = w := by
    have := reservedKind_any (s.extract 0 (runN wordZ s.data.toList)) w hT
    rw [Lib.extract_data] at this
    simpa using this
  rw [show s.data.toList.length = s.size by simp] at hle
  unfold wordK wordN
  generalize runN wordZ s.data.toList = n at *
  generalize runN digitZ s.data.toList = m at *
  generalize resK (s.data.toList.take n) = q at *
  obtain ⟨hle1, hle2⟩ := hle
  cases h1 : smallZ (runeZ s.data.toList 0)
  · rw [h1] at k1
    cases h2 : greatZ (runeZ s.data.toList 0)
    · rw [h2] at k2
      cases h3 : digitZ (runeZ s.data.toList 0)
      · rw [h3] at k3
        clear h1 h2 h3 hrk r1 r2 hT
        go_enter Tryz.func80, Tryz.ntmps80
        go_wp2_with (first
          | (go_at_call 85; refine hru.mono ?_; rintro e w' ⟨rfl, rfl⟩)
          | (go_at_call 86; refine (k1 _).mono ?_; rintro e w' ⟨rfl, rfl⟩)
          | (go_at_call 90; refine (k2 _).mono ?_; rintro e w' ⟨rfl, rfl⟩)
          | (go_at_call 91; refine (k3 _).mono ?_; rintro e w' ⟨rfl, rfl⟩))
        go_ret2
        exact ⟨rfl, rfl⟩
      · rw [h3] at k3
        clear h1 h2 h3 hrk r1 hT
        go_enter Tryz.func80, Tryz.ntmps80
        go_wp2_with (first
          | (go_at_call 85; refine hru.mono ?_; rintro e w' ⟨rfl, rfl⟩)
          | (go_at_call 86; refine (k1 _).mono ?_; rintro e w' ⟨rfl, rfl⟩)
          | (go_at_call 90; refine (k2 _).mono ?_; rintro e w' ⟨rfl, rfl⟩)
          | (go_at_call 91; refine (k3 _).mono ?_; rintro e w' ⟨rfl, rfl⟩)
          | (go_at_call 87; refine (r2 _).mono ?_; rintro e w' ⟨rfl, rfl⟩))
        go_ret2
        exact ⟨rfl, rfl⟩
    · rw [h2] at k2
      clear h1 h2 hrk r2 hT k3
      go_enter Tryz.func80, Tryz.ntmps80
      go_wp2_with (first
        | (go_at_call 85; refine hru.mono ?_; rintro e w' ⟨rfl, rfl⟩)
        | (go_at_call 86; refine (k1 _).mono ?_; rintro e w' ⟨rfl, rfl⟩)
        | (go_at_call 90; refine (k2 _).mono ?_; rintro e w' ⟨rfl, rfl⟩)
        | (go_at_call 87; refine (r1 _).mono ?_; rintro e w' ⟨rfl, rfl⟩))
      go_ret2
      exact ⟨rfl, rfl⟩
  · rw [h1] at k1
    clear h1 r2 hT k2 k3
    have hi1 : (n : Int) ≤ (s.size : Int) := by omega
    by_cases hq : q = 0
    · subst hq
      go_enter Tryz.func80, Tryz.ntmps80
      go_wp2_with (first
        | (go_at_call 85; refine hru.mono ?_; rintro e w' ⟨rfl, rfl⟩)
        | (go_at_call 86; refine (k1 _).mono ?_; rintro e w' ⟨rfl, rfl⟩)
        | (go_at_call 89; refine hrk.mono ?_; rintro e w' ⟨rfl, rfl⟩)
        | (go_at_call 87; refine (r1 _).mono ?_; rintro e w' ⟨rfl, rfl⟩))
      go_ret2
      exact ⟨rfl, rfl⟩
    · have hqb : ((q : Int) != 0) = true := by simp [hq]
      go_enter Tryz.func80, Tryz.ntmps80
      go_wp2_with (first
        | (go_at_call 85; refine hru.mono ?_; rintro e w' ⟨rfl, rfl⟩)
        | (go_at_call 86; refine (k1 _).mono ?_; rintro e w' ⟨rfl, rfl⟩)
        | (go_at_call 89; refine hrk.mono ?_; rintro e w' ⟨rfl, rfl⟩)
        | (go_at_call 87; refine (r1 _).mono ?_; rintro e w' ⟨rfl, rfl⟩))
      go_ret2
      exact ⟨by simp, rfl⟩
end Go.Proofs.YtiobhadchakoiaaGreatDoor
