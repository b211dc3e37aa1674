/- runeAt, isSmall, isGreat, isDigit, inWord, isPlain. -/
import Derived.Test.YtmbjghhicbbgmaaDoorXA
import Derived.Lib.Strings
namespace Go.Proofs.YtmbjghhicbbgmaaDoor
open Go.RowKit Go.Maps

set_option maxRecDepth 100000 in
theorem runeAt_any (s : ByteArray) (i : Int) (w : World) (h1 : -1 ≤ i) (h2 : i ≤ 140737488355329) :
    Calls Tryd.prog 66 #[.string s, .int .i64 i] w fun e w' => e = .returned (.int .i32 (runeZ s.data.toList i)) ∧ w' = w := by
  by_cases h0 : i < 0
  · rw [runeZ_neg _ h0]
    go_enter Tryd.func66, Tryd.ntmps66
    go_wp2
    go_ret
    exact ⟨rfl, rfl⟩
  · obtain ⟨k, rfl⟩ : ∃ k : Nat, i = (k : Int) := ⟨i.toNat, by omega⟩
    by_cases hk : k < s.size
    · have hv : runeZ s.data.toList (k : Int) = (s[k].toNat : Int) := by
        rw [runeZ_in (by simpa using hk)]; rfl
      have hu : s[k].toNat < 256 := UInt8.toNat_lt _
      rw [hv]
      have HW : Hid (wrap32 (s[k].toNat : Int) = (s[k].toNat : Int)) := by
        show wrap32 (s[k].toNat : Int) = (s[k].toNat : Int)
        unfold wrap32; omega
      have hi : (k : Int) < (s.size : Int) := by omega
      clear hv hu
      go_enter Tryd.func66, Tryd.ntmps66
      go_wp2
      go_ret
      exact ⟨congrArg (fun z => Ending.returned (Value.int .i32 z)) HW.out, rfl⟩
    · rw [runeZ_out (by simp; omega)]
      have hi : (s.size : Int) ≤ (k : Int) := by omega
      go_enter Tryd.func66, Tryd.ntmps66
      go_wp2
      go_ret
      exact ⟨rfl, rfl⟩

theorem isSmall_any (r : Int) (w : World) : Calls Tryd.prog 67 #[.int .i32 r] w fun e w' => e = .returned (.bool (smallZ r)) ∧ w' = w := by
  unfold smallZ
  by_cases h : 97 ≤ r
  · go_enter Tryd.func67, Tryd.ntmps67
    go_wp2
    go_ret
    exact ⟨by simp [h], rfl⟩
  · go_enter Tryd.func67, Tryd.ntmps67
    go_wp2
    go_ret
    exact ⟨by simp; omega, rfl⟩
theorem isGreat_any (r : Int) (w : World) : Calls Tryd.prog 71 #[.int .i32 r] w fun e w' => e = .returned (.bool (greatZ r)) ∧ w' = w := by
  unfold greatZ
  by_cases h : 65 ≤ r
  · go_enter Tryd.func71, Tryd.ntmps71
    go_wp2
    go_ret
    exact ⟨by simp [h], rfl⟩
  · go_enter Tryd.func71, Tryd.ntmps71
    go_wp2
    go_ret
    exact ⟨by simp; omega, rfl⟩
theorem isDigit_any (r : Int) (w : World) : Calls Tryd.prog 72 #[.int .i32 r] w fun e w' => e = .returned (.bool (digitZ r)) ∧ w' = w := by
  unfold digitZ
  by_cases h : 48 ≤ r
  · go_enter Tryd.func72, Tryd.ntmps72
    go_wp2
    go_ret
    exact ⟨by simp [h], rfl⟩
  · go_enter Tryd.func72, Tryd.ntmps72
    go_wp2
    go_ret
    exact ⟨by simp; omega, rfl⟩
theorem isPlain_any (r : Int) (w : World) : Calls Tryd.prog 74 #[.int .i32 r] w fun e w' => e = .returned (.bool (plainZ r)) ∧ w' = w := by
  unfold plainZ
  by_cases h : 32 ≤ r
  · go_enter Tryd.func74, Tryd.ntmps74
    go_wp2
    go_ret
    exact ⟨by simp [h], rfl⟩
  · go_enter Tryd.func74, Tryd.ntmps74
    go_wp2
    go_ret
    exact ⟨by simp; omega, rfl⟩
set_option maxRecDepth 100000 in
theorem inWord_any (r : Int) (w : World) : Calls Tryd.prog 69 #[.int .i32 r] w fun e w' => e = .returned (.bool (wordZ r)) ∧ w' = w := by
  unfold wordZ
  have k1 := isSmall_any r
  have k2 := isGreat_any r
  have k3 := isDigit_any r
  generalize smallZ r = x1 at *
  generalize greatZ r = x2 at *
  generalize digitZ r = x3 at *
  cases x1 <;> cases x2 <;> cases x3
  all_goals
    go_enter Tryd.func69, Tryd.ntmps69
    go_wp2_with (first
      | (go_at_call 67; refine (k1 _).mono ?_; rintro e w' ⟨rfl, rfl⟩)
      | (go_at_call 71; refine (k2 _).mono ?_; rintro e w' ⟨rfl, rfl⟩)
      | (go_at_call 72; refine (k3 _).mono ?_; rintro e w' ⟨rfl, rfl⟩))
    go_ret
    exact ⟨by first | rfl | (simp; done), rfl⟩
end Go.Proofs.YtmbjghhicbbgmaaDoor
