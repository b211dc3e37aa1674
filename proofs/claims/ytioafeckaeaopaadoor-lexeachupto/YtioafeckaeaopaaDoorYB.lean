/- The code's and the document's answers on what a text is. -/
import Derived.Test.YtioafeckaeaopaaDoorYA
namespace Go.Proofs.YtioafeckaeaopaaDoor
open Go.RowKit Go.Maps

theorem y_small (c : UInt8) (w : World) : Calls Tryd.prog 36 #[.int .u8 (c.toNat : Int)] w fun e w' => e = .returned (.bool (smallZ (c.toNat : Int))) ∧ w' = w := by
  unfold smallZ
  generalize (c.toNat : Int) = r
  by_cases h : 97 ≤ r
  · go_enter Tryd.func36, Tryd.ntmps36
    go_wp2
    go_ret
    exact ⟨by simp [h], rfl⟩
  · go_enter Tryd.func36, Tryd.ntmps36
    go_wp2
    go_ret
    exact ⟨by simp; omega, rfl⟩
theorem y_great (c : UInt8) (w : World) : Calls Tryd.prog 38 #[.int .u8 (c.toNat : Int)] w fun e w' => e = .returned (.bool (greatZ (c.toNat : Int))) ∧ w' = w := by
  unfold greatZ
  generalize (c.toNat : Int) = r
  by_cases h : 65 ≤ r
  · go_enter Tryd.func38, Tryd.ntmps38
    go_wp2
    go_ret
    exact ⟨by simp [h], rfl⟩
  · go_enter Tryd.func38, Tryd.ntmps38
    go_wp2
    go_ret
    exact ⟨by simp; omega, rfl⟩
theorem y_digit (c : UInt8) (w : World) : Calls Tryd.prog 39 #[.int .u8 (c.toNat : Int)] w fun e w' => e = .returned (.bool (digitZ (c.toNat : Int))) ∧ w' = w := by
  unfold digitZ
  generalize (c.toNat : Int) = r
  by_cases h : 48 ≤ r
  · go_enter Tryd.func39, Tryd.ntmps39
    go_wp2
    go_ret
    exact ⟨by simp [h], rfl⟩
  · go_enter Tryd.func39, Tryd.ntmps39
    go_wp2
    go_ret
    exact ⟨by simp; omega, rfl⟩
set_option maxRecDepth 100000 in
theorem y_letter (c : UInt8) (w : World) : Calls Tryd.prog 51 #[.int .u8 (c.toNat : Int)] w fun e w' => e = .returned (.bool (wordZ (c.toNat : Int))) ∧ w' = w := by
  unfold wordZ
  have k1 := y_small c
  have k2 := y_great c
  have k3 := y_digit c
  generalize (c.toNat : Int) = r at *
  generalize smallZ r = x1 at *
  generalize greatZ r = x2 at *
  generalize digitZ r = x3 at *
  cases x1 <;> cases x2 <;> cases x3
  all_goals
    go_enter Tryd.func51, Tryd.ntmps51
    go_wp2_with (first
      | (go_at_call 36; refine (k1 _).mono ?_; rintro e w' ⟨rfl, rfl⟩)
      | (go_at_call 38; refine (k2 _).mono ?_; rintro e w' ⟨rfl, rfl⟩)
      | (go_at_call 39; refine (k3 _).mono ?_; rintro e w' ⟨rfl, rfl⟩))
    go_ret
    exact ⟨by first | rfl | (simp; done), rfl⟩
set_option maxRecDepth 100000 in
set_option maxHeartbeats 1000000 in
theorem y_written (s : ByteArray) (w : World) (hs : s.size ≤ 140737488355328) : Calls Tryd.prog 35 #[.string s] w fun e w' => e = .returned (.bool (allB wordZ s.data.toList)) ∧ w' = w := by
  obtain ⟨L, hL⟩ : ∃ L, s.data.toList = L := ⟨_, rfl⟩
  have hlen : L.length = s.size := by rw [← hL]; simp
  rw [hL]
  have HL : Hid (s.data.toList = L ∧ L.length = s.size) := ⟨hL, hlen⟩
  clear hL hlen
  go_enter Tryd.func35, Tryd.ntmps35
  go_wp2
  go_loopw [3] (fun i wr => wr = w ∧ ∃ k : Nat, k ≤ s.size ∧ i = .int .i64 (k : Int) ∧ (L.take k).all (fun b => wordZ (b.toNat : Int)) = true) (fun i _ => s.size - (intOf i).toNat)
  case atStart => exact ⟨rfl, 0, Nat.zero_le _, rfl, by simp⟩
  case round =>
    obtain ⟨rfl, k, hk, rfl, ha⟩ := hrel
    by_cases hlt : k < s.size
    · have hkL : k < L.length := by rw [HL.out.2]; exact hlt
      have e1 : L[k] = s[k] := by
        have e0 : s.data.toList[k]'(by rw [HL.out.1]; exact hkL) = s[k] := rfl
        rw [← e0]
        congr 1
        exact HL.out.1.symm
      have hc := y_letter s[k]
      have hki : (k : Int) < (s.size : Int) := by omega
      have HE : Hid ((L.take (k + 1)).all (fun b => wordZ (b.toNat : Int)) = wordZ (s[k].toNat : Int) ∧ (wordZ (s[k].toNat : Int) = false → allB wordZ L = false)) := by
        constructor
        · rw [List.take_succ_eq_append_getElem hkL, List.all_append, ha, e1]; simp
        · intro hz
          unfold allB
          rw [show L.all (fun b => wordZ (b.toNat : Int)) = false from by
            rw [List.all_eq_false]
            exact ⟨L[k], List.getElem_mem hkL, by rw [e1, hz]; simp⟩]
          rfl
      clear ha e1
      generalize wordZ (s[k].toNat : Int) = q at hc HE
      cases q
      · go_wp2_with (go_at_call 51; refine (hc _).mono ?_; rintro e w' ⟨rfl, rfl⟩)
        go_ret
        exact ⟨by rw [HE.out.2 (by trivial)]; rfl, rfl⟩
      · go_wp2_with (go_at_call 51; refine (hc _).mono ?_; rintro e w' ⟨rfl, rfl⟩)
        go_roundw
        case rel => exact ⟨by trivial, k + 1, by omega, by simp, HE.out.1⟩
        case measure => simp [intOf]; omega
    · obtain rfl : k = s.size := by omega
      have HE : Hid (allB wordZ L = (decide (1 ≤ s.size) && decide (s.size ≤ 64))) := by
        show allB wordZ L = _
        unfold allB
        rw [← HL.out.2, List.take_length] at ha
        rw [ha, HL.out.2]; rfl
      clear ha
      by_cases h1 : 1 ≤ s.size
      · have h1i : (1 : Int) ≤ (s.size : Int) := by omega
        go_wp2
        go_ret
        refine ⟨?_, rfl⟩
        rw [HE.out]
        simp [h1]
        try omega
      · have h1i : ¬ (1 : Int) ≤ (s.size : Int) := by omega
        go_wp2
        go_ret
        refine ⟨?_, rfl⟩
        rw [HE.out]
        simp [h1]
        try omega
set_option maxRecDepth 100000 in
set_option maxHeartbeats 1000000 in
theorem y_Number (s : ByteArray) (w : World) (hs : s.size ≤ 140737488355328) : Calls Tryd.prog 22 #[.string s] w fun e w' => e = .returned (.bool (allB digitZ s.data.toList)) ∧ w' = w := by
  obtain ⟨L, hL⟩ : ∃ L, s.data.toList = L := ⟨_, rfl⟩
  have hlen : L.length = s.size := by rw [← hL]; simp
  rw [hL]
  have HL : Hid (s.data.toList = L ∧ L.length = s.size) := ⟨hL, hlen⟩
  clear hL hlen
  go_enter Tryd.func22, Tryd.ntmps22
  go_wp2
  go_loopw [3] (fun i wr => wr = w ∧ ∃ k : Nat, k ≤ s.size ∧ i = .int .i64 (k : Int) ∧ (L.take k).all (fun b => digitZ (b.toNat : Int)) = true) (fun i _ => s.size - (intOf i).toNat)
  case atStart => exact ⟨rfl, 0, Nat.zero_le _, rfl, by simp⟩
  case round =>
    obtain ⟨rfl, k, hk, rfl, ha⟩ := hrel
    by_cases hlt : k < s.size
    · have hkL : k < L.length := by rw [HL.out.2]; exact hlt
      have e1 : L[k] = s[k] := by
        have e0 : s.data.toList[k]'(by rw [HL.out.1]; exact hkL) = s[k] := rfl
        rw [← e0]
        congr 1
        exact HL.out.1.symm
      have hc := y_digit s[k]
      have hki : (k : Int) < (s.size : Int) := by omega
      have HE : Hid ((L.take (k + 1)).all (fun b => digitZ (b.toNat : Int)) = digitZ (s[k].toNat : Int) ∧ (digitZ (s[k].toNat : Int) = false → allB digitZ L = false)) := by
        constructor
        · rw [List.take_succ_eq_append_getElem hkL, List.all_append, ha, e1]; simp
        · intro hz
          unfold allB
          rw [show L.all (fun b => digitZ (b.toNat : Int)) = false from by
            rw [List.all_eq_false]
            exact ⟨L[k], List.getElem_mem hkL, by rw [e1, hz]; simp⟩]
          rfl
      clear ha e1
      generalize digitZ (s[k].toNat : Int) = q at hc HE
      cases q
      · go_wp2_with (go_at_call 39; refine (hc _).mono ?_; rintro e w' ⟨rfl, rfl⟩)
        go_ret
        exact ⟨by rw [HE.out.2 (by trivial)]; rfl, rfl⟩
      · go_wp2_with (go_at_call 39; refine (hc _).mono ?_; rintro e w' ⟨rfl, rfl⟩)
        go_roundw
        case rel => exact ⟨by trivial, k + 1, by omega, by simp, HE.out.1⟩
        case measure => simp [intOf]; omega
    · obtain rfl : k = s.size := by omega
      have HE : Hid (allB digitZ L = (decide (1 ≤ s.size) && decide (s.size ≤ 64))) := by
        show allB digitZ L = _
        unfold allB
        rw [← HL.out.2, List.take_length] at ha
        rw [ha, HL.out.2]; rfl
      clear ha
      by_cases h1 : 1 ≤ s.size
      · have h1i : (1 : Int) ≤ (s.size : Int) := by omega
        go_wp2
        go_ret
        refine ⟨?_, rfl⟩
        rw [HE.out]
        simp [h1]
        try omega
      · have h1i : ¬ (1 : Int) ≤ (s.size : Int) := by omega
        go_wp2
        go_ret
        refine ⟨?_, rfl⟩
        rw [HE.out]
        simp [h1]
        try omega

end Go.Proofs.YtioafeckaeaopaaDoor
