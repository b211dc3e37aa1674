/- Bare: the code's and the document's; writeQuoted, Quote. -/
import Derived.Test.YtiobhadchakoiaaGreatDoorPE
namespace Go.Proofs.YtiobhadchakoiaaGreatDoor
open Go.RowKit Go.Maps

/-- Is a constant bare? -/
def bareB (l : List UInt8) : Bool := nameB l || numB l
theorem Bare_any (s : ByteArray) (w : World) (hT : Tabs w) : Calls Tryz.prog 75 #[.string s] w fun e w' => e = .returned (.bool (bareB s.data.toList)) ∧ w' = w := by
  have h1 := Name_any s w hT
  have h2 := Number_any s w hT
  unfold bareB
  generalize nameB s.data.toList = x at *
  generalize numB s.data.toList = y at *
  clear hT
  cases x
  · go_enter Tryz.func75, Tryz.ntmps75
    go_wp2_with (first
      | (go_at_call 60; refine h1.mono ?_; rintro e w' ⟨rfl, hw'⟩; have hw2 := hw'.symm; subst hw2)
      | (go_at_call 83; refine h2.mono ?_; rintro e w' ⟨rfl, hw'⟩; have hw2 := hw'.symm; subst hw2))
    go_ret
    exact ⟨rfl, rfl⟩
  · go_enter Tryz.func75, Tryz.ntmps75
    go_wp2_with (first
      | (go_at_call 60; refine h1.mono ?_; rintro e w' ⟨rfl, hw'⟩; have hw2 := hw'.symm; subst hw2))
    go_ret
    exact ⟨rfl, rfl⟩

theorem nameB_len {l : List UInt8} (h : nameB l = true) : 1 ≤ l.length ∧ l.length ≤ 64 := by
  unfold nameB allB at h
  simp at h
  omega
set_option maxRecDepth 100000 in
set_option maxHeartbeats 1000000 in
theorem y_Bare (s : ByteArray) (w : World) : Calls Tryz.prog 58 #[.string s] w fun e w' => e = .returned (.bool (bareB s.data.toList)) ∧ w' = w := by
  have hnm := y_Name s
  obtain ⟨L, hL⟩ : ∃ L, s.data.toList = L := ⟨_, rfl⟩
  have hlen : L.length = s.size := by rw [← hL]; simp
  rw [hL] at hnm ⊢
  have HL : Hid (s.data.toList = L ∧ L.length = s.size) := ⟨hL, hlen⟩
  clear hL
  by_cases hn : s.size < 1 ∨ 64 < s.size
  · have HE : Hid (bareB L = false) := by
      show bareB L = false
      unfold bareB nameB numB allB
      rcases hn with h | h
      · simp [show ¬ 1 ≤ L.length by omega]
      · simp [show ¬ L.length ≤ 64 by omega]
    clear hlen
    by_cases h0 : s.size < 1
    · have h0i : (s.size : Int) < 1 := by omega
      clear hn
      go_enter Tryz.func58, Tryz.ntmps58
      go_wp2
      go_ret
      exact ⟨by rw [HE.out]; rfl, rfl⟩
    · have h64i : (64 : Int) < (s.size : Int) := by omega
      have h0i : ¬ (s.size : Int) < 1 := by omega
      clear hn
      go_enter Tryz.func58, Tryz.ntmps58
      go_wp2
      go_ret
      exact ⟨by rw [HE.out]; rfl, rfl⟩
  · have h0i : ¬ (s.size : Int) < 1 := by omega
    have h64i : ¬ (64 : Int) < (s.size : Int) := by omega
    have HS : Hid (1 ≤ s.size ∧ s.size ≤ 64) := ⟨by omega, by omega⟩
    clear hn hlen
    go_enter Tryz.func58, Tryz.ntmps58
    go_wp2
    go_loopw [3] (fun i wr => wr = w ∧ ∃ k : Nat, k ≤ s.size ∧ i = .int .i64 (k : Int) ∧ (L.take k).all (fun b => digitZ (b.toNat : Int)) = true) (fun i _ => s.size - (intOf i).toNat)
    case atStart => exact ⟨rfl, 0, Nat.zero_le _, rfl, by simp⟩
    case round =>
      obtain ⟨rfl, k, hk, rfl, ha⟩ := hrel
      by_cases hlt : k < s.size
      · have hkL : k < L.length := by rw [HL.out.2]; exact hlt
        have e1 : L[k] = s[k] := by
          have e0 : s.data.toList[k]'(by rw [HL.out.1]; exact hkL) = s[k] := rfl
          rw [← e0]
          congr 1
          exact HL.out.1.symm
        have hki : (k : Int) < (s.size : Int) := by omega
        have HE : Hid ((L.take (k + 1)).all (fun b => digitZ (b.toNat : Int)) = digitZ (s[k].toNat : Int) ∧ (digitZ (s[k].toNat : Int) = false → bareB L = nameB L)) := by
          constructor
          · rw [List.take_succ_eq_append_getElem hkL, List.all_append, ha, e1]; simp
          · intro hz
            unfold bareB numB allB
            rw [show L.all (fun b => digitZ (b.toNat : Int)) = false from by
              rw [List.all_eq_false]
              exact ⟨L[k], List.getElem_mem hkL, by rw [e1, hz]; simp⟩]
            simp
        clear ha e1
        generalize nameB L = nb at hnm HE
        generalize hz : s[k].toNat = z at HE
        by_cases h48 : (z : Int) < 48
        · have HD : Hid (digitZ (z : Int) = false) := by show digitZ (z : Int) = false; unfold digitZ; simp; omega
          go_wp2_with (go_at_call 55; refine (hnm _).mono ?_; rintro e w' ⟨rfl, rfl⟩)
          go_ret
          exact ⟨by rw [HE.out.2 HD.out]; first | done | rfl, rfl⟩
        · by_cases h57 : (57 : Int) < (z : Int)
          · have HD : Hid (digitZ (z : Int) = false) := by show digitZ (z : Int) = false; unfold digitZ; simp; omega
            go_wp2_with (go_at_call 55; refine (hnm _).mono ?_; rintro e w' ⟨rfl, rfl⟩)
            go_ret
            exact ⟨by rw [HE.out.2 HD.out]; first | done | rfl, rfl⟩
          · have HD : Hid (digitZ (z : Int) = true) := by show digitZ (z : Int) = true; unfold digitZ; simp; omega
            go_wp2_with fail
            go_roundw
            case rel => exact ⟨by trivial, k + 1, by omega, by simp, by rw [HE.out.1, HD.out]⟩
            case measure => simp [intOf]; omega
      · obtain rfl : k = s.size := by omega
        have HE : Hid (bareB L = true) := by
          show bareB L = true
          unfold bareB numB allB
          rw [← HL.out.2, List.take_length] at ha
          rw [ha, HL.out.2]; simp [HS.out.1, HS.out.2]
        clear ha
        go_wp2
        go_ret
        exact ⟨by rw [HE.out]; rfl, rfl⟩
end Go.Proofs.YtiobhadchakoiaaGreatDoor
