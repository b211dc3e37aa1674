/- The document's words (layer 8): small, great, digit, goes, Reserved, word, Name, Variable. -/
import Derived.Test.YtiobhadchakoiaaGreatDoorPC
namespace Go.Proofs.YtiobhadchakoiaaGreatDoor
open Go.RowKit Go.Maps

theorem y_small (c : UInt8) (w : World) : Calls Tryz.prog 76 #[.int .u8 (c.toNat : Int)] w fun e w' => e = .returned (.bool (smallZ (c.toNat : Int))) ∧ w' = w := by
  unfold smallZ
  generalize (c.toNat : Int) = r
  by_cases h : 97 ≤ r
  · go_enter Tryz.func76, Tryz.ntmps76
    go_wp2
    go_ret
    exact ⟨by simp [h], rfl⟩
  · go_enter Tryz.func76, Tryz.ntmps76
    go_wp2
    go_ret
    exact ⟨by simp; omega, rfl⟩
theorem y_great (c : UInt8) (w : World) : Calls Tryz.prog 77 #[.int .u8 (c.toNat : Int)] w fun e w' => e = .returned (.bool (greatZ (c.toNat : Int))) ∧ w' = w := by
  unfold greatZ
  generalize (c.toNat : Int) = r
  by_cases h : 65 ≤ r
  · go_enter Tryz.func77, Tryz.ntmps77
    go_wp2
    go_ret
    exact ⟨by simp [h], rfl⟩
  · go_enter Tryz.func77, Tryz.ntmps77
    go_wp2
    go_ret
    exact ⟨by simp; omega, rfl⟩
theorem y_digit (c : UInt8) (w : World) : Calls Tryz.prog 84 #[.int .u8 (c.toNat : Int)] w fun e w' => e = .returned (.bool (digitZ (c.toNat : Int))) ∧ w' = w := by
  unfold digitZ
  generalize (c.toNat : Int) = r
  by_cases h : 48 ≤ r
  · go_enter Tryz.func84, Tryz.ntmps84
    go_wp2
    go_ret
    exact ⟨by simp [h], rfl⟩
  · go_enter Tryz.func84, Tryz.ntmps84
    go_wp2
    go_ret
    exact ⟨by simp; omega, rfl⟩
set_option maxRecDepth 100000 in
theorem y_letter (c : UInt8) (w : World) : Calls Tryz.prog 78 #[.int .u8 (c.toNat : Int)] w fun e w' => e = .returned (.bool (wordZ (c.toNat : Int))) ∧ w' = w := by
  unfold wordZ
  have k1 := y_small c
  have k2 := y_great c
  have k3 := y_digit c
  generalize (c.toNat : Int) = r at *
  generalize smallZ r = x1 at *
  generalize greatZ r = x2 at *
  generalize digitZ r = x3 at *
  cases x1 <;> cases x2 <;> cases x3
  all_goals
    go_enter Tryz.func78, Tryz.ntmps78
    go_wp2_with (first
      | (go_at_call 76; refine (k1 _).mono ?_; rintro e w' ⟨rfl, rfl⟩)
      | (go_at_call 77; refine (k2 _).mono ?_; rintro e w' ⟨rfl, rfl⟩)
      | (go_at_call 84; refine (k3 _).mono ?_; rintro e w' ⟨rfl, rfl⟩))
    go_ret
    exact ⟨by first | rfl | (simp; done), rfl⟩
set_option maxRecDepth 100000 in
theorem y_Reserved (s : ByteArray) (w : World) : Calls Tryz.prog 68 #[.string s] w fun e w' => e = .returned (.bool (resB s.data.toList)) ∧ w' = w := by
  obtain ⟨L, hL⟩ : ∃ L, s.data.toList = L := ⟨_, rfl⟩
  rw [hL]
  unfold resB resK
  by_cases h1 : L = bInput
  · have t1 := toList_yes (hL.trans h1)
    rw [if_pos h1]
    unfold bInput at t1
    clear h1 hL
    go_enter Tryz.func68, Tryz.ntmps68
    go_wp2
    go_ret
    exact ⟨rfl, rfl⟩
  · have t1 := toList_ne hL h1
    rw [if_neg h1]
    unfold bInput at t1
    by_cases h2 : L = bOutput
    · have t2 := toList_yes (hL.trans h2)
      rw [if_pos h2]
      unfold bOutput at t2
      clear h1 h2 hL
      go_enter Tryz.func68, Tryz.ntmps68
      go_wp2
      go_ret
      exact ⟨rfl, rfl⟩
    · have t2 := toList_ne hL h2
      rw [if_neg h2]
      unfold bOutput at t2
      by_cases h3 : L = bNot
      · have t3 := toList_yes (hL.trans h3)
        rw [if_pos h3]
        unfold bNot at t3
        clear h1 h2 h3 hL
        go_enter Tryz.func68, Tryz.ntmps68
        go_wp2
        go_ret
        exact ⟨rfl, rfl⟩
      · have t3 := toList_ne hL h3
        rw [if_neg h3]
        unfold bNot at t3
        clear h1 h2 h3 hL
        go_enter Tryz.func68, Tryz.ntmps68
        go_wp2
        go_ret
        exact ⟨rfl, rfl⟩
theorem allB_pos {p : Int → Bool} {l : List UInt8} (h : allB p l = true) : 1 ≤ l.length := by
  unfold allB at h
  simp at h
  omega
theorem first_word {s : ByteArray} {L : List UInt8} (hL : s.data.toList = L) (h : 0 < s.size) (hw : wordZ (s[0].toNat : Int) = true) : (L.take 1).all (fun b => wordZ (b.toNat : Int)) = true := by
  have e0 : s.data.toList[0]'(by simpa using h) = s[0] := rfl
  subst hL
  rw [List.take_one]
  rw [List.head?_eq_getElem?, List.getElem?_eq_getElem (by simpa using h), e0]
  simp [hw]
theorem rune_first (s : ByteArray) (h : 0 < s.size) : runeZ s.data.toList 0 = (s[0].toNat : Int) := by
  rw [show (0 : Int) = ((0 : Nat) : Int) from rfl, runeZ_in (by simpa using h)]; rfl


set_option maxRecDepth 100000 in
set_option maxHeartbeats 1000000 in
theorem y_wordS (s : ByteArray) (w : World) : Calls Tryz.prog 67 #[.string s, .bool true] w fun e w' => e = .returned (.bool (allB wordZ s.data.toList && smallZ (runeZ s.data.toList 0))) ∧ w' = w := by
  obtain ⟨L, hL⟩ : ∃ L, s.data.toList = L := ⟨_, rfl⟩
  have hlen : L.length = s.size := by rw [← hL]; simp
  have hr0 : ∀ h : 0 < s.size, runeZ L 0 = (s[0].toNat : Int) := fun h => by rw [← hL]; exact rune_first s h
  rw [hL]
  have HL : Hid (s.data.toList = L ∧ L.length = s.size) := ⟨hL, hlen⟩
  clear hL
  by_cases h0 : s.size < 1
  · have h0i : (s.size : Int) < 1 := by omega
    have HE : Hid (allB wordZ L = false) := by
      show allB wordZ L = false
      unfold allB; simp; omega
    clear hlen hr0
    go_enter Tryz.func67, Tryz.ntmps67
    go_wp2
    go_ret
    exact ⟨by rw [HE.out]; rfl, rfl⟩
  by_cases h64 : 64 < s.size
  · have h64i : (64 : Int) < (s.size : Int) := by omega
    have h0i : ¬ (s.size : Int) < 1 := by omega
    have HE : Hid (allB wordZ L = false) := by
      show allB wordZ L = false
      unfold allB; simp; omega
    clear hlen hr0
    go_enter Tryz.func67, Tryz.ntmps67
    go_wp2
    go_ret
    exact ⟨by rw [HE.out]; rfl, rfl⟩
  have hpos : 0 < s.size := by omega
  rw [hr0 hpos]
  have HN : Hid (L.length = s.size) := hlen
  have hb := y_small s[0]
  have HF : Hid (smallZ (s[0].toNat : Int) = true → (L.take 1).all (fun b => wordZ (b.toNat : Int)) = true) := fun h => first_word HL.out.1 hpos (by unfold wordZ; rw [h]; rfl)
  generalize smallZ (s[0].toNat : Int) = q at *
  have h0i : ¬ (s.size : Int) < 1 := by omega
  have h64i : ¬ (64 : Int) < (s.size : Int) := by omega
  have hpi : (0 : Int) < (s.size : Int) := by omega
  have h1s : 1 ≤ s.size := by omega
  clear hr0 hlen
  cases q
  · go_enter Tryz.func67, Tryz.ntmps67
    go_wp2_with (go_at_call 76; refine (hb _).mono ?_; rintro e w' ⟨rfl, rfl⟩)
    go_ret
    exact ⟨by simp, rfl⟩
  · go_enter Tryz.func67, Tryz.ntmps67
    go_wp2_with (go_at_call 76; refine (hb _).mono ?_; rintro e w' ⟨rfl, hw'⟩; have hw2 := hw'.symm; subst hw2)
    go_loopw [5] (fun i wr => wr = w ∧ ∃ k : Nat, 1 ≤ k ∧ k ≤ s.size ∧ i = .int .i64 (k : Int) ∧ (L.take k).all (fun b => wordZ (b.toNat : Int)) = true) (fun i _ => s.size - (intOf i).toNat)
    case atStart => exact ⟨rfl, 1, Nat.le_refl _, h1s, rfl, HF.out (by trivial)⟩
    case round =>
      obtain ⟨rfl, k, hk1, hk, rfl, ha⟩ := hrel
      by_cases hlt : k < s.size
      · have hkL : k < L.length := by rw [HL.out.2]; exact hlt
        have e1 : L[k] = s[k] := by
          have e0 : s.data.toList[k]'(by rw [HL.out.1]; exact hkL) = s[k] := rfl
          rw [← e0]
          congr 1
          exact HL.out.1.symm
        have hc := y_letter s[k]
        have hki : (k : Int) < (s.size : Int) := by omega
        have HE : Hid ((L.take (k + 1)).all (fun b => wordZ (b.toNat : Int)) = wordZ (s[k].toNat : Int) ∧ (wordZ (s[k].toNat : Int) = false → allB wordZ L = false)) := by
          constructor
          · rw [List.take_succ_eq_append_getElem hkL, List.all_append, ha, e1]; simp
          · intro hz
            unfold allB
            rw [show L.all (fun b => wordZ (b.toNat : Int)) = false from by
              rw [List.all_eq_false]
              exact ⟨L[k], List.getElem_mem hkL, by rw [e1, hz]; simp⟩]
            rfl
        clear ha e1
        generalize wordZ (s[k].toNat : Int) = q at hc HE
        cases q
        · go_wp2_with (go_at_call 78; refine (hc _).mono ?_; rintro e w' ⟨rfl, rfl⟩)
          go_ret
          exact ⟨by rw [HE.out.2 (by trivial)]; rfl, rfl⟩
        · go_wp2_with (go_at_call 78; refine (hc _).mono ?_; rintro e w' ⟨rfl, rfl⟩)
          go_roundw
          case rel => exact ⟨by trivial, k + 1, by omega, by omega, by simp, HE.out.1⟩
          case measure => simp [intOf]; omega
      · obtain rfl : k = s.size := by omega
        have HE : Hid (allB wordZ L = true) := by
          show allB wordZ L = true
          unfold allB
          rw [← HL.out.2, List.take_length] at ha
          rw [ha, HL.out.2]; simp; omega
        clear ha
        go_wp2
        go_ret
        exact ⟨by rw [HE.out]; rfl, rfl⟩

set_option maxRecDepth 100000 in
set_option maxHeartbeats 1000000 in
theorem y_wordG (s : ByteArray) (w : World) : Calls Tryz.prog 67 #[.string s, .bool false] w fun e w' => e = .returned (.bool (allB wordZ s.data.toList && greatZ (runeZ s.data.toList 0))) ∧ w' = w := by
  obtain ⟨L, hL⟩ : ∃ L, s.data.toList = L := ⟨_, rfl⟩
  have hlen : L.length = s.size := by rw [← hL]; simp
  have hr0 : ∀ h : 0 < s.size, runeZ L 0 = (s[0].toNat : Int) := fun h => by rw [← hL]; exact rune_first s h
  rw [hL]
  have HL : Hid (s.data.toList = L ∧ L.length = s.size) := ⟨hL, hlen⟩
  clear hL
  by_cases h0 : s.size < 1
  · have h0i : (s.size : Int) < 1 := by omega
    have HE : Hid (allB wordZ L = false) := by
      show allB wordZ L = false
      unfold allB; simp; omega
    clear hlen hr0
    go_enter Tryz.func67, Tryz.ntmps67
    go_wp2
    go_ret
    exact ⟨by rw [HE.out]; rfl, rfl⟩
  by_cases h64 : 64 < s.size
  · have h64i : (64 : Int) < (s.size : Int) := by omega
    have h0i : ¬ (s.size : Int) < 1 := by omega
    have HE : Hid (allB wordZ L = false) := by
      show allB wordZ L = false
      unfold allB; simp; omega
    clear hlen hr0
    go_enter Tryz.func67, Tryz.ntmps67
    go_wp2
    go_ret
    exact ⟨by rw [HE.out]; rfl, rfl⟩
  have hpos : 0 < s.size := by omega
  rw [hr0 hpos]
  have HN : Hid (L.length = s.size) := hlen
  have hb := y_great s[0]
  have HF : Hid (greatZ (s[0].toNat : Int) = true → (L.take 1).all (fun b => wordZ (b.toNat : Int)) = true) := fun h => first_word HL.out.1 hpos (by unfold wordZ; rw [h]; simp)
  generalize greatZ (s[0].toNat : Int) = q at *
  have h0i : ¬ (s.size : Int) < 1 := by omega
  have h64i : ¬ (64 : Int) < (s.size : Int) := by omega
  have hpi : (0 : Int) < (s.size : Int) := by omega
  have h1s : 1 ≤ s.size := by omega
  clear hr0 hlen
  cases q
  · go_enter Tryz.func67, Tryz.ntmps67
    go_wp2_with (go_at_call 77; refine (hb _).mono ?_; rintro e w' ⟨rfl, rfl⟩)
    go_ret
    exact ⟨by simp, rfl⟩
  · go_enter Tryz.func67, Tryz.ntmps67
    go_wp2_with (go_at_call 77; refine (hb _).mono ?_; rintro e w' ⟨rfl, hw'⟩; have hw2 := hw'.symm; subst hw2)
    go_loopw [5] (fun i wr => wr = w ∧ ∃ k : Nat, 1 ≤ k ∧ k ≤ s.size ∧ i = .int .i64 (k : Int) ∧ (L.take k).all (fun b => wordZ (b.toNat : Int)) = true) (fun i _ => s.size - (intOf i).toNat)
    case atStart => exact ⟨rfl, 1, Nat.le_refl _, h1s, rfl, HF.out (by trivial)⟩
    case round =>
      obtain ⟨rfl, k, hk1, hk, rfl, ha⟩ := hrel
      by_cases hlt : k < s.size
      · have hkL : k < L.length := by rw [HL.out.2]; exact hlt
        have e1 : L[k] = s[k] := by
          have e0 : s.data.toList[k]'(by rw [HL.out.1]; exact hkL) = s[k] := rfl
          rw [← e0]
          congr 1
          exact HL.out.1.symm
        have hc := y_letter s[k]
        have hki : (k : Int) < (s.size : Int) := by omega
        have HE : Hid ((L.take (k + 1)).all (fun b => wordZ (b.toNat : Int)) = wordZ (s[k].toNat : Int) ∧ (wordZ (s[k].toNat : Int) = false → allB wordZ L = false)) := by
          constructor
          · rw [List.take_succ_eq_append_getElem hkL, List.all_append, ha, e1]; simp
          · intro hz
            unfold allB
            rw [show L.all (fun b => wordZ (b.toNat : Int)) = false from by
              rw [List.all_eq_false]
              exact ⟨L[k], List.getElem_mem hkL, by rw [e1, hz]; simp⟩]
            rfl
        clear ha e1
        generalize wordZ (s[k].toNat : Int) = q at hc HE
        cases q
        · go_wp2_with (go_at_call 78; refine (hc _).mono ?_; rintro e w' ⟨rfl, rfl⟩)
          go_ret
          exact ⟨by rw [HE.out.2 (by trivial)]; rfl, rfl⟩
        · go_wp2_with (go_at_call 78; refine (hc _).mono ?_; rintro e w' ⟨rfl, rfl⟩)
          go_roundw
          case rel => exact ⟨by trivial, k + 1, by omega, by omega, by simp, HE.out.1⟩
          case measure => simp [intOf]; omega
      · obtain rfl : k = s.size := by omega
        have HE : Hid (allB wordZ L = true) := by
          show allB wordZ L = true
          unfold allB
          rw [← HL.out.2, List.take_length] at ha
          rw [ha, HL.out.2]; simp; omega
        clear ha
        go_wp2
        go_ret
        exact ⟨by rw [HE.out]; rfl, rfl⟩
theorem y_Variable (s : ByteArray) (w : World) : Calls Tryz.prog 79 #[.string s] w fun e w' => e = .returned (.bool (varB s.data.toList)) ∧ w' = w := by
  have hw := y_wordG s w
  unfold varB
  generalize (allB wordZ s.data.toList && greatZ (runeZ s.data.toList 0)) = q at *
  go_enter Tryz.func79, Tryz.ntmps79
  go_wp2_with (go_at_call 67; refine hw.mono ?_; rintro e w' ⟨rfl, rfl⟩)
  go_ret
  exact ⟨rfl, rfl⟩
theorem y_Name (s : ByteArray) (w : World) : Calls Tryz.prog 55 #[.string s] w fun e w' => e = .returned (.bool (nameB s.data.toList)) ∧ w' = w := by
  have hw := y_wordS s w
  have hr := fun W => y_Reserved s W
  have hrb : decide (resK s.data.toList = 0) = !resB s.data.toList := by unfold resB; simp
  unfold nameB
  rw [hrb]
  clear hrb
  generalize (allB wordZ s.data.toList && smallZ (runeZ s.data.toList 0)) = q at *
  generalize resB s.data.toList = p at *
  cases q
  · go_enter Tryz.func55, Tryz.ntmps55
    go_wp2_with (go_at_call 67; refine hw.mono ?_; rintro e w' ⟨rfl, rfl⟩)
    go_ret
    exact ⟨rfl, rfl⟩
  · go_enter Tryz.func55, Tryz.ntmps55
    go_wp2_with (first
      | (go_at_call 67; refine hw.mono ?_; rintro e w' ⟨rfl, rfl⟩)
      | (go_at_call 68; refine (hr _).mono ?_; rintro e w' ⟨rfl, rfl⟩))
    go_ret
    exact ⟨by first | rfl | (simp; done), rfl⟩
end Go.Proofs.YtiobhadchakoiaaGreatDoor
