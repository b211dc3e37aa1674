/- writeField, writeLine. -/
import Derived.Test.YtbbgembkdhcidaaFJ
namespace Go.Proofs.Ytbbgembkdhcidaa
open Go.RowKit Go.Maps

theorem data_at (s : ByteArray) (k : Nat) (h : k < s.size) : s.data.toList[k]'(by simpa using h) = s[k] := rfl
theorem data_len (s : ByteArray) : s.data.toList.length = s.size := by simp

set_option maxRecDepth 100000 in
set_option maxHeartbeats 4000000 in
theorem writeField_any {B b : Nat} {w : World} {bs : List UInt8} (h : Bld B b w bs) (s : ByteArray) (hlen : bs.length + s.size * 2 + 2 ≤ 140737488355328) (hBw : B ≤ w.heap.size) :
    Calls Try.prog 32 #[.pointer (some ⟨b, 0, none⟩), .string s] w fun e w' => e = .returned (.tuple #[]) ∧ Bld B b w' (bs ++ escL s.data.toList) ∧ Wk B b w w' := by
  have HL : Hid (∀ k, bs.length + (escL (s.data.toList.take k)).length + 2 ≤ 140737488355328) := fun k => by
    have h1 := escL_len (s.data.toList.take k)
    have h2 : (s.data.toList.take k).length ≤ s.size := by rw [List.length_take]; simp; omega
    omega
  have H0 : Hid (Bld B b w bs) := h
  have hsz : s.size ≤ 140737488355328 := by omega
  clear h hlen
  go_enter Try.func32, Try.ntmps32
  go_wp2_with fail
  go_loopw [8, 4, 5] (fun i _ _ wr => ∃ k : Nat, k ≤ s.size ∧ i = .int .i64 (k : Int) ∧ Bld B b wr (bs ++ escL (s.data.toList.take k)) ∧ Wk B b w wr) (fun i _ _ _ => s.size - (intOf i).toNat)
  case atStart => exact ⟨0, Nat.zero_le _, rfl, by simpa [escL] using H0.out, Wk.refl _ _ _⟩
  case round =>
    obtain ⟨k, hk, rfl, hBk, hwk⟩ := hrel
    have hBr : B ≤ wr.heap.size := Nat.le_trans hBw hwk.size
    have hcl : (bs ++ escL (s.data.toList.take k)).length + 2 ≤ 140737488355328 := by have := HL.out k; rw [List.length_append]; omega
    clear H0 HL
    by_cases hlt : k < s.size
    · have hki : (k : Int) < (s.size : Int) := by omega
      have HE : Hid (bs ++ escL (s.data.toList.take (k + 1)) = (bs ++ escL (s.data.toList.take k)) ++ escB s[k]) := by
        show _ = _
        rw [escL_take _ _ (by rw [data_len]; exact hlt), data_at _ _ hlt, List.append_assoc]
      have HW : Hid (Wk B b w wr) := hwk
      clear hwk
      generalize bs ++ escL (s.data.toList.take k) = cs at hBk HE hcl
      obtain ⟨c, hcc⟩ : ∃ c, s[k] = c := ⟨_, rfl⟩
      rw [hcc] at HE
      have hct : s[k].toNat = c.toNat := by rw [hcc]
      clear hcc
      by_cases h9 : c = 9
      · subst h9
        rw [show UInt8.toNat 9 = 9 from rfl] at hct
        have w1 := writeStringK hBk ⟨#[92, 116]⟩ (by show cs.length + 2 ≤ _; omega) hBr
        clear hBk
        go_wp2_with (go_at_call 51; refine w1.mono ?_; rintro e W1 ⟨rfl, hB1, hb1⟩)
        go_roundw
        case rel => exact ⟨k + 1, by omega, by simp, by rw [HE.out]; exact hB1, HW.out.trans hb1⟩
        case measure => simp [intOf]; omega
      have q9 := byte_ne h9
      rw [show ((UInt8.toNat 9 : Nat) : Int) = 9 from rfl] at q9
      by_cases h10 : c = 10
      · subst h10
        rw [show UInt8.toNat 10 = 10 from rfl] at hct
        have w1 := writeStringK hBk ⟨#[92, 110]⟩ (by show cs.length + 2 ≤ _; omega) hBr
        clear hBk q9 h9
        go_wp2_with (go_at_call 51; refine w1.mono ?_; rintro e W1 ⟨rfl, hB1, hb1⟩)
        go_roundw
        case rel => exact ⟨k + 1, by omega, by simp, by rw [HE.out]; exact hB1, HW.out.trans hb1⟩
        case measure => simp [intOf]; omega
      have q10 := byte_ne h10
      rw [show ((UInt8.toNat 10 : Nat) : Int) = 10 from rfl] at q10
      by_cases h92 : c = 92
      · subst h92
        rw [show UInt8.toNat 92 = 92 from rfl] at hct
        have w1 := writeStringK hBk ⟨#[92, 92]⟩ (by show cs.length + 2 ≤ _; omega) hBr
        clear hBk q9 h9 q10 h10
        go_wp2_with (go_at_call 51; refine w1.mono ?_; rintro e W1 ⟨rfl, hB1, hb1⟩)
        go_roundw
        case rel => exact ⟨k + 1, by omega, by simp, by rw [HE.out]; exact hB1, HW.out.trans hb1⟩
        case measure => simp [intOf]; omega
      have q92 := byte_ne h92
      rw [show ((UInt8.toNat 92 : Nat) : Int) = 92 from rfl] at q92
      have w1 := writeByteK hBk c (by omega) hBr
      have HC : Hid (escB c = [c]) := by show escB c = [c]; unfold escB; rw [if_neg h9, if_neg h10, if_neg h92]
      clear hBk h9 h10 h92
      go_wp2_with (go_at_call 16; refine w1.mono ?_; rintro e W1 ⟨rfl, hB1, hb1⟩)
      go_roundw
      case rel => exact ⟨k + 1, by omega, by simp, by rw [HE.out, HC.out]; exact hB1, HW.out.trans hb1⟩
      case measure => simp [intOf]; omega
    · have hki : ¬ (k : Int) < (s.size : Int) := by omega
      have hE : s.data.toList.take k = s.data.toList := List.take_of_length_le (by rw [data_len]; omega)
      rw [hE] at hBk
      clear hE
      go_wp2
      go_end0
      exact ⟨rfl, hBk, hwk⟩
end Go.Proofs.Ytbbgembkdhcidaa
