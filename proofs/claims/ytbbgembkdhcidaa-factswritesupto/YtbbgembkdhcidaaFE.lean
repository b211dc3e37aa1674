/- writeLine, Line, Escape. -/
import Derived.Test.YtbbgembkdhcidaaFD
namespace Go.Proofs.Ytbbgembkdhcidaa
open Go.RowKit Go.Maps

theorem dat_at (ss : List ByteArray) (k : Nat) (h : k < ss.length) : (dat ss)[k]'(by rw [dat_len]; exact h) = ss[k].data.toList := by simp [dat]
theorem sumL_at : ∀ (l : List (List UInt8)) (k : Nat) (h : k < l.length), sumL (l.take k) + (l[k].length + 1) ≤ sumL l := by
  intro l k h
  have h1 := sumL_take l (k + 1)
  rw [List.take_succ_eq_append_getElem h, sumL_app] at h1
  simpa [sumL] using h1

set_option maxRecDepth 100000 in
set_option maxHeartbeats 4000000 in
theorem writeLine_any {B b : Nat} {w : World} {bs : List UInt8} (h : Bld B b w bs) {a : Option Addr} {b' off c : Nat} {ss : List ByteArray} (hS : ∀ W, Below B w W → StrsS W a b' off ss) (hl : ss.length ≤ 140737488355328) (hlen : bs.length + sumL (dat ss) * 2 + 4 ≤ 140737488355328) (hBw : B ≤ w.heap.size) :
    Calls Try.prog 15 #[.pointer (some ⟨b, 0, none⟩), .slice a ss.length c] w fun e w' => e = .returned (.tuple #[]) ∧ Bld B b w' (bs ++ lineL (dat ss)) ∧ Wk B b w w' := by
  by_cases h0 : 0 < ss.length
  · obtain rfl := (hS w (Below.refl _ _)).1 h0
    obtain ⟨n, hn⟩ : ∃ n, n = ss.length := ⟨_, rfl⟩
    have HS : Hid ((∀ W, Below B w W → StrsS W (some ⟨b', off, none⟩) b' off ss) ∧ n = ss.length ∧ Bld B b w bs ∧ bs.length + sumL (dat ss) * 2 + 4 ≤ 140737488355328) := ⟨hS, hn, h, hlen⟩
    rw [← hn]
    rw [← hn] at hl h0
    clear hS hn h hlen
    go_enter Try.func15, Try.ntmps15
    go_wp2_with fail
    go_loopw [8, 4, 5] (fun i _ _ wr => ∃ k : Nat, k ≤ n ∧ i = .int .i64 (k : Int) ∧ Bld B b wr (bs ++ lineL ((dat ss).take k)) ∧ Wk B b w wr) (fun i _ _ _ => n - (intOf i).toNat)
    case atStart => exact ⟨0, Nat.zero_le _, rfl, by simpa [lineL] using HS.out.2.2.1, Wk.refl _ _ _⟩
    case round =>
      obtain ⟨k, hk, rfl, hBk, hwk⟩ := hrel
      have hBr : B ≤ wr.heap.size := Nat.le_trans hBw hwk.size
      by_cases hlt : k < n
      · have hki : (k : Int) < (n : Int) := by omega
        have hks : k < ss.length := by rw [← HS.out.2.1]; exact hlt
        have hc0 := (HS.out.1 wr hwk.1).2 k hks
        have hkd : k < (dat ss).length := by rw [dat_len]; exact hks
        have hlk := lineL_take hkd
        rw [dat_at ss k hks] at hlk
        have h2 := lineL_len ((dat ss).take k)
        have h3 := sumL_at (dat ss) k hkd
        rw [dat_at ss k hks, data_len] at h3
        have h4 := HS.out.2.2.2
        have HW : Hid (Wk B b w wr) := hwk
        generalize ss[k] = s at hc0 hlk h3
        have hs0 : (lineL ((dat ss).take k)).length + s.size * 2 + 4 + bs.length ≤ 140737488355328 := by omega
        clear hwk h2 h3 h4 hks hkd
        by_cases hk0 : k = 0
        · rw [if_pos hk0] at hlk
          have hB0 : Bld B b wr bs := by rw [hk0] at hBk; simpa [lineL] using hBk
          have w1 := writeField_any hB0 s (by omega) hBr
          have HE : Hid (lineL ((dat ss).take (k + 1)) = escL s.data.toList) := hlk
          have hk1 : ¬ (0 : Int) < (k : Int) := by omega
          clear hBk hlk hs0 hB0 hk0
          go_wp2_with (go_at_call 32; refine w1.mono ?_; rintro e W1 ⟨rfl, hB1, hb1⟩)
          go_roundw
          case rel => exact ⟨k + 1, by omega, by simp, by rw [HE.out]; exact hB1, HW.out.trans hb1⟩
          case measure => simp [intOf]; omega
        · rw [if_neg hk0] at hlk
          have hk1 : (0 : Int) < (k : Int) := by omega
          have HE : Hid (bs ++ lineL ((dat ss).take (k + 1)) = ((bs ++ lineL ((dat ss).take k)) ++ [9]) ++ escL s.data.toList) := by
            show _ = _
            rw [hlk]; simp
          have hcs : (bs ++ lineL ((dat ss).take k)).length + s.size * 2 + 4 ≤ 140737488355328 := by rw [List.length_append]; omega
          generalize bs ++ lineL ((dat ss).take k) = cs at hBk HE hcs
          have w1 := writeByteK hBk 9 (by omega) hBr
          rw [show ((UInt8.toNat 9 : Nat) : Int) = 9 from rfl] at w1
          clear hBk hlk hs0
          go_wp2_with fail
          refine w1.mono ?_
          rintro e W1 ⟨rfl, hB1, hb1⟩
          have w2 := writeField_any hB1 s (by rw [List.length_append, List.length_singleton]; omega) (Nat.le_trans hBr hb1.size)
          clear w1 hB1
          go_wp2_with (go_at_call 32; refine w2.mono ?_; rintro e W2 ⟨rfl, hB2, hb2⟩)
          go_roundw
          case rel => exact ⟨k + 1, by omega, by simp, by rw [HE.out]; exact hB2, HW.out.trans (hb1.trans hb2)⟩
          case measure => simp [intOf]; omega
      · have hki : ¬ (k : Int) < (n : Int) := by omega
        have hE : (dat ss).take k = dat ss := List.take_of_length_le (by rw [dat_len, ← HS.out.2.1]; omega)
        rw [hE] at hBk
        clear hE
        go_wp2
        go_end0
        exact ⟨rfl, hBk, hwk⟩
  · have e : ss = [] := List.eq_nil_of_length_eq_zero (by omega)
    subst e
    rw [List.length_nil]
    go_enter Try.func15, Try.ntmps15
    go_wp2
    go_loopw [8, 4, 5] (fun i _ _ wr => i = .int .i64 0 ∧ wr = w) (fun _ _ _ _ => 0)
    case atStart => exact ⟨rfl, rfl⟩
    case round =>
      obtain ⟨rfl, rfl⟩ := hrel
      go_wp2
      go_end0
      exact ⟨rfl, by simpa [dat, lineL] using h, Wk.refl _ _ _⟩
end Go.Proofs.Ytbbgembkdhcidaa
