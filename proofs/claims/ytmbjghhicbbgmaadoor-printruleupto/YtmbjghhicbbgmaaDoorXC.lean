/- run: how far a word's bytes, or digits, go. -/
import Derived.Test.YtmbjghhicbbgmaaDoorXB
import Derived.Shelf.Abstract
namespace Go.Proofs.YtmbjghhicbbgmaaDoor
open Go.RowKit Go.Maps

set_option maxRecDepth 100000 in
set_option maxHeartbeats 1000000 in
theorem run_word (s : ByteArray) (w : World) :
    Calls Tryd.prog 68 #[.string s, .func (.func 69) #[] #[]] w fun e w' => e = .returned (.int .i64 (runN wordZ s.data.toList : Nat)) ∧ w' = w := by
  have e63 : ∀ args w, (callFunc 69 args).run Tryd.prog w = .ok (.enter 69 args) w := enters_of Tryd.func69 (by kernel_rfl) rfl
  obtain ⟨l, hl⟩ : ∃ l, l = s.data.toList := ⟨_, rfl⟩
  rw [← hl]
  have HR := fun i h1 h2 W => runeAt_any s i W h1 h2
  rw [← hl] at HR
  clear hl
  go_enter Tryd.func68, Tryd.ntmps68
  go_wp2
  go_loopw [5] (fun i wr => wr = w ∧ ∃ k : Nat, k ≤ 64 ∧ i = .int .i64 (k : Int) ∧ runN wordZ l = k + runF wordZ (64 - k) (l.drop k)) (fun i _ => 64 - (intOf i).toNat)
  case atStart => exact ⟨rfl, 0, by omega, rfl, by simp [runN]⟩
  case round =>
    obtain ⟨rfl, k, hk, rfl, hr⟩ := hrel
    by_cases hlt : k < 64
    · have hs := runF_step wordZ wordZ_neg l (63 - k) k
      rw [show 63 - k + 1 = 64 - k by omega] at hs
      rw [hs] at hr
      have hki : (k : Int) < 64 := by omega
      have hka := HR (k : Int) (by omega) (by omega)
      have hkb := inWord_any (runeZ l (k : Int))
      generalize hb : wordZ (runeZ l (k : Int)) = b at *
      have HB : Hid (runN wordZ l = k + if b then runF wordZ (63 - k) (l.drop (k + 1)) + 1 else 0) := hr
      clear hr hs hb HR
      cases b
      · go_wp2_with (first
          | (go_at_call 66; refine (hka _).mono ?_; rintro e w' ⟨rfl, rfl⟩)
          | (go_at_fn 69; refine (hkb _).mono ?_; rintro e w' ⟨rfl, rfl⟩))
        go_ret
        have hh := HB.out
        simp at hh
        exact ⟨by rw [hh]; rfl, rfl⟩
      · go_wp2_with (first
          | (go_at_call 66; refine (hka _).mono ?_; rintro e w' ⟨rfl, rfl⟩)
          | (go_at_fn 69; refine (hkb _).mono ?_; rintro e w' ⟨rfl, rfl⟩))
        go_roundw
        case rel => exact ⟨by trivial, k + 1, by omega, by simp, by have hh := HB.out; simp at hh; rw [hh, show 63 - k = 64 - (k + 1) by omega]; omega⟩
        case measure => simp [intOf]; omega
    · obtain rfl : k = 64 := by omega
      have HB : Hid (runN wordZ l = 64) := by
        show runN wordZ l = 64
        rw [hr]; simp [runF]
      clear hr HR
      go_wp2
      go_ret
      exact ⟨by rw [HB.out]; rfl, rfl⟩
set_option maxRecDepth 100000 in
set_option maxHeartbeats 1000000 in
theorem run_digit (s : ByteArray) (w : World) :
    Calls Tryd.prog 68 #[.string s, .func (.func 72) #[] #[]] w fun e w' => e = .returned (.int .i64 (runN digitZ s.data.toList : Nat)) ∧ w' = w := by
  have e63 : ∀ args w, (callFunc 72 args).run Tryd.prog w = .ok (.enter 72 args) w := enters_of Tryd.func72 (by kernel_rfl) rfl
  obtain ⟨l, hl⟩ : ∃ l, l = s.data.toList := ⟨_, rfl⟩
  rw [← hl]
  have HR := fun i h1 h2 W => runeAt_any s i W h1 h2
  rw [← hl] at HR
  clear hl
  go_enter Tryd.func68, Tryd.ntmps68
  go_wp2
  go_loopw [5] (fun i wr => wr = w ∧ ∃ k : Nat, k ≤ 64 ∧ i = .int .i64 (k : Int) ∧ runN digitZ l = k + runF digitZ (64 - k) (l.drop k)) (fun i _ => 64 - (intOf i).toNat)
  case atStart => exact ⟨rfl, 0, by omega, rfl, by simp [runN]⟩
  case round =>
    obtain ⟨rfl, k, hk, rfl, hr⟩ := hrel
    by_cases hlt : k < 64
    · have hs := runF_step digitZ digitZ_neg l (63 - k) k
      rw [show 63 - k + 1 = 64 - k by omega] at hs
      rw [hs] at hr
      have hki : (k : Int) < 64 := by omega
      have hka := HR (k : Int) (by omega) (by omega)
      have hkb := isDigit_any (runeZ l (k : Int))
      generalize hb : digitZ (runeZ l (k : Int)) = b at *
      have HB : Hid (runN digitZ l = k + if b then runF digitZ (63 - k) (l.drop (k + 1)) + 1 else 0) := hr
      clear hr hs hb HR
      cases b
      · go_wp2_with (first
          | (go_at_call 66; refine (hka _).mono ?_; rintro e w' ⟨rfl, rfl⟩)
          | (go_at_fn 72; refine (hkb _).mono ?_; rintro e w' ⟨rfl, rfl⟩))
        go_ret
        have hh := HB.out
        simp at hh
        exact ⟨by rw [hh]; rfl, rfl⟩
      · go_wp2_with (first
          | (go_at_call 66; refine (hka _).mono ?_; rintro e w' ⟨rfl, rfl⟩)
          | (go_at_fn 72; refine (hkb _).mono ?_; rintro e w' ⟨rfl, rfl⟩))
        go_roundw
        case rel => exact ⟨by trivial, k + 1, by omega, by simp, by have hh := HB.out; simp at hh; rw [hh, show 63 - k = 64 - (k + 1) by omega]; omega⟩
        case measure => simp [intOf]; omega
    · obtain rfl : k = 64 := by omega
      have HB : Hid (runN digitZ l = 64) := by
        show runN digitZ l = 64
        rw [hr]; simp [runF]
      clear hr HR
      go_wp2
      go_ret
      exact ⟨by rw [HB.out]; rfl, rfl⟩
end Go.Proofs.YtmbjghhicbbgmaaDoor
