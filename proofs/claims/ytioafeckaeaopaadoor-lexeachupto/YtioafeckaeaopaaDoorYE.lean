/- The document's Name, Variable, Show; Show. -/
import Derived.Test.YtioafeckaeaopaaDoorYD
namespace Go.Proofs.YtioafeckaeaopaaDoor
open Go.RowKit Go.Maps

theorem allB_pos {p : Int → Bool} {l : List UInt8} (h : allB p l = true) : 1 ≤ l.length := by
  unfold allB at h
  simp at h
  omega
theorem rune_first (s : ByteArray) (h : 0 < s.size) : runeZ s.data.toList 0 = (s[0].toNat : Int) := by
  rw [show (0 : Int) = ((0 : Nat) : Int) from rfl, runeZ_in (by simpa using h)]; rfl

set_option maxRecDepth 100000 in
theorem y_Variable (s : ByteArray) (w : World) (hs : s.size ≤ 140737488355328) : Calls Tryd.prog 20 #[.string s] w fun e w' => e = .returned (.bool (varB s.data.toList)) ∧ w' = w := by
  have hw := y_written s w hs
  unfold varB
  cases hb : allB wordZ s.data.toList
  · rw [hb] at hw
    clear hb
    go_enter Tryd.func20, Tryd.ntmps20
    go_wp2_with (go_at_call 35; refine hw.mono ?_; rintro e w' ⟨rfl, rfl⟩)
    go_ret
    exact ⟨rfl, rfl⟩
  · have hl := allB_pos hb
    rw [show s.data.toList.length = s.size by simp] at hl
    have h0 : 0 < s.size := hl
    rw [hb] at hw
    have hg := y_great s[0]
    rw [rune_first s h0]
    generalize greatZ (s[0].toNat : Int) = q at *
    have h0i : (0 : Int) < (s.size : Int) := by omega
    clear hb hl
    go_enter Tryd.func20, Tryd.ntmps20
    go_wp2_with (first
      | (go_at_call 35; refine hw.mono ?_; rintro e w' ⟨rfl, rfl⟩)
      | (go_at_call 38; refine (hg _).mono ?_; rintro e w' ⟨rfl, rfl⟩))
    go_ret
    exact ⟨rfl, rfl⟩
set_option maxRecDepth 100000 in
theorem y_Name (s : ByteArray) (w : World) (hs : s.size ≤ 140737488355328) : Calls Tryd.prog 16 #[.string s] w fun e w' => e = .returned (.bool (nameB s.data.toList)) ∧ w' = w := by
  have hw := y_written s w hs
  have hr := fun W => y_Reserved s W
  have hrb : decide (resK s.data.toList = 0) = !resB s.data.toList := by unfold resB; simp
  unfold nameB
  rw [hrb]
  clear hrb
  cases hb : allB wordZ s.data.toList
  · rw [hb] at hw
    clear hb
    go_enter Tryd.func16, Tryd.ntmps16
    go_wp2_with (go_at_call 35; refine hw.mono ?_; rintro e w' ⟨rfl, rfl⟩)
    go_ret
    exact ⟨rfl, rfl⟩
  · have hl := allB_pos hb
    rw [show s.data.toList.length = s.size by simp] at hl
    have h0 : 0 < s.size := hl
    rw [hb] at hw
    have hg := y_small s[0]
    rw [rune_first s h0]
    generalize smallZ (s[0].toNat : Int) = q at *
    generalize resB s.data.toList = p at *
    have h0i : (0 : Int) < (s.size : Int) := by omega
    clear hb hl
    cases q
    · go_enter Tryd.func16, Tryd.ntmps16
      go_wp2_with (first
        | (go_at_call 35; refine hw.mono ?_; rintro e w' ⟨rfl, rfl⟩)
        | (go_at_call 36; refine (hg _).mono ?_; rintro e w' ⟨rfl, rfl⟩))
      go_ret
      exact ⟨rfl, rfl⟩
    · go_enter Tryd.func16, Tryd.ntmps16
      go_wp2_with (first
        | (go_at_call 35; refine hw.mono ?_; rintro e w' ⟨rfl, rfl⟩)
        | (go_at_call 36; refine (hg _).mono ?_; rintro e w' ⟨rfl, rfl⟩)
        | (go_at_call 18; refine (hr _).mono ?_; rintro e w' ⟨rfl, rfl⟩))
      go_ret
      exact ⟨by first | rfl | (simp; done), rfl⟩

/-- What Show answers. -/
def showT (l : List UInt8) : List UInt8 × Int := if nameB l || numB l then (l, 0) else quoteT l
theorem string_mk (s : ByteArray) : (⟨s.data.toList.toArray⟩ : ByteArray) = s := by simp

set_option maxRecDepth 100000 in
theorem Show_any (s : ByteArray) (w : World) (hT : Tabs w) (hs : s.size ≤ 140737488355328) : Calls Tryd.prog 27 #[.string s] w fun e w' => e = .returned (.tuple #[.string ⟨(showT s.data.toList).1.toArray⟩, .int .i64 (showT s.data.toList).2]) ∧ Stay w w' := by
  have h1 := Name_any s w hT
  have h2 := Number_any s w hT
  have h3 := Quote_any s w
  have h4 := stClone_any s w (by omega)
  unfold showT
  cases hn : nameB s.data.toList
  · rw [hn] at h1
    cases hm : numB s.data.toList
    · rw [hm] at h2
      simp only [Bool.or_false, Bool.false_eq_true, if_false]
      generalize quoteT s.data.toList = T at *
      obtain ⟨t1, t2⟩ := T
      clear hn hm h4 hT
      go_enter Tryd.func27, Tryd.ntmps27
      go_wp2_with (first
        | (go_at_call 15; refine h1.mono ?_; rintro e w' ⟨rfl, hw'⟩; have hw2 := hw'.symm; subst hw2)
        | (go_at_call 21; refine h2.mono ?_; rintro e w' ⟨rfl, hw'⟩; have hw2 := hw'.symm; subst hw2)
        | (go_at_call 25; refine h3.mono ?_; rintro e w3 ⟨rfl, hs3⟩))
      go_ret2
      exact ⟨rfl, hs3⟩
    · rw [hm] at h2
      simp only [Bool.or_true, if_true]
      rw [string_mk]
      clear hn hm h3 hT
      go_enter Tryd.func27, Tryd.ntmps27
      go_wp2_with (first
        | (go_at_call 15; refine h1.mono ?_; rintro e w' ⟨rfl, hw'⟩; have hw2 := hw'.symm; subst hw2)
        | (go_at_call 21; refine h2.mono ?_; rintro e w' ⟨rfl, hw'⟩; have hw2 := hw'.symm; subst hw2)
        | (go_at_call 43; refine h4.mono ?_; rintro e w3 ⟨rfl, hs3⟩))
      go_ret2
      exact ⟨rfl, hs3⟩
  · rw [hn] at h1
    simp only [Bool.true_or, if_true]
    rw [string_mk]
    clear hn h2 h3 hT
    go_enter Tryd.func27, Tryd.ntmps27
    go_wp2_with (first
      | (go_at_call 15; refine h1.mono ?_; rintro e w' ⟨rfl, hw'⟩; have hw2 := hw'.symm; subst hw2)
      | (go_at_call 43; refine h4.mono ?_; rintro e w3 ⟨rfl, hs3⟩))
    go_ret2
    exact ⟨rfl, hs3⟩
set_option maxRecDepth 100000 in
theorem y_Show (s : ByteArray) (w : World) (hs : s.size ≤ 140737488355328) : Calls Tryd.prog 28 #[.string s] w fun e w' => e = .returned (.tuple #[.string ⟨(showT s.data.toList).1.toArray⟩, .int .i64 (showT s.data.toList).2]) ∧ Stay w w' := by
  have h1 := y_Name s w hs
  have h2 := y_Number s w hs
  have h3 := y_Quote s w
  unfold showT
  cases hn : nameB s.data.toList
  · rw [hn] at h1
    cases hm : numB s.data.toList
    · unfold numB at hm
      rw [hm] at h2
      simp only [Bool.or_false, Bool.false_eq_true, if_false]
      generalize quoteT s.data.toList = T at *
      obtain ⟨t1, t2⟩ := T
      clear hn hm
      go_enter Tryd.func28, Tryd.ntmps28
      go_wp2_with (first
        | (go_at_call 16; refine h1.mono ?_; rintro e w' ⟨rfl, hw'⟩; have hw2 := hw'.symm; subst hw2)
        | (go_at_call 22; refine h2.mono ?_; rintro e w' ⟨rfl, hw'⟩; have hw2 := hw'.symm; subst hw2)
        | (go_at_call 26; refine h3.mono ?_; rintro e w3 ⟨rfl, hs3⟩))
      go_ret2
      exact ⟨rfl, hs3⟩
    · unfold numB at hm
      rw [hm] at h2
      simp only [Bool.or_true, if_true]
      rw [string_mk]
      clear hn hm h3
      go_enter Tryd.func28, Tryd.ntmps28
      go_wp2_with (first
        | (go_at_call 16; refine h1.mono ?_; rintro e w' ⟨rfl, hw'⟩; have hw2 := hw'.symm; subst hw2)
        | (go_at_call 22; refine h2.mono ?_; rintro e w' ⟨rfl, hw'⟩; have hw2 := hw'.symm; subst hw2))
      go_ret2
      exact ⟨rfl, Stay.refl _⟩
  · rw [hn] at h1
    simp only [Bool.true_or, if_true]
    rw [string_mk]
    clear hn h2 h3
    go_enter Tryd.func28, Tryd.ntmps28
    go_wp2_with (go_at_call 16; refine h1.mono ?_; rintro e w' ⟨rfl, hw'⟩; have hw2 := hw'.symm; subst hw2)
    go_ret2
    exact ⟨rfl, Stay.refl _⟩
end Go.Proofs.YtioafeckaeaopaaDoor
