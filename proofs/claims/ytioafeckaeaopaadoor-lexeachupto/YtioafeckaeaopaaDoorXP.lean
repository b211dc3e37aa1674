/- firstString, first. -/
import Derived.Test.YtioafeckaeaopaaDoorXK
import Derived.Test.YtioafeckaeaopaaDoorXO
namespace Go.Proofs.YtioafeckaeaopaaDoor
open Go.RowKit Go.Maps

/-- The string that a text begins with, as a token; is it whole? -/
def firstStringT (l : List UInt8) : Tok × Bool := (⟨4, (unquoteT l).1, 0, (unquoteT l).2.1⟩, (unquoteT l).2.2)
/-- The token that a text begins with; is it whole? -/
def firstT (l : List UInt8) : Tok × Bool := if smallZ (runeZ l 0) || greatZ (runeZ l 0) || digitZ (runeZ l 0) then (firstWordT l, true) else if runeZ l 0 = 34 then firstStringT l else firstSignT l

set_option maxRecDepth 100000 in
set_option maxHeartbeats 1000000 in
theorem firstString_any (s : ByteArray) (w : World) (hs : s.size ≤ 140737488355328) (h1 : 1 ≤ s.size) :
    Calls Tryd.prog 69 #[.string s] w fun e w' => e = .returned (.tuple #[(firstStringT s.data.toList).1.val, .bool (firstStringT s.data.toList).2]) ∧ Stay w w' := by
  have hu := fun W => unquote_any s W hs h1
  unfold firstStringT
  dsimp only [Tok.val, Tok.cells]
  generalize unquoteT s.data.toList = T at *
  obtain ⟨t1, t2, t3⟩ := T
  dsimp only at *
  go_enter Tryd.func69, Tryd.ntmps69
  go_wp2_with (go_at_call 73; refine (hu _).mono ?_; rintro e w2 ⟨rfl, hs2⟩; have HW2 : Hid (Stay (w.alloc (.cells #[.int .i64 0, .string ⟨#[]⟩, .int .i64 0, .int .i64 0] 25)) w2) := hs2; obtain ⟨a0, a1, a2, a3, a4, a5, a6, a7⟩ := four (stay_of_new HW2.out); clear hs2)
  obtain ⟨q0, q1, q2, q3, -⟩ := four (set4 (stay_of_new HW2.out) (.int .i64 4) (.string ⟨t1.toArray⟩) (.int .i64 0) (.int .i64 (t2 : Int)))
  refine bodyPost_ret (v := .tuple #[.agg #[.int .i64 4, .string ⟨t1.toArray⟩, .int .i64 0, .int .i64 (t2 : Int)], .bool t3]) (by simp [results, Tryd.results69, go_sem, q0, q1, q2, q3]) rfl ⟨rfl, ?_⟩
  repeat (refine stay_set ?_ (by simp) _)
  exact (Stay.new _ _).trans HW2.out

set_option maxRecDepth 100000 in
set_option maxHeartbeats 2000000 in
theorem first_any (s : ByteArray) (w : World) (hs : s.size ≤ 140737488355328) (hT : Tabs w) :
    Calls Tryd.prog 57 #[.string s] w fun e w' => e = .returned (.tuple #[(firstT s.data.toList).1.val, .bool (firstT s.data.toList).2]) ∧ Stay w w' := by
  have hru := fun W => runeAt_any s 0 W (by omega) (by omega)
  have k1 := fun W => isSmall_any (runeZ s.data.toList 0) W
  have k2 := fun W => isGreat_any (runeZ s.data.toList 0) W
  have k3 := fun W => isDigit_any (runeZ s.data.toList 0) W
  have f1 := firstWord_any s _ (hT.stay (Stay.new w (.cells #[.int .i64 0, .string ⟨#[]⟩, .int .i64 0, .int .i64 0] 25)))
  have f3 := firstSign_any s _ hs (hT.stay (Stay.new w (.cells #[.int .i64 0, .string ⟨#[]⟩, .int .i64 0, .int .i64 0] 25)))
  unfold firstT
  cases h : smallZ (runeZ s.data.toList 0) || greatZ (runeZ s.data.toList 0) || digitZ (runeZ s.data.toList 0)
  · rw [if_neg (by simp)]
    rw [Bool.or_eq_false_iff, Bool.or_eq_false_iff] at h
    rw [h.1.1] at k1
    rw [h.1.2] at k2
    rw [h.2] at k3
    clear h f1 hT
    by_cases h34 : runeZ s.data.toList 0 = 34
    · rw [if_pos h34]
      have h1 : 1 ≤ s.size := by
        apply Nat.le_of_not_lt
        intro h0
        have h0' : s.data.toList.length ≤ 0 := by rw [show s.data.toList.length = s.size by simp]; omega
        have h3 := runeZ_out (l := s.data.toList) (k := 0) h0'
        rw [show ((0 : Nat) : Int) = 0 from rfl, h34] at h3
        omega
      have f2 := fun W => firstString_any s W hs h1
      rw [h34] at hru k1 k2 k3
      generalize firstStringT s.data.toList = T at *
      obtain ⟨⟨t1, t2, t3, t4⟩, t5⟩ := T
      dsimp only [Tok.val, Tok.cells] at *
      clear h34 f3
      go_enter Tryd.func57, Tryd.ntmps57
      go_wp2_with (first
        | (go_at_call 60; refine (hru _).mono ?_; rintro e w' ⟨rfl, rfl⟩)
        | (go_at_call 61; refine (k1 _).mono ?_; rintro e w' ⟨rfl, rfl⟩)
        | (go_at_call 64; refine (k2 _).mono ?_; rintro e w' ⟨rfl, rfl⟩)
        | (go_at_call 65; refine (k3 _).mono ?_; rintro e w' ⟨rfl, rfl⟩)
        | (go_at_call 69; refine (f2 _).mono ?_; rintro e w2 ⟨rfl, hs2⟩; have HW2 : Hid (Stay (w.alloc (.cells #[.int .i64 0, .string ⟨#[]⟩, .int .i64 0, .int .i64 0] 25)) w2) := hs2; obtain ⟨a0, a1, a2, a3, a4, a5, a6, a7⟩ := four (stay_of_new HW2.out); clear hs2))
      obtain ⟨q0, q1, q2, q3, -⟩ := four (set4 (stay_of_new HW2.out) (.int .i64 t1) (.string ⟨t2.toArray⟩) (.int .i64 (t3 : Int)) (.int .i64 (t4 : Int)))
      refine bodyPost_ret (v := .tuple #[.agg #[.int .i64 t1, .string ⟨t2.toArray⟩, .int .i64 (t3 : Int), .int .i64 (t4 : Int)], .bool t5]) (by simp [results, Tryd.results57, go_sem, q0, q1, q2, q3]) rfl ⟨rfl, ?_⟩
      repeat (refine stay_set ?_ (by simp) _)
      exact (Stay.new _ _).trans HW2.out
    · rw [if_neg h34]
      have hb : ((runeZ s.data.toList 0) == 34) = false := by simpa using h34
      generalize firstSignT s.data.toList = T at *
      obtain ⟨⟨t1, t2, t3, t4⟩, t5⟩ := T
      dsimp only [Tok.val, Tok.cells] at *
      generalize runeZ s.data.toList 0 = r at *
      clear h34
      go_enter Tryd.func57, Tryd.ntmps57
      go_wp2_with (first
        | (go_at_call 60; refine (hru _).mono ?_; rintro e w' ⟨rfl, rfl⟩)
        | (go_at_call 61; refine (k1 _).mono ?_; rintro e w' ⟨rfl, rfl⟩)
        | (go_at_call 64; refine (k2 _).mono ?_; rintro e w' ⟨rfl, rfl⟩)
        | (go_at_call 65; refine (k3 _).mono ?_; rintro e w' ⟨rfl, rfl⟩)
        | (go_at_call 70; refine f3.mono ?_; rintro e w2 ⟨rfl, hs2⟩; have HW2 : Hid (Stay (w.alloc (.cells #[.int .i64 0, .string ⟨#[]⟩, .int .i64 0, .int .i64 0] 25)) w2) := hs2; obtain ⟨a0, a1, a2, a3, a4, a5, a6, a7⟩ := four (stay_of_new HW2.out); clear hs2))
      obtain ⟨q0, q1, q2, q3, -⟩ := four (set4 (stay_of_new HW2.out) (.int .i64 t1) (.string ⟨t2.toArray⟩) (.int .i64 (t3 : Int)) (.int .i64 (t4 : Int)))
      refine bodyPost_ret (v := .tuple #[.agg #[.int .i64 t1, .string ⟨t2.toArray⟩, .int .i64 (t3 : Int), .int .i64 (t4 : Int)], .bool t5]) (by simp [results, Tryd.results57, go_sem, q0, q1, q2, q3]) rfl ⟨rfl, ?_⟩
      repeat (refine stay_set ?_ (by simp) _)
      exact (Stay.new _ _).trans HW2.out
  · rw [if_pos rfl]
    generalize firstWordT s.data.toList = T at *
    obtain ⟨t1, t2, t3, t4⟩ := T
    dsimp only [Tok.val, Tok.cells] at *
    generalize runeZ s.data.toList 0 = r at *
    clear f3 hT
    generalize smallZ r = x1 at *
    generalize greatZ r = x2 at *
    generalize digitZ r = x3 at *
    cases x1 <;> cases x2 <;> cases x3 <;> simp only [Bool.or_false, Bool.or_true, Bool.false_eq_true] at h
    all_goals
      go_enter Tryd.func57, Tryd.ntmps57
      go_wp2_with (first
        | (go_at_call 60; refine (hru _).mono ?_; rintro e w' ⟨rfl, rfl⟩)
        | (go_at_call 61; refine (k1 _).mono ?_; rintro e w' ⟨rfl, rfl⟩)
        | (go_at_call 64; refine (k2 _).mono ?_; rintro e w' ⟨rfl, rfl⟩)
        | (go_at_call 65; refine (k3 _).mono ?_; rintro e w' ⟨rfl, rfl⟩)
        | (go_at_call 68; refine f1.mono ?_; rintro e w2 ⟨rfl, hs2⟩; have HW2 : Hid (Stay (w.alloc (.cells #[.int .i64 0, .string ⟨#[]⟩, .int .i64 0, .int .i64 0] 25)) w2) := hs2; obtain ⟨a0, a1, a2, a3, a4, a5, a6, a7⟩ := four (stay_of_new HW2.out); clear hs2))
      obtain ⟨q0, q1, q2, q3, -⟩ := four (set4 (stay_of_new HW2.out) (.int .i64 t1) (.string ⟨t2.toArray⟩) (.int .i64 (t3 : Int)) (.int .i64 (t4 : Int)))
      refine bodyPost_ret (v := .tuple #[.agg #[.int .i64 t1, .string ⟨t2.toArray⟩, .int .i64 (t3 : Int), .int .i64 (t4 : Int)], .bool true]) (by simp [results, Tryd.results57, go_sem, q0, q1, q2, q3]) rfl ⟨rfl, ?_⟩
      repeat (refine stay_set ?_ (by simp) _)
      exact (Stay.new _ _).trans HW2.out
end Go.Proofs.YtioafeckaeaopaaDoor
