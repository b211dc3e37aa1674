/- The document's table that is not there: what each call answers. -/
import Derived.Test.YtdmopioiaaecfaaTextsB
namespace Go.Proofs.Ytdmopioiaaecfaa
open Go.RowKit Go.Maps

theorem rfind_no (w : World) (s : ByteArray) : Calls Try.prog 47 #[.pointer none, .string s] w fun e w' => e = .returned (.tuple #[.int .i64 0, .bool false]) ∧ w' = w := by
  go_enter Try.func47, Try.ntmps47
  go_wp2
  go_ret2
  exact ⟨rfl, rfl⟩

theorem rput_no (w : World) (s : ByteArray) : Calls Try.prog 23 #[.pointer none, .string s] w fun e w' => e = .returned (.tuple #[.int .i64 0, .int .i64 1]) ∧ w' = w := by
  go_enter Try.func23, Try.ntmps23
  go_wp2
  go_ret2
  exact ⟨rfl, rfl⟩

theorem rputAll_no (w : World) (l : Value) : Calls Try.prog 20 #[.pointer none, l] w fun e w' => e = .returned (.tuple #[.slice none 0 0, .int .i64 1]) ∧ w' = w := by
  go_enter Try.func20, Try.ntmps20
  go_wp2
  go_ret2
  exact ⟨rfl, rfl⟩

theorem rtexts_no (w : World) (l : Value) : Calls Try.prog 26 #[.pointer none, l] w fun e w' => e = .returned (.tuple #[.slice none 0 0, .int .i64 1]) ∧ w' = w := by
  go_enter Try.func26, Try.ntmps26
  go_wp2
  go_ret2
  exact ⟨rfl, rfl⟩

theorem rtext_no (w : World) (z : Int) : Calls Try.prog 38 #[.pointer none, .int .i64 z] w fun e w' => e = .returned (.tuple #[.string ⟨#[]⟩, .bool false]) ∧ w' = w := by
  have hlen := rlen_no w
  by_cases hz : z < 0
  · go_enter Try.func38, Try.ntmps38
    go_wp2_with (go_at_call 14; refine Calls.mono hlen ?_; rintro e w' ⟨rfl, hw⟩; have hw' := hw.symm; subst hw')
    go_ret2
    exact ⟨rfl, rfl⟩
  · have hz' : 0 ≤ z := by omega
    go_enter Try.func38, Try.ntmps38
    go_wp2_with (go_at_call 14; refine Calls.mono hlen ?_; rintro e w' ⟨rfl, hw⟩; have hw' := hw.symm; subst hw')
    go_ret2
    exact ⟨rfl, rfl⟩

theorem rcompare_no (w : World) (a b : Value) : Calls Try.prog 41 #[.pointer none, a, b] w fun e w' => e = .returned (.tuple #[.int .i64 0, .int .i64 1]) ∧ w' = w := by
  go_enter Try.func41, Try.ntmps41
  go_wp2
  go_ret2
  exact ⟨rfl, rfl⟩

theorem rcopy_no (w : World) : Calls Try.prog 11 #[.pointer none] w fun e w' => e = .returned (.pointer none) ∧ w' = w := by
  go_enter Try.func11, Try.ntmps11
  go_wp2
  go_ret
  exact ⟨rfl, rfl⟩

theorem rranks_no (w : World) : Calls Try.prog 43 #[.pointer none] w fun e w' => e = .returned (.slice none 0 0) ∧ w' = w := by
  have hlen := rlen_no w
  go_enter Try.func43, Try.ntmps43
  go_wp2
  go_loop [3, 4] (fun v i => v = .slice none 0 0 ∧ i = .int .i64 0) (fun _ _ => 0)
  case atStart => exact ⟨rfl, rfl⟩
  case round =>
    obtain ⟨rfl, rfl⟩ := hrel
    go_wp2_with (go_at_call 14; refine Calls.mono hlen ?_; rintro e w' ⟨rfl, hw⟩; have hw' := hw.symm; subst hw')
    go_ret
    exact ⟨rfl, rfl⟩

set_option maxRecDepth 100000 in
theorem rrising_no (w : World) : Calls Try.prog 44 #[.pointer none] w fun e w' => (∃ a, e = .returned (.slice a 0 0)) ∧ Below w.heap.size w w' := by
  obtain ⟨i0, hi, hz0, hz1, hz2⟩ := info_parts info3
  have hr := rranks_no w
  go_enter Try.func44, Try.ntmps44
  go_wp2_with (first | (go_at_call 43; refine Calls.mono hr ?_; rintro e w' ⟨rfl, hw⟩; have hw' := hw.symm; subst hw') | (at_make; refine wpList_make_full _ rfl _ _ 31 rfl 0 3 i0 (.int .i64 0) 1 Try.underlying31 hi hz0 hz1 _ _ _ _ 0 rfl rfl rfl rfl (by rw [hz2]; omega) (by unfold maxLen; omega) (Nat.zero_le _) ?_; intro w1 hown hgrow))
  have HB : Hid (Below w.heap.size w w1) := ((Turn.of_grown hgrow).mono (S' := fun _ => False) (fun _ _ e => by simp at e)).below (Nat.le_refl _) (fun _ e => e.elim)
  clear hown hgrow
  go_loop [5] (fun i => i = .int .i64 0) (fun _ => 0)
  case atStart => rfl
  case round =>
    subst hrel
    go_wp2
    go_ret
    exact ⟨⟨_, rfl⟩, HB.out⟩
end Go.Proofs.Ytdmopioiaaecfaa
