/- A table of numbers that is not there: what each call answers. -/
import Derived.Test.YtaikoinakieacaaIGi
import Derived.Lib.ItoaNum
namespace Go.Proofs.Ytaikoinakieacaa.I
open Go.RowKit Go.Maps Go.Proofs.Ytaikoinakieacaa

section
variable {w : World} {p : Value}

theorem put_not (k v : Int) (h : NoTab p w) : Calls Try.prog 22 #[p, .int .i64 k, .int .i64 v] w fun e w' => e = .returned (.tuple #[.int .i64 0, .bool false, .int .i64 1]) ∧ w' = w := by
  have hm : Calls Try.prog 52 #[p] w fun e w' => e = .returned (.bool false) ∧ w' = w := h
  clear h
  go_enter Try.func22, Try.ntmps22
  go_wp2_with fail
  refine hm.mono ?_
  rintro e9 w9 ⟨rfl, hw⟩
  have hw' := hw.symm; subst hw'
  clear hm
  go_wp2
  go_ret3
  exact ⟨rfl, rfl⟩

theorem get_not (k : Int) (h : NoTab p w) : Calls Try.prog 34 #[p, .int .i64 k] w fun e w' => e = .returned (.tuple #[.int .i64 0, .bool false]) ∧ w' = w := by
  have hm := find_not k h
  clear h
  go_enter Try.func34, Try.ntmps34
  go_wp2_with fail
  refine hm.mono ?_
  rintro e9 w9 ⟨rfl, hw⟩
  have hw' := hw.symm; subst hw'
  clear hm
  go_wp2
  go_ret2
  exact ⟨rfl, rfl⟩

theorem take_not (k : Int) (h : NoTab p w) : Calls Try.prog 31 #[p, .int .i64 k] w fun e w' => e = .returned (.tuple #[.int .i64 0, .bool false]) ∧ w' = w := by
  have hm := find_not k h
  clear h
  go_enter Try.func31, Try.ntmps31
  go_wp2_with fail
  refine hm.mono ?_
  rintro e9 w9 ⟨rfl, hw⟩
  have hw' := hw.symm; subst hw'
  clear hm
  go_wp2
  go_ret2
  exact ⟨rfl, rfl⟩

theorem place_not (k : Int) (h : NoTab p w) : Calls Try.prog 32 #[p, .int .i64 k] w fun e w' => e = .returned (.tuple #[.int .i64 0, .bool false]) ∧ w' = w := by
  have hm := find_not k h
  clear h
  go_enter Try.func32, Try.ntmps32
  go_wp2_with fail
  refine hm.mono ?_
  rintro e9 w9 ⟨rfl, hw⟩
  have hw' := hw.symm; subst hw'
  clear hm
  go_wp2
  go_ret2
  exact ⟨rfl, rfl⟩

theorem size_not (h : NoTab p w) : Calls Try.prog 20 #[p] w fun e w' => e = .returned (.int .i64 0) ∧ w' = w := by
  have hm : Calls Try.prog 52 #[p] w fun e w' => e = .returned (.bool false) ∧ w' = w := h
  clear h
  go_enter Try.func20, Try.ntmps20
  go_wp2_with fail
  refine hm.mono ?_
  rintro e9 w9 ⟨rfl, hw⟩
  have hw' := hw.symm; subst hw'
  clear hm
  go_wp2
  go_ret
  exact ⟨rfl, rfl⟩

theorem probes_not (k : Int) (h : NoTab p w) : Calls Try.prog 33 #[p, .int .i64 k] w fun e w' => e = .returned (.int .i64 0) ∧ w' = w := by
  have hm : Calls Try.prog 52 #[p] w fun e w' => e = .returned (.bool false) ∧ w' = w := h
  clear h
  go_enter Try.func33, Try.ntmps33
  go_wp2_with fail
  refine hm.mono ?_
  rintro e9 w9 ⟨rfl, hw⟩
  have hw' := hw.symm; subst hw'
  clear hm
  go_wp2
  go_ret
  exact ⟨rfl, rfl⟩

theorem clone_not (h : NoTab p w) : Calls Try.prog 46 #[p] w fun e w' => e = .returned (.pointer none) ∧ w' = w := by
  have hm : Calls Try.prog 52 #[p] w fun e w' => e = .returned (.bool false) ∧ w' = w := h
  clear h
  go_enter Try.func46, Try.ntmps46
  go_wp2_with fail
  refine hm.mono ?_
  rintro e9 w9 ⟨rfl, hw⟩
  have hw' := hw.symm; subst hw'
  clear hm
  go_wp2
  go_ret
  exact ⟨rfl, rfl⟩

theorem inOrder_not (h : NoTab p w) : Calls Try.prog 48 #[p] w fun e w' => e = .returned (.slice none 0 0) ∧ w' = w := by
  have hm : Calls Try.prog 52 #[p] w fun e w' => e = .returned (.bool false) ∧ w' = w := h
  clear h
  go_enter Try.func48, Try.ntmps48
  go_wp2_with fail
  refine hm.mono ?_
  rintro e9 w9 ⟨rfl, hw⟩
  have hw' := hw.symm; subst hw'
  clear hm
  go_wp2
  go_ret
  exact ⟨rfl, rfl⟩

theorem insertion_none (c : Value) : Calls Try.prog 87 #[.slice none 0 0, .int .i64 0, .int .i64 0, c] w fun e w' => e = .returned (.tuple #[]) ∧ w' = w := by
  go_enter Try.func87, Try.ntmps87
  go_wp2
  refine wp_loop_rounds 1 ?_
  rw [rounds_succ]
  go_wp2
  go_end0
  exact ⟨rfl, rfl⟩

set_option maxRecDepth 100000 in
theorem pdq_none (l c : Value) : Calls Try.prog 85 #[.slice none 0 0, .int .i64 0, .int .i64 0, l, c] w fun e w' => e = .returned (.tuple #[]) ∧ w' = w := by
  go_enter Try.func85, Try.ntmps85
  go_wp2
  refine wp_loop_rounds 1 ?_
  rw [rounds_succ]
  go_wp2_with fail
  refine (insertion_none _).mono ?_
  rintro e9 w9 ⟨rfl, hw⟩
  have hw' := hw.symm; subst hw'
  go_wp2
  exact bodyPost_ret (results_none rfl _ _ _) rfl ⟨rfl, rfl⟩

theorem len64_none : Calls Try.prog 96 #[.int .u64 0] w fun e w' => e = .returned (.int .i64 0) ∧ w' = w := by
  have h8 : Lib.len8 0 = 0 := by kernel_rfl
  go_enter Try.func96, Try.ntmps96
  rw [show (ByteArray.mk _) = Lib.len8tab from by kernel_rfl]
  go_wp2
  go_ret
  exact ⟨rfl, rfl⟩

theorem len_none : Calls Try.prog 86 #[.int .u64 0] w fun e w' => e = .returned (.int .i64 0) ∧ w' = w := by
  have h := len64_none (w := w)
  go_enter Try.func86, Try.ntmps86
  go_wp2_with fail
  refine h.mono ?_
  rintro e9 w9 ⟨rfl, hw⟩
  have hw' := hw.symm; subst hw'
  clear h
  go_wp2
  go_ret
  exact ⟨rfl, rfl⟩

theorem sort_none (c : Value) : Calls Try.prog 76 #[.slice none 0 0, c] w fun e w' => e = .returned (.tuple #[]) ∧ w' = w := by
  have h := len_none (w := w)
  go_enter Try.func76, Try.ntmps76
  go_wp2_with fail
  refine h.mono ?_
  rintro e9 w9 ⟨rfl, hw⟩
  have hw' := hw.symm; subst hw'
  clear h
  go_wp2_with fail
  refine (pdq_none _ _).mono ?_
  rintro e9 w9 ⟨rfl, hw⟩
  have hw' := hw.symm; subst hw'
  go_wp2
  go_end0
  exact ⟨rfl, rfl⟩

theorem byPlaces_not (h : NoTab p w) : Calls Try.prog 50 #[p] w fun e w' => e = .returned (.slice none 0 0) ∧ w' = w := by
  have hm := inOrder_not h
  clear h
  go_enter Try.func50, Try.ntmps50
  go_wp2_with fail
  refine hm.mono ?_
  rintro e9 w9 ⟨rfl, hw⟩
  have hw' := hw.symm; subst hw'
  clear hm
  go_wp2_with fail
  refine (sort_none _).mono ?_
  rintro e9 w9 ⟨rfl, hw⟩
  have hw' := hw.symm; subst hw'
  go_wp2
  go_ret
  exact ⟨rfl, rfl⟩

theorem all_any (w : World) (p : Option Addr) : Calls Try.prog 15 #[.pointer p] w fun e w' => e = .returned (.func (.func 47) #[] #[.pointer (some ⟨w.heap.size, 0, none⟩)]) ∧ w' = w.alloc (.cells #[.pointer p] 24) := by
  go_enter Try.func15, Try.ntmps15
  go_wp2
  go_ret
  exact ⟨rfl, rfl⟩
theorem layout_any (w : World) (p : Option Addr) : Calls Try.prog 17 #[.pointer p] w fun e w' => e = .returned (.func (.func 49) #[] #[.pointer (some ⟨w.heap.size, 0, none⟩)]) ∧ w' = w.alloc (.cells #[.pointer p] 24) := by
  go_enter Try.func17, Try.ntmps17
  go_wp2
  go_ret
  exact ⟨rfl, rfl⟩
end
end Go.Proofs.Ytaikoinakieacaa.I
