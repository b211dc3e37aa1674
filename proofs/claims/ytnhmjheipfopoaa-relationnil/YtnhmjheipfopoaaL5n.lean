/- A relation that is not there. -/
import Derived.Test.YtnhmjheipfopoaaL5e
import Derived.Test.YtnhmjheipfopoaaL4a
namespace Go.Proofs.Ytnhmjheipfopoaa.L
open Go.RowKit Go.Maps Go.Shelf Go.Proofs.Ytnhmjheipfopoaa

/-- Behind p there is no relation, and none is to come. -/
def NoRel (p : Option Addr) (W : World) : Prop := ∀ Y, Stay W Y → Calls Try.prog 40 #[.pointer p] Y fun e w' => e = .returned (.bool false) ∧ w' = Y
section
variable {W : World} {p : Option Addr}
theorem NoRel.here (h : NoRel p W) : Calls Try.prog 40 #[.pointer p] W fun e w' => e = .returned (.bool false) ∧ w' = W := h W (Stay.refl W)
theorem NoRel.stay {W' : World} (h : NoRel p W) (hs : Stay W W') : NoRel p W' := fun Y hY => h Y (hs.trans hY)
theorem norel_nil (W : World) : NoRel none W := fun Y _ => rmade_nil Y
theorem norel_zero {b : Nat} (h : W.cell? ⟨b, 3, none⟩ = some (.map none)) : NoRel (some ⟨b, 0, none⟩) W := fun _ hY => rmade_zero (hY.cell h)

set_option maxRecDepth 100000 in
theorem add_none (h : NoRel p W) (a : Option Addr) (n c : Nat) : Calls Try.prog 18 #[.pointer p, .slice a n c] W fun e w' => e = .returned (.tuple #[.int .i64 0, .bool false, .int .i64 1]) ∧ w' = W := by
  have hm := h.here
  clear h
  go_enter Try.func18, Try.ntmps18
  go_wp2_with (first
    | (go_at_call 40; refine hm.mono ?_; rintro e w9 ⟨rfl, hw⟩; have hw' := hw.symm; subst hw'; clear hm))
  go_ret3
  exact ⟨rfl, rfl⟩
set_option maxRecDepth 100000 in
theorem place_none (h : NoRel p W) (a : Option Addr) (n c : Nat) : Calls Try.prog 42 #[.pointer p, .slice a n c] W fun e w' => e = .returned (.tuple #[.int .i64 0, .bool false]) ∧ w' = W := by
  have hm := h.here
  clear h
  go_enter Try.func42, Try.ntmps42
  go_wp2_with (first
    | (go_at_call 40; refine hm.mono ?_; rintro e w9 ⟨rfl, hw⟩; have hw' := hw.symm; subst hw'; clear hm))
  go_ret2
  exact ⟨rfl, rfl⟩
set_option maxRecDepth 100000 in
theorem atR_none (h : NoRel p W) (x : Int) : Calls Try.prog 21 #[.pointer p, .int .i64 x] W fun e w' => e = .returned (.tuple #[.slice none 0 0, .bool false]) ∧ w' = W := by
  have hm := h.here
  clear h
  go_enter Try.func21, Try.ntmps21
  go_wp2_with (first
    | (go_at_call 40; refine hm.mono ?_; rintro e w9 ⟨rfl, hw⟩; have hw' := hw.symm; subst hw'; clear hm))
  go_ret2
  exact ⟨rfl, rfl⟩
set_option maxRecDepth 100000 in
theorem count_none (h : NoRel p W) (a : Option Addr) (n c : Nat) (a2 : Option Addr) (n2 c2 : Nat) (x y : Int) : Calls Try.prog 23 #[.pointer p, .slice a n c, .slice a2 n2 c2, .int .i64 x, .int .i64 y] W fun e w' => e = .returned (.tuple #[.int .i64 0, .int .i64 1]) ∧ w' = W := by
  have hm := h.here
  clear h
  go_enter Try.func23, Try.ntmps23
  go_wp2_with (first
    | (go_at_call 40; refine hm.mono ?_; rintro e w9 ⟨rfl, hw⟩; have hw' := hw.symm; subst hw'; clear hm))
  go_ret2
  exact ⟨rfl, rfl⟩
set_option maxRecDepth 100000 in
theorem distinct_none (h : NoRel p W) (a : Option Addr) (n c : Nat) : Calls Try.prog 20 #[.pointer p, .slice a n c] W fun e w' => e = .returned (.tuple #[.int .i64 0, .int .i64 1]) ∧ w' = W := by
  have hm := h.here
  clear h
  go_enter Try.func20, Try.ntmps20
  go_wp2_with (first
    | (go_at_call 40; refine hm.mono ?_; rintro e w9 ⟨rfl, hw⟩; have hw' := hw.symm; subst hw'; clear hm))
  go_ret2
  exact ⟨rfl, rfl⟩
set_option maxRecDepth 100000 in
theorem len_none (h : NoRel p W) : Calls Try.prog 19 #[.pointer p] W fun e w' => e = .returned (.int .i64 0) ∧ w' = W := by
  have hm := h.here
  clear h
  go_enter Try.func19, Try.ntmps19
  go_wp2_with (first
    | (go_at_call 40; refine hm.mono ?_; rintro e w9 ⟨rfl, hw⟩; have hw' := hw.symm; subst hw'; clear hm))
  go_ret
  exact ⟨rfl, rfl⟩
set_option maxRecDepth 100000 in
theorem arity_none (h : NoRel p W) : Calls Try.prog 47 #[.pointer p] W fun e w' => e = .returned (.int .i64 0) ∧ w' = W := by
  have hm := h.here
  clear h
  go_enter Try.func47, Try.ntmps47
  go_wp2_with (first
    | (go_at_call 40; refine hm.mono ?_; rintro e w9 ⟨rfl, hw⟩; have hw' := hw.symm; subst hw'; clear hm))
  go_ret
  exact ⟨rfl, rfl⟩
set_option maxRecDepth 100000 in
theorem copy_none (h : NoRel p W) : Calls Try.prog 48 #[.pointer p] W fun e w' => e = .returned (.pointer none) ∧ w' = W := by
  have hm := h.here
  clear h
  go_enter Try.func48, Try.ntmps48
  go_wp2_with (first
    | (go_at_call 40; refine hm.mono ?_; rintro e w9 ⟨rfl, hw⟩; have hw' := hw.symm; subst hw'; clear hm))
  go_ret
  exact ⟨rfl, rfl⟩
set_option maxRecDepth 100000 in
theorem bounds_none (h : NoRel p W) (x y : Int) : Calls Try.prog 46 #[.pointer p, .int .i64 x, .int .i64 y] W fun e w' => e = .returned (.tuple #[.int .i64 0, .int .i64 0]) ∧ w' = W := by
  have hm := h.here
  clear h
  go_enter Try.func46, Try.ntmps46
  go_wp2_with (first
    | (go_at_call 40; refine hm.mono ?_; rintro e w9 ⟨rfl, hw⟩; have hw' := hw.symm; subst hw'; clear hm))
  go_ret2
  exact ⟨rfl, rfl⟩

set_option maxRecDepth 100000 in
theorem ask_none (h : NoRel p W) (a : Option Addr) (n c : Nat) (a2 : Option Addr) (n2 c2 : Nat) : Calls Try.prog 28 #[.pointer p, .slice a n c, .slice a2 n2 c2] W fun e w' => e = .returned (.tuple #[.agg (rowV 0), .bool false]) ∧ Stay W w' := by
  have hz := zeroRow
  obtain ⟨Z, hZ⟩ : ∃ Z, Z = rowV 0 := ⟨_, rfl⟩
  rw [← hZ] at hz
  have H0 : Hid (Z = rowV 0) := hZ
  clear hZ
  have hs0 : Stay W (W.alloc (.cells Z 64)) := Stay.new W _
  have HB : Hid ((W.alloc (.cells Z 64)).heap[W.heap.size]? = some (.cells Z 64 (0, 0)) ∧ Stay W (W.alloc (.cells Z 64))) := ⟨heap_alloc_new _ _, hs0⟩
  have hm := (h.stay hs0).here
  clear h hs0
  go_enter Try.func28, Try.ntmps28
  go_wp2_with (first
    | (go_at_call 40; refine hm.mono ?_; rintro e w9 ⟨rfl, hw⟩; have hw' := hw.symm; subst hw'; clear hm)
    | (refine wpList_store_row rfl 64 (.tmp 6) (.tmp 18) rfl W.heap.size Z rfl rfl 64 Z HB.out.1 (by rw [H0.out]; exact sizeRow' _) rfl (by rw [H0.out]; exact rowV_one _) ?_))
  try simp only [Exit.inBlock, Exit.then]
  refine bodyPost_ret (results_cell_tmp rfl _ _ W.heap.size 64 Z (0, 0) (.array 16 4) rfl (setRow_heap _ _ _ _ _ _ HB.out.1) Try.underlying64 rfl (by rw [H0.out]; exact sizeRow' _)) rfl ?_
  exact ⟨by rw [H0.out]; rfl, stay_setRow HB.out.2 (Nat.le_refl _) _⟩
end
end Go.Proofs.Ytnhmjheipfopoaa.L
