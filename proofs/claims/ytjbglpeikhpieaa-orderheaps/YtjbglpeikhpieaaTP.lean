/- A heap that is not there, and a zero one. -/
import Derived.Test.YtjbglpeikhpieaaTO
import Derived.Test.YtjbglpeikhpieaaHGT
namespace Go.Proofs.Ytjbglpeikhpieaa
open Go.RowKit Go.Maps Go.Sort
open Go.Proofs.Ytjbglpeikhpieaa.HT (E Hp foot ahd byC Fv)

theorem nil_len (w : World) : Calls Try.prog 40 #[.pointer none] w fun e w' => e = .returned (.int .i64 0) ∧ w' = w := by
  go_enter Try.func40, Try.ntmps40
  go_wp2
  go_ret
  exact ⟨rfl, rfl⟩
theorem nil_push (w : World) (x1 x2 : Int) : Calls Try.prog 41 #[.pointer none, .agg #[.int .i64 x1, .int .i64 x2]] w fun e w' => e = .returned (.tuple #[]) ∧ Stay w w' := by
  go_enter Try.func41, Try.ntmps41
  go_wp2
  exact bodyPost_ret (v := .tuple #[]) (by simp [results, Try.results41, go_sem]) rfl ⟨rfl, by repeat (first | exact Stay.refl _ | refine Stay.alloc ?_ _)⟩
theorem nil_peek (w : World) : Calls Try.prog 43 #[.pointer none] w fun e w' => e = .returned (.tuple #[.agg #[.int .i64 0, .int .i64 0], .bool false]) ∧ Stay w w' := by
  go_enter Try.func43, Try.ntmps43
  go_wp2_with fail
  refine (nil_len _).mono ?_
  rintro e w9 ⟨rfl, hw⟩
  have hw' := hw.symm; subst hw'
  go_wp2
  exact bodyPost_ret (v := .tuple #[.agg #[.int .i64 0, .int .i64 0], .bool false]) (by simp [results, Try.results43, go_sem]) rfl ⟨rfl, by repeat (first | exact Stay.refl _ | refine Stay.alloc ?_ _)⟩
theorem nil_pop (w : World) : Calls Try.prog 42 #[.pointer none] w fun e w' => e = .returned (.tuple #[.agg #[.int .i64 0, .int .i64 0], .bool false]) ∧ Stay w w' := by
  go_enter Try.func42, Try.ntmps42
  go_wp2_with fail
  refine (nil_peek _).mono ?_
  rintro e w9 ⟨rfl, hw⟩
  have HW : Hid (Stay w w9) := (Stay.new _ _).trans hw
  have hBk : w9.heap[w.heap.size]? = some (.cells #[.int .i64 0, .int .i64 0] 33 (0, 0)) := (hw.block w.heap.size (by simp)).trans (heap_alloc_new _ _)
  obtain ⟨B, hB⟩ : ∃ B, B = w.heap.size := ⟨_, rfl⟩
  rw [← hB] at hBk ⊢
  have q0 : w9.cell? ⟨B, 0, none⟩ = some (.int .i64 0) := by simp [World.cell?, hBk]
  have q1 : w9.cell? ⟨B, 1, none⟩ = some (.int .i64 0) := by simp [World.cell?, hBk]
  have f0 : w9.frozen? ⟨B, 0, none⟩ = false := by simp [World.frozen?, hBk]
  have f1 : w9.frozen? ⟨B, 1, none⟩ = false := by simp [World.frozen?, hBk]
  have hlt : B < w9.heap.size := (Array.getElem?_eq_some_iff.1 hBk).1
  have HB : Hid (w.heap.size ≤ B) := by show w.heap.size ≤ B; omega
  clear hw hBk hB
  go_wp2
  refine bodyPost_ret (v := .tuple #[.agg #[.int .i64 0, .int .i64 0], .bool false]) (by simp [results, Try.results42, go_sem, q0, q1, hlt]) rfl ⟨rfl, ?_⟩
  exact Stay.alloc (Turn.stay ((Turn.set (S := fun k => k = B) (Turn.refl _ w9) rfl 0 _).set rfl 1 _) HW.out (fun k hk e => by have := HB.out; omega)) _

theorem fvNo : Fv .nilFunc HT.noC := .inr ⟨rfl, rfl⟩
/-- What comes out of two where all are alike. -/
theorem zero_first {came : List E} (hp : came.Perm [((2, 1), 0), ((1, 2), 1)]) (hh : IsHeap (ahd HT.noC) came) {e : E} (he : came[0]? = some e) : e = ((2, 1), 0) := by
  have hm : e ∈ came := List.mem_of_getElem? he
  have hm2 : (((2, 1), 0) : E) ∈ came := hp.mem_iff.2 (by simp)
  obtain ⟨k, hk⟩ := List.mem_iff_getElem?.1 hm2
  have h := heap_least (HT.ahd_ok fvNo) hh he k _ hk
  rw [hp.mem_iff] at hm
  simp at hm
  rcases hm with rfl | rfl
  · rfl
  · simp [HT.ahd, HT.noC] at h
end Go.Proofs.Ytjbglpeikhpieaa
