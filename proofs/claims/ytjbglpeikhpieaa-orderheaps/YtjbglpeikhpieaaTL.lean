/- does: one thing done with both heaps. -/
import Derived.Test.YtjbglpeikhpieaaTK
namespace Go.Proofs.Ytjbglpeikhpieaa
open Go.RowKit Go.Maps Go.Sort
open Go.Proofs.Ytjbglpeikhpieaa.HT (E Hp foot ahd byC Fv)

section
variable {w : World} {hb rb turns : Nat} {v rv : Value} {L : List (Int × Int)}
set_option maxRecDepth 100000 in
set_option maxHeartbeats 4000000 in
/-- The lengths at the end. -/
theorem does_len (W : World) (h : Pair W hb v turns rb rv L) : Calls Try.prog 40 #[.pointer (some ⟨hb, 0, none⟩)] W fun e w' => e = .returned (.int .i64 (L.length : Int)) ∧ w' = W := by
  obtain ⟨came, es, h1, h2, h3⟩ := h.own
  have := HT.len_any h1
  rwa [h3.len] at this

theorem eqlSame (x1 x2 : Int) (W : World) : (binOp .eql 33 (.agg #[.int .i64 x1, .int .i64 x2]) (.agg #[.int .i64 x1, .int .i64 x2])).run Try.prog W = .ok (.bool true) W := by rw [eqlT]; simp

set_option maxRecDepth 100000 in
set_option maxHeartbeats 4000000 in
theorem does_pop (h : Pair w hb v turns rb rv L) (on t1 t2 : Int) (hsz : (L.length + 1) * 24 ≤ 140737488355328) :
    Calls Try.prog 39 #[.pointer (some ⟨hb, 0, none⟩), .pointer (some ⟨rb, 0, none⟩), .agg #[.int .i64 4, .int .i64 on, .int .i64 t1, .int .i64 t2]] w fun e w' => e = .returned (.bool true) ∧ ∃ L', (L'.length = L.length - 1) ∧ Left w hb v turns rb rv L L' w' := by
  obtain ⟨W0, hW0⟩ : ∃ W0, W0 = w.alloc (.cells #[.int .i64 4, .int .i64 on, .int .i64 t1, .int .i64 t2] 59) := ⟨_, rfl⟩
  have hS0 : Stay w W0 := by rw [hW0]; exact Stay.new _ _
  have hP0 := h.stay hS0
  have hg := guardT
  by_cases hl : 0 < L.length
  · obtain ⟨x1, x2, hp⟩ := pair_pop hP0 hl (by omega)
    have he := eqlSame x1 x2
    have HS : Hid (Stay w W0 ∧ 0 < L.length) := ⟨hS0, hl⟩
    rw [hW0] at hp
    clear h hP0 hS0 hl
    go_enter Try.func39, Try.ntmps39
    go_wp2_with fail
    refine hp.mono ?_
    rintro e9 w1 ⟨rfl, hz1, hk⟩
    have HW1 : Hid (W0.heap.size ≤ w1.heap.size) := by rw [hW0]; exact hz1
    clear hz1
    have hk1 := hk (w1.alloc (.cells #[.int .i64 x1, .int .i64 x2] 33)) (Stay.new _ _)
    clear hp hk
    go_wp2_with fail
    refine hk1.mono ?_
    rintro e9 w2 ⟨rfl, hkeep, L', hL', hLeft⟩
    rw [← hW0] at hLeft hkeep
    have hz : W0.heap.size ≤ w1.heap.size := HW1.out
    have hB7 : w2.heap[w1.heap.size]? = some (.cells #[.int .i64 x1, .int .i64 x2] 33 (0, 0)) := (hkeep w1.heap.size hz (by simp)).trans (heap_alloc_new _ _)
    obtain ⟨q0, q1, _, ql⟩ := cellB hB7
    have HL : Hid (∃ L', L'.length = L.length - 1 ∧ ∀ W, Stay w2 W → Left w hb v turns rb rv L L' W) := ⟨L', by omega, fun W hW => by
      obtain ⟨v', t', rv', q1, q2, q3, q4, q5⟩ := hLeft
      exact ⟨v', t', rv', q1.stay hW, q2, (Turn.of_stay HS.out.1).trans (q3.trans (Turn.of_stay hW)), fun k hk => (q4 k hk).imp id (fun h => Nat.le_trans HS.out.1.size h), q5⟩⟩
    clear hLeft hL' hW0 hk1 hkeep hz hB7 HW1
    go_wp2
    go_ret
    obtain ⟨L', q2, q3⟩ := HL.out
    exact ⟨rfl, L', q2, q3 _ (Stay.new _ _)⟩
  · obtain rfl : L = [] := List.eq_nil_of_length_eq_zero (by omega)
    obtain ⟨v0, hH, rfl⟩ := pair_empty hP0
    have hp1 := HT.pop_none hH
    have he := eqlSame 0 0
    have HS : Hid (Pair w hb v0 turns rb rv [] ∧ Pair W0 hb v0 turns rb rv [] ∧ Stay w W0) := ⟨h, hP0, hS0⟩
    rw [hW0] at hp1
    clear h hP0 hS0 hl hH
    go_enter Try.func39, Try.ntmps39
    go_wp2_with fail
    refine hp1.mono ?_
    rintro e9 w1 ⟨rfl, hs1⟩
    rw [← hW0] at hs1
    have hR := rpop_none ((HS.out.2.1.stay hs1).stay (Stay.new w1 (.cells #[.int .i64 0, .int .i64 0] 33))).ref
    have HS1 : Hid (Stay w w1) := HS.out.2.2.trans hs1
    clear hp1 hs1 hW0
    go_wp2_with fail
    refine hR.mono ?_
    rintro e9 w2 ⟨rfl, hs2⟩
    have hB7 : w2.heap[w1.heap.size]? = some (.cells #[.int .i64 0, .int .i64 0] 33 (0, 0)) := (hs2.block w1.heap.size (by simp)).trans (heap_alloc_new _ _)
    obtain ⟨q0, q1, _, ql⟩ := cellB hB7
    have HS2 : Hid (Stay w w2) := (HS1.out.alloc _).trans hs2
    clear hR hs2 hB7 HS1
    go_wp2
    go_ret
    exact ⟨rfl, [], rfl, left_same HS.out.1 (HS2.out.alloc _)⟩
end
end Go.Proofs.Ytjbglpeikhpieaa
