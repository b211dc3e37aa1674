/- does: Peek, Push, what else. -/
import Derived.Test.YtjbglpeikhpieaaTL
import Derived.BigQuiet
namespace Go.Proofs.Ytjbglpeikhpieaa
open Go.RowKit Go.Maps Go.Sort
open Go.Proofs.Ytjbglpeikhpieaa.HT (E Hp foot ahd byC Fv)

section
variable {w : World} {hb rb turns : Nat} {v rv : Value} {L : List (Int × Int)}
theorem pair_peek (h : Pair w hb v turns rb rv L) (hsz : L.length * 24 ≤ 140737488355328) : ∃ (x1 x2 : Int) (ok : Bool), ∀ W, Stay w W → Calls Try.prog 43 #[.pointer (some ⟨hb, 0, none⟩)] W (fun e w' => e = .returned (.tuple #[.agg #[.int .i64 x1, .int .i64 x2], .bool ok]) ∧ Stay W w') ∧ Calls Try.prog 68 #[.pointer (some ⟨rb, 0, none⟩)] W (fun e w' => e = .returned (.tuple #[.agg #[.int .i64 x1, .int .i64 x2], .bool ok]) ∧ Stay W w') := by
  by_cases hl : 0 < L.length
  · obtain ⟨came, es, h1, h2, h3⟩ := h.own
    have hcl := h3.len
    obtain ⟨e, he⟩ : ∃ e, came[0]? = some e := ⟨_, List.getElem?_eq_getElem (by omega)⟩
    refine ⟨e.1.1, e.1.2, true, fun W hW => ⟨HT.peek_some (h1.stay hW) e he, (rpeek_some (h.stay hW).ref hl (by omega)).mono ?_⟩⟩
    rintro e9 w2 ⟨b, hb, hB, rfl, hs⟩
    obtain ⟨_, hLe⟩ := h3.first h2 he hB
    rw [List.getElem?_eq_getElem hb, Option.some.injEq] at hLe
    exact ⟨by rw [hLe], hs⟩
  · obtain rfl : L = [] := List.eq_nil_of_length_eq_zero (by omega)
    obtain ⟨v0, hH, rfl⟩ := pair_empty h
    exact ⟨0, 0, false, fun W hW => ⟨HT.peek_none (hH.stay hW), rpeek_none (h.stay hW).ref⟩⟩

set_option maxRecDepth 100000 in
set_option maxHeartbeats 4000000 in
theorem does_peek (h : Pair w hb v turns rb rv L) (on t1 t2 : Int) (hsz : (L.length + 1) * 24 ≤ 140737488355328) :
    Calls Try.prog 39 #[.pointer (some ⟨hb, 0, none⟩), .pointer (some ⟨rb, 0, none⟩), .agg #[.int .i64 5, .int .i64 on, .int .i64 t1, .int .i64 t2]] w fun e w' => e = .returned (.bool true) ∧ Left w hb v turns rb rv L L w' := by
  obtain ⟨x1, x2, ok, hp⟩ := pair_peek h (by omega)
  have he := eqlSame x1 x2
  have hg := guardT
  have hp1 := (hp _ (Stay.new w (.cells #[.int .i64 5, .int .i64 on, .int .i64 t1, .int .i64 t2] 59))).1
  have HS : Hid (Pair w hb v turns rb rv L) := h
  clear h
  go_enter Try.func39, Try.ntmps39
  go_wp2_with fail
  refine hp1.mono ?_
  rintro e9 w1 ⟨rfl, hs1⟩
  have HS1 : Hid (Stay w w1) := (Stay.new _ _).trans hs1
  have hp2 := (hp _ (HS1.out.trans (Stay.new w1 (.cells #[.int .i64 x1, .int .i64 x2] 33)))).2
  clear hp hp1 hs1
  go_wp2_with fail
  refine hp2.mono ?_
  rintro e9 w2 ⟨rfl, hs2⟩
  have hB7 : w2.heap[w1.heap.size]? = some (.cells #[.int .i64 x1, .int .i64 x2] 33 (0, 0)) := (hs2.block w1.heap.size (by simp)).trans (heap_alloc_new _ _)
  obtain ⟨q0, q1, _, ql⟩ := cellB hB7
  have HS2 : Hid (Stay w w2) := (HS1.out.alloc _).trans hs2
  clear hp2 hs2 hB7 HS1
  cases ok
  all_goals
    go_wp2
    go_ret
    exact ⟨rfl, left_same HS.out (HS2.out.alloc _)⟩

set_option maxRecDepth 100000 in
set_option maxHeartbeats 4000000 in
theorem does_push (h : Pair w hb v turns rb rv L) (kind on t1 t2 : Int) (h0 : 0 ≤ kind) (h3 : kind ≤ 3) (hsz : (L.length + 1) * 24 ≤ 140737488355328) (htn : turns ≤ 140737488355328) :
    Calls Try.prog 39 #[.pointer (some ⟨hb, 0, none⟩), .pointer (some ⟨rb, 0, none⟩), .agg #[.int .i64 kind, .int .i64 on, .int .i64 t1, .int .i64 t2]] w fun e w' => e = .returned (.bool true) ∧ Left w hb v turns rb rv L (L ++ [(t1, t2)]) w' := by
  obtain ⟨W0, hW0⟩ : ∃ W0, W0 = w.alloc (.cells #[.int .i64 kind, .int .i64 on, .int .i64 t1, .int .i64 t2] 59) := ⟨_, rfl⟩
  have hS0 : Stay w W0 := by rw [hW0]; exact Stay.new _ _
  have hB0 : W0.heap[w.heap.size]? = some (.cells #[.int .i64 kind, .int .i64 on, .int .i64 t1, .int .i64 t2] 59 (0, 0)) := by rw [hW0]; exact heap_alloc_new _ _
  have hP0 := h.stay hS0
  have hp := pair_push hP0 (t1, t2) hsz htn
  have HB : Hid (W0.heap[w.heap.size]? = some (.cells #[.int .i64 kind, .int .i64 on, .int .i64 t1, .int .i64 t2] 59 (0, 0)) ∧ ¬ foot hb v w.heap.size) := ⟨hB0, fun hf => by have := h.lt _ (.inl hf); omega⟩
  have HS : Hid (Stay w W0) := hS0
  have d4 : ¬ kind = 4 := by omega
  have d5 : ¬ kind = 5 := by omega
  have dg : decide (0 ≤ kind) = true := by simpa using h0
  have d3 : decide (kind ≤ 3) = true := by simpa using h3
  have HW0 : Hid (W0 = w.alloc (.cells #[.int .i64 kind, .int .i64 on, .int .i64 t1, .int .i64 t2] 59)) := hW0
  rw [hW0] at hp
  clear h hP0 hS0 hB0 h0 h3 hsz htn hW0
  go_enter Try.func39, Try.ntmps39
  go_wp2_with fail
  refine hp.mono ?_
  rintro e9 w1 ⟨rfl, hT1, hk⟩
  rw [← HW0.out] at hT1
  have hB1 := hT1.heap HB.out.1 HB.out.2
  have hc2 : w1.cell? ⟨w.heap.size, 2, none⟩ = some (.int .i64 t1) := by simp [World.cell?, hB1]
  have hc3 : w1.cell? ⟨w.heap.size, 3, none⟩ = some (.int .i64 t2) := by simp [World.cell?, hB1]
  have hlt : w.heap.size < w1.heap.size := (Array.getElem?_eq_some_iff.1 hB1).1
  clear hp hT1 hB1
  go_wp2_with fail
  refine hk.mono ?_
  rintro e9 w2 ⟨rfl, v', t', rv', q1, q2, q3, q4, q5⟩
  obtain ⟨va, vb, vc, rfl, _, _, _, _⟩ := q1.ref.row.form
  have k0 := q1.ref.c0
  have k1 := q1.ref.lt rb (.inl rfl)
  have hlen : ∀ n, Calls Try.prog 40 #[.pointer (some ⟨hb, 0, none⟩)] (w2.drewN n) fun e w' => e = .returned (.int .i64 ((L ++ [(t1, t2)]).length : Int)) ∧ w' = (w2.drewN n) := fun n => does_len _ (q1.stay (Stay.drewN _ _))
  have HL : Hid (∀ W, Stay w2 W → Left w hb v turns rb rv L (L ++ [(t1, t2)]) W) := fun W hW => by
    rw [← HW0.out] at q3 q4
    exact ⟨v', t', _, q1.stay hW, q2, (Turn.of_stay HS.out).trans (q3.trans (Turn.of_stay hW)), fun k hk => (q4 k hk).imp id (fun h => Nat.le_trans HS.out.size h), q5⟩
  clear q1 q2 q3 q4 q5 hk hc2 hc3 hlt
  go_wp2_with fail
  go_quiet (exact Calls.quiet_of_same (hlen _))
  go_wp2
  go_ret
  exact ⟨rfl, HL.out _ (Stay.drewN _ _)⟩
end
end Go.Proofs.Ytjbglpeikhpieaa
