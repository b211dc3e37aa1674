/- kept: what is lent is as it was. -/
import Derived.Test.YtnmaldgmlkcliaaTB
namespace Go.Proofs.Ytnmaldgmlkcliaa
open Go.RowKit Go.Maps Go.Sort

set_option maxRecDepth 100000 in
set_option maxHeartbeats 2000000 in
theorem kept_any (w : World) (g c : Nat) (a2 : Option Addr) (b2 o2 c2 base : Nat) (ts : List (Int × Int)) (hl : LentH base w g c ts) (hS : ThS w a2 b2 o2 ts) :
    Calls Try.prog 13 #[.slice (some ⟨g, 0, none⟩) ts.length c, .slice a2 ts.length c2] w fun e w' => e = .returned (.bool true) ∧ Stay w w' := by
  obtain ⟨hb1, hb2⟩ := hl.bound
  have HL : Hid (LentH base w g c ts ∧ ThS w a2 b2 o2 ts ∧ ts.length ≤ maxLen) := ⟨hl, hS, by omega⟩
  unfold maxLen at hb2
  have hb3 : (ts.length : Int) + 9 ≤ (c : Int) := by omega
  have hb4 : (c : Int) ≤ 9223372036854775807 := by omega
  have mixed : Try.prog.follows .mixedOrders = true := by kernel_rfl
  clear hl hS
  go_enter Try.func13, Try.ntmps13
  go_wp2
  go_loopw [6] (fun i wr => ∃ k : Nat, k ≤ 9 ∧ i = .int .i64 k ∧ Stay w wr) (fun i _ => 9 - (intOf i).toNat)
  case atStart => exact ⟨0, by omega, rfl, Stay.refl _⟩
  case round =>
    obtain ⟨k, hk, rfl, hst⟩ := hrel
    have HW : Hid (Stay w wr) := hst
    by_cases hlt : k < 9
    · have hi1 : (k : Int) < 9 := by omega
      have hm := (HL.out.1.stay hst).mark k hlt
      have gl := (HL.out.1.stay hst).1.lt
      have m0 : ∀ n os, (grow (wr.drewN n) os).cell? ⟨g, (ts.length + k) * 2, none⟩ = some (.int .i64 (-70 - (k : Int))) := fun n os => cell_grown gl hm.1 n os
      have m1 : ∀ n os, (grow (wr.drewN n) os).cell? ⟨g, (ts.length + k) * 2 + 1, none⟩ = some (.int .i64 (-1)) := fun n os => cell_grown gl hm.2 n os
      have hi2 : (ts.length : Int) + (k : Int) < (ts.length : Int) + 9 := by omega
      have hw1 : IntKind.i64.wrap ((ts.length : Int) + (k : Int)) = (ts.length : Int) + (k : Int) := by rw [IntKind.wrap_i64]; omega
      have hw2 : IntKind.i64.wrap (-70 - (k : Int)) = -70 - (k : Int) := by rw [IntKind.wrap_i64]; omega
      have p0 : (0 : Int) ≤ (ts.length : Int) + (k : Int) := by omega
      have e0 : ((ts.length : Int) + (k : Int)).toNat = ts.length + k := by omega
      have hth : ∀ n os, Calls Try.prog 7 #[.int .i64 (-70 - (k : Int)), .int .i64 (-1)] (grow (wr.drewN n) os) fun e w' => e = .returned (.agg #[.int .i64 (-70 - (k : Int)), .int .i64 (-1)]) ∧ ∃ q os', w' = grow ((grow (wr.drewN n) os).drewN q) os' := fun n os => (thing_at (-70 - (k : Int)) (-1) _).mono fun e w' ⟨h1, h2⟩ => ⟨h1, 0, #[.cells #[.int .i64 (-70 - (k : Int)), .int .i64 (-1)] 26], by rw [h2, alloc_eq_grow]; rfl⟩
      have hg := guardT
      have hn : ∀ W, (binOp .neq 26 (.agg #[.int .i64 (-70 - (k : Int)), .int .i64 (-1)]) (.agg #[.int .i64 (-70 - (k : Int)), .int .i64 (-1)])).run Try.prog W = .ok (.bool false) W := fun W => by rw [neqT]; simp
      clear hst hm
      go_wp2_with fail
      go_quiet_grown (first | (go_at_call 7; refine Calls.grown_of (hth _ _)))
      have HW2 : Hid (Stay w (grow (wr.drewN nq) osq)) := HW.out.trans ⟨rfl, rfl, rfl, by rw [size_grow]; exact Nat.le_add_right _ _, fun k hk => heap_grow_old _ _ hk⟩
      clear hth m0 m1
      go_wp2
      go_roundw
      case rel => exact ⟨k + 1, by omega, by go_num, HW2.out⟩
      case measure => simp [intOf]; omega
    · have hi1 : ¬ (k : Int) < 9 := by omega
      have hs := same_any wr (some ⟨g, 0, none⟩) a2 g 0 b2 o2 c c2 ts ts (HL.out.1.stay hst).things (HL.out.2.1.stay hst) HL.out.2.2 HL.out.2.2
      rw [show decide (ts = ts) = true by simp] at hs
      clear hst
      go_wp2_with fail
      refine hs.mono ?_
      rintro e9 w9 ⟨rfl, hs9⟩
      have HW2 : Hid (Stay w w9) := HW.out.trans hs9
      clear hs hs9
      go_wp2
      go_ret
      exact ⟨rfl, HW2.out⟩
end Go.Proofs.Ytnmaldgmlkcliaa
