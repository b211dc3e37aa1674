/- The document's has and Find, of things. -/
import Derived.Test.YtdbilngkokkggaaTD
namespace Go.Proofs.Ytdbilngkokkggaa
open Go.RowKit Go.Maps Go.Sort

def hasR (l : List (Int × Int)) (x : Int) : Bool := l.any fun y => y.1 == x
def cntR (l : List (Int × Int)) (x : Int) : Nat := l.countP fun y => decide (y.1 < x)
theorem cnt_step (l : List (Int × Int)) (x : Int) (k : Nat) (h : k < l.length) : cntR (l.take (k + 1)) x = cntR (l.take k) x + if l[k].1 < x then 1 else 0 := by
  unfold cntR
  rw [List.take_succ_eq_append_getElem h, List.countP_append]
  by_cases e : l[k].1 < x <;> simp [e]
theorem cnt_le (l : List (Int × Int)) (x : Int) : cntR l x ≤ l.length := List.countP_le_length
theorem has_step (l : List (Int × Int)) (x : Int) (k : Nat) (h : k < l.length) : hasR (l.take (k + 1)) x = (hasR (l.take k) x || (l[k].1 == x)) := by
  unfold hasR
  rw [List.take_succ_eq_append_getElem h, List.any_append]
  simp
theorem has_true (l : List (Int × Int)) (x : Int) (k : Nat) (h : k < l.length) (e : l[k].1 = x) : hasR l x = true := by
  unfold hasR
  rw [List.any_eq_true]
  exact ⟨l[k], List.getElem_mem h, by simpa using e⟩

set_option maxRecDepth 100000 in
set_option maxHeartbeats 1000000 in
theorem rhas_any (w : World) (a : Option Addr) (b off c : Nat) (l : List (Int × Int)) (hS : ThS w a b off l) (hl : l.length ≤ maxLen) (x1 x2 : Int) :
    Calls Try.prog 59 #[.slice a l.length c, .agg #[.int .i64 x1, .int .i64 x2]] w fun e w' => e = .returned (.bool (hasR l x1)) ∧ Stay w w' := by
  unfold maxLen at hl
  have HX : Hid (ThS w a b off l) := hS
  have HB : Hid ((w.alloc (.cells #[.int .i64 x1, .int .i64 x2] 33)).cell? ⟨w.heap.size, 0, none⟩ = some (.int .i64 x1) ∧ Stay w (w.alloc (.cells #[.int .i64 x1, .int .i64 x2] 33))) := ⟨by simp, Stay.new _ _⟩
  clear hS
  go_enter Try.func59, Try.ntmps59
  go_wp2
  obtain ⟨B, hB⟩ : ∃ B, B = w.heap.size := ⟨_, rfl⟩
  rw [← hB] at HB ⊢
  clear hB
  generalize w.alloc (.cells #[.int .i64 x1, .int .i64 x2] 33) = W0 at HB ⊢
  go_loopw [5] (fun i wr => ∃ k : Nat, k ≤ l.length ∧ i = .int .i64 k ∧ hasR (l.take k) x1 = false ∧ Stay W0 wr) (fun i _ => l.length - (intOf i).toNat)
  case atStart => exact ⟨0, Nat.zero_le _, rfl, rfl, Stay.refl _⟩
  case round =>
    obtain ⟨k, hk, rfl, hno, hst⟩ := hrel
    have HW : Hid (Stay w wr) := HB.out.2.trans hst
    have HN : Hid (hasR (l.take k) x1 = false ∧ Stay W0 wr) := ⟨hno, hst⟩
    by_cases hlt : k < l.length
    · have hi1 : (k : Int) < (l.length : Int) := by omega
      obtain rfl := HX.out.1 (by omega)
      have hcy := ((HX.out.stay HW.out).2 k hlt).1
      have hcx := hst.cell HB.out.1
      have HY : Hid (∀ z, z = l[k].1 → (z = x1 → hasR l x1 = true) ∧ (¬ z = x1 → hasR (l.take (k + 1)) x1 = false)) := by
        rintro z rfl
        refine ⟨fun e => has_true l x1 k hlt e, fun e => ?_⟩
        rw [has_step l x1 k hlt, HN.out.1]
        simpa using e
      obtain ⟨y1, hy1⟩ : ∃ y1, y1 = l[k].1 := ⟨_, rfl⟩
      rw [← hy1] at hcy
      have HZ := HY.out y1 hy1
      have HZ2 : Hid ((y1 = x1 → hasR l x1 = true) ∧ (¬ y1 = x1 → hasR (l.take (k + 1)) x1 = false)) := HZ
      clear hno hst HY hy1 HZ
      by_cases e : y1 = x1
      · have eb : (y1 == x1) = true := by simpa using e
        have HR : Hid (hasR l x1 = true) := HZ2.out.1 e
        clear e
        go_wp2_with fail
        go_quiet (fail)
        go_wp2
        go_ret
        exact ⟨by rw [HR.out]; rfl, HW.out.trans (Stay.drewN _ _)⟩
      · have eb : (y1 == x1) = false := by simpa using e
        have HR : Hid (hasR (l.take (k + 1)) x1 = false) := HZ2.out.2 e
        clear e
        go_wp2_with fail
        go_quiet (fail)
        go_wp2
        go_roundw
        case rel => exact ⟨k + 1, by omega, by go_num, HR.out, HN.out.2.trans (Stay.drewN _ _)⟩
        case measure => simp [intOf]; omega
    · have hi1 : ¬ (k : Int) < (l.length : Int) := by omega
      rw [List.take_of_length_le (by omega)] at hno
      have HR : Hid (hasR l x1 = false) := hno
      clear hno hst HN
      go_wp2
      go_ret
      exact ⟨by rw [HR.out]; rfl, HW.out⟩

set_option maxRecDepth 100000 in
set_option maxHeartbeats 1000000 in
theorem rfind_any (w : World) (a : Option Addr) (b off c : Nat) (l : List (Int × Int)) (hS : ThS w a b off l) (hl : l.length ≤ 1152921504606846976) (x1 x2 : Int) :
    Calls Try.prog 28 #[.slice a l.length c, .agg #[.int .i64 x1, .int .i64 x2]] w fun e w' => e = .returned (.tuple #[.int .i64 (cntR l x1 : Int), .bool (hasR l x1)]) ∧ Stay w w' := by
  have HX : Hid (ThS w a b off l) := hS
  have HH : Hid (∀ W, Stay w W → Calls Try.prog 59 #[.slice a l.length c, .agg #[.int .i64 x1, .int .i64 x2]] W fun e w' => e = .returned (.bool (hasR l x1)) ∧ Stay W w') := fun W hW => rhas_any W a b off c l (hS.stay hW) (by unfold maxLen; omega) x1 x2
  have HB : Hid ((w.alloc (.cells #[.int .i64 x1, .int .i64 x2] 33)).cell? ⟨w.heap.size, 0, none⟩ = some (.int .i64 x1) ∧ (w.alloc (.cells #[.int .i64 x1, .int .i64 x2] 33)).cell? ⟨w.heap.size, 1, none⟩ = some (.int .i64 x2) ∧ Stay w (w.alloc (.cells #[.int .i64 x1, .int .i64 x2] 33))) := ⟨by simp, by simp, Stay.new _ _⟩
  clear hS
  go_enter Try.func28, Try.ntmps28
  go_wp2
  obtain ⟨B, hB⟩ : ∃ B, B = w.heap.size := ⟨_, rfl⟩
  rw [← hB] at HB ⊢
  clear hB
  generalize w.alloc (.cells #[.int .i64 x1, .int .i64 x2] 33) = W0 at HB ⊢
  go_loopw [6, 7] (fun n i wr => ∃ k : Nat, k ≤ l.length ∧ i = .int .i64 k ∧ n = .int .i64 (cntR (l.take k) x1 : Int) ∧ Stay W0 wr) (fun _ i _ => l.length - (intOf i).toNat)
  case atStart => exact ⟨0, Nat.zero_le _, rfl, rfl, Stay.refl _⟩
  case round =>
    obtain ⟨k, hk, rfl, rfl, hst⟩ := hrel
    have HW : Hid (Stay w wr ∧ Stay W0 wr) := ⟨HB.out.2.2.trans hst, hst⟩
    have hcl := cnt_le (l.take k) x1
    have hcl2 : (cntR (l.take k) x1 : Int) ≤ 1152921504606846976 := by have : (l.take k).length ≤ k := List.length_take_le _ _; omega
    clear hcl
    have hcx := hst.cell HB.out.1
    have hcx2 := hst.cell HB.out.2.1
    by_cases hlt : k < l.length
    · have hi1 : (k : Int) < (l.length : Int) := by omega
      obtain rfl := HX.out.1 (by omega)
      have hcy := ((HX.out.stay HW.out.1).2 k hlt).1
      have hs := cnt_step l x1 k hlt
      obtain ⟨y1, hy1⟩ : ∃ y1, y1 = l[k].1 := ⟨_, rfl⟩
      rw [← hy1] at hcy hs
      have HC : Hid (cntR (l.take (k + 1)) x1 = cntR (l.take k) x1 + if y1 < x1 then 1 else 0) := hs
      clear hst hy1 hs
      generalize cntR (l.take k) x1 = n at HC hcl2
      by_cases e : y1 < x1
      · go_wp2_with fail
        go_quiet (fail)
        go_wp2
        go_roundw
        case rel => exact ⟨k + 1, by omega, by go_num, by rw [HC.out, if_pos e]; go_num, HW.out.2.trans (Stay.drewN _ _)⟩
        case measure => simp [intOf]; omega
      · go_wp2_with fail
        go_quiet (fail)
        go_wp2
        go_roundw
        case rel => exact ⟨k + 1, by omega, by go_num, by rw [HC.out, if_neg (by omega)]; rfl, HW.out.2.trans (Stay.drewN _ _)⟩
        case measure => simp [intOf]; omega
    · have hi1 : ¬ (k : Int) < (l.length : Int) := by omega
      have hh := HH.out wr HW.out.1
      have HC : Hid (l.take k = l) := List.take_of_length_le (by omega)
      rw [HC.out] at hcl2 ⊢
      clear hst
      obtain ⟨q, hq⟩ : ∃ q, q = hasR l x1 := ⟨_, rfl⟩
      obtain ⟨n, hn⟩ : ∃ n, n = cntR l x1 := ⟨_, rfl⟩
      rw [← hq] at hh
      rw [← hn] at hcl2 ⊢
      have HQ : Hid (q = hasR l x1 ∧ n = cntR l x1) := ⟨hq, hn⟩
      clear hq hn
      go_wp2_with fail
      refine hh.mono ?_
      rintro e9 w9 ⟨rfl, hs9⟩
      have HW9 : Hid (Stay w w9) := HW.out.1.trans hs9
      clear hh hs9
      go_wp2
      go_ret2
      exact ⟨by rw [← HQ.out.1, ← HQ.out.2]; rfl, HW9.out⟩
end Go.Proofs.Ytdbilngkokkggaa
