/- The small calls of a table: made, home, next, between, steps, at. -/
import Derived.Test.YtnhmjheipfopoaaICl
namespace Go.Proofs.Ytnhmjheipfopoaa.L
open Go.RowKit Go.Maps Go.Proofs.Ytnhmjheipfopoaa

/-- tuple.Hash and tuple.Equal as values. -/
abbrev hashV : Value := .func (.func 67) #[] #[]
abbrev sameV : Value := .func (.func 68) #[] #[]

/-- At block bt lies a table's box. -/
def Box (w : World) (bt : Nat) (_fp : List LK) (cv : Value) (pb N len reach : Nat) : Prop :=
  ∃ pc : Nat, w.heap[bt]? = some (.cells #[hashV, sameV, cv, .slice (some ⟨pb, 0, none⟩) N pc, .int .i64 (len : Int), .int .i64 (reach : Int)] 116 (0, 0))

/-- The size is a power of two that is not too great. -/
def Pow (N : Nat) : Prop := ∃ m, N = 2 ^ m ∧ m ≤ 40
theorem Pow.bd {N : Nat} (h : Pow N) : 0 < N ∧ N ≤ 1099511627776 := by
  obtain ⟨m, rfl, hm⟩ := h
  exact ⟨Nat.two_pow_pos m, by have := Nat.pow_le_pow_right (show 0 < 2 by decide) hm; exact this⟩

section
variable {w : World} {bt pb N len reach : Nat} {fp : List LK} {cv : Value}
theorem Box.c0 (h : Box w bt fp cv pb N len reach) : w.cell? ⟨bt, 0, none⟩ = some hashV := by obtain ⟨pc, h⟩ := h; simp [World.cell?, h]
theorem Box.c1 (h : Box w bt fp cv pb N len reach) : w.cell? ⟨bt, 1, none⟩ = some sameV := by obtain ⟨pc, h⟩ := h; simp [World.cell?, h]
theorem Box.c2 (h : Box w bt fp cv pb N len reach) : w.cell? ⟨bt, 2, none⟩ = some cv := by obtain ⟨pc, h⟩ := h; simp [World.cell?, h]
theorem Box.c3 (h : Box w bt fp cv pb N len reach) : ∃ pc, w.cell? ⟨bt, 3, none⟩ = some (.slice (some ⟨pb, 0, none⟩) N pc) := by obtain ⟨pc, h⟩ := h; exact ⟨pc, by simp [World.cell?, h]⟩
theorem Box.c4 (h : Box w bt fp cv pb N len reach) : w.cell? ⟨bt, 4, none⟩ = some (.int .i64 (len : Int)) := by obtain ⟨pc, h⟩ := h; simp [World.cell?, h]
theorem Box.c5 (h : Box w bt fp cv pb N len reach) : w.cell? ⟨bt, 5, none⟩ = some (.int .i64 (reach : Int)) := by obtain ⟨pc, h⟩ := h; simp [World.cell?, h]
theorem Box.free (h : Box w bt fp cv pb N len reach) (k : Nat) : w.frozen? ⟨bt, k, none⟩ = false := by obtain ⟨pc, h⟩ := h; simp [World.frozen?, h]
theorem Box.lt (h : Box w bt fp cv pb N len reach) : bt < w.heap.size := by obtain ⟨pc, h⟩ := h; exact (Array.getElem?_eq_some_iff.1 h).1
theorem Box.turn {S : Nat → Prop} {w' : World} (h : Box w bt fp cv pb N len reach) (ht : Turn S w w') (hn : ¬ S bt) : Box w' bt fp cv pb N len reach := by obtain ⟨pc, h⟩ := h; exact ⟨pc, ht.heap h hn⟩

set_option maxRecDepth 100000 in
theorem home_any (c3 : ∃ pc, w.cell? ⟨bt, 3, none⟩ = some (.slice (some ⟨pb, 0, none⟩) N pc)) (hN : Pow N) (h : Nat) (hh : h < 18446744073709551616) :
    Calls Try.prog 91 #[.pointer (some ⟨bt, 0, none⟩), .int .u64 (h : Int)] w fun e w' => e = .returned (.int .i64 ((h % N : Nat) : Int)) ∧ w' = w := by
  have hb := hN.bd
  obtain ⟨pc, c3⟩ := c3
  obtain ⟨m, hm, hm2⟩ := hN
  have hk := u64_mask N m hm (by omega) h hh
  have hlt : h % N < N := Nat.mod_lt _ hb.1
  clear hm
  generalize h % N = r at hk hlt ⊢
  go_enter Try.func91, Try.ntmps91
  go_wp2
  go_ret
  exact ⟨rfl, rfl⟩

theorem next_any (c3 : ∃ pc, w.cell? ⟨bt, 3, none⟩ = some (.slice (some ⟨pb, 0, none⟩) N pc)) (hN : Pow N) (p : Nat) (hp : p < N) :
    Calls Try.prog 92 #[.pointer (some ⟨bt, 0, none⟩), .int .i64 (p : Int)] w fun e w' => e = .returned (.int .i64 ((nx N p : Nat) : Int)) ∧ w' = w := by
  have hb := hN.bd
  obtain ⟨pc, c3⟩ := c3
  obtain ⟨m, hm, hm2⟩ := hN
  have hk := i64_mask N m hm (by omega) ((p : Int) + 1)
  rw [nx_mod hp] at hk
  clear hm
  generalize nx N p = r at hk ⊢
  go_enter Try.func92, Try.ntmps92
  go_wp2
  go_ret
  exact ⟨rfl, rfl⟩

theorem between_any (c3 : ∃ pc, w.cell? ⟨bt, 3, none⟩ = some (.slice (some ⟨pb, 0, none⟩) N pc)) (hN : Pow N) (p q : Nat) (hp : p < N) (hq : q < N) :
    Calls Try.prog 96 #[.pointer (some ⟨bt, 0, none⟩), .int .i64 (p : Int), .int .i64 (q : Int)] w fun e w' => e = .returned (.int .i64 ((dist N p q : Nat) : Int)) ∧ w' = w := by
  have hb := hN.bd
  obtain ⟨pc, c3⟩ := c3
  obtain ⟨m, hm, hm2⟩ := hN
  have hk := i64_mask N m hm (by omega) ((q : Int) - (p : Int))
  rw [dist_mod hp hq] at hk
  clear hm
  generalize dist N p q = r at hk ⊢
  go_enter Try.func96, Try.ntmps96
  go_wp2
  go_ret
  exact ⟨rfl, rfl⟩

theorem steps_any (c3 : ∃ pc, w.cell? ⟨bt, 3, none⟩ = some (.slice (some ⟨pb, 0, none⟩) N pc)) (hN : Pow N) (h q : Nat) (hh : h < 18446744073709551616) (hq : q < N) :
    Calls Try.prog 93 #[.pointer (some ⟨bt, 0, none⟩), .int .u64 (h : Int), .int .i64 (q : Int)] w fun e w' => e = .returned (.int .i64 ((dist N (h % N) q : Nat) : Int)) ∧ w' = w := by
  have h1 := home_any c3 hN h hh
  have h2 := between_any c3 hN (h % N) q (Nat.mod_lt _ hN.bd.1) hq
  go_enter Try.func93, Try.ntmps93
  go_wp2_with fail
  refine h1.mono ?_
  rintro e w9 ⟨rfl, hw⟩
  have hw' := hw.symm; subst hw'
  go_wp2_with fail
  refine h2.mono ?_
  rintro e w9 ⟨rfl, hw⟩
  have hw' := hw.symm; subst hw'
  go_wp2
  go_ret
  exact ⟨rfl, rfl⟩

/-- At an empty place there is nothing. -/
theorem at_none (c3 : ∃ pc, w.cell? ⟨bt, 3, none⟩ = some (.slice (some ⟨pb, 0, none⟩) N pc)) (hN : Pow N) (q : Nat) (hq : q < N) (hc : w.cell? ⟨pb, q, none⟩ = some (.int .i64 0)) :
    Calls Try.prog 77 #[.pointer (some ⟨bt, 0, none⟩), .int .i64 (q : Int)] w fun e w' => e = .returned (.pointer none) ∧ w' = w := by
  have hb := hN.bd
  obtain ⟨pc, c3⟩ := c3
  clear hN
  go_enter Try.func77, Try.ntmps77
  go_wp2
  go_ret
  exact ⟨rfl, rfl⟩

set_option maxRecDepth 100000 in
/-- At a place that is not, its key. -/
theorem at_some (g n cap : Nat) (c2 : w.cell? ⟨bt, 2, none⟩ = some (.slice (some ⟨g, 0, none⟩) n cap)) (c3 : ∃ pc, w.cell? ⟨bt, 3, none⟩ = some (.slice (some ⟨pb, 0, none⟩) N pc)) (hN : Pow N) (q t : Nat) (hq : q < N)
    (hc : w.cell? ⟨pb, q, none⟩ = some (.int .i64 ((t + 1 : Nat) : Int))) (ht : t < n) (hn : n ≤ maxLen) :
    Calls Try.prog 77 #[.pointer (some ⟨bt, 0, none⟩), .int .i64 (q : Int)] w fun e w' => e = .returned (.pointer (some ⟨g, t * 5, none⟩)) ∧ ∃ k, w' = w.drewN k := by
  have hb := hN.bd
  obtain ⟨pc, c3⟩ := c3
  unfold maxLen at hn
  clear hN
  have h0 : (((t + 1 : Nat) : Int) == 0) = false := by simp; omega
  rw [show ((t + 1 : Nat) : Int) = (t : Int) + 1 by simp] at hc h0
  go_enter Try.func77, Try.ntmps77
  go_wp2
  go_quiet (fail)
  go_wp2
  go_ret
  exact ⟨rfl, nq, rfl⟩

theorem neq_fn (lb : Array Value) (w : World) : (binOp .neq 102 (.func (.func 67) #[] lb) .nilFunc).run Try.prog w = .ok (.bool true) w := by kernel_rfl
theorem neq_nil (w : World) : (binOp .neq 102 .nilFunc .nilFunc).run Try.prog w = .ok (.bool false) w := by kernel_rfl

/-- A table that is not there: a nil pointer, or one to a zero table. -/
def NoTab (p : Value) (w : World) : Prop := Calls Try.prog 76 #[p] w fun e w' => e = .returned (.bool false) ∧ w' = w

theorem made_nil (w : World) : NoTab (.pointer none) w := by
  unfold NoTab
  go_enter Try.func76, Try.ntmps76
  go_wp2
  go_ret
  exact ⟨rfl, rfl⟩

theorem made_zero (c0 : w.cell? ⟨bt, 0, none⟩ = some .nilFunc) : NoTab (.pointer (some ⟨bt, 0, none⟩)) w := by
  unfold NoTab
  have hn := neq_nil
  go_enter Try.func76, Try.ntmps76
  go_wp2
  go_ret
  exact ⟨rfl, rfl⟩

theorem made_yes (c0 : w.cell? ⟨bt, 0, none⟩ = some hashV) : Calls Try.prog 76 #[.pointer (some ⟨bt, 0, none⟩)] w fun e w' => e = .returned (.bool true) ∧ w' = w := by
  have hn := neq_fn
  go_enter Try.func76, Try.ntmps76
  go_wp2
  go_ret
  exact ⟨rfl, rfl⟩
end
end Go.Proofs.Ytnhmjheipfopoaa.L
