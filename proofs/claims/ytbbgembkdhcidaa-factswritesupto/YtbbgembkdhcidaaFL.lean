/- Split, Unescape, Scan. -/
import Derived.Test.YtbbgembkdhcidaaFK
namespace Go.Proofs.Ytbbgembkdhcidaa
open Go.RowKit Go.Maps

mutual
theorem walkP_count : ∀ (c l : List UInt8), (walkP c l).2 = none → (walkP c l).1.length = l.count 9 + 1
  | c, [], _ => by simp [walkP]
  | c, b :: l, h => by
    rw [walkP] at h ⊢
    by_cases h9 : b = 9
    · rw [if_pos h9] at h ⊢
      have hn : (walkP [] l).2 = none := by simpa [lput] using h
      have := walkP_count [] l hn
      simp [lput, h9, this]
    · rw [if_neg h9] at h ⊢
      split at h
      · simp [lno] at h
      · rename_i hc
        rw [if_neg hc]
        split at h
        · rename_i h92
          rw [if_pos h92]
          have hn : (walkE c l).2 = none := by simpa [lskip] using h
          have := walkE_count c l hn
          simp [lskip, h9, this]
        · rename_i h92
          rw [if_neg h92]
          have hn : (walkP (c ++ [b]) l).2 = none := by simpa [lskip] using h
          have := walkP_count (c ++ [b]) l hn
          simp [lskip, h9, this]
theorem walkE_count : ∀ (c l : List UInt8), (walkE c l).2 = none → (walkE c l).1.length = l.count 9 + 1
  | c, [], h => by simp [walkE, lno] at h
  | c, d :: l, h => by
    rw [walkE] at h ⊢
    cases ht : turnB d with
    | none => rw [ht] at h; simp [lno] at h
    | some x =>
      rw [ht] at h
      dsimp only at h ⊢
      have hn : (walkP (c ++ [x]) l).2 = none := by simpa [lskip] using h
      have := walkP_count (c ++ [x]) l hn
      have h9 : d ≠ 9 := fun e => by rw [e] at ht; simp [turnB] at ht
      simp [lskip, h9, this]
end
theorem split_count {l : List UInt8} (h : (splitT l).2 = none) : (splitT l).1.length = l.count 9 + 1 := walkP_count [] l h
mutual
theorem walkP_le : ∀ (c l : List UInt8) (k : Nat), (walkP c l).2 = some k → k ≤ l.length
  | c, [], k, h => by simp [walkP] at h
  | c, b :: l, k, h => by
    rw [walkP] at h
    split at h
    · simp only [lput, Option.map_eq_some_iff] at h
      obtain ⟨j, h1, h2⟩ := h
      have := walkP_le [] l j h1
      simp; omega
    · split at h
      · simp [lno] at h; omega
      · split at h
        · simp only [lskip, Option.map_eq_some_iff] at h
          obtain ⟨j, h1, h2⟩ := h
          have := walkE_le c l j h1
          simp; omega
        · simp only [lskip, Option.map_eq_some_iff] at h
          obtain ⟨j, h1, h2⟩ := h
          have := walkP_le (c ++ [b]) l j h1
          simp; omega
theorem walkE_le : ∀ (c l : List UInt8) (k : Nat), (walkE c l).2 = some k → k ≤ l.length
  | c, [], k, h => by simp [walkE, lno] at h; omega
  | c, d :: l, k, h => by
    rw [walkE] at h
    cases ht : turnB d with
    | none => rw [ht] at h; simp [lno] at h; omega
    | some x =>
      rw [ht] at h
      simp only [lskip, Option.map_eq_some_iff] at h
      obtain ⟨j, h1, h2⟩ := h
      have := walkP_le (c ++ [x]) l j h1
      simp; omega
end
theorem split_le {l : List UInt8} {k : Nat} (h : (splitT l).2 = some k) : k ≤ l.length := walkP_le [] l k h
/-- The error that goes with a place. -/
def errZ : Option Nat → Int
  | none => 0
  | some _ => 11
/-- What Split answers: the constants, if nothing is wrong. -/
def okL (r : LR) : List (List UInt8) := match r.2 with
  | none => r.1
  | some _ => []

/-- What Unescape answers. -/
def unT (l : List UInt8) : List UInt8 × Option Nat := match (splitT (headB 9 l)).2 with
  | some k => ([], some k)
  | none => if hasB 9 l then ([], some (headB 9 l).length) else ((splitT (headB 9 l)).1.headD [], none)

end Go.Proofs.Ytbbgembkdhcidaa
