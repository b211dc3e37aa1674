/- A token's bytes alone are that token. No walk here. -/
import Derived.Test.YtioafeckaeaopaaDoorYI
namespace Go.Proofs.YtioafeckaeaopaaDoor
open Go.RowKit Go.Maps

theorem runF_take (p : Int → Bool) : ∀ (n : Nat) (l : List UInt8), runF p n (l.take (runF p n l)) = runF p n l
  | 0, _ => by simp [runF]
  | n + 1, [] => by simp [runF]
  | n + 1, b :: l => by
    by_cases h : p (b.toNat : Int) = true
    · have e : runF p (n + 1) (b :: l) = runF p n l + 1 := by rw [runF, if_pos h]
      rw [e, List.take_succ_cons, runF, if_pos h, runF_take p n l]
    · have e : runF p (n + 1) (b :: l) = 0 := by rw [runF, if_neg h]
      rw [e]
      rfl
theorem commonN_take : ∀ (l s : List UInt8), commonN (l.take (commonN l s)) s = commonN l s
  | [], s => by simp [commonN]
  | a :: l, [] => by simp [commonN]
  | a :: l, b :: s => by
    by_cases h : a = b
    · have e : commonN (a :: l) (b :: s) = commonN l s + 1 := by rw [commonN, if_pos h]
      rw [e, List.take_succ_cons, commonN, if_pos h, commonN_take l s]
    · have e : commonN (a :: l) (b :: s) = 0 := by rw [commonN, if_neg h]
      rw [e]
      rfl
/-- What was read up to there, read again without what follows: as far, as whole, and the same bytes where it is whole. -/
def As (r r' : R) : Prop := r'.2.1 = r.2.1 ∧ r'.2.2 = r.2.2 ∧ (r.2.2 = true → r'.1 = r.1)
theorem As.skip {r r' : R} (h : As r r') (n : Nat) : As (skip n r) (skip n r') := ⟨by simp [Proofs.YtioafeckaeaopaaDoor.skip, h.1], h.2.1, h.2.2⟩
theorem As.put {r r' : R} (h : As r r') (b : UInt8) (n : Nat) : As (put b n r) (put b n r') := ⟨by simp [Proofs.YtioafeckaeaopaaDoor.put, h.1], h.2.1, fun hb => congrArg (b :: ·) (h.2.2 hb)⟩
theorem As.refl (r : R) : As r r := ⟨rfl, rfl, fun _ => rfl⟩
theorem As.no (l : List UInt8) : As (no 0) (no 0) ∧ l.take 0 = [] := ⟨As.refl _, rfl⟩
mutual
theorem unqP_take : ∀ (c : Nat) (l : List UInt8), As (unqP c l) (unqP c (l.take (unqP c l).2.1))
  | c, [] => by
    have e : unqP c [] = no 0 := by simp [unqP]
    rw [e]
    simp only [no, List.take_nil, e]
    exact As.refl _
  | c, b :: l => by
    have h1 := unqE_take c l
    have h2 := unqP_take (c + 1) l
    by_cases c1 : b = 34
    · have e : ∀ m, unqP c (b :: m) = ([], 1, true) := fun m => by rw [unqP, if_pos c1]
      rw [e, List.take_succ_cons, e]
      exact As.refl _
    · by_cases c2 : c = 1024
      · have e : unqP c (b :: l) = no 0 := by rw [unqP, if_neg c1, if_pos c2]
        rw [e]
        have e0 : unqP c [] = no 0 := by simp [unqP]
        simp only [no, List.take_zero]
        rw [e0]
        exact As.refl _
      · by_cases c3 : b = 92
        · have e : ∀ m, unqP c (b :: m) = skip 1 (unqE c m) := fun m => by rw [unqP, if_neg c1, if_neg c2, if_pos c3]
          rw [e]
          have ht : (skip 1 (unqE c l)).2.1 = (unqE c l).2.1 + 1 := by simp [skip]; omega
          rw [ht, List.take_succ_cons, e]
          exact h1.skip 1
        · by_cases c4 : plainZ (b.toNat : Int) = true
          · have e : ∀ m, unqP c (b :: m) = put b 1 (unqP (c + 1) m) := fun m => by rw [unqP, if_neg c1, if_neg c2, if_neg c3, if_pos c4]
            rw [e]
            have ht : (put b 1 (unqP (c + 1) l)).2.1 = (unqP (c + 1) l).2.1 + 1 := by simp [put]; omega
            rw [ht, List.take_succ_cons, e]
            exact h2.put b 1
          · have e : unqP c (b :: l) = no 0 := by rw [unqP, if_neg c1, if_neg c2, if_neg c3, if_neg c4]
            rw [e]
            have e0 : unqP c [] = no 0 := by simp [unqP]
            simp only [no, List.take_zero]
            rw [e0]
            exact As.refl _
theorem unqE_take : ∀ (c : Nat) (l : List UInt8), As (unqE c l) (unqE c (l.take (unqE c l).2.1))
  | c, [] => by
    have e : unqE c [] = no 0 := by simp [unqE]
    rw [e]
    simp only [no, List.take_nil, e]
    exact As.refl _
  | c, b :: l => by
    have h1 := unqD_take c l
    have h2 := unqP_take (c + 1) l
    have hp : ∀ x : UInt8, (∀ m, unqE c (b :: m) = put x 1 (unqP (c + 1) m)) → As (unqE c (b :: l)) (unqE c ((b :: l).take (unqE c (b :: l)).2.1)) := fun x e => by
      rw [e]
      have ht : (put x 1 (unqP (c + 1) l)).2.1 = (unqP (c + 1) l).2.1 + 1 := by simp [put]; omega
      rw [ht, List.take_succ_cons, e]
      exact h2.put x 1
    by_cases c1 : b = 34 ∨ b = 92
    · exact hp b (fun m => by rw [unqE, if_pos c1])
    · by_cases c2 : b = 110
      · exact hp 10 (fun m => by rw [unqE, if_neg c1, if_pos c2])
      · by_cases c3 : b = 116
        · exact hp 9 (fun m => by rw [unqE, if_neg c1, if_neg c2, if_pos c3])
        · by_cases c4 : b = 120
          · have e : ∀ m, unqE c (b :: m) = skip 1 (unqD c m) := fun m => by rw [unqE, if_neg c1, if_neg c2, if_neg c3, if_pos c4]
            rw [e]
            have ht : (skip 1 (unqD c l)).2.1 = (unqD c l).2.1 + 1 := by simp [skip]; omega
            rw [ht, List.take_succ_cons, e]
            exact h1.skip 1
          · have e : unqE c (b :: l) = no 0 := by rw [unqE, if_neg c1, if_neg c2, if_neg c3, if_neg c4]
            rw [e]
            have e0 : unqE c [] = no 0 := by simp [unqE]
            simp only [no, List.take_zero]
            rw [e0]
            exact As.refl _
theorem unqD_take : ∀ (c : Nat) (l : List UInt8), As (unqD c l) (unqD c (l.take (unqD c l).2.1))
  | c, [] => by
    have e : unqD c [] = no 0 := by simp [unqD]
    rw [e]
    simp only [no, List.take_nil, e]
    exact As.refl _
  | c, [h] => by
    have e0 : unqD c [] = no 0 := by simp [unqD]
    by_cases c1 : hexV (h.toNat : Int) < 0
    · have e : unqD c [h] = no 0 := by rw [unqD, if_pos c1]
      rw [e]
      simp only [no, List.take_zero]
      rw [e0]
      exact As.refl _
    · have e : unqD c [h] = no 1 := by rw [unqD, if_neg c1]
      rw [e]
      simp only [no, List.take_succ_cons, List.take_nil]
      rw [e]
      exact As.refl _
  | c, h :: g :: l => by
    have h2 := unqP_take (c + 1) l
    have e0 : unqD c [] = no 0 := by simp [unqD]
    by_cases c1 : hexV (h.toNat : Int) < 0
    · have e : unqD c (h :: g :: l) = no 0 := by rw [unqD, if_pos c1]
      rw [e]
      simp only [no, List.take_zero]
      rw [e0]
      exact As.refl _
    · have e1 : unqD c [h] = no 1 := by rw [unqD, if_neg c1]
      by_cases c2 : hexV (g.toNat : Int) < 0
      · have e : unqD c (h :: g :: l) = no 1 := by rw [unqD, if_neg c1, if_pos c2]
        rw [e]
        simp only [no, List.take_succ_cons, List.take_zero]
        rw [e1]
        exact As.refl _
      · have e : ∀ m, unqD c (h :: g :: m) = put (16 * hexV (h.toNat : Int) + hexV (g.toNat : Int)).toNat.toUInt8 2 (unqP (c + 1) m) := fun m => by rw [unqD, if_neg c1, if_neg c2]
        rw [e]
        have ht : (put (16 * hexV (h.toNat : Int) + hexV (g.toNat : Int)).toNat.toUInt8 2 (unqP (c + 1) l)).2.1 = (unqP (c + 1) l).2.1 + 1 + 1 := by simp [put]; omega
        rw [ht, List.take_succ_cons, List.take_succ_cons, e]
        exact h2.put _ 2
end
end Go.Proofs.YtioafeckaeaopaaDoor
