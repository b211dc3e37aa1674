/- What is read is written as the text: plainly. No walk here. -/
import Derived.Test.YthpecmdfppdkaaaFO
namespace Go.Proofs.Ythpecmdfppdkaaa
open Go.RowKit Go.Maps

theorem lineL_cons {c : List UInt8} {r : List (List UInt8)} (h : r ≠ []) : lineL (c :: r) = escL c ++ 9 :: lineL r := by
  cases r with
  | nil => exact absurd rfl h
  | cons y r => rfl
theorem escB_plain {b : UInt8} (h9 : b ≠ 9) (h10 : b ≠ 10) (h92 : b ≠ 92) : escB b = [b] := by unfold escB; rw [if_neg h9, if_neg h10, if_neg h92]
theorem turnB_esc {d x : UInt8} (h : turnB d = some x) : escB x = [92, d] := by
  unfold turnB at h
  split at h
  · rename_i e; cases h; rw [e]; rfl
  · split at h
    · rename_i e; cases h; rw [e]; rfl
    · split at h
      · rename_i e; cases h; rw [e]; rfl
      · cases h
mutual
theorem walkP_line : ∀ (c l : List UInt8), (walkP c l).2 = none → lineL (walkP c l).1 = escL c ++ l ∧ (walkP c l).1 ≠ []
  | c, [], _ => by simp [walkP, lineL]
  | c, b :: l, h => by
    rw [walkP] at h ⊢
    by_cases h9 : b = 9
    · rw [if_pos h9] at h ⊢
      have hn : (walkP [] l).2 = none := by simpa [lput] using h
      obtain ⟨h1, h2⟩ := walkP_line [] l hn
      refine ⟨?_, by simp [lput]⟩
      show lineL (c :: (walkP [] l).1) = _
      rw [lineL_cons h2, h1, h9]; simp [escL]
    · rw [if_neg h9] at h ⊢
      split at h
      · simp [lno] at h
      · rename_i hc
        rw [if_neg hc]
        split at h
        · rename_i h92
          rw [if_pos h92]
          have hn : (walkE c l).2 = none := by simpa [lskip] using h
          obtain ⟨h1, h2⟩ := walkE_line c l hn
          rw [h92]
          exact ⟨h1, h2⟩
        · rename_i h92
          rw [if_neg h92]
          have hn : (walkP (c ++ [b]) l).2 = none := by simpa [lskip] using h
          obtain ⟨h1, h2⟩ := walkP_line (c ++ [b]) l hn
          refine ⟨?_, h2⟩
          show lineL (walkP (c ++ [b]) l).1 = _
          rw [h1, escL_snoc, escB_plain h9 (fun e => hc (.inl e)) h92]; simp
theorem walkE_line : ∀ (c l : List UInt8), (walkE c l).2 = none → lineL (walkE c l).1 = escL c ++ 92 :: l ∧ (walkE c l).1 ≠ []
  | c, [], h => by simp [walkE, lno] at h
  | c, d :: l, h => by
    rw [walkE] at h ⊢
    cases ht : turnB d with
    | none => rw [ht] at h; simp [lno] at h
    | some x =>
      rw [ht] at h
      dsimp only at h ⊢
      have hn : (walkP (c ++ [x]) l).2 = none := by simpa [lskip] using h
      obtain ⟨h1, h2⟩ := walkP_line (c ++ [x]) l hn
      refine ⟨?_, h2⟩
      show lineL (walkP (c ++ [x]) l).1 = _
      rw [h1, escL_snoc, turnB_esc ht]; simp
end
mutual
theorem walkP_small : ∀ (c l : List UInt8), c.length ≤ 1024 → (walkP c l).2 = none → ∀ y ∈ (walkP c l).1, y.length ≤ 1024
  | c, [], hc, _ => by intro y hy; simp [walkP] at hy; rw [hy]; exact hc
  | c, b :: l, hcl, h => by
    rw [walkP] at h ⊢
    by_cases h9 : b = 9
    · rw [if_pos h9] at h ⊢
      have hn : (walkP [] l).2 = none := by simpa [lput] using h
      have h1 := walkP_small [] l (by simp) hn
      intro y hy
      have hy' : y ∈ c :: (walkP [] l).1 := hy
      rcases List.mem_cons.1 hy' with e | e
      · rw [e]; exact hcl
      · exact h1 y e
    · rw [if_neg h9] at h ⊢
      split at h
      · simp [lno] at h
      · rename_i hc
        rw [if_neg hc]
        have hc2 : c.length < 1024 := by have : c.length ≠ 1024 := fun e => hc (.inr e); omega
        split at h
        · rename_i h92
          rw [if_pos h92]
          exact walkE_small c l hc2 (by simpa [lskip] using h)
        · rename_i h92
          rw [if_neg h92]
          exact walkP_small (c ++ [b]) l (by simp; omega) (by simpa [lskip] using h)
theorem walkE_small : ∀ (c l : List UInt8), c.length < 1024 → (walkE c l).2 = none → ∀ y ∈ (walkE c l).1, y.length ≤ 1024
  | c, [], _, h => by simp [walkE, lno] at h
  | c, d :: l, hcl, h => by
    rw [walkE] at h ⊢
    cases ht : turnB d with
    | none => rw [ht] at h; simp [lno] at h
    | some x =>
      rw [ht] at h
      dsimp only at h ⊢
      exact walkP_small (c ++ [x]) l (by simp; omega) (by simpa [lskip] using h)
end
/-- What is behind a text's last line if it has no byte 10 there. -/
def endL (c l : List UInt8) : List UInt8 := if c ++ l = [] then [] else if l.getLast? = some 10 then [] else [10]
theorem lns_all : ∀ (l c : List UInt8) (s : Nat), (lns s c l).flatMap (fun x => x.2 ++ [10]) = c ++ l ++ endL c l
  | [], c, s => by
    unfold lns endL
    by_cases h : c = []
    · simp [h]
    · simp [h]
  | b :: l, c, s => by
    rw [lns]
    by_cases hb : b = 10
    · rw [if_pos hb, List.flatMap_cons, lns_all l [] _]
      subst hb
      unfold endL
      cases l with
      | nil => simp
      | cons x l => simp
    · rw [if_neg hb, lns_all l (c ++ [b]) s]
      unfold endL
      cases l with
      | nil => simp [hb]
      | cons x l => simp
theorem eachT_some {f : List UInt8 → Option Nat} {k : Nat} : ∀ {T : List (Nat × List UInt8)}, eachT f T = some k → ∃ x ∈ T, ∃ j, f x.2 = some j ∧ k = x.1 + j
  | [], h => by simp [eachT] at h
  | x :: T, h => by
    rw [eachT] at h
    cases hf : f x.2 with
    | some j => rw [hf] at h; exact ⟨x, List.mem_cons_self .., j, hf, by simpa using h.symm⟩
    | none =>
      rw [hf] at h
      obtain ⟨y, hy, hj⟩ := eachT_some h
      exact ⟨y, List.mem_cons_of_mem _ hy, hj⟩
theorem arT_none {n : Nat} {x : List UInt8} (h : arT n x = none) (hs : (splitT x).2 = none) : lineL (tupL x n) = x ∧ (tupL x n).length = n ∧ (∀ y ∈ tupL x n, y.length ≤ 1024) ∧ (0 < n → splitT x = (tupL x n, none)) := by
  have hf : fieldsZ x (n : Int) = (n : Int) := by
    unfold arT at h
    split at h
    · assumption
    · cases h
  unfold fieldsZ at hf
  unfold tupL
  by_cases hn : n = 0
  · subst hn
    have hx : x = [] := by
      by_cases e : x = []
      · exact e
      · rw [if_neg (fun h => e h.1)] at hf; omega
    subst hx
    simp [lineL]
  · rw [if_neg (by omega)] at hf
    rw [if_neg hn]
    refine ⟨?_, by rw [split_count hs]; omega, walkP_small [] x (by simp) hs, fun _ => ?_⟩
    · have := (walkP_line [] x hs).1
      simpa [escL, splitT] using this
    · rw [← hs]
theorem linesL_map (f : List UInt8 → List (List UInt8)) : ∀ (T : List (Nat × List UInt8)), (∀ x ∈ T, lineL (f x.2) = x.2) → linesL (toG (T.map fun x => f x.2)) = T.flatMap (fun x => x.2 ++ [10])
  | [], _ => rfl
  | x :: T, h => by
    have h1 := h x (List.mem_cons_self ..)
    have h2 := linesL_map f T (fun y hy => h y (List.mem_cons_of_mem _ hy))
    show linesL ((f x.2).map toB :: toG (T.map fun x => f x.2)) = _
    rw [linesL, dat_toB, h1, h2, List.flatMap_cons]; simp
/-- What is read without an error. -/
theorem read_ok {L : List UInt8} {z : Int} (h : (readT L z).2.2 = 0) : (readT L z).2.1 = -1 ∧ refZ (toG (readT L z).1) z = 0 ∧ linesL (toG (readT L z).1) = L ++ endL [] L ∧ (readT L z).1.length ≤ L.length + 1 ∧ 0 ≤ z ∧ z ≤ 16 ∧
    ∀ t ∈ (readT L z).1, (t.length : Int) = z ∧ (∀ y ∈ t, y.length ≤ 1024) ∧ (splitT (lineL t)).2 = none ∧ (0 < z → (splitT (lineL t)).1 = t) ∧ (lineL t).length ≤ L.length := by
  unfold readT at h ⊢
  by_cases hz : (decide (0 ≤ z) && decide (z ≤ 16)) = true
  · rw [if_pos hz] at h ⊢
    obtain ⟨n, rfl, hn⟩ : ∃ n : Nat, z = (n : Int) ∧ n ≤ 16 := by
      simp only [Bool.and_eq_true, decide_eq_true_eq] at hz
      exact ⟨z.toNat, by omega, by omega⟩
    rw [Int.toNat_natCast] at h ⊢
    cases hs : scanT L with
    | some k => rw [hs] at h; simp at h
    | none =>
      rw [hs] at h
      dsimp only at h ⊢
      cases ha : eachT (arT n) (lns 0 [] L) with
      | some k => rw [ha] at h; simp at h
      | none =>
        dsimp only
        have hS : ∀ x ∈ lns 0 [] L, (splitT x.2).2 = none := eachT_none.1 hs
        have hA : ∀ x ∈ lns 0 [] L, arT n x.2 = none := eachT_none.1 ha
        have hall := fun x hx => arT_none (hA x hx) (hS x hx)
        have each : ∀ t ∈ (lns 0 [] L).map (fun x => tupL x.2 n), (t.length : Int) = (n : Int) ∧ (∀ y ∈ t, y.length ≤ 1024) ∧ (splitT (lineL t)).2 = none ∧ (0 < (n : Int) → (splitT (lineL t)).1 = t) ∧ (lineL t).length ≤ L.length := by
          intro t ht
          obtain ⟨x, hx, rfl⟩ := List.mem_map.1 ht
          obtain ⟨h1, h2, h3, h4⟩ := hall x hx
          refine ⟨by rw [h2], h3, by rw [h1]; exact hS x hx, fun hp => ?_, ?_⟩
          · rw [h1, h4 (by omega)]
          · rw [h1]
            have := (lns_in _ _ _ _ hx).2
            simp at this; omega
        refine ⟨rfl, ?_, ?_, ?_, by omega, by omega, each⟩
        · unfold refZ
          rw [if_pos, if_neg]
          · simp only [Bool.not_eq_true, List.any_eq_false]
            intro t ht
            obtain ⟨u, hu, rfl⟩ := List.mem_map.1 ht
            unfold longB
            simp only [List.any_eq_false, decide_eq_true_eq]
            intro s hs'
            obtain ⟨y, hy, rfl⟩ := List.mem_map.1 hs'
            have := (each u hu).2.1 y hy
            rw [toB_size]; omega
          · simp only [Bool.and_eq_true, decide_eq_true_eq, Bool.not_eq_true', List.any_eq_false]
            refine ⟨⟨by omega, by omega⟩, fun t ht => ?_⟩
            obtain ⟨u, hu, rfl⟩ := List.mem_map.1 ht
            have := (each u hu).1
            unfold misB
            simp only [List.length_map, this, decide_true, Bool.not_true, Bool.false_eq_true, not_false_eq_true]
        · rw [linesL_map (fun x => tupL x n) _ (fun x hx => (hall x hx).1), lns_all]; rfl
        · rw [List.length_map]
          have : ∀ (l c : List UInt8) (s : Nat), (lns s c l).length ≤ l.length + 1 := by
            intro l
            induction l with
            | nil => intro c s; unfold lns; split <;> simp
            | cons b l ih =>
              intro c s
              unfold lns
              split
              · have := ih [] (s + c.length + 1); simp; omega
              · have := ih (c ++ [b]) s; simp; omega
          exact this L [] 0
  · rw [if_neg hz] at h; simp at h
/-- What is told of a text that is not read. -/
theorem read_bad {L : List UInt8} {z : Int} (h : (readT L z).2.2 ≠ 0) : (readT L z).1 = [] ∧ ((readT L z).2 = (-1, 2) ∨ ∃ k : Nat, k ≤ L.length ∧ ((readT L z).2 = ((k : Int), 11) ∨ (readT L z).2 = ((k : Int), 12))) := by
  unfold readT at h ⊢
  by_cases hz : (decide (0 ≤ z) && decide (z ≤ 16)) = true
  · rw [if_pos hz] at h ⊢
    cases hs : scanT L with
    | some k =>
      refine ⟨rfl, .inr ⟨k, ?_, .inl rfl⟩⟩
      obtain ⟨x, hx, j, hj, rfl⟩ := eachT_some hs
      have h1 := split_le hj
      have := (lns_in _ _ _ _ hx).2
      simp at this; omega
    | none =>
      rw [hs] at h
      dsimp only at h ⊢
      cases ha : eachT (arT z.toNat) (lns 0 [] L) with
      | some k =>
        refine ⟨rfl, .inr ⟨k, ?_, .inr rfl⟩⟩
        obtain ⟨x, hx, j, hj, rfl⟩ := eachT_some ha
        have h1 : j = 0 := by unfold arT at hj; split at hj <;> simp at hj; omega
        have := (lns_in _ _ _ _ hx).2
        simp at this; omega
      | none => rw [ha] at h; simp at h
  · rw [if_neg hz]
    exact ⟨rfl, .inl rfl⟩
end Go.Proofs.Ythpecmdfppdkaaa
