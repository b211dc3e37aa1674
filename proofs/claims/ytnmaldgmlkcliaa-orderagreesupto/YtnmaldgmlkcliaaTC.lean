/- Sorting by definition, plainly. No walk here. -/
import Derived.Test.YtnmaldgmlkcliaaA
namespace Go.Proofs.Ytnmaldgmlkcliaa

/-- x put behind those that are not behind it. -/
def insR (out : List (Int × Int)) (x : Int × Int) : List (Int × Int) := out.takeWhile (fun y => decide (y.1 ≤ x.1)) ++ x :: out.dropWhile (fun y => decide (y.1 ≤ x.1))
def sortR (l : List (Int × Int)) : List (Int × Int) := l.foldl insR []
/-- The ranks rise. -/
def Rises (l : List (Int × Int)) : Prop := l.Pairwise fun a b => a.1 ≤ b.1

theorem takeWhile_at {α : Type} (p : α → Bool) : ∀ (l : List α) (k : Nat), k ≤ l.length → (∀ j (h : j < l.length), j < k → p l[j] = true) → (∀ (h : k < l.length), p l[k] = false) → l.takeWhile p = l.take k ∧ l.dropWhile p = l.drop k
  | [], k, _, _, _ => by simp
  | a :: l, 0, _, _, h2 => by
    have := h2 (by simp)
    simp at this
    simp [this]
  | a :: l, k + 1, hk, h1, h2 => by
    have ha : p a = true := h1 0 (by simp) (by omega)
    have ih := takeWhile_at p l k (by simpa using hk) (fun j h hj => h1 (j + 1) (by simpa using h) (by omega)) (fun h => h2 (by simpa using h))
    simp [ha, ih.1, ih.2]
theorem insR_at {out : List (Int × Int)} {x : Int × Int} {k : Nat} (hk : k ≤ out.length) (h1 : ∀ j (h : j < out.length), j < k → out[j].1 ≤ x.1) (h2 : ∀ j (h : j < out.length), k ≤ j → x.1 < out[j].1) : insR out x = out.take k ++ x :: out.drop k := by
  have h := takeWhile_at (fun y : Int × Int => decide (y.1 ≤ x.1)) out k hk (fun j hj hjk => decide_eq_true (h1 j hj hjk)) (fun h => decide_eq_false (by have := h2 k h (Nat.le_refl _); omega))
  unfold insR
  rw [h.1, h.2]
theorem insR_len (out : List (Int × Int)) (x : Int × Int) : (insR out x).length = out.length + 1 := by
  unfold insR
  rw [List.length_append, List.length_cons]
  have := congrArg List.length (List.takeWhile_append_dropWhile (p := fun y : Int × Int => decide (y.1 ≤ x.1)) (l := out))
  rw [List.length_append] at this
  omega
theorem rises_place {out : List (Int × Int)} (hr : Rises out) (x : Int × Int) (k : Nat) (h0 : k = 0 ∨ ∃ h : k - 1 < out.length, out[k - 1].1 ≤ x.1) : ∀ j (h : j < out.length), j < k → out[j].1 ≤ x.1 := by
  intro j hj hjk
  rcases h0 with h0 | ⟨h0, h1⟩
  · omega
  · by_cases e : j = k - 1
    · subst e; exact h1
    · have := List.pairwise_iff_getElem.1 hr j (k - 1) hj h0 (by omega)
      omega
theorem insR_place {out : List (Int × Int)} (hr : Rises out) (x : Int × Int) : ∃ k, k ≤ out.length ∧ (∀ j (h : j < out.length), j < k → out[j].1 ≤ x.1) ∧ (∀ j (h : j < out.length), k ≤ j → x.1 < out[j].1) := by
  have hsplit := List.takeWhile_append_dropWhile (p := fun y : Int × Int => decide (y.1 ≤ x.1)) (l := out)
  obtain ⟨A, hA⟩ : ∃ A, A = out.takeWhile (fun y : Int × Int => decide (y.1 ≤ x.1)) := ⟨_, rfl⟩
  obtain ⟨B, hB⟩ : ∃ B, B = out.dropWhile (fun y : Int × Int => decide (y.1 ≤ x.1)) := ⟨_, rfl⟩
  rw [← hA, ← hB] at hsplit
  have hAll : ∀ y ∈ A, y.1 ≤ x.1 := by
    intro y hy
    rw [hA] at hy
    have := List.all_eq_true.1 (List.all_takeWhile (p := fun y : Int × Int => decide (y.1 ≤ x.1)) (l := out)) y hy
    simpa using this
  refine ⟨A.length, by rw [← hsplit]; simp, fun j hj hjk => ?_, fun j hj hkj => ?_⟩
  · have e : out[j] = A[j] := by
      have : out[j]? = A[j]? := by rw [← hsplit, List.getElem?_append_left hjk]
      rw [List.getElem?_eq_getElem hj, List.getElem?_eq_getElem hjk] at this
      simpa using this
    rw [e]
    exact hAll _ (List.getElem_mem hjk)
  · cases B with
    | nil => rw [← hsplit] at hj; simp at hj; omega
    | cons b B =>
      have hb : ¬ b.1 ≤ x.1 := by
        have := List.head_dropWhile_not (fun y : Int × Int => decide (y.1 ≤ x.1)) (l := out) (by rw [← hB]; simp)
        have e2 : (out.dropWhile (fun y : Int × Int => decide (y.1 ≤ x.1))).head (by rw [← hB]; simp) = b := by simp [← hB]
        rw [e2] at this
        simpa using this
      have e : out[A.length]? = some b := by rw [← hsplit]; simp
      have hlA : A.length < out.length := (List.getElem?_eq_some_iff.1 e).1
      have eb : out[A.length] = b := (List.getElem?_eq_some_iff.1 e).2
      by_cases ej : j = A.length
      · subst ej; rw [eb]; omega
      · have := List.pairwise_iff_getElem.1 hr A.length j hlA hj (by omega)
        rw [eb] at this
        omega
theorem insR_rises {out : List (Int × Int)} (hr : Rises out) (x : Int × Int) : Rises (insR out x) := by
  obtain ⟨k, hk, h1, h2⟩ := insR_place hr x
  rw [insR_at hk h1 h2]
  unfold Rises at *
  rw [List.pairwise_append]
  refine ⟨hr.sublist (List.take_sublist _ _), ?_, ?_⟩
  · rw [List.pairwise_cons]
    refine ⟨fun y hy => ?_, hr.sublist (List.drop_sublist _ _)⟩
    obtain ⟨j, hj, rfl⟩ := List.mem_iff_getElem.1 hy
    rw [List.getElem_drop]
    have := h2 (k + j) (by simp at hj; omega) (by omega)
    omega
  · intro a ha b hb
    obtain ⟨i, hi, rfl⟩ := List.mem_iff_getElem.1 ha
    rw [List.getElem_take]
    have hik : i < k := by simp at hi; omega
    have h3 := h1 i (by simp at hi; omega) hik
    rcases List.mem_cons.1 hb with rfl | hb
    · exact h3
    · obtain ⟨j, hj, rfl⟩ := List.mem_iff_getElem.1 hb
      rw [List.getElem_drop]
      have := h2 (k + j) (by simp at hj; omega) (by omega)
      omega
theorem insR_perm (out : List (Int × Int)) (x : Int × Int) : (insR out x).Perm (out ++ [x]) := by
  unfold insR
  conv => rhs; rw [← List.takeWhile_append_dropWhile (p := fun y : Int × Int => decide (y.1 ≤ x.1)) (l := out)]
  rw [List.append_assoc]
  exact List.Perm.append_left _ (List.perm_append_comm (l₁ := [x]) (l₂ := _))
theorem foldl_rises : ∀ (l out : List (Int × Int)), Rises out → Rises (l.foldl insR out)
  | [], _, h => h
  | x :: l, out, h => foldl_rises l (insR out x) (insR_rises h x)
theorem sortR_rises (l : List (Int × Int)) : Rises (sortR l) := foldl_rises l [] List.Pairwise.nil
theorem foldl_perm : ∀ (l out : List (Int × Int)), (l.foldl insR out).Perm (out ++ l)
  | [], _ => by simp
  | x :: l, out => by
    have h := (foldl_perm l (insR out x)).trans ((insR_perm out x).append_right l)
    simpa using h
theorem sortR_perm (l : List (Int × Int)) : (sortR l).Perm l := by unfold sortR; simpa using foldl_perm l []
theorem sortR_len (l : List (Int × Int)) : (sortR l).length = l.length := (sortR_perm l).length_eq
theorem sortR_snoc (l : List (Int × Int)) (x : Int × Int) : sortR (l ++ [x]) = insR (sortR l) x := by simp [sortR]
theorem sortR_take (l : List (Int × Int)) (k : Nat) (h : k < l.length) : sortR (l.take (k + 1)) = insR (sortR (l.take k)) l[k] := by
  rw [List.take_succ_eq_append_getElem h, sortR_snoc]

/-- On the way: what lay above k has moved by one. -/
def shiftR (out : List (Int × Int)) (k : Nat) : List (Int × Int) := (out ++ [(0, 0)]).take (k + 1) ++ out.drop k
theorem shift_start (out : List (Int × Int)) : shiftR out out.length = out ++ [(0, 0)] := by
  unfold shiftR
  rw [List.take_of_length_le (by simp), List.drop_of_length_le (Nat.le_refl _), List.append_nil]
theorem shift_len (out : List (Int × Int)) (k : Nat) (h : k ≤ out.length) : (shiftR out k).length = out.length + 1 := by simp [shiftR]; omega
theorem shift_get (out : List (Int × Int)) (k j : Nat) (h : k ≤ out.length) (hj : j < k) : (shiftR out k)[j]? = out[j]? := by
  unfold shiftR
  rw [List.getElem?_append_left (by simp; omega), List.getElem?_take_of_lt (by omega), List.getElem?_append_left (by omega)]
theorem shift_step (out : List (Int × Int)) (k : Nat) (h : k + 1 ≤ out.length) : (shiftR out (k + 1)).set (k + 1) (out[k]'(by omega)) = shiftR out k := by
  unfold shiftR
  rw [List.set_append, if_pos (by simp; omega)]
  have e1 : ((out ++ [(0, 0)]).take (k + 1 + 1)).set (k + 1) (out[k]'(by omega)) = (out ++ [(0, 0)]).take (k + 1) ++ [out[k]'(by omega)] := by
    rw [List.take_succ_eq_append_getElem (by simp; omega), List.set_append, if_neg (by simp; omega)]
    simp [Nat.min_eq_left (show k ≤ out.length by omega)]
  rw [e1, List.append_assoc]
  congr 1
  rw [List.drop_eq_getElem_cons (show k < out.length by omega)]
  rfl
theorem shift_end (out : List (Int × Int)) (k : Nat) (h : k ≤ out.length) (x : Int × Int) : (shiftR out k).set k x = out.take k ++ x :: out.drop k := by
  unfold shiftR
  rw [List.set_append, if_pos (by simp; omega)]
  have e1 : ((out ++ [(0, 0)]).take (k + 1)).set k x = out.take k ++ [x] := by
    rw [List.take_succ_eq_append_getElem (by simp; omega), List.set_append, if_neg (by simp; omega), List.take_append_of_le_length h]
    simp [Nat.min_eq_left h]
  rw [e1, List.append_assoc]
  rfl
end Go.Proofs.Ytnmaldgmlkcliaa
