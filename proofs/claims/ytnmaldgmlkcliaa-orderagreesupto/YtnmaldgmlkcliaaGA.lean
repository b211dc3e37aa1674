/- Stable sorting, plainly: lists that rise by a key, and lists that have the same things of each key in the same order. No walk here. -/
import Derived.Test.YtnmaldgmlkcliaaTC
namespace Go.Proofs.Ytnmaldgmlkcliaa

section
variable {κ : Int × Int → Int}
/-- l rises by the key. -/
def RisK (κ : Int × Int → Int) (l : List (Int × Int)) : Prop := l.Pairwise fun a b => κ a ≤ κ b
/-- The same things of each key, in the same order. -/
def Eqv (κ : Int × Int → Int) (l m : List (Int × Int)) : Prop := ∀ r, l.filter (fun x => κ x == r) = m.filter (fun x => κ x == r)
theorem Eqv.refl (l : List (Int × Int)) : Eqv κ l l := fun _ => rfl
theorem Eqv.trans {a b c : List (Int × Int)} (h : Eqv κ a b) (k : Eqv κ b c) : Eqv κ a c := fun r => (h r).trans (k r)
theorem Eqv.symm {a b : List (Int × Int)} (h : Eqv κ a b) : Eqv κ b a := fun r => (h r).symm
theorem Eqv.append {a b c d : List (Int × Int)} (h : Eqv κ a b) (k : Eqv κ c d) : Eqv κ (a ++ c) (b ++ d) := fun r => by rw [List.filter_append, List.filter_append, h r, k r]
theorem Eqv.mem {a b : List (Int × Int)} (h : Eqv κ a b) {x : Int × Int} (hx : x ∈ b) : x ∈ a := by
  have : x ∈ b.filter (fun y => κ y == κ x) := List.mem_filter.2 ⟨hx, by simp⟩
  rw [← h (κ x)] at this
  exact (List.mem_filter.1 this).1
theorem filter_none {l : List (Int × Int)} {r : Int} (h : ∀ x ∈ l, κ x ≠ r) : l.filter (fun x => κ x == r) = [] := List.filter_eq_nil_iff.2 (fun x hx => by simpa using h x hx)
/-- Lists of which one is all below the other change places. -/
theorem Eqv.swap {a b : List (Int × Int)} (h : ∀ x ∈ a, ∀ y ∈ b, κ y < κ x) : Eqv κ (a ++ b) (b ++ a) := fun r => by
  rw [List.filter_append, List.filter_append]
  by_cases hb : ∃ y ∈ b, κ y = r
  · obtain ⟨y, hy, rfl⟩ := hb
    rw [filter_none (l := a) (fun x hx e => by have := h x hx y hy; omega), List.nil_append, List.append_nil]
  · rw [filter_none (l := b) (fun y hy e => hb ⟨y, hy, e⟩), List.nil_append, List.append_nil]
/-- One list alone rises and has these. -/
theorem eqv_unique : ∀ {a b : List (Int × Int)}, RisK κ a → RisK κ b → Eqv κ a b → a = b
  | [], [], _, _, _ => rfl
  | [], y :: b, _, _, h => by have := h (κ y); simp at this
  | x :: a, [], _, _, h => by have := h (κ x); simp at this
  | x :: a, y :: b, ha, hb, h => by
    have ha1 := List.pairwise_cons.1 ha
    have hb1 := List.pairwise_cons.1 hb
    have h1 : κ x ≤ κ y := by
      have : y ∈ x :: a := h.mem (by simp)
      rcases List.mem_cons.1 this with e | e
      · rw [e]; exact Int.le_refl _
      · exact ha1.1 y e
    have h2 : κ y ≤ κ x := by
      have : x ∈ y :: b := h.symm.mem (by simp)
      rcases List.mem_cons.1 this with e | e
      · rw [e]; exact Int.le_refl _
      · exact hb1.1 x e
    have hxy : κ x = κ y := Int.le_antisymm h1 h2
    have e0 := h (κ x)
    simp only [List.filter_cons, beq_self_eq_true, if_true, ← hxy] at e0
    have e1 := (List.cons.inj e0).1
    subst e1
    have hrest : Eqv κ a b := fun r => by
      have := h r
      simp only [List.filter_cons] at this
      split at this
      · exact (List.cons.inj this).2
      · exact this
    rw [eqv_unique ha1.2 hb1.2 hrest]
theorem RisK.append {a b : List (Int × Int)} (ha : RisK κ a) (hb : RisK κ b) (h : ∀ x ∈ a, ∀ y ∈ b, κ x ≤ κ y) : RisK κ (a ++ b) := List.pairwise_append.2 ⟨ha, hb, h⟩
theorem RisK.left {a b : List (Int × Int)} (h : RisK κ (a ++ b)) : RisK κ a := (List.pairwise_append.1 h).1
theorem RisK.right {a b : List (Int × Int)} (h : RisK κ (a ++ b)) : RisK κ b := (List.pairwise_append.1 h).2.1
theorem RisK.between {a b : List (Int × Int)} (h : RisK κ (a ++ b)) : ∀ x ∈ a, ∀ y ∈ b, κ x ≤ κ y := (List.pairwise_append.1 h).2.2
theorem RisK.at {l : List (Int × Int)} (h : RisK κ l) (i j : Nat) (hij : i ≤ j) (hj : j < l.length) : κ (l[i]'(by omega)) ≤ κ l[j] := by
  by_cases e : i = j
  · subst e; exact Int.le_refl _
  · exact List.pairwise_iff_getElem.1 h i j (by omega) hj (by omega)
/-- The last of a list that rises is the greatest. -/
theorem RisK.le_last {l : List (Int × Int)} (h : RisK κ l) (hl : 0 < l.length) : ∀ x ∈ l, κ x ≤ κ (l[l.length - 1]'(by omega)) := fun x hx => by
  obtain ⟨i, hi, rfl⟩ := List.mem_iff_getElem.1 hx
  exact h.at i _ (by omega) (by omega)
theorem RisK.first_le {l : List (Int × Int)} (h : RisK κ l) (hl : 0 < l.length) : ∀ x ∈ l, κ l[0] ≤ κ x := fun x hx => by
  obtain ⟨i, hi, rfl⟩ := List.mem_iff_getElem.1 hx
  exact h.at 0 i (by omega) hi

/-- Z is X and Y, merged. -/
def Merg (κ : Int × Int → Int) (X Y Z : List (Int × Int)) : Prop := RisK κ Z ∧ Eqv κ (X ++ Y) Z ∧ Z.length = X.length + Y.length
theorem Merg.nil_left {Y : List (Int × Int)} (h : RisK κ Y) : Merg κ [] Y Y := ⟨h, Eqv.refl _, by simp⟩
theorem Merg.nil_right {X : List (Int × Int)} (h : RisK κ X) : Merg κ X [] X := ⟨h, by rw [List.append_nil]; exact Eqv.refl _, by simp⟩
/-- Two parts, merged apart. -/
theorem Merg.parts {X1 X2 Y1 Y2 Z1 Z2 : List (Int × Int)} (hX : RisK κ (X1 ++ X2)) (hY : RisK κ (Y1 ++ Y2)) (h1 : ∀ (hx : 0 < X2.length) (hy : 0 < Y1.length), κ (Y1[Y1.length - 1]'(by omega)) < κ X2[0]) (h2 : ∀ (hx : 0 < X1.length) (hy : 0 < Y2.length), κ (X1[X1.length - 1]'(by omega)) ≤ κ Y2[0])
    (hZ1 : Merg κ X1 Y1 Z1) (hZ2 : Merg κ X2 Y2 Z2) : Merg κ (X1 ++ X2) (Y1 ++ Y2) (Z1 ++ Z2) := by
  have hYX : ∀ x ∈ X2, ∀ y ∈ Y1, κ y < κ x := fun x hx y hy => by
    have hx0 := List.length_pos_of_mem hx
    have hy0 := List.length_pos_of_mem hy
    have a := h1 hx0 hy0
    have b := hX.right.first_le hx0 x hx
    have c := hY.left.le_last hy0 y hy
    omega
  have hXY : ∀ x ∈ X1, ∀ y ∈ Y2, κ x ≤ κ y := fun x hx y hy => by
    have hx0 := List.length_pos_of_mem hx
    have hy0 := List.length_pos_of_mem hy
    have a := h2 hx0 hy0
    have b := hX.left.le_last hx0 x hx
    have c := hY.right.first_le hy0 y hy
    omega
  refine ⟨hZ1.1.append hZ2.1 (fun x hx y hy => ?_), ?_, ?_⟩
  · rcases List.mem_append.1 (hZ1.2.1.mem hx) with a | a <;> rcases List.mem_append.1 (hZ2.2.1.mem hy) with b | b
    · exact hX.between x a y b
    · exact hXY x a y b
    · exact Int.le_of_lt (hYX y b x a)
    · exact hY.between x a y b
  · have e : Eqv κ (X1 ++ X2 ++ (Y1 ++ Y2)) (X1 ++ Y1 ++ (X2 ++ Y2)) := by
      have := ((Eqv.refl X1).append ((Eqv.swap hYX).append (Eqv.refl Y2)) : Eqv κ (X1 ++ (X2 ++ Y1 ++ Y2)) (X1 ++ (Y1 ++ X2 ++ Y2)))
      simpa only [List.append_assoc] using this
    exact e.trans (hZ1.2.1.append hZ2.2.1)
  · rw [List.length_append, List.length_append, List.length_append, hZ1.2.2, hZ2.2.2]; omega
theorem RisK.one (x : Int × Int) : RisK κ [x] := List.pairwise_singleton _ _
/-- One thing ahead, put in behind those below it. -/
theorem Merg.one_left {x : Int × Int} {Y : List (Int × Int)} (hY : RisK κ Y) (i : Nat) (hi : i ≤ Y.length) (h1 : ∀ h : 0 < i, κ (Y[i - 1]'(by omega)) < κ x) (h2 : ∀ h : i < Y.length, ¬ κ Y[i] < κ x) : Merg κ [x] Y (Y.take i ++ [x] ++ Y.drop i) := by
  have hYt : RisK κ (Y.take i ++ Y.drop i) := by rw [List.take_append_drop]; exact hY
  have ha : ∀ y ∈ Y.take i, κ y < κ x := fun y hy => by
    obtain ⟨j, hj, rfl⟩ := List.mem_iff_getElem.1 hy
    rw [List.length_take] at hj
    have := h1 (by omega)
    have := hY.at j (i - 1) (by omega) (by omega)
    rw [List.getElem_take]
    omega
  have hb : ∀ y ∈ Y.drop i, κ x ≤ κ y := fun y hy => by
    obtain ⟨j, hj, rfl⟩ := List.mem_iff_getElem.1 hy
    rw [List.length_drop] at hj
    have := h2 (by omega)
    have := hY.at i (i + j) (by omega) (by omega)
    rw [List.getElem_drop]
    omega
  refine ⟨?_, ?_, by simp; omega⟩
  · refine (hYt.left.append (RisK.one x) (fun a h b hbx => ?_)).append hYt.right (fun a h b hb2 => ?_)
    · simp only [List.mem_singleton] at hbx; subst hbx; have := ha a h; omega
    · rcases List.mem_append.1 h with h | h
      · exact hYt.between a h b hb2
      · simp only [List.mem_singleton] at h; subst h; exact hb b hb2
  · have := ((Eqv.swap (a := [x]) (b := Y.take i) (fun a h y hy => by simp only [List.mem_singleton] at h; subst h; exact ha y hy)).append (Eqv.refl (Y.drop i)) : Eqv κ ([x] ++ Y.take i ++ Y.drop i) (Y.take i ++ [x] ++ Y.drop i))
    rwa [List.append_assoc, List.take_append_drop] at this
/-- One thing behind, put in ahead of those above it. -/
theorem Merg.one_right {y : Int × Int} {X : List (Int × Int)} (hX : RisK κ X) (i : Nat) (hi : i ≤ X.length) (h1 : ∀ h : 0 < i, ¬ κ y < κ (X[i - 1]'(by omega))) (h2 : ∀ h : i < X.length, κ y < κ X[i]) : Merg κ X [y] (X.take i ++ [y] ++ X.drop i) := by
  have hXt : RisK κ (X.take i ++ X.drop i) := by rw [List.take_append_drop]; exact hX
  have ha : ∀ x ∈ X.take i, κ x ≤ κ y := fun x hx => by
    obtain ⟨j, hj, rfl⟩ := List.mem_iff_getElem.1 hx
    rw [List.length_take] at hj
    have := h1 (by omega)
    have := hX.at j (i - 1) (by omega) (by omega)
    rw [List.getElem_take]
    omega
  have hb : ∀ x ∈ X.drop i, κ y < κ x := fun x hx => by
    obtain ⟨j, hj, rfl⟩ := List.mem_iff_getElem.1 hx
    rw [List.length_drop] at hj
    have := h2 (by omega)
    have := hX.at i (i + j) (by omega) (by omega)
    rw [List.getElem_drop]
    omega
  refine ⟨?_, ?_, by simp; omega⟩
  · refine (hXt.left.append (RisK.one y) (fun a h b hbx => ?_)).append hXt.right (fun a h b hb2 => ?_)
    · simp only [List.mem_singleton] at hbx; subst hbx; exact ha a h
    · rcases List.mem_append.1 h with h | h
      · exact hXt.between a h b hb2
      · simp only [List.mem_singleton] at h; subst h; have := hb b hb2; omega
  · have := ((Eqv.refl (X.take i)).append (Eqv.swap (κ := κ) (a := X.drop i) (b := [y]) (fun x hx a h => by simp only [List.mem_singleton] at h; subst h; exact hb x hx)) : Eqv κ (X.take i ++ (X.drop i ++ [y])) (X.take i ++ ([y] ++ X.drop i)))
    rwa [← List.append_assoc, List.take_append_drop, ← List.append_assoc] at this
end
end Go.Proofs.Ytnmaldgmlkcliaa
