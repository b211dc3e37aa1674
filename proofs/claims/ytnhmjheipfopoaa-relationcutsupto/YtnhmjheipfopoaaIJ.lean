/- The plain part, on: rows that differ in places alone; counting. -/
import Derived.Test.YtnhmjheipfopoaaIB
namespace Go.Proofs.Ytnhmjheipfopoaa

section
variable {κ ν : Type}

/-- An entry without its place. -/
def strip (e : Ent κ ν) : Ent κ ν := { e with place := 0 }
/-- Two rows that differ in places alone. -/
def Sim (a b : List (Ent κ ν)) : Prop := b.map strip = a.map strip

theorem Sim.refl (a : List (Ent κ ν)) : Sim a a := rfl
theorem Sim.trans {a b c : List (Ent κ ν)} (h : Sim a b) (k : Sim b c) : Sim a c := Eq.trans k h
theorem Sim.len {a b : List (Ent κ ν)} (h : Sim a b) : b.length = a.length := by
  have := congrArg List.length h; simpa using this
theorem Sim.set {a b : List (Ent κ ν)} (h : Sim a b) {t p : Nat} {e : Ent κ ν} (he : b[t]? = some e) : Sim a (b.set t { e with place := p }) := by
  unfold Sim at *
  rw [← h, List.map_set]
  apply List.ext_getElem?
  intro i
  by_cases hi : t = i
  · subst hi
    have hl := (List.getElem?_eq_some_iff.1 he).1
    rw [List.getElem?_set_self (by simpa using hl), List.getElem?_map, he]
    rfl
  · rw [List.getElem?_set_ne hi]
theorem Sim.at {a b : List (Ent κ ν)} (h : Sim a b) {t : Nat} {e : Ent κ ν} (he : b[t]? = some e) : ∃ p, a[t]? = some { e with place := p } := by
  have h1 : (b.map strip)[t]? = (a.map strip)[t]? := by rw [h]
  rw [List.getElem?_map, List.getElem?_map, he] at h1
  cases ha : a[t]? with
  | none => rw [ha] at h1; simp at h1
  | some x =>
    rw [ha] at h1
    simp only [Option.map_some, Option.some.injEq] at h1
    refine ⟨x.place, ?_⟩
    cases x; cases e
    simp only [strip, Ent.mk.injEq] at h1
    simp [h1]
theorem Sim.symm {a b : List (Ent κ ν)} (h : Sim a b) : Sim b a := Eq.symm h
theorem Sim.lives {a b : List (Ent κ ν)} (h : Sim a b) : Sim (live a) (live b) := by
  unfold Sim live at *
  have e : ∀ l : List (Ent κ ν), (l.filter (·.there)).map strip = (l.map strip).filter (·.there) := by
    intro l; rw [List.filter_map]; rfl
  rw [e, e, h]
theorem Sim.take {a b : List (Ent κ ν)} (h : Sim a b) (n : Nat) : Sim (a.take n) (b.take n) := by
  unfold Sim at *; rw [List.map_take, List.map_take, h]
theorem Sim.append {a b c d : List (Ent κ ν)} (h : Sim a b) (k : Sim c d) : Sim (a ++ c) (b ++ d) := by
  unfold Sim at *; rw [List.map_append, List.map_append, h, k]
theorem live_length_le (l : List (Ent κ ν)) : (live l).length ≤ l.length := List.length_filter_le _ _
theorem live_take_le_live (l : List (Ent κ ν)) (n : Nat) : (live (l.take n)).length ≤ (live l).length := by
  have : live l = live (l.take n) ++ live (l.drop n) := by rw [← live_append, List.take_append_drop]
  rw [this, List.length_append]; omega
/-- What was laid stays laid when one more comes. -/
theorem Lies.more {N n reach : Nat} {came : List (Ent κ ν)} {places : List Nat} (h : Lies N n reach came places) (hn : n ≤ came.length) (x : Ent κ ν) : Lies N n reach (came ++ [x]) places := by
  have e : ∀ t, t < n → (came ++ [x])[t]? = came[t]? := fun t ht => List.getElem?_append_left (by omega)
  refine ⟨h.len, fun p t hp => ?_, fun t e' ht he => ?_, fun t e' ht he => ?_, fun t e' ht he => ?_⟩
  · obtain ⟨h1, h2⟩ := h.back p t hp
    exact ⟨h1, by rw [e t h1]; exact h2⟩
  · rw [e t ht] at he; exact h.here t e' ht he
  · rw [e t ht] at he; exact h.first t e' ht he
  · rw [e t ht] at he; exact h.near t e' ht he
theorem live_set_same {l : List (Ent κ ν)} {t : Nat} {e e' : Ent κ ν} (he : l[t]? = some e) (ht : e.there = e'.there) : (live (l.set t e')).length = (live l).length := by
  induction l generalizing t with
  | nil => simp at he
  | cons x r ih =>
    cases t with
    | zero => simp at he; subst he; simp only [live, List.set_cons_zero, List.filter_cons, ht]; split <;> simp
    | succ t =>
      simp at he
      have := ih he
      simp only [live, List.set_cons_succ, List.filter_cons] at *
      split <;> simp [this]
theorem live_set_gone {l : List (Ent κ ν)} {t : Nat} {e e' : Ent κ ν} (he : l[t]? = some e) (ht : e.there = true) (ht' : e'.there = false) : (live (l.set t e')).length + 1 = (live l).length := by
  induction l generalizing t with
  | nil => simp at he
  | cons x r ih =>
    cases t with
    | zero => simp at he; subst he; simp [live, ht, ht']
    | succ t =>
      simp at he
      have := ih he
      simp only [live, List.set_cons_succ, List.filter_cons] at *
      split
      · rw [List.length_cons, List.length_cons]; omega
      · omega
end
end Go.Proofs.Ytnhmjheipfopoaa
