/- Safe rules, plainly. -/
import Derived.Test.YtpnjmldbohecdaaQM
namespace Go.Proofs.Ytpnjmldbohecdaa
open Go.RowKit Go.Maps Go.Shelf

theorem namesP_mem {ps : List (Int × ByteArray)} {s : ByteArray} : s ∈ namesP ps ↔ ∃ p ∈ ps, p.2 = s := by simp [namesP]
theorem placesB_has : ∀ (k : Nat) (ls : List Li) (j : Nat) (h : j < ls.length) (s : ByteArray), s ∈ varsT ls[j].terms → (((k + j : Nat) : Int), s) ∈ placesB k ls
  | _, [], j, h, _, _ => absurd h (Nat.not_lt_zero _)
  | k, l :: ls, 0, _, s, hs => by
    unfold placesB
    exact List.mem_append_left _ (List.mem_map.2 ⟨s, hs, rfl⟩)
  | k, l :: ls, j + 1, h, s, hs => by
    unfold placesB
    have := placesB_has (k + 1) ls j (by simpa using h) s (by simpa using hs)
    rw [show k + 1 + j = k + (j + 1) by omega] at this
    exact List.mem_append_right _ this
theorem placesB_names {ls : List Li} {s : ByteArray} : s ∈ namesP (placesB 0 ls) ↔ ∃ l ∈ ls, s ∈ varsT l.terms := by
  rw [namesP_mem]
  constructor
  · rintro ⟨p, hp, rfl⟩
    obtain ⟨j, hj, -, h⟩ := placesB_mem 0 ls p hp
    exact ⟨_, List.getElem_mem hj, h⟩
  · rintro ⟨l, hl, hs⟩
    obtain ⟨j, hj, rfl⟩ := List.mem_iff_getElem.1 hl
    exact ⟨_, placesB_has 0 ls j hj s hs, rfl⟩
theorem placesR_names {x : Ru} {s : ByteArray} : s ∈ namesP (placesR x) ↔ s ∈ varsT x.head.ts ∨ ∃ l ∈ x.body, s ∈ varsT l.terms := by
  rw [← placesB_names]
  simp [placesR, namesP]
/-- What is chosen whatever stands ahead. -/
theorem selF_const {α : Type} {c : List α → α → Bool} {f : α → Bool} (h : ∀ pre x, c pre x = f x) : ∀ (pre xs : List α), selF c pre xs = xs.filter f
  | _, [] => rfl
  | pre, x :: xs => by
    rw [selF, selF_const h (pre ++ [x]) xs, h, List.filter_cons]
    split <;> simp
theorem sel_const {α : Type} {c : List α → α → Bool} {f : α → Bool} (h : ∀ pre x, c pre x = f x) (xs : List α) : sel c xs = xs.filter f := selF_const h [] xs
theorem bindP_eq (ls : List Li) : bindP ls = (placesB 0 ls).filter (fun p => bindC ls [] p) := sel_const (c := bindC ls) (f := fun p => bindC ls [] p) (fun _ _ => rfl) _
theorem looseP_eq (x : Ru) : looseP x = (sel newC (placesR x)).filter (fun p => !inB (namesP (bindP x.body)) p.2) := sel_const (c := looseC (bindP x.body)) (f := fun p => !inB (namesP (bindP x.body)) p.2) (fun _ _ => rfl) _
theorem bindP_names {ls : List Li} {s : ByteArray} : s ∈ namesP (bindP ls) ↔ ∃ l ∈ ls, l.kind = 1 ∧ s ∈ varsT l.terms := by
  rw [namesP_mem]
  constructor
  · rintro ⟨p, hp, rfl⟩
    rw [bindP_eq, List.mem_filter] at hp
    obtain ⟨j, hj, hpj, h⟩ := placesB_mem 0 ls p hp.1
    rw [Nat.zero_add] at hpj
    have := hp.2
    rw [bindC_at hj hpj] at this
    exact ⟨_, List.getElem_mem hj, by simpa using this, h⟩
  · rintro ⟨l, hl, hk, hs⟩
    obtain ⟨j, hj, rfl⟩ := List.mem_iff_getElem.1 hl
    refine ⟨((j : Int), s), ?_, rfl⟩
    rw [bindP_eq, List.mem_filter]
    have hm := placesB_has 0 ls j hj s hs
    rw [Nat.zero_add] at hm
    exact ⟨hm, by rw [bindC_at hj rfl]; simpa using hk⟩
/-- The names of what stands for the first time are all names. -/
theorem newF_names : ∀ (pre xs : List (Int × ByteArray)) (s : ByteArray), (s ∈ namesP pre ∨ s ∈ namesP (selF newC pre xs)) ↔ (s ∈ namesP pre ∨ s ∈ namesP xs)
  | pre, [], s => by simp [selF]
  | pre, x :: xs, s => by
    have ih := newF_names (pre ++ [x]) xs s
    rw [namesP_snoc, List.mem_append, List.mem_singleton] at ih
    have e1 : namesP (x :: xs) = x.2 :: namesP xs := rfl
    rw [selF, e1, List.mem_cons]
    by_cases hc : newC pre x = true
    · rw [if_pos hc]
      have e2 : namesP ([x] ++ selF newC (pre ++ [x]) xs) = x.2 :: namesP (selF newC (pre ++ [x]) xs) := rfl
      rw [e2, List.mem_cons]
      rw [or_assoc, or_assoc] at ih
      exact ih
    · rw [if_neg hc, List.nil_append]
      have hin : x.2 ∈ namesP pre := by
        have : inB (pre.map (·.2)) x.2 = true := by simpa [newC] using hc
        exact (inB_iff _ _).1 this
      constructor
      · intro h
        rcases ih.1 (h.elim (fun h => .inl (.inl h)) .inr) with (h | h) | h
        · exact .inl h
        · exact .inr (.inl h)
        · exact .inr (.inr h)
      · rintro (h | rfl | h)
        · exact .inl h
        · exact .inl hin
        · rcases ih.2 (.inr h) with (h | rfl) | h
          · exact .inl h
          · exact .inl hin
          · exact .inr h
theorem new_names {xs : List (Int × ByteArray)} {s : ByteArray} : s ∈ namesP (sel newC xs) ↔ s ∈ namesP xs := by
  have := newF_names [] xs s
  simpa [namesP, sel] using this
theorem noneB_iff (xs : List (Int × ByteArray)) : noneB xs = true ↔ xs = [] := by cases xs <;> simp [noneB]
theorem ruleB_iff (x : Ru) : ruleB x = true ↔ ∀ s, s ∈ varsT x.head.ts ∨ (∃ l ∈ x.body, s ∈ varsT l.terms) → ∃ l ∈ x.body, l.kind = 1 ∧ s ∈ varsT l.terms := by
  unfold ruleB
  rw [noneB_iff, looseP_eq, List.filter_eq_nil_iff]
  constructor
  · intro h s hs
    rw [← placesR_names, ← new_names, namesP_mem] at hs
    obtain ⟨p, hp, rfl⟩ := hs
    have := h p hp
    rw [← bindP_names, ← inB_iff]
    simpa using this
  · intro h p hp
    have hs : p.2 ∈ namesP (sel newC (placesR x)) := namesP_mem.2 ⟨p, hp, rfl⟩
    rw [new_names, placesR_names] at hs
    have := h _ hs
    rw [← bindP_names, ← inB_iff] at this
    simp [this]
theorem headN_good {x : Ru} (h : ruleB x = true) : ruleN x = ⟨#[]⟩ := by
  unfold ruleB at h
  unfold ruleN
  rw [(noneB_iff _).1 h]
  rfl
end Go.Proofs.Ytpnjmldbohecdaa
