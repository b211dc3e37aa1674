/- Lists of tuples that rise, each once, plainly. No walk here. -/
import Derived.Test.YtbbgembkdhcidaaRA
namespace Go.Proofs.Ytbbgembkdhcidaa
open Go.RowKit Go.Maps

theorem cmpS_self : ∀ xs : List ByteArray, cmpS xs xs = 0
  | [] => rfl
  | x :: xs => by simp [cmpS, cmpT_self, cmpS_self xs]
theorem cmpS_eq : ∀ {xs ys : List ByteArray}, cmpS xs ys = 0 → xs = ys
  | [], [], _ => rfl
  | [], _ :: _, h => by simp [cmpS] at h
  | _ :: _, [], h => by simp [cmpS] at h
  | x :: xs, y :: ys, h => by
    unfold cmpS at h
    split at h
    · rename_i he; rw [cmpT_eq he, cmpS_eq h]
    · rename_i he; exact absurd h he
theorem cmpS_iff (xs ys : List ByteArray) : cmpS xs ys = 0 ↔ xs = ys := ⟨cmpS_eq, fun h => h ▸ cmpS_self xs⟩
theorem cmpS_lt {a b c : List ByteArray} (h1 : cmpS a b < 0) (h2 : cmpS b c ≤ 0) : cmpS a c < 0 := by
  have h3 := cmpS_trans a b c (by omega) h2
  by_cases h4 : cmpS a c = 0
  · have e := cmpS_eq h4
    subst e
    have := cmpS_swap a b
    omega
  · omega
theorem cmpS_lt2 {a b c : List ByteArray} (h1 : cmpS a b ≤ 0) (h2 : cmpS b c < 0) : cmpS a c < 0 := by
  have h3 := cmpS_trans a b c h1 (by omega)
  by_cases h4 : cmpS a c = 0
  · have e := cmpS_eq h4
    subst e
    have := cmpS_swap a b
    omega
  · omega
/-- Rising, none twice. -/
def RisS (l : List (List ByteArray)) : Prop := l.Pairwise fun a b => cmpS a b < 0
theorem ris_unique : ∀ {l m : List (List ByteArray)}, RisS l → RisS m → (∀ x, x ∈ l ↔ x ∈ m) → l = m
  | [], [], _, _, _ => rfl
  | [], y :: m, _, _, h => absurd ((h y).2 (List.mem_cons_self ..)) (by simp)
  | x :: l, [], _, _, h => absurd ((h x).1 (List.mem_cons_self ..)) (by simp)
  | x :: l, y :: m, h1, h2, h => by
    obtain ⟨a1, a2⟩ := List.pairwise_cons.1 h1
    obtain ⟨b1, b2⟩ := List.pairwise_cons.1 h2
    have e : x = y := by
      rcases List.mem_cons.1 ((h x).1 (List.mem_cons_self ..)) with e | hx
      · exact e
      · rcases List.mem_cons.1 ((h y).2 (List.mem_cons_self ..)) with e | hy
        · exact e.symm
        · have q1 := b1 x hx
          have q2 := a1 y hy
          have := cmpS_swap x y
          omega
    subst e
    congr 1
    refine ris_unique a2 b2 (fun z => ⟨fun hz => ?_, fun hz => ?_⟩)
    · rcases List.mem_cons.1 ((h z).1 (List.mem_cons_of_mem _ hz)) with e | h9
      · subst e; have := a1 z hz; rw [cmpS_self] at this; omega
      · exact h9
    · rcases List.mem_cons.1 ((h z).2 (List.mem_cons_of_mem _ hz)) with e | h9
      · subst e; have := b1 z hz; rw [cmpS_self] at this; omega
      · exact h9
/-- One tuple more, at its place. -/
def insR (t : List ByteArray) : List (List ByteArray) → List (List ByteArray)
  | [] => [t]
  | x :: l => if cmpS x t < 0 then x :: insR t l else if cmpS x t = 0 then x :: l else t :: x :: l
theorem insR_mem (t : List ByteArray) : ∀ (l : List (List ByteArray)) (x : List ByteArray), x ∈ insR t l ↔ x = t ∨ x ∈ l
  | [], x => by simp [insR]
  | y :: l, x => by
    unfold insR
    split
    · rw [List.mem_cons, insR_mem t l x, List.mem_cons]
      constructor
      · rintro (h | h | h)
        · exact .inr (.inl h)
        · exact .inl h
        · exact .inr (.inr h)
      · rintro (h | h | h)
        · exact .inr (.inl h)
        · exact .inl h
        · exact .inr (.inr h)
    · split
      · rename_i he
        have e := cmpS_eq he
        subst e
        rw [List.mem_cons]
        constructor
        · exact fun h => .inr h
        · rintro (h | h)
          · exact .inl h
          · exact h
      · rw [List.mem_cons]
theorem insR_ris (t : List ByteArray) : ∀ (l : List (List ByteArray)), RisS l → RisS (insR t l)
  | [], _ => by simp [insR, RisS]
  | y :: l, h => by
    obtain ⟨h1, h2⟩ := List.pairwise_cons.1 h
    unfold insR
    split
    · rename_i hlt
      refine List.pairwise_cons.2 ⟨fun z hz => ?_, insR_ris t l h2⟩
      rcases (insR_mem t l z).1 hz with e | hz
      · rw [e]; exact hlt
      · exact h1 z hz
    · split
      · exact h
      · rename_i h3 h4
        have h5 := cmpS_swap y t
        refine List.pairwise_cons.2 ⟨fun z hz => ?_, h⟩
        have hty : cmpS t y < 0 := by omega
        rcases List.mem_cons.1 hz with e | hz
        · rw [e]; exact hty
        · exact cmpS_lt hty (by have := h1 z hz; omega)
/-- The tuples of a list, rising, each once. -/
def setF : List (List ByteArray) → List (List ByteArray) → List (List ByteArray)
  | out, [] => out
  | out, t :: l => setF (insR t out) l
def setR (l : List (List ByteArray)) : List (List ByteArray) := setF [] l
theorem setF_ok : ∀ (l out : List (List ByteArray)), RisS out → RisS (setF out l) ∧ ∀ x, x ∈ setF out l ↔ x ∈ out ∨ x ∈ l
  | [], out, h => ⟨h, fun x => by simp [setF]⟩
  | t :: l, out, h => by
    obtain ⟨h1, h2⟩ := setF_ok l (insR t out) (insR_ris t out h)
    refine ⟨h1, fun x => ?_⟩
    rw [setF, h2, insR_mem, List.mem_cons]
    constructor
    · rintro ((h | h) | h)
      · exact .inr (.inl h)
      · exact .inl h
      · exact .inr (.inr h)
    · rintro (h | h | h)
      · exact .inl (.inr h)
      · exact .inl (.inl h)
      · exact .inr h
theorem setF_snoc : ∀ (l out : List (List ByteArray)) (t : List ByteArray), setF out (l ++ [t]) = insR t (setF out l)
  | [], _, _ => rfl
  | x :: l, out, t => by rw [List.cons_append, setF, setF, setF_snoc l]
theorem setR_snoc (l : List (List ByteArray)) (t : List ByteArray) : setR (l ++ [t]) = insR t (setR l) := setF_snoc l [] t
theorem setR_ris (l : List (List ByteArray)) : RisS (setR l) := (setF_ok l [] List.Pairwise.nil).1
theorem setR_mem (l : List (List ByteArray)) (x : List ByteArray) : x ∈ setR l ↔ x ∈ l := by
  have := (setF_ok l [] List.Pairwise.nil).2 x
  unfold setR
  rw [this]; simp
theorem setR_is {l m : List (List ByteArray)} (h1 : RisS m) (h2 : ∀ x, x ∈ m ↔ x ∈ l) : m = setR l :=
  ris_unique h1 (setR_ris l) (fun x => by rw [h2, setR_mem])
theorem insR_len (t : List ByteArray) : ∀ l, (insR t l).length ≤ l.length + 1
  | [] => by simp [insR]
  | y :: l => by
    have := insR_len t l
    unfold insR
    split
    · simp; omega
    · split <;> simp
theorem setF_len : ∀ (l out : List (List ByteArray)), (setF out l).length ≤ out.length + l.length
  | [], out => by simp [setF]
  | t :: l, out => by
    have h1 := setF_len l (insR t out)
    have h2 := insR_len t out
    rw [setF, List.length_cons]; omega
theorem setR_len (l : List (List ByteArray)) : (setR l).length ≤ l.length := by
  have := setF_len l []
  simpa [setR] using this
end Go.Proofs.Ytbbgembkdhcidaa
