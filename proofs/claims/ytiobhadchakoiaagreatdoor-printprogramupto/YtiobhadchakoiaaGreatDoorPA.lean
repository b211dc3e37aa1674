/- What any text is: Name, Reserved, Variable, Number; the document's small, great, digit, letter, written, and its answers. -/
import Derived.Test.YtiobhadchakoiaaGreatDoorPW
import Derived.Test.YtiobhadchakoiaaGreatDoorPH
namespace Go.Proofs.YtiobhadchakoiaaGreatDoor
open Go.RowKit Go.Maps

/-- All bytes are of a kind, one at least, 64 at most. -/
def allB (p : Int → Bool) (l : List UInt8) : Bool := l.all (fun b => p (b.toNat : Int)) && decide (1 ≤ l.length) && decide (l.length ≤ 64)
theorem runF_all (p : Int → Bool) : ∀ (n : Nat) (l : List UInt8), runF p n l = l.length ↔ (l.all (fun b => p (b.toNat : Int)) = true ∧ l.length ≤ n)
  | 0, [] => by simp [runF]
  | 0, b :: l => by simp [runF]
  | n + 1, [] => by simp [runF]
  | n + 1, b :: l => by
    unfold runF
    have ih := runF_all p n l
    by_cases hb : p (b.toNat : Int) = true
    · rw [if_pos hb]
      simp only [List.length_cons, List.all_cons, hb, Bool.true_and]
      constructor
      · intro h; have := ih.1 (by omega); exact ⟨this.1, by omega⟩
      · intro h; have := ih.2 ⟨h.1, by omega⟩; omega
    · rw [if_neg hb]
      simp [hb]
def nameB (l : List UInt8) : Bool := allB wordZ l && smallZ (runeZ l 0) && decide (resK l = 0)
def varB (l : List UInt8) : Bool := allB wordZ l && greatZ (runeZ l 0)
def numB (l : List UInt8) : Bool := allB digitZ l
def resB (l : List UInt8) : Bool := decide (resK l ≠ 0)
theorem rune0 {l : List UInt8} (p : Int → Bool) (hp : p (-1) = false) (h : p (runeZ l 0) = true) : 1 ≤ l.length := by
  cases l with
  | nil => simp [runeZ, hp] at h
  | cons b l => simp
theorem smallZ_not {r : Int} (h : smallZ r = true) : greatZ r = false ∧ digitZ r = false := by
  unfold smallZ at h; unfold greatZ digitZ; simp at *; omega
theorem greatZ_not {r : Int} (h : greatZ r = true) : smallZ r = false ∧ digitZ r = false := by
  unfold greatZ at h; unfold smallZ digitZ; simp at *; omega
theorem digitZ_not {r : Int} (h : digitZ r = true) : smallZ r = false ∧ greatZ r = false := by
  unfold digitZ at h; unfold smallZ greatZ; simp at *; omega
theorem resK_or (x : List UInt8) : resK x = 0 ∨ 5 ≤ resK x := by
  unfold resK
  repeat' split
  all_goals omega
theorem word1_eq (l : List UInt8) : (decide ((wordK l : Int) = 1) && decide ((wordN l : Int) = (l.length : Int))) = nameB l := by
  have hr := runF_all wordZ 64 l
  rw [Bool.eq_iff_iff]
  unfold nameB allB wordK wordN runN
  cases h1 : smallZ (runeZ l 0)
  · cases h2 : greatZ (runeZ l 0)
    · cases h3 : digitZ (runeZ l 0) <;> simp
    · simp
  · have hl := rune0 smallZ (by decide) h1
    simp only [if_true, Bool.and_eq_true, decide_eq_true_eq]
    constructor
    · rintro ⟨ha, hb⟩
      have hb' : runF wordZ 64 l = l.length := by omega
      have hc := hr.1 hb'
      rw [hb', List.take_length] at ha
      refine ⟨⟨⟨⟨hc.1, hl⟩, hc.2⟩, trivial⟩, ?_⟩
      by_cases h0 : resK l = 0
      · exact h0
      · rw [if_neg h0] at ha
        have := resK_or l
        omega
    · rintro ⟨⟨⟨⟨ha, _⟩, hb⟩, _⟩, hc⟩
      have hb' := hr.2 ⟨ha, hb⟩
      rw [hb', List.take_length, if_pos hc]
      exact ⟨rfl, rfl⟩
theorem word2_eq (l : List UInt8) : (decide ((wordK l : Int) = 2) && decide ((wordN l : Int) = (l.length : Int))) = varB l := by
  have hr := runF_all wordZ 64 l
  rw [Bool.eq_iff_iff]
  unfold varB allB wordK wordN runN
  cases h2 : greatZ (runeZ l 0)
  · cases h1 : smallZ (runeZ l 0)
    · cases h3 : digitZ (runeZ l 0) <;> simp
    · simp only [if_true, Bool.and_false, Bool.false_eq_true, iff_false, Bool.and_eq_true, decide_eq_true_eq]
      rintro ⟨ha, _⟩
      have := resK_or (l.take (runF wordZ 64 l))
      split at ha <;> omega
  · have hl := rune0 greatZ (by decide) h2
    rw [(greatZ_not h2).1]
    simp only [if_true, if_false, Bool.false_eq_true, Bool.and_eq_true, decide_eq_true_eq]
    constructor
    · rintro ⟨_, hb⟩
      have hc := hr.1 (by omega)
      exact ⟨⟨⟨hc.1, hl⟩, hc.2⟩, trivial⟩
    · rintro ⟨⟨⟨ha, _⟩, hb⟩, _⟩
      have := hr.2 ⟨ha, hb⟩
      exact ⟨rfl, by omega⟩
theorem word3_eq (l : List UInt8) : (decide ((wordK l : Int) = 3) && decide ((wordN l : Int) = (l.length : Int))) = numB l := by
  have hr := runF_all digitZ 64 l
  rw [Bool.eq_iff_iff]
  unfold numB allB wordK wordN runN
  cases h3 : digitZ (runeZ l 0)
  · have hno : ¬ (l.all (fun b => digitZ (b.toNat : Int)) = true ∧ 1 ≤ l.length) := by
      rintro ⟨ha, hb⟩
      cases l with
      | nil => simp at hb
      | cons b l => simp [runeZ] at h3; simp [h3] at ha
    have hd : ∀ x, (resK x : Int) ≠ 3 := fun x => by
      have := resK_or x
      omega
    simp only [Bool.and_eq_true, decide_eq_true_eq]
    constructor
    · rintro ⟨ha, _⟩
      exfalso
      cases h1 : smallZ (runeZ l 0)
      · cases h2 : greatZ (runeZ l 0)
        · rw [h1, h2] at ha; simp at ha
        · rw [h1, h2] at ha; simp at ha
      · rw [h1] at ha
        simp only [if_true] at ha
        have := hd (l.take (runF wordZ 64 l))
        split at ha <;> omega
    · rintro ⟨⟨ha, hb⟩, _⟩
      exact absurd ⟨ha, hb⟩ hno
  · have hl := rune0 digitZ (by decide) h3
    rw [(digitZ_not h3).1, (digitZ_not h3).2]
    simp only [if_true, if_false, Bool.false_eq_true, Bool.and_eq_true, decide_eq_true_eq]
    constructor
    · rintro ⟨_, hb⟩
      have hc := hr.1 (by omega)
      exact ⟨⟨hc.1, hl⟩, hc.2⟩
    · rintro ⟨⟨ha, _⟩, hb⟩
      have := hr.2 ⟨ha, hb⟩
      exact ⟨rfl, by omega⟩
end Go.Proofs.YtiobhadchakoiaaGreatDoor
