/- The tokens of a text, plainly. No walk here. -/
import Derived.Test.YtioafeckaeaopaaDoorXPa
namespace Go.Proofs.YtioafeckaeaopaaDoor
open Go.RowKit Go.Maps

theorem runF_pos (p : Int → Bool) (l : List UInt8) (n : Nat) (h : p (runeZ l 0) = true) (hp : p (-1) = false) : 1 ≤ runF p (n + 1) l := by
  cases l with
  | nil => simp [runeZ, hp] at h
  | cons b l =>
    simp [runeZ] at h
    unfold runF
    rw [if_pos h]; omega
theorem wordZ_of_small {r : Int} (h : smallZ r = true) : wordZ r = true := by unfold wordZ; rw [h]; simp
theorem wordZ_of_great {r : Int} (h : greatZ r = true) : wordZ r = true := by unfold wordZ; rw [h]; simp
theorem wordN_pos (l : List UInt8) (h : smallZ (runeZ l 0) || greatZ (runeZ l 0) || digitZ (runeZ l 0)) : 1 ≤ wordN l := by
  unfold wordN runN
  cases h1 : smallZ (runeZ l 0)
  · cases h2 : greatZ (runeZ l 0)
    · cases h3 : digitZ (runeZ l 0)
      · rw [h1, h2, h3] at h; simp at h
      · simpa using runF_pos digitZ l 63 h3 digitZ_neg
    · simpa using runF_pos wordZ l 63 (wordZ_of_great h2) wordZ_neg
  · simpa using runF_pos wordZ l 63 (wordZ_of_small h1) wordZ_neg
theorem signAt_pos (l : List UInt8) : ∀ (S : List (List UInt8)) (k : Nat), (signAt l k S).1.kind ≠ 0 → 1 ≤ (signAt l k S).1.fin
  | [], _, h => by simp [signAt, tok0] at h
  | s :: S, k, h => by
    rw [signAt_cons] at h ⊢
    split
    · rename_i hc; exact hc
    · rename_i hc; rw [if_neg hc] at h; exact signAt_pos l S (k + 1) h
theorem firstT_pos (l : List UInt8) (h : (firstT l).1.kind ≠ 0) : 1 ≤ (firstT l).1.fin := by
  unfold firstT at *
  split
  · rename_i hw; exact wordN_pos l hw
  · rename_i hw
    rw [if_neg hw] at h
    split
    · rename_i h34
      have h1 : 0 < l.length := runeZ_pos (k := 0) (by rw [show ((0 : Nat) : Int) = 0 from rfl, h34]; decide)
      exact (unquoteT_le l h1).1
    · rename_i h34
      rw [if_neg h34] at h
      exact signAt_pos l _ _ h
/-- A step stays within the text; one that tells a token goes on. -/
theorem stepT_far (L : List UInt8) (far : Nat) (o : Tok) (h : far ≤ L.length) : far ≤ (stepT L far o).2.2.1 ∧ (stepT L far o).2.2.1 ≤ L.length ∧ ((stepT L far o).2.1 = true → far < (stepT L far o).2.2.1) := by
  have h1 := farB_le L far h
  have h2 := (firstT_le (L.drop (farB L far))).2
  rw [List.length_drop] at h2
  unfold stepT
  split
  · exact ⟨h1.1, h1.2, fun h => by simp at h⟩
  · rename_i hk
    have h3 := firstT_pos (L.drop (farB L far)) (fun e => hk (.inl e))
    split
    · dsimp only; exact ⟨by omega, by omega, fun _ => by omega⟩
    · dsimp only; exact ⟨by omega, by omega, fun h => by simp at h⟩
/-- The tokens from a place on, how far the text goes, what is open. The number f is fuel. -/
def tokF (L : List UInt8) : Nat → Nat → Tok → List Tok × Nat × Tok
  | 0, far, o => ([], far, o)
  | f + 1, far, o => if (stepT L far o).2.1 then ((stepT L far o).1 :: (tokF L f (stepT L far o).2.2.1 (stepT L far o).2.2.2).1, (tokF L f (stepT L far o).2.2.1 (stepT L far o).2.2.2).2) else ([], (stepT L far o).2.2.1, (stepT L far o).2.2.2)
theorem tokF_yes {L : List UInt8} {f far : Nat} {o : Tok} (h : (stepT L far o).2.1 = true) : tokF L (f + 1) far o = ((stepT L far o).1 :: (tokF L f (stepT L far o).2.2.1 (stepT L far o).2.2.2).1, (tokF L f (stepT L far o).2.2.1 (stepT L far o).2.2.2).2) := by
  rw [tokF, if_pos h]
theorem tokF_no {L : List UInt8} {f far : Nat} {o : Tok} (h : (stepT L far o).2.1 = false) : tokF L (f + 1) far o = ([], (stepT L far o).2.2.1, (stepT L far o).2.2.2) := by
  rw [tokF, if_neg (by rw [h]; simp)]
/-- Fuel that is enough is enough. -/
theorem tokF_fuel (L : List UInt8) : ∀ (f g far : Nat) (o : Tok), far ≤ L.length → L.length - far < f → L.length - far < g → tokF L f far o = tokF L g far o
  | 0, _, _, _, _, h, _ => by omega
  | _, 0, _, _, _, _, h => by omega
  | f + 1, g + 1, far, o, h, h1, h2 => by
    have hs := stepT_far L far o h
    cases hb : (stepT L far o).2.1
    · rw [tokF_no hb, tokF_no hb]
    · have := hs.2.2 hb
      rw [tokF_yes hb, tokF_yes hb, tokF_fuel L f g _ _ hs.2.1 (by omega) (by omega)]
theorem tokF_len (L : List UInt8) : ∀ (f far : Nat) (o : Tok), far ≤ L.length → (tokF L f far o).1.length + far ≤ L.length ∧ (tokF L f far o).2.1 ≤ L.length
  | 0, far, o, h => by simp [tokF]; omega
  | f + 1, far, o, h => by
    have hs := stepT_far L far o h
    cases hb : (stepT L far o).2.1
    · rw [tokF_no hb]; simp; omega
    · have := hs.2.2 hb
      have ih := tokF_len L f _ (stepT L far o).2.2.2 hs.2.1
      rw [tokF_yes hb]; simp; omega
/-- The tokens of a text, how far it goes, what is open there. -/
def tokT (L : List UInt8) : List Tok × Nat × Tok := tokF L (L.length + 1) 0 tok0
end Go.Proofs.YtioafeckaeaopaaDoor
