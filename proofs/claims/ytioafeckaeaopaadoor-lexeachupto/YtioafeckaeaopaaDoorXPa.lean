/- How far the first token goes; what a step of the walk leaves. No walk here. -/
import Derived.Test.YtioafeckaeaopaaDoorXP
import Derived.Test.YtioafeckaeaopaaDoorXG
namespace Go.Proofs.YtioafeckaeaopaaDoor
open Go.RowKit Go.Maps

mutual
theorem unqP_le : ∀ (c : Nat) (l : List UInt8), (unqP c l).2.1 ≤ l.length
  | _, [] => by simp [unqP, no]
  | c, b :: l => by
    have h1 := unqE_le c l
    have h2 := unqP_le (c + 1) l
    unfold unqP
    repeat' split
    all_goals simp only [no, skip, put, List.length_cons] at *
    all_goals omega
theorem unqE_le : ∀ (c : Nat) (l : List UInt8), (unqE c l).2.1 ≤ l.length
  | _, [] => by simp [unqE, no]
  | c, b :: l => by
    have h1 := unqD_le c l
    have h2 := unqP_le (c + 1) l
    unfold unqE
    repeat' split
    all_goals simp only [no, skip, put, List.length_cons] at *
    all_goals omega
theorem unqD_le : ∀ (c : Nat) (l : List UInt8), (unqD c l).2.1 ≤ l.length
  | _, [] => by simp [unqD, no]
  | _, [h] => by
    unfold unqD
    split
    all_goals simp [no]
  | c, h :: g :: l => by
    have h2 := unqP_le (c + 1) l
    unfold unqD
    repeat' split
    all_goals simp only [no, put, List.length_cons] at *
    all_goals omega
end
theorem fin_far (bs : List UInt8) (k : Nat) (r : R) : (fin bs k r).2.1 = k + r.2.1 := by
  unfold fin
  split <;> rfl
theorem unquoteT_le (l : List UInt8) (h : 1 ≤ l.length) : 1 ≤ (unquoteT l).2.1 ∧ (unquoteT l).2.1 ≤ l.length := by
  unfold unquoteT
  rw [fin_far]
  have := unqP_le 0 (l.drop 1)
  rw [List.length_drop] at this
  omega
theorem signAt_le (l : List UInt8) : ∀ (S : List (List UInt8)) (k : Nat), (signAt l k S).1.at_ = 0 ∧ (signAt l k S).1.fin ≤ l.length
  | [], _ => by simp [signAt, tok0]
  | s :: S, k => by
    rw [signAt_cons]
    have := (commonN_le l s).1
    split
    · exact ⟨rfl, this⟩
    · exact signAt_le l S (k + 1)
theorem runeZ_pos {l : List UInt8} {k : Nat} (h : runeZ l (k : Int) ≠ -1) : k < l.length := by
  apply Nat.lt_of_not_le
  intro hk
  exact h (runeZ_out hk)
theorem firstT_le (l : List UInt8) : (firstT l).1.at_ = 0 ∧ (firstT l).1.fin ≤ l.length := by
  unfold firstT
  split
  · exact ⟨rfl, (wordN_le l).2⟩
  · split
    · rename_i h
      have h1 : 0 < l.length := runeZ_pos (k := 0) (by rw [show ((0 : Nat) : Int) = 0 from rfl, h]; decide)
      exact ⟨rfl, (unquoteT_le l h1).2⟩
    · exact signAt_le l _ _

/-- A token that lies so much further. -/
def Tok.move (t : Tok) (n : Nat) : Tok := ⟨t.kind, t.text, t.at_ + n, t.fin + n⟩
/-- Where the walk stands behind blanks. -/
def farB (L : List UInt8) (far : Nat) : Nat := far + blanksN (L.drop far)
theorem farB_le (L : List UInt8) (far : Nat) (h : far ≤ L.length) : far ≤ farB L far ∧ farB L far ≤ L.length := by
  unfold farB
  have := blanksN_le (L.drop far)
  rw [List.length_drop] at this
  omega
/-- A step of the walk: the token, is there one, how far it goes, what is open. -/
def stepT (L : List UInt8) (far : Nat) (o : Tok) : Tok × Bool × Nat × Tok :=
  if (firstT (L.drop (farB L far))).1.kind = 0 ∨ (wordZ (runeZ L ((farB L far : Int) - 1)) && wordZ (runeZ L (farB L far : Int))) = true then (tok0, false, farB L far, o)
  else if (firstT (L.drop (farB L far))).2 then ((firstT (L.drop (farB L far))).1.move (farB L far), true, (firstT (L.drop (farB L far))).1.fin + farB L far, o)
  else (tok0, false, (firstT (L.drop (farB L far))).1.fin + farB L far, (firstT (L.drop (farB L far))).1.move (farB L far))
end Go.Proofs.YtioafeckaeaopaaDoor
