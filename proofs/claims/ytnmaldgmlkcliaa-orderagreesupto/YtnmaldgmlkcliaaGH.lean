/- The library's symMerge whole; chunks, plainly. -/
import Derived.Test.YtnmaldgmlkcliaaGG
namespace Go.Proofs.Ytnmaldgmlkcliaa
open Go.RowKit Go.Maps Go.Shelf Go.Sort Go.Proofs.Ytnmaldgmlkcliaa.HT

theorem sym_all {g : Nat} {κ : Int × Int → Int} {cf : Int × Int → Int × Int → Int} (h : Ord g κ cf) : ∀ N, SymOk g κ N
  | 0 => fun W G cap n a m b P X Y Q hn ha hm hb hX hY hN => by omega
  | N + 1 => fun W G cap n a m b P X Y Q hn ha hm hb hX hY hN hsz rX rY hI => by
    by_cases e1 : X.length = 1
    · match X, e1 with
      | [x], _ =>
        have := sym_left h W G cap n a b P x Y Q (by simpa using hn) ha (by simp at hm; omega) hY hsz rY hI
        rw [show (m : Int) = (a : Int) + 1 by simp at hm; omega]
        exact this
    · by_cases e2 : Y.length = 1
      · match Y, e2 with
        | [y], _ =>
          have := sym_right h W G cap n a m P X y Q (by simpa using hn) ha hm (by omega) hsz rX hI
          rw [show (b : Int) = (m : Int) + 1 by simp at hb; omega]
          exact this
      · exact sym_mid h N (sym_all h N) W G cap n a m b P X Y Q hn ha hm hb (by omega) (by omega) hN hsz rX rY hI

/-- The i-th k things. -/
def chunk (k i : Nat) (L : List (Int × Int)) : List (Int × Int) := (L.drop (i * k)).take k
theorem chunk_left {k i : Nat} {P R R' : List (Int × Int)} (h : (i + 1) * k ≤ P.length) : chunk k i (P ++ R) = chunk k i (P ++ R') := by
  have e : (i + 1) * k = i * k + k := by rw [Nat.add_mul, Nat.one_mul]
  unfold chunk
  rw [List.drop_append_of_le_length (by omega), List.drop_append_of_le_length (by omega), List.take_append_of_le_length (by rw [List.length_drop]; omega), List.take_append_of_le_length (by rw [List.length_drop]; omega)]
theorem chunk_right {k i : Nat} {P S Z Q : List (Int × Int)} (h : P.length + S.length ≤ i * k) (hz : Z.length = S.length) : chunk k i (P ++ (S ++ Q)) = chunk k i (P ++ (Z ++ Q)) := by
  unfold chunk
  rw [List.drop_append, List.drop_append, List.drop_append, List.drop_append, List.drop_eq_nil_of_le (show P.length ≤ i * k by omega), List.drop_eq_nil_of_le (show S.length ≤ i * k - P.length by omega), List.drop_eq_nil_of_le (show Z.length ≤ i * k - P.length by omega), hz]
theorem chunk_at {k i : Nat} {P Z Q : List (Int × Int)} (h : i * k = P.length) (hz : Z.length = k ∨ Z.length ≤ k ∧ Q = []) : chunk k i (P ++ (Z ++ Q)) = Z := by
  unfold chunk
  rw [h, List.drop_left]
  rcases hz with hz | ⟨hz, rfl⟩
  · rw [List.take_append_of_le_length (by omega), List.take_of_length_le (by omega)]
  · rw [List.append_nil, List.take_of_length_le hz]
theorem chunk_none {k i : Nat} {L : List (Int × Int)} (h : L.length ≤ i * k) : chunk k i L = [] := by
  unfold chunk
  rw [List.drop_eq_nil_of_le h, List.take_nil]
theorem chunk_len {k i : Nat} {L : List (Int × Int)} : (chunk k i L).length = min k (L.length - i * k) := by
  unfold chunk
  rw [List.length_take, List.length_drop]
/-- A list as what stands ahead of a chunk, the chunk, and what stands behind it. -/
theorem chunk_split (k i : Nat) (L : List (Int × Int)) : L = L.take (i * k) ++ (chunk k i L ++ L.drop (i * k + k)) := by
  unfold chunk
  conv => lhs; rw [← List.take_append_drop (i * k) L, ← List.take_append_drop k (L.drop (i * k)), List.drop_drop]

/-- What is known while stretches are sorted: L is the list L0 in another order of its own. -/
structure Like (κ : Int × Int → Int) (L0 : List (Int × Int)) (n : Nat) (L : List (Int × Int)) : Prop where
  eqv : Eqv κ L0 L
  len : L.length = n
theorem Like.next {κ : Int × Int → Int} {L0 P S Z Q : List (Int × Int)} {n : Nat} (h : Like κ L0 n (P ++ (S ++ Q))) (hq : Eqv κ S Z) (hz : Z.length = S.length) : Like κ L0 n (P ++ (Z ++ Q)) :=
  ⟨h.eqv.trans ((Eqv.refl P).append (hq.append (Eqv.refl Q))), by have := h.len; simp only [List.length_append] at *; omega⟩
end Go.Proofs.Ytnmaldgmlkcliaa
