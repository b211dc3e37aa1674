/- Fields and lines, plainly. No walk here. -/
import Derived.Test.YtbbgembkdhcidaaA
namespace Go.Proofs.Ytbbgembkdhcidaa
open Go.RowKit Go.Maps

/-- A byte in a field. -/
def escB (b : UInt8) : List UInt8 := if b = 9 then [92, 116] else if b = 10 then [92, 110] else if b = 92 then [92, 92] else [b]
def escL (l : List UInt8) : List UInt8 := l.flatMap escB
theorem escB_len (b : UInt8) : 1 ≤ (escB b).length ∧ (escB b).length ≤ 2 := by
  unfold escB
  repeat' split
  all_goals simp
theorem escL_len (l : List UInt8) : (escL l).length ≤ l.length * 2 := by
  induction l with
  | nil => simp [escL]
  | cons b l ih => have := escB_len b; unfold escL at *; rw [List.flatMap_cons, List.length_append, List.length_cons]; omega
theorem escL_snoc (l : List UInt8) (b : UInt8) : escL (l ++ [b]) = escL l ++ escB b := by simp [escL]
theorem escL_take (l : List UInt8) (k : Nat) (h : k < l.length) : escL (l.take (k + 1)) = escL (l.take k) ++ escB l[k] := by
  rw [List.take_succ_eq_append_getElem h, escL_snoc]
/-- A tuple's line. -/
def lineL : List (List UInt8) → List UInt8
  | [] => []
  | [x] => escL x
  | x :: y :: r => escL x ++ 9 :: lineL (y :: r)
theorem lineL_snoc : ∀ (l : List (List UInt8)) (x : List UInt8), l ≠ [] → lineL (l ++ [x]) = lineL l ++ 9 :: escL x
  | [], _, h => absurd rfl h
  | [a], x, _ => rfl
  | a :: b :: r, x, _ => by
    show escL a ++ 9 :: lineL ((b :: r) ++ [x]) = _
    rw [lineL_snoc (b :: r) x (by simp)]
    simp [lineL]
theorem lineL_one (x : List UInt8) : lineL [x] = escL x := rfl
theorem lineL_take {l : List (List UInt8)} {k : Nat} (h : k < l.length) : lineL (l.take (k + 1)) = if k = 0 then escL l[k] else lineL (l.take k) ++ 9 :: escL l[k] := by
  rw [List.take_succ_eq_append_getElem h]
  split
  · rename_i e; subst e; rfl
  · rw [lineL_snoc _ _ (by intro e; have := congrArg List.length e; rw [List.length_take, List.length_nil] at this; omega)]
/-- How many bytes lists of bytes have together, with one more for each. -/
def sumL : List (List UInt8) → Nat
  | [] => 0
  | x :: r => x.length + 1 + sumL r
theorem sumL_app : ∀ (l m : List (List UInt8)), sumL (l ++ m) = sumL l + sumL m
  | [], m => by simp [sumL]
  | x :: l, m => by rw [List.cons_append, sumL, sumL, sumL_app l m]; omega
theorem sumL_take (l : List (List UInt8)) (k : Nat) : sumL (l.take k) ≤ sumL l := by
  have := sumL_app (l.take k) (l.drop k)
  rw [List.take_append_drop] at this
  omega
theorem lineL_len : ∀ l : List (List UInt8), (lineL l).length ≤ sumL l * 2
  | [] => by simp [lineL, sumL]
  | [x] => by have := escL_len x; simp only [lineL, sumL]; omega
  | x :: y :: r => by
    have h1 := escL_len x
    have h2 := lineL_len (y :: r)
    rw [lineL, List.length_append, List.length_cons, sumL]; omega

/-- What is read of a line: the constants, and the place of what is wrong. -/
abbrev LR := List (List UInt8) × Option Nat
def lno : LR := ([], some 0)
def lskip (n : Nat) (r : LR) : LR := (r.1, r.2.map (n + ·))
def lput (c : List UInt8) (n : Nat) (r : LR) : LR := (c :: r.1, r.2.map (n + ·))
/-- The byte for which a pair's second byte stands. -/
def turnB (d : UInt8) : Option UInt8 := if d = 116 then some 9 else if d = 110 then some 10 else if d = 92 then some 92 else none
mutual
/-- Behind c of a field. -/
def walkP : List UInt8 → List UInt8 → LR
  | c, [] => ([c], none)
  | c, b :: l => if b = 9 then lput c 1 (walkP [] l) else if b = 10 ∨ c.length = 1024 then lno else if b = 92 then lskip 1 (walkE c l) else lskip 1 (walkP (c ++ [b]) l)
/-- Behind c of a field and a backslash. -/
def walkE : List UInt8 → List UInt8 → LR
  | _, [] => lno
  | c, d :: l => match turnB d with
    | some x => lskip 1 (walkP (c ++ [x]) l)
    | none => lno
end
def splitT (l : List UInt8) : LR := walkP [] l
/-- What is read in all, out having come, up to the place k. -/
def lfin (out : List (List UInt8)) (k : Nat) (r : LR) : LR := (out ++ r.1, r.2.map (k + ·))
theorem lfin_skip (out : List (List UInt8)) (k n : Nat) (r : LR) : lfin out k (lskip n r) = lfin out (k + n) r := by
  obtain ⟨a, b⟩ := r
  cases b <;> simp [lfin, lskip, Nat.add_assoc]
theorem lfin_put (out : List (List UInt8)) (k n : Nat) (c : List UInt8) (r : LR) : lfin out k (lput c n r) = lfin (out ++ [c]) (k + n) r := by
  obtain ⟨a, b⟩ := r
  cases b <;> simp [lfin, lput, Nat.add_assoc]
theorem lfin_no (out : List (List UInt8)) (k : Nat) : lfin out k lno = (out, some k) := by simp [lfin, lno]
theorem lfin_end (out : List (List UInt8)) (k : Nat) (c : List UInt8) : lfin out k ([c], none) = (out ++ [c], none) := by simp [lfin]
theorem lfin_nil (r : LR) : lfin [] 0 r = r := by
  obtain ⟨a, b⟩ := r
  cases b <;> simp [lfin]
/-- A place as a number. -/
def plcZ : Option Nat → Int
  | none => -1
  | some k => (k : Int)

theorem walkP_at (c L : List UInt8) (k : Nat) (h : k < L.length) : walkP c (L.drop k) = if L[k] = 9 then lput c 1 (walkP [] (L.drop (k + 1))) else if L[k] = 10 ∨ c.length = 1024 then lno else if L[k] = 92 then lskip 1 (walkE c (L.drop (k + 1))) else lskip 1 (walkP (c ++ [L[k]]) (L.drop (k + 1))) := by
  rw [List.drop_eq_getElem_cons h, walkP]
theorem walkP_end (c L : List UInt8) (k : Nat) (h : L.length ≤ k) : walkP c (L.drop k) = ([c], none) := by rw [List.drop_eq_nil_of_le h, walkP]
theorem walkE_at (c L : List UInt8) (k : Nat) (h : k < L.length) : walkE c (L.drop k) = match turnB L[k] with
    | some x => lskip 1 (walkP (c ++ [x]) (L.drop (k + 1)))
    | none => lno := by
  rw [List.drop_eq_getElem_cons h, walkE]
theorem walkE_end (c L : List UInt8) (k : Nat) (h : L.length ≤ k) : walkE c (L.drop k) = lno := by rw [List.drop_eq_nil_of_le h, walkE]

/-- A byte array with these bytes. -/
def toB (l : List UInt8) : ByteArray := ⟨l.toArray⟩
theorem toB_data (s : ByteArray) : toB s.data.toList = s := by cases s; simp [toB]
theorem data_toB (l : List UInt8) : (toB l).data.toList = l := by simp [toB]
theorem toB_size (l : List UInt8) : (toB l).size = l.length := by show l.toArray.size = _; simp
end Go.Proofs.Ytbbgembkdhcidaa
