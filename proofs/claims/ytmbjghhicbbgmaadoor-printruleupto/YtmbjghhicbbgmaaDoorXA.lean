/- The letters of a text, plainly: what a rune at a place is, which ones are which, how far a run goes. -/
import Derived.Test.YtmbjghhicbbgmaaDoorA
namespace Go.Proofs.YtmbjghhicbbgmaaDoor
open Go.RowKit Go.Maps

/-- The byte at a place; -1 outside the text. -/
def runeZ (l : List UInt8) (i : Int) : Int := if i < 0 then -1 else match l[i.toNat]? with
  | some b => (b.toNat : Int)
  | none => -1
def smallZ (r : Int) : Bool := decide (97 ≤ r) && decide (r ≤ 122)
def greatZ (r : Int) : Bool := decide (65 ≤ r) && decide (r ≤ 90)
def digitZ (r : Int) : Bool := decide (48 ≤ r) && decide (r ≤ 57)
def wordZ (r : Int) : Bool := smallZ r || greatZ r || digitZ r || decide (r = 95)
def plainZ (r : Int) : Bool := decide (32 ≤ r) && decide (r ≤ 126)
/-- How far bytes of a kind go, at most n. -/
def runF (p : Int → Bool) : Nat → List UInt8 → Nat
  | 0, _ => 0
  | _ + 1, [] => 0
  | n + 1, b :: l => if p (b.toNat : Int) then runF p n l + 1 else 0
def runN (p : Int → Bool) (l : List UInt8) : Nat := runF p 64 l

theorem runeZ_lt (l : List UInt8) (i : Int) : -1 ≤ runeZ l i ∧ runeZ l i ≤ 255 := by
  unfold runeZ
  split
  · omega
  · split
    · rename_i b _; have : b.toNat < 256 := UInt8.toNat_lt b; omega
    · omega
theorem runeZ_nat (l : List UInt8) (k : Nat) : runeZ l (k : Int) = match l[k]? with
  | some b => (b.toNat : Int)
  | none => -1 := by
  unfold runeZ
  rw [if_neg (by omega)]
  simp
theorem runeZ_in {l : List UInt8} {k : Nat} (h : k < l.length) : runeZ l (k : Int) = (l[k].toNat : Int) := by
  rw [runeZ_nat, List.getElem?_eq_getElem h]
theorem runeZ_out {l : List UInt8} {k : Nat} (h : l.length ≤ k) : runeZ l (k : Int) = -1 := by
  rw [runeZ_nat, List.getElem?_eq_none h]
theorem runeZ_neg (l : List UInt8) {i : Int} (h : i < 0) : runeZ l i = -1 := by unfold runeZ; rw [if_pos h]

theorem runF_le (p : Int → Bool) : ∀ (n : Nat) (l : List UInt8), runF p n l ≤ n ∧ runF p n l ≤ l.length
  | 0, _ => by simp [runF]
  | n + 1, [] => by simp [runF]
  | n + 1, b :: l => by
    unfold runF
    have := runF_le p n l
    split
    · simp; omega
    · simp
theorem runN_le (p : Int → Bool) (l : List UInt8) : runN p l ≤ 64 ∧ runN p l ≤ l.length := runF_le p 64 l
theorem runF_step (p : Int → Bool) (hp : p (-1) = false) (l : List UInt8) (n k : Nat) :
    runF p (n + 1) (l.drop k) = if p (runeZ l (k : Int)) then runF p n (l.drop (k + 1)) + 1 else 0 := by
  by_cases hk : k < l.length
  · rw [List.drop_eq_getElem_cons hk, runeZ_in hk]
    rfl
  · rw [List.drop_eq_nil_of_le (by omega), runeZ_out (by omega), hp]
    rfl
theorem wordZ_neg : wordZ (-1) = false := by decide
theorem digitZ_neg : digitZ (-1) = false := by decide
end Go.Proofs.YtmbjghhicbbgmaaDoor
