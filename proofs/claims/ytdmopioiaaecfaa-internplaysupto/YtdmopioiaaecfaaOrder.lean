/- The plain part on the order of texts: the bytes' order is one, and a list that rises. -/
import Derived.Lib.Bytealg
import Derived.Shelf.SlSortCmp.Whole1
namespace Go.Proofs.Ytdmopioiaaecfaa
open Go.Lib Go.Sort

theorem cb_self : ∀ a : List UInt8, compareBytes a a = 0
  | [] => rfl
  | x :: a => by simp [compareBytes, UInt8.lt_irrefl, cb_self a]

theorem cb_eq : ∀ a b : List UInt8, compareBytes a b = 0 → a = b
  | [], [], _ => rfl
  | [], _ :: _, h => by simp [compareBytes] at h
  | _ :: _, [], h => by simp [compareBytes] at h
  | x :: a, y :: b, h => by
    unfold compareBytes at h
    split at h
    · simp at h
    · split at h
      · simp at h
      · rename_i h1 h2
        rw [cb_eq a b h, UInt8.le_antisymm (UInt8.not_lt.1 h2) (UInt8.not_lt.1 h1)]

theorem cb_swap : ∀ a b : List UInt8, compareBytes b a = - compareBytes a b
  | [], [] => rfl
  | [], _ :: _ => rfl
  | _ :: _, [] => rfl
  | x :: a, y :: b => by
    unfold compareBytes
    by_cases h1 : x < y
    · have h2 : ¬ y < x := fun h => UInt8.lt_irrefl x (UInt8.lt_trans h1 h)
      simp [h1, h2]
    · by_cases h2 : y < x
      · simp [h1, h2]
      · simp [h1, h2, cb_swap a b]

theorem cb_trans : ∀ a b c : List UInt8, compareBytes a b ≤ 0 → compareBytes b c ≤ 0 → compareBytes a c ≤ 0 ∧ (compareBytes a c = 0 → compareBytes a b = 0)
  | [], [], [], _, _ => ⟨by decide, fun _ => rfl⟩
  | [], [], _ :: _, _, _ => ⟨by simp [compareBytes], fun _ => rfl⟩
  | [], _ :: _, [], _, h => by simp [compareBytes] at h
  | [], _ :: _, _ :: _, _, _ => ⟨by simp [compareBytes], fun h => by simp [compareBytes] at h⟩
  | _ :: _, [], _, h, _ => by simp [compareBytes] at h
  | _ :: _, _ :: _, [], _, h => by simp [compareBytes] at h
  | x :: a, y :: b, z :: c, h1, h2 => by
    unfold compareBytes at h1 h2 ⊢
    by_cases hxy : x < y
    · have hyz : ¬ z < y := fun hh => by
        have h3 : ¬ y < z := fun h => UInt8.lt_irrefl y (UInt8.lt_trans h hh)
        simp [hh, h3] at h2
      have hxz : x < z := UInt8.lt_of_lt_of_le hxy (UInt8.not_lt.1 hyz)
      simp [hxz]
    · by_cases hyx : y < x
      · simp [hxy, hyx] at h1
      · have e : x = y := UInt8.le_antisymm (UInt8.not_lt.1 hyx) (UInt8.not_lt.1 hxy)
        subst e
        by_cases hxz : x < z
        · simp [hxz]
        · by_cases hzx : z < x
          · simp [hxz, hzx] at h2
          · simp only [hxy, hxz, hzx, if_false] at h1 h2 ⊢
            exact cb_trans a b c h1 h2

/-- How two texts stand to each other. -/
def cmpT (a b : ByteArray) : Int := compareBytes a.data.toList b.data.toList

theorem cmpT_eq {a b : ByteArray} (h : cmpT a b = 0) : a = b := ByteArray.ext (Array.ext' (cb_eq _ _ h))
theorem cmpT_swap (a b : ByteArray) : cmpT b a = - cmpT a b := cb_swap _ _
theorem cmpT_self (a : ByteArray) : cmpT a a = 0 := cb_self _
theorem cmpT_trans {a b c : ByteArray} (h1 : cmpT a b < 0) (h2 : cmpT b c < 0) : cmpT a c < 0 := by
  have h := cb_trans a.data.toList b.data.toList c.data.toList (Int.le_of_lt h1) (Int.le_of_lt h2)
  unfold cmpT at *
  by_cases e : compareBytes a.data.toList c.data.toList = 0
  · have := h.2 e; omega
  · omega
theorem cmpT_le_trans {a b c : ByteArray} (h1 : cmpT a b ≤ 0) (h2 : cmpT b c ≤ 0) : cmpT a c ≤ 0 := (cb_trans _ _ _ h1 h2).1

/-- The order that the sort asks for, of numbers by their texts. -/
theorem swo_of {α : Type} (f : α → ByteArray) : SWO (ltOf fun x y => cmpT (f x) (f y)) := {
  irrefl := fun x => by simp [ltOf, cmpT_self]
  trans := fun x y z h1 h2 => by simp only [ltOf, decide_eq_true_eq] at *; exact cmpT_trans h1 h2
  ntrans := fun x y z h1 h2 => by
    simp only [ltOf, decide_eq_false_iff_not, Int.not_lt] at *
    rw [cmpT_swap] at h1 h2 ⊢
    have := cmpT_le_trans (a := f z) (b := f y) (c := f x) (by omega) (by omega)
    omega }

theorem nodup_inj {α : Type} {l : List α} (h : l.Nodup) {i j : Nat} (hi : i < l.length) (hj : j < l.length) (e : l[i] = l[j]) : i = j := by
  have hp := List.pairwise_iff_getElem.1 h
  rcases Nat.lt_trichotomy i j with hlt | heq | hgt
  · exact absurd e (hp i j hi hj hlt)
  · exact heq
  · exact absurd e.symm (hp j i hj hi hgt)

/-- 'zs': each number below the count of texts once, by rising texts. -/
structure Rises (ts : List ByteArray) (zs : List Nat) : Prop where
  perm : zs.Perm (List.range ts.length)
  rise : zs.Pairwise fun a b => cmpT (ts[a]?.getD ⟨#[]⟩) (ts[b]?.getD ⟨#[]⟩) < 0

end Go.Proofs.Ytdmopioiaaecfaa
