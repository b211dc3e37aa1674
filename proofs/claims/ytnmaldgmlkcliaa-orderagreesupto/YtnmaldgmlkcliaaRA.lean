/- The order of texts, plainly; no walk here. -/
import Derived.Test.YtnmaldgmlkcliaaA
import Derived.Lib.Bytealg
import Derived.Lib.Strings
import Derived.Lib.Slices
import Derived.Lib.Walk
namespace Go.Proofs.Ytnmaldgmlkcliaa
open Go.RowKit Go.Maps

theorem cb_self : ∀ a : List UInt8, Lib.compareBytes a a = 0
  | [] => rfl
  | x :: a => by simp [Lib.compareBytes, UInt8.lt_irrefl, cb_self a]
theorem cb_eq : ∀ a b : List UInt8, Lib.compareBytes a b = 0 → a = b
  | [], [], _ => rfl
  | [], _ :: _, h => by simp [Lib.compareBytes] at h
  | _ :: _, [], h => by simp [Lib.compareBytes] at h
  | x :: a, y :: b, h => by
    unfold Lib.compareBytes at h
    split at h
    · simp at h
    · split at h
      · simp at h
      · rename_i h1 h2
        rw [cb_eq a b h, UInt8.le_antisymm (UInt8.not_lt.1 h2) (UInt8.not_lt.1 h1)]
theorem cb_swap : ∀ a b : List UInt8, Lib.compareBytes b a = - Lib.compareBytes a b
  | [], [] => rfl
  | [], _ :: _ => rfl
  | _ :: _, [] => rfl
  | x :: a, y :: b => by
    unfold Lib.compareBytes
    by_cases h1 : x < y
    · have h2 : ¬ y < x := fun h => UInt8.lt_irrefl x (UInt8.lt_trans h1 h)
      simp [h1, h2]
    · by_cases h2 : y < x
      · simp [h1, h2]
      · simp [h1, h2, cb_swap a b]
theorem cb_trans : ∀ a b c : List UInt8, Lib.compareBytes a b ≤ 0 → Lib.compareBytes b c ≤ 0 → Lib.compareBytes a c ≤ 0 ∧ (Lib.compareBytes a c = 0 → Lib.compareBytes a b = 0)
  | [], [], [], _, _ => ⟨by decide, fun _ => rfl⟩
  | [], [], _ :: _, _, _ => ⟨by simp [Lib.compareBytes], fun _ => rfl⟩
  | [], _ :: _, [], _, h => by simp [Lib.compareBytes] at h
  | [], _ :: _, _ :: _, _, _ => ⟨by simp [Lib.compareBytes], fun h => by simp [Lib.compareBytes] at h⟩
  | _ :: _, [], _, h, _ => by simp [Lib.compareBytes] at h
  | _ :: _, _ :: _, [], _, h => by simp [Lib.compareBytes] at h
  | x :: a, y :: b, z :: c, h1, h2 => by
    unfold Lib.compareBytes at h1 h2 ⊢
    by_cases hxy : x < y
    · have hyz : ¬ z < y := fun hh => by
        have h3 : ¬ y < z := fun h => UInt8.lt_irrefl y (UInt8.lt_trans h hh)
        simp [hh, h3] at h2
      have hxz : x < z := UInt8.lt_of_lt_of_le hxy (UInt8.not_lt.1 hyz)
      simp [hxz]
    · by_cases hyx : y < x
      · simp [hxy, hyx] at h1
      · have e : x = y := UInt8.le_antisymm (UInt8.not_lt.1 hyx) (UInt8.not_lt.1 hxy)
        subst e
        by_cases hxz : x < z
        · simp [hxz]
        · by_cases hzx : z < x
          · simp [hxz, hzx] at h2
          · simp only [hxy, hxz, hzx, if_false] at h1 h2 ⊢
            exact cb_trans a b c h1 h2
theorem cb_three : ∀ a b : List UInt8, Lib.compareBytes a b = -1 ∨ Lib.compareBytes a b = 0 ∨ Lib.compareBytes a b = 1
  | [], [] => by simp [Lib.compareBytes]
  | [], _ :: _ => by simp [Lib.compareBytes]
  | _ :: _, [] => by simp [Lib.compareBytes]
  | x :: a, y :: b => by
    unfold Lib.compareBytes
    split
    · exact .inl rfl
    · split
      · exact .inr (.inr rfl)
      · exact cb_three a b

/-- How two texts stand to each other. -/
def cmpT (a b : ByteArray) : Int := Lib.compareBytes a.data.toList b.data.toList
theorem cmpT_eq {a b : ByteArray} (h : cmpT a b = 0) : a = b := ByteArray.ext (Array.ext' (cb_eq _ _ h))
theorem cmpT_swap (a b : ByteArray) : cmpT b a = - cmpT a b := cb_swap _ _
theorem cmpT_self (a : ByteArray) : cmpT a a = 0 := cb_self _
theorem cmpT_trans {a b c : ByteArray} (h1 : cmpT a b ≤ 0) (h2 : cmpT b c ≤ 0) : cmpT a c ≤ 0 ∧ (cmpT a c = 0 → cmpT a b = 0) := cb_trans _ _ _ h1 h2
theorem cmpT_three (a b : ByteArray) : cmpT a b = -1 ∨ cmpT a b = 0 ∨ cmpT a b = 1 := cb_three _ _

/-- How two tuples of texts stand to each other. -/
def cmpS : List ByteArray → List ByteArray → Int
  | [], [] => 0
  | [], _ :: _ => -1
  | _ :: _, [] => 1
  | x :: xs, y :: ys => if cmpT x y = 0 then cmpS xs ys else cmpT x y
theorem cmpS_step {xs ys : List ByteArray} {k : Nat} (h1 : k < xs.length) (h2 : k < ys.length) :
    cmpS (xs.drop k) (ys.drop k) = if cmpT xs[k] ys[k] = 0 then cmpS (xs.drop (k + 1)) (ys.drop (k + 1)) else cmpT xs[k] ys[k] := by
  rw [List.drop_eq_getElem_cons h1, List.drop_eq_getElem_cons h2]
  simp only [cmpS]
theorem cmpS_left {xs ys : List ByteArray} {k : Nat} (h1 : k < xs.length) (h2 : ys.length ≤ k) : cmpS (xs.drop k) (ys.drop k) = 1 := by
  rw [List.drop_eq_getElem_cons h1, List.drop_of_length_le h2]; rfl
theorem cmpS_end {xs ys : List ByteArray} {k : Nat} (h1 : xs.length ≤ k) (_hk : k ≤ ys.length) : cmpS (xs.drop k) (ys.drop k) = if k < ys.length then -1 else 0 := by
  rw [List.drop_of_length_le h1]
  split
  · rename_i h; rw [List.drop_eq_getElem_cons h]; rfl
  · rw [List.drop_of_length_le (by omega)]; rfl
theorem cmpS_swap : ∀ xs ys : List ByteArray, cmpS ys xs = - cmpS xs ys
  | [], [] => by simp [cmpS]
  | [], _ :: _ => by simp [cmpS]
  | _ :: _, [] => by simp [cmpS]
  | x :: xs, y :: ys => by
    simp only [cmpS]
    rw [cmpT_swap x y, cmpS_swap xs ys]
    by_cases h : cmpT x y = 0
    · simp [h]
    · rw [if_neg h, if_neg (by omega)]
theorem cmpS_trans : ∀ xs ys zs : List ByteArray, cmpS xs ys ≤ 0 → cmpS ys zs ≤ 0 → cmpS xs zs ≤ 0
  | [], _, [] => by simp [cmpS]
  | [], _, _ :: _ => by simp [cmpS]
  | _ :: _, [], _ => by simp [cmpS]
  | _ :: _, _ :: _, [] => by simp [cmpS]
  | x :: xs, y :: ys, z :: zs => by
    intro h1 h2
    simp only [cmpS] at *
    by_cases hxy : cmpT x y = 0
    · rw [if_pos hxy] at h1
      have e := cmpT_eq hxy
      subst e
      by_cases hyz : cmpT x z = 0
      · rw [if_pos hyz] at h2 ⊢
        exact cmpS_trans xs ys zs h1 h2
      · rw [if_neg hyz] at h2 ⊢
        exact h2
    · rw [if_neg hxy] at h1
      have h3 : cmpT y z ≤ 0 := by
        by_cases hyz : cmpT y z = 0
        · omega
        · rw [if_neg hyz] at h2; exact h2
      have h4 := cmpT_trans h1 h3
      have h5 : ¬ cmpT x z = 0 := fun h => hxy (h4.2 h)
      rw [if_neg h5]
      exact h4.1
theorem cmpS_three : ∀ xs ys : List ByteArray, cmpS xs ys = -1 ∨ cmpS xs ys = 0 ∨ cmpS xs ys = 1
  | [], [] => by simp [cmpS]
  | [], _ :: _ => by simp [cmpS]
  | _ :: _, [] => by simp [cmpS]
  | x :: xs, y :: ys => by
    unfold cmpS
    split
    · exact cmpS_three xs ys
    · exact cmpT_three x y

/-- The slice value with the address a and the length of l holds the texts l. -/
def StrsS (w : World) (a : Option Addr) (b off : Nat) (l : List ByteArray) : Prop :=
  (0 < l.length → a = some ⟨b, off, none⟩) ∧ ∀ j (h : j < l.length), w.cell? ⟨b, off + j, none⟩ = some (.string l[j])
theorem StrsS.stay {w w' : World} {a : Option Addr} {b off : Nat} {l : List ByteArray} (h : StrsS w a b off l) (hs : Stay w w') : StrsS w' a b off l :=
  ⟨h.1, fun j hj => hs.cell (h.2 j hj)⟩
theorem strs_of_row {w : World} {base b n c : Nat} {t : TypeId} {l : List ByteArray} {r : List Value} (h : w.ownsRow base t 1 (.slice (some ⟨b, 0, none⟩) n c) n (l.map Value.string ++ r)) : StrsS w (some ⟨b, 0, none⟩) b 0 l := by
  refine ⟨fun _ => rfl, fun j hj => ?_⟩
  rw [Nat.zero_add]
  exact row_cell h j _ (by rw [List.getElem?_append_left (by simpa using hj)]; simp [hj])
theorem strs_new (w : World) (l : List ByteArray) (t : TypeId) : StrsS (w.alloc (.cells (l.map Value.string).toArray t)) (some ⟨w.heap.size, 0, none⟩) w.heap.size 0 l := by
  refine ⟨fun _ => rfl, fun j hj => ?_⟩
  have := new_cells w (l.map Value.string) t j (.string l[j]) (by simp [hj])
  rwa [add_at] at this
theorem tl_ne {a b : ByteArray} (h : a ≠ b) : (a.toList == b.toList) = false := by
  rw [beq_eq_false_iff_ne]
  intro e
  rw [ByteArray.toList_eq, ByteArray.toList_eq] at e
  exact h (ByteArray.ext (Array.ext' e))
end Go.Proofs.Ytnmaldgmlkcliaa
