/- What a table is in memory: its box, the row of what came, the row of places. No walk here. -/
import Derived.Test.YtnhmjheipfopoaaIT
namespace Go.Proofs.Ytnhmjheipfopoaa.L
open Go.RowKit Go.Maps Go.Proofs.Ytnhmjheipfopoaa

/-- A key: a list of numbers, and where it lies. -/
structure LK where
  a : Option Addr
  b : Nat
  off : Nat
  c : Nat
  l : List Int

/-- What stands for a key in memory. -/
abbrev LK.v (k : LK) : Value := .slice k.a k.l.length k.c

abbrev E := Ent LK Int

def encE (e : E) : List Value := [e.key.v, .int .i64 (e.val), .int .u64 e.hash, .int .i64 e.place, .bool e.there]
def flat (l : List E) : List Value := (l.map encE).flatten

theorem encE_len (e : E) : (encE e).length = 5 := rfl
theorem flat_nil : flat [] = [] := rfl
theorem flat_cons (e : E) (l : List E) : flat (e :: l) = encE e ++ flat l := rfl
theorem flat_append (a b : List E) : flat (a ++ b) = flat a ++ flat b := by simp [flat]
theorem flat_len (l : List E) : (flat l).length = l.length * 5 := by
  induction l with
  | nil => rfl
  | cons e l ih => rw [flat_cons, List.length_append, ih, encE_len, List.length_cons]; omega
theorem flat_at (l : List E) (t j : Nat) (e : E) (h : l[t]? = some e) (hj : j < 5) : (flat l)[t * 5 + j]? = (encE e)[j]? := by
  induction l generalizing t with
  | nil => simp at h
  | cons x l ih =>
    rw [flat_cons]
    cases t with
    | zero =>
      simp at h; subst h
      rw [Nat.zero_mul, Nat.zero_add, List.getElem?_append_left (by rw [encE_len]; exact hj)]
    | succ t =>
      simp at h
      rw [List.getElem?_append_right (by rw [encE_len]; omega), encE_len, show (t + 1) * 5 + j - 5 = t * 5 + j by omega]
      exact ih t h

/-- The row of what came lies in block g, with room for cap. -/
def Came (w : World) (g cap : Nat) (came : List E) : Prop :=
  ∃ cur : Array Value, w.heap[g]? = some (.cells cur 113 (0, 0)) ∧ came.length ≤ cap ∧ cap ≤ maxLen ∧ cur.size = cap * 5 ∧ cur.toList.take (came.length * 5) = flat came

/-- Block b holds the places first, perhaps with room behind them. -/
def Spots (w : World) (b : Nat) (places : List Nat) : Prop :=
  ∃ cur : Array Value, w.heap[b]? = some (.cells cur 3 (0, 0)) ∧ places.length ≤ cur.size ∧ cur.toList.take places.length = places.map fun (p : Nat) => Value.int .i64 (p : Int)
theorem Spots.mk1 {w : World} {b : Nat} {places : List Nat} (h : w.heap[b]? = some (.cells (places.map fun (p : Nat) => Value.int .i64 (p : Int)).toArray 3 (0, 0))) : Spots w b places :=
  ⟨_, h, by simp, by rw [List.take_of_length_le (by simp)]⟩

section
variable {w w' : World} {g cap b : Nat} {came : List E} {places : List Nat}

theorem Came.cells (h : Came w g cap came) (t : Nat) (e : E) (he : came[t]? = some e) : w.cell? ⟨g, t * 5, none⟩ = some (e.key.v) ∧ w.cell? ⟨g, t * 5 + 1, none⟩ = some (.int .i64 (e.val)) ∧ w.cell? ⟨g, t * 5 + 2, none⟩ = some (.int .u64 e.hash) ∧
    w.cell? ⟨g, t * 5 + 3, none⟩ = some (.int .i64 e.place) ∧ w.cell? ⟨g, t * 5 + 4, none⟩ = some (.bool e.there) := by
  obtain ⟨cur, h1, h2, h3, h4, h5⟩ := h
  have ht := (List.getElem?_eq_some_iff.1 he).1
  have key : ∀ j, j < 5 → w.cell? ⟨g, t * 5 + j, none⟩ = (encE e)[j]? := by
    intro j hj
    have e1 := flat_at came t j e he hj
    rw [← h5, List.getElem?_take_of_lt (by omega)] at e1
    simp only [World.cell?, h1]
    simpa using e1
  exact ⟨key 0 (by decide), key 1 (by decide), key 2 (by decide), key 3 (by decide), key 4 (by decide)⟩

theorem Came.free (h : Came w g cap came) (k : Nat) : w.frozen? ⟨g, k, none⟩ = false := by
  obtain ⟨cur, h1, _⟩ := h; simp [World.frozen?, h1]
theorem Came.lt (h : Came w g cap came) : g < w.heap.size := by
  obtain ⟨cur, h1, _⟩ := h; exact (Array.getElem?_eq_some_iff.1 h1).1
theorem Came.len (h : Came w g cap came) : came.length ≤ cap ∧ cap ≤ maxLen := by
  obtain ⟨cur, h1, h2, h3, _⟩ := h; exact ⟨h2, h3⟩
theorem Came.turn {S : Nat → Prop} (h : Came w g cap came) (ht : Turn S w w') (hn : ¬ S g) : Came w' g cap came := by
  obtain ⟨cur, h1, h2⟩ := h; exact ⟨cur, ht.heap h1 hn, h2⟩
theorem Came.block (h : Came w g cap came) (hb : w'.heap[g]? = w.heap[g]?) : Came w' g cap came := by
  obtain ⟨cur, h1, h2⟩ := h; exact ⟨cur, hb.trans h1, h2⟩

theorem set_flat (l : List E) (t j : Nat) (e : E) (v : Value) (e' : E) (h : l[t]? = some e) (hj : j < 5) (hv : (encE e).set j v = encE e') : (flat l).set (t * 5 + j) v = flat (l.set t e') := by
  induction l generalizing t with
  | nil => simp at h
  | cons x l ih =>
    cases t with
    | zero =>
      simp at h; subst h
      rw [flat_cons, List.set_append, if_pos (by rw [encE_len]; omega), List.set_cons_zero, flat_cons, Nat.zero_mul, Nat.zero_add, hv]
    | succ t =>
      simp at h
      rw [flat_cons, List.set_append, if_neg (by rw [encE_len]; omega), List.set_cons_succ, flat_cons, encE_len, show (t + 1) * 5 + j - 5 = t * 5 + j by omega, ih t h]

/-- One cell of an entry is stored. -/
theorem Came.store (h : Came w g cap came) (t j : Nat) (e e' : E) (v : Value) (he : came[t]? = some e) (hj : j < 5) (hv : (encE e).set j v = encE e') : Came (w.setCell ⟨g, t * 5 + j, none⟩ v) g cap (came.set t e') := by
  obtain ⟨cur, h1, h2, h3, h4, h5⟩ := h
  have ht := (List.getElem?_eq_some_iff.1 he).1
  refine ⟨_, heap_setCell_same w g _ cur _ v h1, by simpa using h2, h3, by simpa using h4, ?_⟩
  rw [List.length_set, Array.toList_setIfInBounds, List.take_set, h5]
  exact set_flat came t j e v e' he hj hv

theorem Came.storeOther (h : Came w g cap came) (b k : Nat) (v : Value) (hb : g ≠ b) : Came (w.setCell ⟨b, k, none⟩ v) g cap came :=
  h.block (Below.heap_setCell _ _ _ _ (by show g ≠ b; exact hb))

theorem Spots.cell (h : Spots w b places) (p v : Nat) (hp : places[p]? = some v) : w.cell? ⟨b, p, none⟩ = some (.int .i64 v) := by
  obtain ⟨cur, h1, h2, h3⟩ := h
  have hl := (List.getElem?_eq_some_iff.1 hp).1
  have e : (cur.toList.take places.length)[p]? = some (Value.int .i64 v) := by rw [h3, List.getElem?_map, hp]; rfl
  rw [List.getElem?_take_of_lt hl] at e
  simp only [World.cell?, h1]
  simpa using e
theorem Spots.free (h : Spots w b places) (k : Nat) : w.frozen? ⟨b, k, none⟩ = false := by
  obtain ⟨cur, h1, _⟩ := h; simp [World.frozen?, h1]
theorem Spots.lt (h : Spots w b places) : b < w.heap.size := by
  obtain ⟨cur, h1, _⟩ := h; exact (Array.getElem?_eq_some_iff.1 h1).1
theorem Spots.turn {S : Nat → Prop} (h : Spots w b places) (ht : Turn S w w') (hn : ¬ S b) : Spots w' b places := by
  obtain ⟨cur, h1, h2⟩ := h; exact ⟨cur, ht.heap h1 hn, h2⟩
theorem Spots.block (h : Spots w b places) (hb : w'.heap[b]? = w.heap[b]?) : Spots w' b places := by
  obtain ⟨cur, h1, h2⟩ := h; exact ⟨cur, hb.trans h1, h2⟩
theorem Spots.store (h : Spots w b places) (p v : Nat) : Spots (w.setCell ⟨b, p, none⟩ (.int .i64 v)) b (places.set p v) := by
  obtain ⟨cur, h1, h2, h3⟩ := h
  refine ⟨_, heap_setCell_same w b p _ _ (.int .i64 v) h1, by simpa using h2, ?_⟩
  rw [List.length_set, Array.toList_setIfInBounds, List.take_set, h3, List.map_set]
theorem Spots.storeOther (h : Spots w b places) (g k : Nat) (v : Value) (hb : b ≠ g) : Spots (w.setCell ⟨g, k, none⟩ v) b places :=
  h.block (Below.heap_setCell _ _ _ _ (by show b ≠ g; exact hb))
end
end Go.Proofs.Ytnhmjheipfopoaa.L
