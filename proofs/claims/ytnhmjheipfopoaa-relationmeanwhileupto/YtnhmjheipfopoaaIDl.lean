/- What a table is in memory: its box, the row of what came, the row of places. No walk here. The small calls of a table: made, home, next, between, steps, at. -/
import Derived.Test.YtnhmjheipfopoaaIT
namespace Go.Proofs.Ytnhmjheipfopoaa.L
open Go.RowKit Go.Maps Go.Proofs.Ytnhmjheipfopoaa

/-- A key: a list of numbers, and where it lies. -/
structure LK where
  a : Option Addr
  b : Nat
  off : Nat
  c : Nat
  l : List Int

/-- What stands for a key in memory. -/
abbrev LK.v (k : LK) : Value := .slice k.a k.l.length k.c

abbrev E := Ent LK Int

def encE (e : E) : List Value := [e.key.v, .int .i64 (e.val), .int .u64 e.hash, .int .i64 e.place, .bool e.there]
def flat (l : List E) : List Value := (l.map encE).flatten

theorem encE_len (e : E) : (encE e).length = 5 := rfl
theorem flat_nil : flat [] = [] := rfl
theorem flat_cons (e : E) (l : List E) : flat (e :: l) = encE e ++ flat l := rfl
theorem flat_append (a b : List E) : flat (a ++ b) = flat a ++ flat b := by simp [flat]
theorem flat_len (l : List E) : (flat l).length = l.length * 5 := by
  induction l with
  | nil => rfl
  | cons e l ih => rw [flat_cons, List.length_append, ih, encE_len, List.length_cons]; omega
theorem flat_at (l : List E) (t j : Nat) (e : E) (h : l[t]? = some e) (hj : j < 5) : (flat l)[t * 5 + j]? = (encE e)[j]? := by
  induction l generalizing t with
  | nil => simp at h
  | cons x l ih =>
    rw [flat_cons]
    cases t with
    | zero =>
      simp at h; subst h
      rw [Nat.zero_mul, Nat.zero_add, List.getElem?_append_left (by rw [encE_len]; exact hj)]
    | succ t =>
      simp at h
      rw [List.getElem?_append_right (by rw [encE_len]; omega), encE_len, show (t + 1) * 5 + j - 5 = t * 5 + j by omega]
      exact ih t h

/-- The row of what came lies in block g, with room for cap. -/
def Came (w : World) (g cap : Nat) (came : List E) : Prop :=
  ∃ cur : Array Value, w.heap[g]? = some (.cells cur 113 (0, 0)) ∧ came.length ≤ cap ∧ cap ≤ maxLen ∧ cur.size = cap * 5 ∧ cur.toList.take (came.length * 5) = flat came

/-- Block b holds the places first, perhaps with room behind them. -/
def Spots (w : World) (b : Nat) (places : List Nat) : Prop :=
  ∃ cur : Array Value, w.heap[b]? = some (.cells cur 3 (0, 0)) ∧ places.length ≤ cur.size ∧ cur.toList.take places.length = places.map fun (p : Nat) => Value.int .i64 (p : Int)
theorem Spots.mk1 {w : World} {b : Nat} {places : List Nat} (h : w.heap[b]? = some (.cells (places.map fun (p : Nat) => Value.int .i64 (p : Int)).toArray 3 (0, 0))) : Spots w b places :=
  ⟨_, h, by simp, by rw [List.take_of_length_le (by simp)]⟩

section
variable {w w' : World} {g cap b : Nat} {came : List E} {places : List Nat}

theorem Came.cells (h : Came w g cap came) (t : Nat) (e : E) (he : came[t]? = some e) : w.cell? ⟨g, t * 5, none⟩ = some (e.key.v) ∧ w.cell? ⟨g, t * 5 + 1, none⟩ = some (.int .i64 (e.val)) ∧ w.cell? ⟨g, t * 5 + 2, none⟩ = some (.int .u64 e.hash) ∧
    w.cell? ⟨g, t * 5 + 3, none⟩ = some (.int .i64 e.place) ∧ w.cell? ⟨g, t * 5 + 4, none⟩ = some (.bool e.there) := by
  obtain ⟨cur, h1, h2, h3, h4, h5⟩ := h
  have ht := (List.getElem?_eq_some_iff.1 he).1
  have key : ∀ j, j < 5 → w.cell? ⟨g, t * 5 + j, none⟩ = (encE e)[j]? := by
    intro j hj
    have e1 := flat_at came t j e he hj
    rw [← h5, List.getElem?_take_of_lt (by omega)] at e1
    simp only [World.cell?, h1]
    simpa using e1
  exact ⟨key 0 (by decide), key 1 (by decide), key 2 (by decide), key 3 (by decide), key 4 (by decide)⟩

theorem Came.free (h : Came w g cap came) (k : Nat) : w.frozen? ⟨g, k, none⟩ = false := by
  obtain ⟨cur, h1, _⟩ := h; simp [World.frozen?, h1]
theorem Came.lt (h : Came w g cap came) : g < w.heap.size := by
  obtain ⟨cur, h1, _⟩ := h; exact (Array.getElem?_eq_some_iff.1 h1).1
theorem Came.len (h : Came w g cap came) : came.length ≤ cap ∧ cap ≤ maxLen := by
  obtain ⟨cur, h1, h2, h3, _⟩ := h; exact ⟨h2, h3⟩
theorem Came.turn {S : Nat → Prop} (h : Came w g cap came) (ht : Turn S w w') (hn : ¬ S g) : Came w' g cap came := by
  obtain ⟨cur, h1, h2⟩ := h; exact ⟨cur, ht.heap h1 hn, h2⟩
theorem Came.block (h : Came w g cap came) (hb : w'.heap[g]? = w.heap[g]?) : Came w' g cap came := by
  obtain ⟨cur, h1, h2⟩ := h; exact ⟨cur, hb.trans h1, h2⟩

theorem set_flat (l : List E) (t j : Nat) (e : E) (v : Value) (e' : E) (h : l[t]? = some e) (hj : j < 5) (hv : (encE e).set j v = encE e') : (flat l).set (t * 5 + j) v = flat (l.set t e') := by
  induction l generalizing t with
  | nil => simp at h
  | cons x l ih =>
    cases t with
    | zero =>
      simp at h; subst h
      rw [flat_cons, List.set_append, if_pos (by rw [encE_len]; omega), List.set_cons_zero, flat_cons, Nat.zero_mul, Nat.zero_add, hv]
    | succ t =>
      simp at h
      rw [flat_cons, List.set_append, if_neg (by rw [encE_len]; omega), List.set_cons_succ, flat_cons, encE_len, show (t + 1) * 5 + j - 5 = t * 5 + j by omega, ih t h]

/-- One cell of an entry is stored. -/
theorem Came.store (h : Came w g cap came) (t j : Nat) (e e' : E) (v : Value) (he : came[t]? = some e) (hj : j < 5) (hv : (encE e).set j v = encE e') : Came (w.setCell ⟨g, t * 5 + j, none⟩ v) g cap (came.set t e') := by
  obtain ⟨cur, h1, h2, h3, h4, h5⟩ := h
  have ht := (List.getElem?_eq_some_iff.1 he).1
  refine ⟨_, heap_setCell_same w g _ cur _ v h1, by simpa using h2, h3, by simpa using h4, ?_⟩
  rw [List.length_set, Array.toList_setIfInBounds, List.take_set, h5]
  exact set_flat came t j e v e' he hj hv

theorem Came.storeOther (h : Came w g cap came) (b k : Nat) (v : Value) (hb : g ≠ b) : Came (w.setCell ⟨b, k, none⟩ v) g cap came :=
  h.block (Below.heap_setCell _ _ _ _ (by show g ≠ b; exact hb))

theorem Spots.cell (h : Spots w b places) (p v : Nat) (hp : places[p]? = some v) : w.cell? ⟨b, p, none⟩ = some (.int .i64 v) := by
  obtain ⟨cur, h1, h2, h3⟩ := h
  have hl := (List.getElem?_eq_some_iff.1 hp).1
  have e : (cur.toList.take places.length)[p]? = some (Value.int .i64 v) := by rw [h3, List.getElem?_map, hp]; rfl
  rw [List.getElem?_take_of_lt hl] at e
  simp only [World.cell?, h1]
  simpa using e
theorem Spots.free (h : Spots w b places) (k : Nat) : w.frozen? ⟨b, k, none⟩ = false := by
  obtain ⟨cur, h1, _⟩ := h; simp [World.frozen?, h1]
theorem Spots.lt (h : Spots w b places) : b < w.heap.size := by
  obtain ⟨cur, h1, _⟩ := h; exact (Array.getElem?_eq_some_iff.1 h1).1
theorem Spots.turn {S : Nat → Prop} (h : Spots w b places) (ht : Turn S w w') (hn : ¬ S b) : Spots w' b places := by
  obtain ⟨cur, h1, h2⟩ := h; exact ⟨cur, ht.heap h1 hn, h2⟩
theorem Spots.block (h : Spots w b places) (hb : w'.heap[b]? = w.heap[b]?) : Spots w' b places := by
  obtain ⟨cur, h1, h2⟩ := h; exact ⟨cur, hb.trans h1, h2⟩
theorem Spots.store (h : Spots w b places) (p v : Nat) : Spots (w.setCell ⟨b, p, none⟩ (.int .i64 v)) b (places.set p v) := by
  obtain ⟨cur, h1, h2, h3⟩ := h
  refine ⟨_, heap_setCell_same w b p _ _ (.int .i64 v) h1, by simpa using h2, ?_⟩
  rw [List.length_set, Array.toList_setIfInBounds, List.take_set, h3, List.map_set]
theorem Spots.storeOther (h : Spots w b places) (g k : Nat) (v : Value) (hb : b ≠ g) : Spots (w.setCell ⟨g, k, none⟩ v) b places :=
  h.block (Below.heap_setCell _ _ _ _ (by show b ≠ g; exact hb))
end
end Go.Proofs.Ytnhmjheipfopoaa.L
namespace Go.Proofs.Ytnhmjheipfopoaa.L
open Go.RowKit Go.Maps Go.Proofs.Ytnhmjheipfopoaa

/-- tuple.Hash and tuple.Equal as values. -/
abbrev hashV : Value := .func (.func 67) #[] #[]
abbrev sameV : Value := .func (.func 68) #[] #[]

/-- At block bt lies a table's box. -/
def Box (w : World) (bt : Nat) (_fp : List LK) (cv : Value) (pb N len reach : Nat) : Prop :=
  ∃ pc : Nat, w.heap[bt]? = some (.cells #[hashV, sameV, cv, .slice (some ⟨pb, 0, none⟩) N pc, .int .i64 (len : Int), .int .i64 (reach : Int)] 116 (0, 0))

/-- The size is a power of two that is not too great. -/
def Pow (N : Nat) : Prop := ∃ m, N = 2 ^ m ∧ m ≤ 40
theorem Pow.bd {N : Nat} (h : Pow N) : 0 < N ∧ N ≤ 1099511627776 := by
  obtain ⟨m, rfl, hm⟩ := h
  exact ⟨Nat.two_pow_pos m, by have := Nat.pow_le_pow_right (show 0 < 2 by decide) hm; exact this⟩

section
variable {w : World} {bt pb N len reach : Nat} {fp : List LK} {cv : Value}
theorem Box.c0 (h : Box w bt fp cv pb N len reach) : w.cell? ⟨bt, 0, none⟩ = some hashV := by obtain ⟨pc, h⟩ := h; simp [World.cell?, h]
theorem Box.c1 (h : Box w bt fp cv pb N len reach) : w.cell? ⟨bt, 1, none⟩ = some sameV := by obtain ⟨pc, h⟩ := h; simp [World.cell?, h]
theorem Box.c2 (h : Box w bt fp cv pb N len reach) : w.cell? ⟨bt, 2, none⟩ = some cv := by obtain ⟨pc, h⟩ := h; simp [World.cell?, h]
theorem Box.c3 (h : Box w bt fp cv pb N len reach) : ∃ pc, w.cell? ⟨bt, 3, none⟩ = some (.slice (some ⟨pb, 0, none⟩) N pc) := by obtain ⟨pc, h⟩ := h; exact ⟨pc, by simp [World.cell?, h]⟩
theorem Box.c4 (h : Box w bt fp cv pb N len reach) : w.cell? ⟨bt, 4, none⟩ = some (.int .i64 (len : Int)) := by obtain ⟨pc, h⟩ := h; simp [World.cell?, h]
theorem Box.c5 (h : Box w bt fp cv pb N len reach) : w.cell? ⟨bt, 5, none⟩ = some (.int .i64 (reach : Int)) := by obtain ⟨pc, h⟩ := h; simp [World.cell?, h]
theorem Box.free (h : Box w bt fp cv pb N len reach) (k : Nat) : w.frozen? ⟨bt, k, none⟩ = false := by obtain ⟨pc, h⟩ := h; simp [World.frozen?, h]
theorem Box.lt (h : Box w bt fp cv pb N len reach) : bt < w.heap.size := by obtain ⟨pc, h⟩ := h; exact (Array.getElem?_eq_some_iff.1 h).1
theorem Box.turn {S : Nat → Prop} {w' : World} (h : Box w bt fp cv pb N len reach) (ht : Turn S w w') (hn : ¬ S bt) : Box w' bt fp cv pb N len reach := by obtain ⟨pc, h⟩ := h; exact ⟨pc, ht.heap h hn⟩

set_option maxRecDepth 100000 in
theorem home_any (c3 : ∃ pc, w.cell? ⟨bt, 3, none⟩ = some (.slice (some ⟨pb, 0, none⟩) N pc)) (hN : Pow N) (h : Nat) (hh : h < 18446744073709551616) :
    Calls Try.prog 91 #[.pointer (some ⟨bt, 0, none⟩), .int .u64 (h : Int)] w fun e w' => e = .returned (.int .i64 ((h % N : Nat) : Int)) ∧ w' = w := by
  have hb := hN.bd
  obtain ⟨pc, c3⟩ := c3
  obtain ⟨m, hm, hm2⟩ := hN
  have hk := u64_mask N m hm (by omega) h hh
  have hlt : h % N < N := Nat.mod_lt _ hb.1
  clear hm
  generalize h % N = r at hk hlt ⊢
  go_enter Try.func91, Try.ntmps91
  go_wp2
  go_ret
  exact ⟨rfl, rfl⟩

theorem next_any (c3 : ∃ pc, w.cell? ⟨bt, 3, none⟩ = some (.slice (some ⟨pb, 0, none⟩) N pc)) (hN : Pow N) (p : Nat) (hp : p < N) :
    Calls Try.prog 92 #[.pointer (some ⟨bt, 0, none⟩), .int .i64 (p : Int)] w fun e w' => e = .returned (.int .i64 ((nx N p : Nat) : Int)) ∧ w' = w := by
  have hb := hN.bd
  obtain ⟨pc, c3⟩ := c3
  obtain ⟨m, hm, hm2⟩ := hN
  have hk := i64_mask N m hm (by omega) ((p : Int) + 1)
  rw [nx_mod hp] at hk
  clear hm
  generalize nx N p = r at hk ⊢
  go_enter Try.func92, Try.ntmps92
  go_wp2
  go_ret
  exact ⟨rfl, rfl⟩

theorem between_any (c3 : ∃ pc, w.cell? ⟨bt, 3, none⟩ = some (.slice (some ⟨pb, 0, none⟩) N pc)) (hN : Pow N) (p q : Nat) (hp : p < N) (hq : q < N) :
    Calls Try.prog 96 #[.pointer (some ⟨bt, 0, none⟩), .int .i64 (p : Int), .int .i64 (q : Int)] w fun e w' => e = .returned (.int .i64 ((dist N p q : Nat) : Int)) ∧ w' = w := by
  have hb := hN.bd
  obtain ⟨pc, c3⟩ := c3
  obtain ⟨m, hm, hm2⟩ := hN
  have hk := i64_mask N m hm (by omega) ((q : Int) - (p : Int))
  rw [dist_mod hp hq] at hk
  clear hm
  generalize dist N p q = r at hk ⊢
  go_enter Try.func96, Try.ntmps96
  go_wp2
  go_ret
  exact ⟨rfl, rfl⟩

theorem steps_any (c3 : ∃ pc, w.cell? ⟨bt, 3, none⟩ = some (.slice (some ⟨pb, 0, none⟩) N pc)) (hN : Pow N) (h q : Nat) (hh : h < 18446744073709551616) (hq : q < N) :
    Calls Try.prog 93 #[.pointer (some ⟨bt, 0, none⟩), .int .u64 (h : Int), .int .i64 (q : Int)] w fun e w' => e = .returned (.int .i64 ((dist N (h % N) q : Nat) : Int)) ∧ w' = w := by
  have h1 := home_any c3 hN h hh
  have h2 := between_any c3 hN (h % N) q (Nat.mod_lt _ hN.bd.1) hq
  go_enter Try.func93, Try.ntmps93
  go_wp2_with fail
  refine h1.mono ?_
  rintro e w9 ⟨rfl, hw⟩
  have hw' := hw.symm; subst hw'
  go_wp2_with fail
  refine h2.mono ?_
  rintro e w9 ⟨rfl, hw⟩
  have hw' := hw.symm; subst hw'
  go_wp2
  go_ret
  exact ⟨rfl, rfl⟩

/-- At an empty place there is nothing. -/
theorem at_none (c3 : ∃ pc, w.cell? ⟨bt, 3, none⟩ = some (.slice (some ⟨pb, 0, none⟩) N pc)) (hN : Pow N) (q : Nat) (hq : q < N) (hc : w.cell? ⟨pb, q, none⟩ = some (.int .i64 0)) :
    Calls Try.prog 77 #[.pointer (some ⟨bt, 0, none⟩), .int .i64 (q : Int)] w fun e w' => e = .returned (.pointer none) ∧ w' = w := by
  have hb := hN.bd
  obtain ⟨pc, c3⟩ := c3
  clear hN
  go_enter Try.func77, Try.ntmps77
  go_wp2
  go_ret
  exact ⟨rfl, rfl⟩

set_option maxRecDepth 100000 in
/-- At a place that is not, its key. -/
theorem at_some (g n cap : Nat) (c2 : w.cell? ⟨bt, 2, none⟩ = some (.slice (some ⟨g, 0, none⟩) n cap)) (c3 : ∃ pc, w.cell? ⟨bt, 3, none⟩ = some (.slice (some ⟨pb, 0, none⟩) N pc)) (hN : Pow N) (q t : Nat) (hq : q < N)
    (hc : w.cell? ⟨pb, q, none⟩ = some (.int .i64 ((t + 1 : Nat) : Int))) (ht : t < n) (hn : n ≤ maxLen) :
    Calls Try.prog 77 #[.pointer (some ⟨bt, 0, none⟩), .int .i64 (q : Int)] w fun e w' => e = .returned (.pointer (some ⟨g, t * 5, none⟩)) ∧ ∃ k, w' = w.drewN k := by
  have hb := hN.bd
  obtain ⟨pc, c3⟩ := c3
  unfold maxLen at hn
  clear hN
  have h0 : (((t + 1 : Nat) : Int) == 0) = false := by simp; omega
  rw [show ((t + 1 : Nat) : Int) = (t : Int) + 1 by simp] at hc h0
  go_enter Try.func77, Try.ntmps77
  go_wp2
  go_quiet (fail)
  go_wp2
  go_ret
  exact ⟨rfl, nq, rfl⟩

theorem neq_fn (lb : Array Value) (w : World) : (binOp .neq 102 (.func (.func 67) #[] lb) .nilFunc).run Try.prog w = .ok (.bool true) w := by kernel_rfl
theorem neq_nil (w : World) : (binOp .neq 102 .nilFunc .nilFunc).run Try.prog w = .ok (.bool false) w := by kernel_rfl

/-- A table that is not there: a nil pointer, or one to a zero table. -/
def NoTab (p : Value) (w : World) : Prop := Calls Try.prog 76 #[p] w fun e w' => e = .returned (.bool false) ∧ w' = w

theorem made_nil (w : World) : NoTab (.pointer none) w := by
  unfold NoTab
  go_enter Try.func76, Try.ntmps76
  go_wp2
  go_ret
  exact ⟨rfl, rfl⟩

theorem made_zero (c0 : w.cell? ⟨bt, 0, none⟩ = some .nilFunc) : NoTab (.pointer (some ⟨bt, 0, none⟩)) w := by
  unfold NoTab
  have hn := neq_nil
  go_enter Try.func76, Try.ntmps76
  go_wp2
  go_ret
  exact ⟨rfl, rfl⟩

theorem made_yes (c0 : w.cell? ⟨bt, 0, none⟩ = some hashV) : Calls Try.prog 76 #[.pointer (some ⟨bt, 0, none⟩)] w fun e w' => e = .returned (.bool true) ∧ w' = w := by
  have hn := neq_fn
  go_enter Try.func76, Try.ntmps76
  go_wp2
  go_ret
  exact ⟨rfl, rfl⟩
end
end Go.Proofs.Ytnhmjheipfopoaa.L
