/- What a heap is in memory. No walk here. -/
import Derived.Test.YtnmaldgmlkcliaaIT
import Derived.Test.YtnmaldgmlkcliaaRH
import Derived.Test.YtnmaldgmlkcliaaRC
import Derived.Maps.AppendAt
namespace Go.Proofs.Ytnmaldgmlkcliaa.HH
open Go.RowKit Go.Maps Go.Proofs.Ytnmaldgmlkcliaa

/-- A head: a list's rest as a slice names it, the list's number, the rest's first thing. -/
structure Hd where
  a : Option Addr
  n : Nat
  c : Nat
  i : Nat
  x : Int × Int
/-- The function of a heap of heads: box names the order. -/
def headV (box : Nat) : Value := .func (.func 23) #[] #[.pointer (some ⟨box, 0, none⟩)]
/-- The rest lies at a block up to xb, and something is in it. -/
def Hd.In (w : World) (xb : Nat) (h : Hd) : Prop :=
  ∃ b o, h.a = some ⟨b, o, none⟩ ∧ b ≤ xb ∧ 0 < h.n ∧ w.cell? ⟨b, o, none⟩ = some (.int .i64 h.x.1) ∧ w.cell? ⟨b, o + 1, none⟩ = some (.int .i64 h.x.2)
abbrev E := (Hd) × Nat
def encE (e : E) : List Value := [.slice e.1.a e.1.n e.1.c, .int .i64 (e.1.i : Int), .int .i64 (e.2 : Int)]
def flat (l : List E) : List Value := (l.map encE).flatten

theorem encE_len (e : E) : (encE e).length = 3 := rfl
theorem flat_nil : flat [] = [] := rfl
theorem flat_cons (e : E) (l : List E) : flat (e :: l) = encE e ++ flat l := rfl
theorem flat_append (a b : List E) : flat (a ++ b) = flat a ++ flat b := by simp [flat]
theorem flat_len (l : List E) : (flat l).length = l.length * 3 := by
  induction l with
  | nil => rfl
  | cons e l ih => rw [flat_cons, List.length_append, ih, encE_len, List.length_cons]; omega
theorem flat_at (l : List E) (t j : Nat) (e : E) (h : l[t]? = some e) (hj : j < 3) : (flat l)[t * 3 + j]? = (encE e)[j]? := by
  induction l generalizing t with
  | nil => simp at h
  | cons x l ih =>
    rw [flat_cons]
    cases t with
    | zero =>
      simp at h; subst h
      rw [Nat.zero_mul, Nat.zero_add, List.getElem?_append_left (by rw [encE_len]; exact hj)]
    | succ t =>
      simp at h
      rw [List.getElem?_append_right (by rw [encE_len]; omega), encE_len, show (t + 1) * 3 + j - 3 = t * 3 + j by omega]
      exact ih t h

/-- What is in lies in block g, with room for cap. -/
def Came (w : World) (g cap : Nat) (came : List E) : Prop :=
  ∃ cur : Array Value, w.heap[g]? = some (.cells cur 76 (0, 0)) ∧ came.length ≤ cap ∧ cap ≤ maxLen ∧ cur.size = cap * 3 ∧ cur.toList.take (came.length * 3) = flat came
/-- The list of what is in, which may not be there yet. -/
def Row (w : World) (v : Value) (came : List E) : Prop := v = .slice none 0 0 ∧ came = [] ∨ ∃ g cap, v = .slice (some ⟨g, 0, none⟩) came.length cap ∧ Came w g cap came

section
variable {w w' : World} {g cap b : Nat} {came : List E} {v : Value}

theorem Came.cell (h : Came w g cap came) (t : Nat) (e : E) (he : came[t]? = some e) (j : Nat) (hj : j < 3) : w.cell? ⟨g, t * 3 + j, none⟩ = (encE e)[j]? := by
  obtain ⟨cur, h1, h2, h3, h4, h5⟩ := h
  have ht := (List.getElem?_eq_some_iff.1 he).1
  have e1 := flat_at came t j e he hj
  rw [← h5, List.getElem?_take_of_lt (by omega)] at e1
  simp only [World.cell?, h1]
  simpa using e1
theorem Came.free (h : Came w g cap came) (k : Nat) : w.frozen? ⟨g, k, none⟩ = false := by
  obtain ⟨cur, h1, _⟩ := h; simp [World.frozen?, h1]
theorem Came.lt (h : Came w g cap came) : g < w.heap.size := by
  obtain ⟨cur, h1, _⟩ := h; exact (Array.getElem?_eq_some_iff.1 h1).1
theorem Came.len (h : Came w g cap came) : came.length ≤ cap ∧ cap ≤ maxLen := by
  obtain ⟨cur, h1, h2, h3, _⟩ := h; exact ⟨h2, h3⟩
theorem Came.turn {S : Nat → Prop} (h : Came w g cap came) (ht : Turn S w w') (hn : ¬ S g) : Came w' g cap came := by
  obtain ⟨cur, h1, h2⟩ := h; exact ⟨cur, ht.heap h1 hn, h2⟩
theorem Came.block (h : Came w g cap came) (hb : w'.heap[g]? = w.heap[g]?) : Came w' g cap came := by
  obtain ⟨cur, h1, h2⟩ := h; exact ⟨cur, hb.trans h1, h2⟩
theorem Came.stay (h : Came w g cap came) (hs : Stay w w') : Came w' g cap came := h.block (hs.block g h.lt)
theorem Came.storeOther (h : Came w g cap came) (b k : Nat) (v : Value) (hb : g ≠ b) : Came (w.setCell ⟨b, k, none⟩ v) g cap came :=
  h.block (Below.heap_setCell _ _ _ _ (by show g ≠ b; exact hb))

theorem flat_split (l : List E) (t : Nat) (e : E) (h : l[t]? = some e) : flat l = flat (l.take t) ++ encE e ++ flat (l.drop (t + 1)) := by
  have hl := (List.getElem?_eq_some_iff.1 h).1
  have e1 : l[t] = e := (List.getElem?_eq_some_iff.1 h).2
  conv => lhs; rw [← List.take_append_drop t l, List.drop_eq_getElem_cons hl, e1]
  rw [flat_append, flat_cons, List.append_assoc]
theorem flat_set (l : List E) (t : Nat) (e e' : E) (h : l[t]? = some e) : flat (l.set t e') = flat (l.take t) ++ encE e' ++ flat (l.drop (t + 1)) := by
  have hl := (List.getElem?_eq_some_iff.1 h).1
  rw [flat_split (l.set t e') t e' (by simp [hl]), List.take_set_of_le (Nat.le_refl _), List.drop_set_of_lt (by omega)]
theorem set_mid (A B C : List Value) (k j : Nat) (v : Value) (hk : k = A.length + j) (hj : j < B.length) : (A ++ B ++ C).set k v = A ++ B.set j v ++ C := by
  subst hk
  rw [List.append_assoc, List.set_append, if_neg (by omega), List.set_append, if_pos (by omega), show A.length + j - A.length = j by omega, List.append_assoc]

/-- The cells of block g, as they are. -/
def Raw (w : World) (g cap n : Nat) (X : List Value) : Prop :=
  ∃ cur : Array Value, w.heap[g]? = some (.cells cur 76 (0, 0)) ∧ n ≤ cap ∧ cap ≤ maxLen ∧ cur.size = cap * 3 ∧ cur.toList.take (n * 3) = X
theorem Raw.set {n : Nat} {X : List Value} (h : Raw w g cap n X) (k : Nat) (v : Value) : Raw (w.setCell ⟨g, k, none⟩ v) g cap n (X.set k v) := by
  obtain ⟨cur, h1, h2, h3, h4, h5⟩ := h
  exact ⟨_, heap_setCell_same w g k cur _ v h1, h2, h3, by simpa using h4, by rw [Array.toList_setIfInBounds, List.take_set, h5]⟩
theorem Came.raw (h : Came w g cap came) : Raw w g cap came.length (flat came) := h
theorem Raw.toCame {n : Nat} {X : List Value} (h : Raw w g cap n X) (hn : n = came.length) (hX : X = flat came) : Came w g cap came := by subst hn hX; exact h

/-- A whole entry is stored. -/
def stored (w : World) (g t : Nat) (e : E) : World :=
  ((w.setCell ⟨g, t * 3, none⟩ (.slice e.1.a e.1.n e.1.c)).setCell ⟨g, t * 3 + 1, none⟩ (.int .i64 (e.1.i : Int))).setCell ⟨g, t * 3 + 2, none⟩ (.int .i64 (e.2 : Int))
theorem Came.store (h : Came w g cap came) (t : Nat) (e e' : E) (he : came[t]? = some e) : Came (stored w g t e') g cap (came.set t e') := by
  have ht := (List.getElem?_eq_some_iff.1 he).1
  have hl : (flat (came.take t)).length = t * 3 := by rw [flat_len, List.length_take]; congr 1; omega
  obtain ⟨x, n⟩ := e
  obtain ⟨x', n'⟩ := e'
  obtain ⟨xa, xn, xc, xi, xx⟩ := x
  obtain ⟨ya, yn, yc, yi, yx⟩ := x'
  refine (((h.raw.set (t * 3) (.slice ya yn yc)).set (t * 3 + 1) (.int .i64 (yi : Int))).set (t * 3 + 2) (.int .i64 (n' : Int))).toCame (by simp) ?_
  rw [flat_split came t _ he, set_mid _ _ _ _ 0 _ (by omega) (by simp [encE]), set_mid _ _ _ _ 1 _ (by omega) (by simp [encE]), set_mid _ _ _ _ 2 _ (by omega) (by simp [encE]), flat_set came t _ _ he]
  rfl
theorem stored_turn {S : Nat → Prop} {a : World} (h : Turn S a w) (hg : S g) (t : Nat) (e : E) : Turn S a (stored w g t e) := by
  unfold stored
  exact ((h.set hg _ _).set hg _ _).set hg _ _
/-- Cut off at the end. -/
theorem Came.cut (h : Came w g cap came) (n : Nat) (hn : n ≤ came.length) : Came w g cap (came.take n) := by
  obtain ⟨cur, h1, h2, h3, h4, h5⟩ := h
  refine ⟨cur, h1, by rw [List.length_take]; omega, h3, h4, ?_⟩
  have e : flat came = flat (came.take n) ++ flat (came.drop n) := by rw [← flat_append, List.take_append_drop]
  have hl : (came.take n).length = n := by rw [List.length_take]; omega
  rw [hl]
  have h6 : (cur.toList.take (came.length * 3)).take (n * 3) = (flat came).take (n * 3) := by rw [h5]
  rw [List.take_take, Nat.min_eq_left (Nat.mul_le_mul_right _ hn), e, List.take_left' (by rw [flat_len, hl])] at h6
  exact h6

theorem Row.owns (h : Row w v came) : w.ownsRow 0 76 3 v came.length (flat came) := by
  rcases h with ⟨rfl, rfl⟩ | ⟨g, cap, rfl, cur, h1, h2, h3, h4, h5⟩
  · exact World.ownsRow_nil _ _ _ _
  · exact ⟨flat_len _, .inr ⟨g, cap, cur, rfl, Nat.zero_le _, h1, h2, h3, h4, h5⟩⟩
theorem Row.of_owns (h : w.ownsRow 0 76 3 v came.length (flat came)) (hn : v ≠ .slice none 0 0) : ∃ g cap, v = .slice (some ⟨g, 0, none⟩) came.length cap ∧ Came w g cap came := by
  rcases h.2 with ⟨hx, _⟩ | ⟨b, c, cur, hv, hb, hh, h1, h2, h3, h4⟩
  · exact absurd hx hn
  · exact ⟨b, c, hv, cur, hh, h1, h2, h3, h4⟩
theorem Row.at (h : Row w v came) {t : Nat} {e : E} (he : came[t]? = some e) : ∃ g cap, v = .slice (some ⟨g, 0, none⟩) came.length cap ∧ Came w g cap came := by
  rcases h with ⟨_, rfl⟩ | h
  · simp at he
  · exact h
theorem Row.turn {S : Nat → Prop} (h : Row w v came) (ht : Turn S w w') (hn : ∀ k, v.ownBlock = some k → ¬ S k) : Row w' v came := by
  rcases h with h | ⟨g, cap, hv, hC⟩
  · exact .inl h
  · exact .inr ⟨g, cap, hv, hC.turn ht (hn g (by rw [hv]; rfl))⟩
end

/-- fv goes by xb's order; the rests lie up to xb, the heap's own blocks behind it. -/
def Lies (w : World) (hb : Nat) (fv v : Value) (came : List E) : Prop :=
  ∃ xb, fv = headV xb ∧ w.cell? ⟨xb, 0, none⟩ = some (.func (.func 9) #[] #[]) ∧ (∀ e ∈ came, e.1.In w xb) ∧ xb < hb ∧ ∀ k, v.ownBlock = some k → xb < k
theorem headV_inj {a b : Nat} (h : headV a = headV b) : a = b := by simpa [headV] using h
theorem Hd.In.turn {S : Nat → Prop} {w w' : World} {xb : Nat} {h : Hd} (hi : h.In w xb) (ht : Turn S w w') (hn : ∀ k, k ≤ xb → ¬ S k) : h.In w' xb := by
  obtain ⟨b, o, h1, h2, h3, h4, h5⟩ := hi
  exact ⟨b, o, h1, h2, h3, ht.cell h4 (hn b h2), ht.cell h5 (hn b h2)⟩
theorem Lies.turn {S : Nat → Prop} {w w' : World} {hb : Nat} {fv v : Value} {came : List E} (h : Lies w hb fv v came) (ht : Turn S w w') (hn : ∀ xb, fv = headV xb → ∀ k, k ≤ xb → ¬ S k) : Lies w' hb fv v came := by
  obtain ⟨xb, h1, h2, h3, h4, h5⟩ := h
  exact ⟨xb, h1, ht.cell h2 (hn xb h1 xb (Nat.le_refl _)), fun e he => (h3 e he).turn ht (hn xb h1), h4, h5⟩
/-- At block hb lies a heap of what is in, by the function fv. -/
structure Hp (w : World) (hb : Nat) (fv v : Value) (turns : Nat) (came : List E) : Prop where
  box : w.heap[hb]? = some (.cells #[fv, v, .int .i64 (turns : Int)] 72 (0, 0))
  row : Row w v came
  two : v.ownBlock ≠ some hb
  lies : Lies w hb fv v came
/-- The blocks of a heap. -/
def foot (hb : Nat) (v : Value) (k : Nat) : Prop := k = hb ∨ v.ownBlock = some k

section
variable {w w' : World} {hb turns : Nat} {fv v : Value} {came : List E}
theorem Hp.c0 (h : Hp w hb fv v turns came) : w.cell? ⟨hb, 0, none⟩ = some fv := by simp [World.cell?, h.box]
theorem Hp.c1 (h : Hp w hb fv v turns came) : w.cell? ⟨hb, 1, none⟩ = some v := by simp [World.cell?, h.box]
theorem Hp.c2 (h : Hp w hb fv v turns came) : w.cell? ⟨hb, 2, none⟩ = some (.int .i64 (turns : Int)) := by simp [World.cell?, h.box]
theorem Hp.free (h : Hp w hb fv v turns came) (k : Nat) : w.frozen? ⟨hb, k, none⟩ = false := by simp [World.frozen?, h.box]
theorem Hp.lt (h : Hp w hb fv v turns came) (k : Nat) (hk : foot hb v k) : k < w.heap.size := by
  rcases hk with rfl | hk
  · exact (Array.getElem?_eq_some_iff.1 h.box).1
  · rcases h.row with ⟨rfl, _⟩ | ⟨g, cap, rfl, hC⟩
    · simp [Value.ownBlock] at hk
    · simp only [Value.ownBlock, Option.some.injEq] at hk; subst hk; exact hC.lt
theorem Hp.turn {S : Nat → Prop} (h : Hp w hb fv v turns came) (ht : Turn S w w') (hn : ∀ k, foot hb v k → ¬ S k) (hl : ∀ xb, fv = headV xb → ∀ k, k ≤ xb → ¬ S k) : Hp w' hb fv v turns came :=
  ⟨ht.heap h.box (hn hb (.inl rfl)), h.row.turn ht (fun k hk => hn k (.inr hk)), h.two, h.lies.turn ht hl⟩
theorem Hp.stay (h : Hp w hb fv v turns came) (hs : Stay w w') : Hp w' hb fv v turns came := h.turn (S := fun _ => False) (Turn.of_stay hs) (fun _ _ => id) (fun _ _ _ _ => id)
end
end Go.Proofs.Ytnmaldgmlkcliaa.HH
