/- What a heap is in memory. No walk here. Heaps: the function's order, ahead, Len, Peek. Heaps: Len, Peek, rise. Heaps: sink. Heaps: Push, Pop. Heaps: Pop. Heaps: New; a heap that lies behind a world. -/
import Derived.Test.YtnmaldgmlkcliaaIT
import Derived.Test.YtnmaldgmlkcliaaRH
import Derived.Test.YtnmaldgmlkcliaaRC
import Derived.Maps.AppendAt
import Derived.Shelf.SlSortCmp.QuietGrown
import Derived.BigRegion
import Derived.Deep.RegionLaw
namespace Go.Proofs.Ytnmaldgmlkcliaa.HI
open Go.RowKit Go.Maps Go.Proofs.Ytnmaldgmlkcliaa

abbrev E := (Int) × Nat
def encE (e : E) : List Value := [.int .i64 e.1, .int .i64 (e.2 : Int)]
def flat (l : List E) : List Value := (l.map encE).flatten

theorem encE_len (e : E) : (encE e).length = 2 := rfl
theorem flat_nil : flat [] = [] := rfl
theorem flat_cons (e : E) (l : List E) : flat (e :: l) = encE e ++ flat l := rfl
theorem flat_append (a b : List E) : flat (a ++ b) = flat a ++ flat b := by simp [flat]
theorem flat_len (l : List E) : (flat l).length = l.length * 2 := by
  induction l with
  | nil => rfl
  | cons e l ih => rw [flat_cons, List.length_append, ih, encE_len, List.length_cons]; omega
theorem flat_at (l : List E) (t j : Nat) (e : E) (h : l[t]? = some e) (hj : j < 2) : (flat l)[t * 2 + j]? = (encE e)[j]? := by
  induction l generalizing t with
  | nil => simp at h
  | cons x l ih =>
    rw [flat_cons]
    cases t with
    | zero =>
      simp at h; subst h
      rw [Nat.zero_mul, Nat.zero_add, List.getElem?_append_left (by rw [encE_len]; exact hj)]
    | succ t =>
      simp at h
      rw [List.getElem?_append_right (by rw [encE_len]; omega), encE_len, show (t + 1) * 2 + j - 2 = t * 2 + j by omega]
      exact ih t h

/-- What is in lies in block g, with room for cap. -/
def Came (w : World) (g cap : Nat) (came : List E) : Prop :=
  ∃ cur : Array Value, w.heap[g]? = some (.cells cur 82 (0, 0)) ∧ came.length ≤ cap ∧ cap ≤ maxLen ∧ cur.size = cap * 2 ∧ cur.toList.take (came.length * 2) = flat came
/-- The list of what is in, which may not be there yet. -/
def Row (w : World) (v : Value) (came : List E) : Prop := v = .slice none 0 0 ∧ came = [] ∨ ∃ g cap, v = .slice (some ⟨g, 0, none⟩) came.length cap ∧ Came w g cap came

section
variable {w w' : World} {g cap b : Nat} {came : List E} {v : Value}

theorem Came.cell (h : Came w g cap came) (t : Nat) (e : E) (he : came[t]? = some e) (j : Nat) (hj : j < 2) : w.cell? ⟨g, t * 2 + j, none⟩ = (encE e)[j]? := by
  obtain ⟨cur, h1, h2, h3, h4, h5⟩ := h
  have ht := (List.getElem?_eq_some_iff.1 he).1
  have e1 := flat_at came t j e he hj
  rw [← h5, List.getElem?_take_of_lt (by omega)] at e1
  simp only [World.cell?, h1]
  simpa using e1
theorem Came.free (h : Came w g cap came) (k : Nat) : w.frozen? ⟨g, k, none⟩ = false := by
  obtain ⟨cur, h1, _⟩ := h; simp [World.frozen?, h1]
theorem Came.lt (h : Came w g cap came) : g < w.heap.size := by
  obtain ⟨cur, h1, _⟩ := h; exact (Array.getElem?_eq_some_iff.1 h1).1
theorem Came.len (h : Came w g cap came) : came.length ≤ cap ∧ cap ≤ maxLen := by
  obtain ⟨cur, h1, h2, h3, _⟩ := h; exact ⟨h2, h3⟩
theorem Came.turn {S : Nat → Prop} (h : Came w g cap came) (ht : Turn S w w') (hn : ¬ S g) : Came w' g cap came := by
  obtain ⟨cur, h1, h2⟩ := h; exact ⟨cur, ht.heap h1 hn, h2⟩
theorem Came.block (h : Came w g cap came) (hb : w'.heap[g]? = w.heap[g]?) : Came w' g cap came := by
  obtain ⟨cur, h1, h2⟩ := h; exact ⟨cur, hb.trans h1, h2⟩
theorem Came.stay (h : Came w g cap came) (hs : Stay w w') : Came w' g cap came := h.block (hs.block g h.lt)
theorem Came.storeOther (h : Came w g cap came) (b k : Nat) (v : Value) (hb : g ≠ b) : Came (w.setCell ⟨b, k, none⟩ v) g cap came :=
  h.block (Below.heap_setCell _ _ _ _ (by show g ≠ b; exact hb))

theorem flat_split (l : List E) (t : Nat) (e : E) (h : l[t]? = some e) : flat l = flat (l.take t) ++ encE e ++ flat (l.drop (t + 1)) := by
  have hl := (List.getElem?_eq_some_iff.1 h).1
  have e1 : l[t] = e := (List.getElem?_eq_some_iff.1 h).2
  conv => lhs; rw [← List.take_append_drop t l, List.drop_eq_getElem_cons hl, e1]
  rw [flat_append, flat_cons, List.append_assoc]
theorem flat_set (l : List E) (t : Nat) (e e' : E) (h : l[t]? = some e) : flat (l.set t e') = flat (l.take t) ++ encE e' ++ flat (l.drop (t + 1)) := by
  have hl := (List.getElem?_eq_some_iff.1 h).1
  rw [flat_split (l.set t e') t e' (by simp [hl]), List.take_set_of_le (Nat.le_refl _), List.drop_set_of_lt (by omega)]
theorem set_mid (A B C : List Value) (k j : Nat) (v : Value) (hk : k = A.length + j) (hj : j < B.length) : (A ++ B ++ C).set k v = A ++ B.set j v ++ C := by
  subst hk
  rw [List.append_assoc, List.set_append, if_neg (by omega), List.set_append, if_pos (by omega), show A.length + j - A.length = j by omega, List.append_assoc]

/-- The cells of block g, as they are. -/
def Raw (w : World) (g cap n : Nat) (X : List Value) : Prop :=
  ∃ cur : Array Value, w.heap[g]? = some (.cells cur 82 (0, 0)) ∧ n ≤ cap ∧ cap ≤ maxLen ∧ cur.size = cap * 2 ∧ cur.toList.take (n * 2) = X
theorem Raw.set {n : Nat} {X : List Value} (h : Raw w g cap n X) (k : Nat) (v : Value) : Raw (w.setCell ⟨g, k, none⟩ v) g cap n (X.set k v) := by
  obtain ⟨cur, h1, h2, h3, h4, h5⟩ := h
  exact ⟨_, heap_setCell_same w g k cur _ v h1, h2, h3, by simpa using h4, by rw [Array.toList_setIfInBounds, List.take_set, h5]⟩
theorem Came.raw (h : Came w g cap came) : Raw w g cap came.length (flat came) := h
theorem Raw.toCame {n : Nat} {X : List Value} (h : Raw w g cap n X) (hn : n = came.length) (hX : X = flat came) : Came w g cap came := by subst hn hX; exact h

/-- A whole entry is stored. -/
def stored (w : World) (g t : Nat) (e : E) : World :=
  (w.setCell ⟨g, t * 2, none⟩ (.int .i64 e.1)).setCell ⟨g, t * 2 + 1, none⟩ (.int .i64 (e.2 : Int))
theorem Came.store (h : Came w g cap came) (t : Nat) (e e' : E) (he : came[t]? = some e) : Came (stored w g t e') g cap (came.set t e') := by
  have ht := (List.getElem?_eq_some_iff.1 he).1
  have hl : (flat (came.take t)).length = t * 2 := by rw [flat_len, List.length_take]; congr 1; omega
  obtain ⟨x, n⟩ := e
  obtain ⟨x', n'⟩ := e'
  refine ((h.raw.set (t * 2) (.int .i64 x')).set (t * 2 + 1) (.int .i64 (n' : Int))).toCame (by simp) ?_
  rw [flat_split came t _ he, set_mid _ _ _ _ 0 _ (by omega) (by simp [encE]), set_mid _ _ _ _ 1 _ (by omega) (by simp [encE]), flat_set came t _ _ he]
  rfl
theorem stored_turn {S : Nat → Prop} {a : World} (h : Turn S a w) (hg : S g) (t : Nat) (e : E) : Turn S a (stored w g t e) := by
  unfold stored
  exact (h.set hg _ _).set hg _ _
/-- Cut off at the end. -/
theorem Came.cut (h : Came w g cap came) (n : Nat) (hn : n ≤ came.length) : Came w g cap (came.take n) := by
  obtain ⟨cur, h1, h2, h3, h4, h5⟩ := h
  refine ⟨cur, h1, by rw [List.length_take]; omega, h3, h4, ?_⟩
  have e : flat came = flat (came.take n) ++ flat (came.drop n) := by rw [← flat_append, List.take_append_drop]
  have hl : (came.take n).length = n := by rw [List.length_take]; omega
  rw [hl]
  have h6 : (cur.toList.take (came.length * 2)).take (n * 2) = (flat came).take (n * 2) := by rw [h5]
  rw [List.take_take, Nat.min_eq_left (Nat.mul_le_mul_right _ hn), e, List.take_left' (by rw [flat_len, hl])] at h6
  exact h6

theorem Row.owns (h : Row w v came) : w.ownsRow 0 82 2 v came.length (flat came) := by
  rcases h with ⟨rfl, rfl⟩ | ⟨g, cap, rfl, cur, h1, h2, h3, h4, h5⟩
  · exact World.ownsRow_nil _ _ _ _
  · exact ⟨flat_len _, .inr ⟨g, cap, cur, rfl, Nat.zero_le _, h1, h2, h3, h4, h5⟩⟩
theorem Row.of_owns (h : w.ownsRow 0 82 2 v came.length (flat came)) (hn : v ≠ .slice none 0 0) : ∃ g cap, v = .slice (some ⟨g, 0, none⟩) came.length cap ∧ Came w g cap came := by
  rcases h.2 with ⟨hx, _⟩ | ⟨b, c, cur, hv, hb, hh, h1, h2, h3, h4⟩
  · exact absurd hx hn
  · exact ⟨b, c, hv, cur, hh, h1, h2, h3, h4⟩
theorem Row.at (h : Row w v came) {t : Nat} {e : E} (he : came[t]? = some e) : ∃ g cap, v = .slice (some ⟨g, 0, none⟩) came.length cap ∧ Came w g cap came := by
  rcases h with ⟨_, rfl⟩ | h
  · simp at he
  · exact h
theorem Row.turn {S : Nat → Prop} (h : Row w v came) (ht : Turn S w w') (hn : ∀ k, v.ownBlock = some k → ¬ S k) : Row w' v came := by
  rcases h with h | ⟨g, cap, hv, hC⟩
  · exact .inl h
  · exact .inr ⟨g, cap, hv, hC.turn ht (hn g (by rw [hv]; rfl))⟩
end

/-- At block hb lies a heap of what is in, by the function fv. -/
structure Hp (w : World) (hb : Nat) (fv v : Value) (turns : Nat) (came : List E) : Prop where
  box : w.heap[hb]? = some (.cells #[fv, v, .int .i64 (turns : Int)] 80 (0, 0))
  row : Row w v came
  two : v.ownBlock ≠ some hb
/-- The blocks of a heap. -/
def foot (hb : Nat) (v : Value) (k : Nat) : Prop := k = hb ∨ v.ownBlock = some k

section
variable {w w' : World} {hb turns : Nat} {fv v : Value} {came : List E}
theorem Hp.c0 (h : Hp w hb fv v turns came) : w.cell? ⟨hb, 0, none⟩ = some fv := by simp [World.cell?, h.box]
theorem Hp.c1 (h : Hp w hb fv v turns came) : w.cell? ⟨hb, 1, none⟩ = some v := by simp [World.cell?, h.box]
theorem Hp.c2 (h : Hp w hb fv v turns came) : w.cell? ⟨hb, 2, none⟩ = some (.int .i64 (turns : Int)) := by simp [World.cell?, h.box]
theorem Hp.free (h : Hp w hb fv v turns came) (k : Nat) : w.frozen? ⟨hb, k, none⟩ = false := by simp [World.frozen?, h.box]
theorem Hp.lt (h : Hp w hb fv v turns came) (k : Nat) (hk : foot hb v k) : k < w.heap.size := by
  rcases hk with rfl | hk
  · exact (Array.getElem?_eq_some_iff.1 h.box).1
  · rcases h.row with ⟨rfl, _⟩ | ⟨g, cap, rfl, hC⟩
    · simp [Value.ownBlock] at hk
    · simp only [Value.ownBlock, Option.some.injEq] at hk; subst hk; exact hC.lt
theorem Hp.turn {S : Nat → Prop} (h : Hp w hb fv v turns came) (ht : Turn S w w') (hn : ∀ k, foot hb v k → ¬ S k) : Hp w' hb fv v turns came :=
  ⟨ht.heap h.box (hn hb (.inl rfl)), h.row.turn ht (fun k hk => hn k (.inr hk)), h.two⟩
theorem Hp.stay (h : Hp w hb fv v turns came) (hs : Stay w w') : Hp w' hb fv v turns came := h.turn (S := fun _ => False) (Turn.of_stay hs) (fun _ _ => id)
end
end Go.Proofs.Ytnmaldgmlkcliaa.HI
namespace Go.Proofs.Ytnmaldgmlkcliaa.HI
open Go.RowKit Go.Maps Go.Shelf Go.Sort Go.Proofs.Ytnmaldgmlkcliaa

/-- Which of two entries comes first: by the order, then by the turns. -/
def ahd (cf : (Int) → (Int) → Int) (a b : E) : Bool := if cf a.1 b.1 = 0 then decide (a.2 < b.2) else decide (cf a.1 b.1 < 0)
theorem ahd_of {lt : E → E → Bool} {r : E → Int} (h : ∀ a b, lt a b = decide (r a < r b ∨ r a = r b ∧ a.2 < b.2)) : Ahd lt where
  asym a b h1 := by rw [h] at *; simp only [decide_eq_true_eq, decide_eq_false_iff_not] at *; omega
  trans a b c h1 h2 := by rw [h] at *; simp only [decide_eq_true_eq] at *; omega
  ntrans a b c h1 h2 := by rw [h] at *; simp only [decide_eq_false_iff_not] at *; omega
def cfN (x y : Int) : Int := if x < y then -1 else if y < x then 1 else 0
theorem numbers_any (x y : Int) (w : World) : Calls Try.prog 29 #[.int .i64 x, .int .i64 y] w fun e w' => e = .returned (.int .i64 (cfN x y)) ∧ w' = w := by
  by_cases h1 : x < y
  · rw [show cfN x y = -1 by unfold cfN; rw [if_pos h1]]
    go_enter Try.func29, Try.ntmps29
    go_wp2
    go_ret
    exact ⟨rfl, rfl⟩
  · by_cases h2 : y < x
    · rw [show cfN x y = 1 by unfold cfN; rw [if_neg h1, if_pos h2]]
      go_enter Try.func29, Try.ntmps29
      go_wp2
      go_ret
      exact ⟨rfl, rfl⟩
    · rw [show cfN x y = 0 by unfold cfN; rw [if_neg h1, if_neg h2]]
      go_enter Try.func29, Try.ntmps29
      go_wp2
      go_ret
      exact ⟨rfl, rfl⟩
theorem eql_fn (g : Nat) (lb : Array Value) (w : World) : (binOp .eql 49 (.func (.func g) #[] lb) .nilFunc).run Try.prog w = .ok (.bool false) w := by kernel_rfl
theorem orderOf_yes (w : World) : Calls Try.prog 44 #[.func (.func 29) #[] #[]] w fun e w' => e = .returned (.func (.func 29) #[] #[]) ∧ w' = w := by
  have he := eql_fn 29 #[]
  go_enter Try.func44, Try.ntmps44
  go_wp2
  go_ret
  exact ⟨rfl, rfl⟩
theorem ahd_num (a b : E) : ahd cfN a b = decide (a.1 < b.1 ∨ a.1 = b.1 ∧ a.2 < b.2) := by
  unfold ahd cfN
  rw [Bool.eq_iff_iff]
  rcases Int.lt_trichotomy a.1 b.1 with h | h | h
  · simp [h]
  · simp [h]
  · have h1 : ¬ a.1 < b.1 := by omega
    have h2 : ¬ a.1 = b.1 := by omega
    simp [h, h1, h2]
/-- The function of a heap, and the order that it is. -/
def Fv (fv : Value) (cf : Int → Int → Int) : Prop := fv = .func (.func 29) #[] #[] ∧ cf = cfN
theorem ahd_ok {fv : Value} {cf : Int → Int → Int} (h : Fv fv cf) : Ahd (ahd cf) := by
  obtain ⟨_, rfl⟩ := h
  exact ahd_of ahd_num
theorem stay_grow (w : World) (n : Nat) (os : Array Obj) : Stay w (grow (w.drewN n) os) :=
  ⟨rfl, rfl, rfl, by rw [size_grow]; exact Nat.le_add_right _ _, fun k hk => heap_grow_old _ _ hk⟩
set_option maxRecDepth 100000 in
set_option maxHeartbeats 2000000 in
theorem ahead_num {w : World} {hb g cap turns : Nat} {came : List E} (h : Hp w hb (.func (.func 29) #[] #[]) (.slice (some ⟨g, 0, none⟩) came.length cap) turns came) (hC : Came w g cap came) (i j : Nat) (a b : E) (hi : came[i]? = some a) (hj : came[j]? = some b) :
    Calls Try.prog 56 #[.pointer (some ⟨hb, 0, none⟩), .int .i64 (i : Int), .int .i64 (j : Int)] w fun e w' => e = .returned (.bool (ahd cfN a b)) ∧ Stay w w' := by
  have c1 := h.c1
  have li := (List.getElem?_eq_some_iff.1 hi).1
  have lj := (List.getElem?_eq_some_iff.1 hj).1
  have lc := hC.len
  unfold maxLen at lc
  have i1 : (i : Int) < (came.length : Int) := by omega
  have j1 : (j : Int) < (came.length : Int) := by omega
  obtain ⟨a1, a3⟩ := a
  obtain ⟨b1, b3⟩ := b
  have ho := orderOf_yes
  have hb' := numbers_any a1 b1
  have HH : Hid (Hp w hb (.func (.func 29) #[] #[]) (.slice (some ⟨g, 0, none⟩) came.length cap) turns came ∧ Came w g cap came ∧ came[i]? = some (a1, a3) ∧ came[j]? = some (b1, b3)) := ⟨h, hC, hi, hj⟩
  have HR : Hid (∀ c, c = cfN a1 b1 → ahd cfN (a1, a3) (b1, b3) = if c = 0 then decide (a3 < b3) else decide (c < 0)) := by rintro c rfl; rfl
  clear h hC hi hj
  go_enter Try.func56, Try.ntmps56
  go_wp2
  go_quiet (fail)
  have HW : Hid (Stay w (w.drewN nq)) := Stay.drewN w nq
  have HH2 : Hid (Hp (w.drewN nq) hb (.func (.func 29) #[] #[]) (.slice (some ⟨g, 0, none⟩) came.length cap) turns came ∧ Came (w.drewN nq) g cap came) := ⟨HH.out.1.stay HW.out, HH.out.2.1.stay HW.out⟩
  clear c1
  generalize w.drewN nq = W at HW HH2 ⊢
  have c0 := HH2.out.1.c0
  have d0 : W.cell? ⟨g, i * 2, none⟩ = some (.int .i64 a1) := HH2.out.2.cell i _ HH.out.2.2.1 0 (by decide)
  have e0 : W.cell? ⟨g, j * 2, none⟩ = some (.int .i64 b1) := HH2.out.2.cell j _ HH.out.2.2.2 0 (by decide)
  have d2 : W.cell? ⟨g, i * 2 + 1, none⟩ = some (.int .i64 (a3 : Int)) := HH2.out.2.cell i _ HH.out.2.2.1 1 (by decide)
  have e2 : W.cell? ⟨g, j * 2 + 1, none⟩ = some (.int .i64 (b3 : Int)) := HH2.out.2.cell j _ HH.out.2.2.2 1 (by decide)
  obtain ⟨c, hc⟩ : ∃ c, c = cfN a1 b1 := ⟨_, rfl⟩
  rw [← hc] at hb'
  have HC : Hid (c = cfN a1 b1) := hc
  clear hc
  go_wp2_with fail
  go_quiet ((first | (go_at_call 44; exact Calls.quiet_of_same (ho _)) | (go_at_call 29; exact Calls.quiet_of_same (hb' _))))
  clear ho hb'
  by_cases hcz : c = 0
  · have hcb : (c != 0) = false := by simp [hcz]
    have HZ : Hid (c = 0) := hcz
    clear hcz
    go_wp2
    go_quiet (fail)
    go_wp2
    go_ret
    refine ⟨?_, HW.out.trans ((Stay.drewN _ _).trans (Stay.drewN _ _))⟩
    rw [HR.out c HC.out, if_pos HZ.out]
    simp
  · have hcb : (c != 0) = true := by simpa using hcz
    have HZ : Hid (¬ c = 0) := hcz
    clear hcz
    go_wp2
    go_ret
    refine ⟨?_, HW.out.trans (Stay.drewN _ _)⟩
    rw [HR.out c HC.out, if_neg HZ.out]
    rfl
theorem ahead_any {w : World} {hb g cap turns : Nat} {came : List E} {fv : Value} {cf : Int → Int → Int} (hf : Fv fv cf) (h : Hp w hb fv (.slice (some ⟨g, 0, none⟩) came.length cap) turns came) (hC : Came w g cap came) (i j : Nat) (a b : E) (hi : came[i]? = some a) (hj : came[j]? = some b) :
    Calls Try.prog 56 #[.pointer (some ⟨hb, 0, none⟩), .int .i64 (i : Int), .int .i64 (j : Int)] w fun e w' => e = .returned (.bool (ahd cf a b)) ∧ Stay w w' := by
  obtain ⟨rfl, rfl⟩ := hf
  exact ahead_num h hC i j a b hi hj
end Go.Proofs.Ytnmaldgmlkcliaa.HI
namespace Go.Proofs.Ytnmaldgmlkcliaa.HI
open Go.RowKit Go.Maps Go.Shelf Go.Sort Go.Proofs.Ytnmaldgmlkcliaa

section
variable {w : World} {hb g cap turns : Nat} {came : List E} {fv v : Value} {cf : (Int) → (Int) → Int}

theorem Row.form (h : Row w v came) : ∃ a c, v = .slice a came.length c := by
  rcases h with ⟨rfl, rfl⟩ | ⟨g, cap, rfl, _⟩
  · exact ⟨_, _, rfl⟩
  · exact ⟨_, _, rfl⟩
theorem len_any (h : Hp w hb fv v turns came) : Calls Try.prog 33 #[.pointer (some ⟨hb, 0, none⟩)] w fun e w' => e = .returned (.int .i64 (came.length : Int)) ∧ w' = w := by
  obtain ⟨a, c, rfl⟩ := h.row.form
  have c1 := h.c1
  clear h
  go_enter Try.func33, Try.ntmps33
  go_wp2
  go_ret
  exact ⟨rfl, rfl⟩
theorem peek_none (h : Hp w hb fv v turns []) : Calls Try.prog 46 #[.pointer (some ⟨hb, 0, none⟩)] w fun e w' => e = .returned (.tuple #[.int .i64 0, .bool false]) ∧ Stay w w' := by
  have hl := fun (W : World) (hW : Stay w W) => len_any (h.stay hW)
  go_enter Try.func46, Try.ntmps46
  go_wp2_with fail
  refine (hl _ (by first | exact Stay.refl _ | exact Stay.new _ _)).mono ?_
  rintro e w9 ⟨rfl, hw⟩
  have hw' := hw.symm; subst hw'
  go_wp2
  go_ret2
  exact ⟨rfl, Stay.refl _⟩
theorem peek_some (h : Hp w hb fv v turns came) (e : E) (he : came[0]? = some e) : Calls Try.prog 46 #[.pointer (some ⟨hb, 0, none⟩)] w fun e' w' => e' = .returned (.tuple #[.int .i64 e.1, .bool true]) ∧ Stay w w' := by
  have hl := fun (W : World) (hW : Stay w W) => len_any (h.stay hW)
  obtain ⟨g, cap, rfl, hC⟩ := h.row.at he
  have h0 := (List.getElem?_eq_some_iff.1 he).1
  have hz : ((came.length : Int) == 0) = false := by rw [beq_eq_false_iff_ne]; omega
  have hz2 : (0 : Int) < (came.length : Int) := by omega
  have lc := hC.len
  unfold maxLen at lc
  have c1 := h.c1
  obtain ⟨e1, e2⟩ := e
  have d0 : w.cell? ⟨g, 0, none⟩ = some (.int .i64 e1) := hC.cell 0 _ he 0 (by decide)
  have hlb := h.lt hb (.inl rfl)
  have hlg := hC.lt
  clear hC he
  go_enter Try.func46, Try.ntmps46
  go_wp2_with fail
  refine (hl _ (by first | exact Stay.refl _ | exact Stay.new _ _)).mono ?_
  rintro e w9 ⟨rfl, hw⟩
  have hw' := hw.symm; subst hw'
  go_wp2
  go_ret2
  exact ⟨rfl, Stay.refl _⟩

theorem Hp.store {c : List E} (h : Hp w hb fv v turns c) {c' : List E} (hv : v = .slice (some ⟨g, 0, none⟩) c'.length cap) (t : Nat) (e : E) (hC : Came (stored w g t e) g cap c') : Hp (stored w g t e) hb fv v turns c' := by
  have two := h.two
  refine ⟨?_, .inr ⟨g, cap, hv, hC⟩, two⟩
  rw [hv] at two
  simp only [Value.ownBlock, ne_eq, Option.some.injEq] at two
  have : Turn (fun k => k = g) w (stored w g t e) := stored_turn (S := fun k => k = g) (Turn.refl _ _) rfl t e
  exact this.heap h.box (fun e => two e.symm)
theorem swap_hp {c1 : List E} {n : Nat} {x y : E} {i o : Nat} (h : Hp w hb fv (.slice (some ⟨g, 0, none⟩) n cap) turns c1) (hC : Came w g cap c1) (hx : c1[i]? = some x) (hy : c1[o]? = some y) (hne : o ≠ i) :
    Hp (stored (stored w g i y) g o x).drew hb fv (.slice (some ⟨g, 0, none⟩) n cap) turns (swapL c1 i o x y) ∧ Came (stored (stored w g i y) g o x).drew g cap (swapL c1 i o x y) ∧ Turn (fun k => k = g) w (stored (stored w g i y) g o x).drew := by
  have hn : n = c1.length := by
    rcases h.row with ⟨h1, _⟩ | ⟨g', c', h1, _⟩
    · simp at h1
    · simp at h1; exact h1.2.1
  have C1 := hC.store i x y hx
  have C2 := C1.store o y x (by rw [List.getElem?_set_ne (Ne.symm hne)]; exact hy)
  have H1 := Hp.store (c' := c1.set i y) h (by simp [hn]) i y C1
  have H2 := Hp.store (c' := (c1.set i y).set o x) H1 (by simp [hn]) o x C2
  exact ⟨H2.stay (Stay.drew _), C2.stay (Stay.drew _), (stored_turn (S := fun k => k = g) (stored_turn (S := fun k => k = g) (Turn.refl _ _) rfl _ _) rfl _ _).trans (Turn.of_stay (Stay.drew _))⟩

set_option maxRecDepth 100000 in
set_option maxHeartbeats 4000000 in
theorem rise_any (hf : Fv fv cf) (h : Hp w hb fv (.slice (some ⟨g, 0, none⟩) came.length cap) turns came) (hC : Came w g cap came) (i0 : Nat) (hi : i0 < came.length) (hU : Up (ahd cf) came i0) :
    Calls Try.prog 45 #[.pointer (some ⟨hb, 0, none⟩), .int .i64 (i0 : Int)] w fun e w' => e = .returned (.tuple #[]) ∧ ∃ came', came'.Perm came ∧ IsHeap (ahd cf) came' ∧ Hp w' hb fv (.slice (some ⟨g, 0, none⟩) came.length cap) turns came' ∧ Came w' g cap came' ∧ Turn (fun k => k = g) w w' := by
  have lc := hC.len
  unfold maxLen at lc
  have hgb : g ≠ hb := by have := h.two; simpa [Value.ownBlock] using this
  have HF : Hid (Fv fv cf) := hf
  have H0 : Hid (Hp w hb fv (.slice (some ⟨g, 0, none⟩) came.length cap) turns came ∧ Came w g cap came ∧ Up (ahd cf) came i0) := ⟨h, hC, hU⟩
  clear hf h hC hU
  go_enter Try.func45, Try.ntmps45
  go_wp2
  go_loopw [1] (fun vi wr => ∃ (i : Nat) (c1 : List E), vi = .int .i64 (i : Int) ∧ i < came.length ∧ c1.Perm came ∧ Up (ahd cf) c1 i ∧ Hp wr hb fv (.slice (some ⟨g, 0, none⟩) came.length cap) turns c1 ∧ Came wr g cap c1 ∧ Turn (fun k => k = g) w wr) (fun vi _ => (intOf vi).toNat)
  case atStart => exact ⟨i0, came, rfl, hi, List.Perm.refl _, H0.out.2.2, H0.out.1, H0.out.2.1, Turn.refl _ _⟩
  case round =>
    obtain ⟨i, c1, rfl, hil, hp, hU, hH, hC, hT⟩ := hrel
    have hlen : c1.length = came.length := hp.length_eq
    have HR : Hid (c1.Perm came ∧ Up (ahd cf) c1 i ∧ Hp wr hb fv (.slice (some ⟨g, 0, none⟩) came.length cap) turns c1 ∧ Came wr g cap c1 ∧ Turn (fun k => k = g) w wr ∧ c1.length = came.length) := ⟨hp, hU, hH, hC, hT, hlen⟩
    clear hp hU hH hC hT hlen
    by_cases hi0 : 0 < i
    · have hi1 : (0 : Int) < (i : Int) := by omega
      obtain ⟨o, ho⟩ : ∃ o, o = (i - 1) / 2 := ⟨_, rfl⟩
      have hol : o < i := by omega
      have hoe : ((i : Int) - 1) / 2 = (o : Int) := by omega
      obtain ⟨x, hx⟩ : ∃ x, c1[i]? = some x := ⟨_, List.getElem?_eq_getElem (by rw [HR.out.2.2.2.2.2]; exact hil)⟩
      obtain ⟨y, hy⟩ : ∃ y, c1[o]? = some y := ⟨_, List.getElem?_eq_getElem (by rw [HR.out.2.2.2.2.2]; omega)⟩
      have hah := ahead_any HF.out (by rw [HR.out.2.2.2.2.2]; exact HR.out.2.2.1) HR.out.2.2.2.1 i o x y hx hy
      have HXY : Hid (c1[i]? = some x ∧ c1[o]? = some y ∧ o = (i - 1) / 2) := ⟨hx, hy, ho⟩
      clear hx hy ho
      go_wp2_with fail
      refine hah.mono ?_
      rintro e9 w1 ⟨rfl, hst⟩
      have HS : Hid (Stay wr w1) := hst
      clear hah hst
      cases hlt : ahd cf x y with
      | false =>
        have HL : Hid (ahd cf x y = false) := hlt
        clear hlt
        go_wp2
        (try simp only [Exit.inBlock, Exit.then]); refine bodyPost_ret (results_none rfl _ _ _) rfl ?_
        exact ⟨rfl, c1, HR.out.1, up_done HR.out.2.1 HXY.out.1 (HXY.out.2.2 ▸ HXY.out.2.1) HL.out, HR.out.2.2.1.stay HS.out, HR.out.2.2.2.1.stay HS.out, HR.out.2.2.2.2.1.trans (Turn.of_stay HS.out)⟩
      | true =>
        have HL : Hid (ahd cf x y = true) := hlt
        clear hlt
        have hio : o ≠ i := by omega
        have HC1 : Hid (Came w1 g cap c1) := HR.out.2.2.2.1.stay HS.out
        have k1 := (HR.out.2.2.1.stay HS.out).c1
        have li : (i : Int) < (came.length : Int) := by omega
        have lo : (o : Int) < (came.length : Int) := by omega
        have fz := HC1.out.free
        obtain ⟨x1, x3⟩ := x
        obtain ⟨y1, y3⟩ := y
        have d0 : w1.cell? ⟨g, i * 2, none⟩ = some (.int .i64 x1) := HC1.out.cell i _ HXY.out.1 0 (by decide)
        have d1 : w1.cell? ⟨g, i * 2 + 1, none⟩ = some (.int .i64 (x3 : Int)) := HC1.out.cell i _ HXY.out.1 1 (by decide)
        have e0 : w1.cell? ⟨g, o * 2, none⟩ = some (.int .i64 y1) := HC1.out.cell o _ HXY.out.2.1 0 (by decide)
        have e1 : w1.cell? ⟨g, o * 2 + 1, none⟩ = some (.int .i64 (y3 : Int)) := HC1.out.cell o _ HXY.out.2.1 1 (by decide)
        have n1 : ¬ o * 2 = i * 2 := by omega
        have n2 : ¬ o * 2 = i * 2 + 1 := by omega
        have n3 : ¬ o * 2 + 1 = i * 2 := by omega
        have n4 : ¬ o * 2 + 1 = i * 2 + 1 := by omega
        go_wp2_with fail
        go_region
        go_wp2
        obtain ⟨s1, s2, s3⟩ := swap_hp (HR.out.2.2.1.stay HS.out) HC1.out HXY.out.1 HXY.out.2.1 hio
        exact ⟨⟨o, swapL c1 i o _ _, rfl, by omega, (swap_perm HXY.out.1 HXY.out.2.1).trans HR.out.1, HXY.out.2.2 ▸ up_step (ahd_ok HF.out) HR.out.2.1 hi0 HXY.out.1 (HXY.out.2.2 ▸ HXY.out.2.1) HL.out, s1, s2, (HR.out.2.2.2.2.1.trans (Turn.of_stay HS.out)).trans s3⟩, by simp [intOf]; omega⟩
    · have hi1 : ¬ (0 : Int) < (i : Int) := by omega
      obtain rfl : i = 0 := by omega
      go_wp2
      go_end0
      exact ⟨rfl, c1, HR.out.1, up_zero HR.out.2.1, HR.out.2.2.1, HR.out.2.2.2.1, HR.out.2.2.2.2.1⟩
end
end Go.Proofs.Ytnmaldgmlkcliaa.HI
namespace Go.Proofs.Ytnmaldgmlkcliaa.HI
open Go.RowKit Go.Maps Go.Shelf Go.Sort Go.Proofs.Ytnmaldgmlkcliaa

section
variable {w : World} {hb g cap turns : Nat} {came : List E} {fv v : Value} {cf : (Int) → (Int) → Int}

set_option maxRecDepth 100000 in
set_option maxHeartbeats 4000000 in
theorem sink_any (hf : Fv fv cf) (h : Hp w hb fv (.slice (some ⟨g, 0, none⟩) came.length cap) turns came) (hC : Came w g cap came) (hD : Down (ahd cf) came 0) (hsz : came.length ≤ 1152921504606846976) :
    Calls Try.prog 47 #[.pointer (some ⟨hb, 0, none⟩), .int .i64 0] w fun e w' => e = .returned (.tuple #[]) ∧ ∃ came', came'.Perm came ∧ IsHeap (ahd cf) came' ∧ Hp w' hb fv (.slice (some ⟨g, 0, none⟩) came.length cap) turns came' ∧ Came w' g cap came' ∧ Turn (fun k => k = g) w w' := by
  have hgb : g ≠ hb := by have := h.two; simpa [Value.ownBlock] using this
  have HF : Hid (Fv fv cf) := hf
  have H0 : Hid (Hp w hb fv (.slice (some ⟨g, 0, none⟩) came.length cap) turns came ∧ Came w g cap came ∧ Down (ahd cf) came 0) := ⟨h, hC, hD⟩
  clear hf h hC hD
  go_enter Try.func47, Try.ntmps47
  go_wp2
  go_loopw [1] (fun vi wr => ∃ (i : Nat) (c1 : List E), vi = .int .i64 (i : Int) ∧ (i < came.length ∨ i = 0) ∧ c1.Perm came ∧ Down (ahd cf) c1 i ∧ Hp wr hb fv (.slice (some ⟨g, 0, none⟩) came.length cap) turns c1 ∧ Came wr g cap c1 ∧ Turn (fun k => k = g) w wr) (fun vi _ => came.length - (intOf vi).toNat)
  case atStart => exact ⟨0, came, rfl, .inr rfl, List.Perm.refl _, H0.out.2.2, H0.out.1, H0.out.2.1, Turn.refl _ _⟩
  case round =>
    obtain ⟨i, c1, rfl, hil, hp, hD, hH, hC, hT⟩ := hrel
    have hlen : c1.length = came.length := hp.length_eq
    have HR : Hid (c1.Perm came ∧ Down (ahd cf) c1 i ∧ Hp wr hb fv (.slice (some ⟨g, 0, none⟩) came.length cap) turns c1 ∧ Came wr g cap c1 ∧ Turn (fun k => k = g) w wr ∧ c1.length = came.length) := ⟨hp, hD, hH, hC, hT, hlen⟩
    have hi60 : (i : Int) ≤ 1152921504606846976 := by omega
    clear hp hD hH hC hT hlen
    rename World => W1
    go_wp2
    go_loopw [4, 5] (fun vf vu wr => ∃ (f u : Nat), vf = .int .i64 (f : Int) ∧ vu = .int .i64 (u : Int) ∧ 2 * i + 1 ≤ u ∧ u ≤ 2 * i + 3 ∧ (f = i ∨ f < came.length ∧ f ≤ 2 * i + 2) ∧ Least3 (ahd cf) c1 i u f ∧ Stay W1 wr) (fun _ vu _ => 2 * i + 3 - (intOf vu).toNat)
    case atStart => exact ⟨i, 2 * i + 1, rfl, by go_num, Nat.le_refl _, by omega, .inl rfl, least_start (ahd_ok HF.out) c1 i, Stay.refl _⟩
    case round =>
      obtain ⟨f, u, rfl, rfl, hu1, hu2, hfl, hL3, hst⟩ := hrel
      have HS : Hid (Stay W1 wr) := hst
      have HH2 : Hid (Hp wr hb fv (.slice (some ⟨g, 0, none⟩) came.length cap) turns c1) := HR.out.2.2.1.stay hst
      have HC2 : Hid (Came wr g cap c1) := HR.out.2.2.2.1.stay hst
      have HL3 : Hid (Least3 (ahd cf) c1 i u f) := hL3
      have k1 := HH2.out.c1
      clear hst hL3
      by_cases hc : u ≤ 2 * i + 2 ∧ u < came.length
      · have q1 : (u : Int) ≤ 2 * (i : Int) + 2 := by omega
        have q2 : (u : Int) < (came.length : Int) := by omega
        have hpu : (u - 1) / 2 = i := by omega
        obtain ⟨x, hx⟩ : ∃ x, c1[u]? = some x := ⟨_, List.getElem?_eq_getElem (by rw [HR.out.2.2.2.2.2]; exact hc.2)⟩
        obtain ⟨y, hy⟩ : ∃ y, c1[f]? = some y := ⟨_, List.getElem?_eq_getElem (by rw [HR.out.2.2.2.2.2]; omega)⟩
        have hah := ahead_any HF.out (by rw [HR.out.2.2.2.2.2]; exact HH2.out) HC2.out u f x y hx hy
        have HXY : Hid (c1[u]? = some x ∧ c1[f]? = some y) := ⟨hx, hy⟩
        clear hx hy
        go_wp2_with fail
        refine hah.mono ?_
        rintro e9 w2 ⟨rfl, hst⟩
        have HS2 : Hid (Stay wr w2) := hst
        clear hah hst
        cases hlt : ahd cf x y with
        | false =>
          have HL : Hid (ahd cf x y = false) := hlt
          clear hlt
          go_wp2
          go_roundw
          case rel => exact ⟨f, u + 1, rfl, by go_num, by omega, by omega, hfl, least_same HL3.out hpu (by omega) HXY.out.1 HXY.out.2 HL.out, HS.out.trans HS2.out⟩
          case measure => simp [intOf]; omega
        | true =>
          have HL : Hid (ahd cf x y = true) := hlt
          clear hlt
          go_wp2
          go_roundw
          case rel => exact ⟨u, u + 1, rfl, by go_num, by omega, by omega, .inr ⟨hc.2, hc.1⟩, least_less (ahd_ok HF.out) HL3.out hpu (by omega) HXY.out.1 HXY.out.2 HL.out, HS.out.trans HS2.out⟩
          case measure => simp [intOf]; omega
      · have hlast : ∀ k, (k - 1) / 2 = i → 0 < k → k < c1.length → k < u := fun k h1 h2 h3 => by rw [HR.out.2.2.2.2.2] at h3; omega
        have HLA : Hid (∀ k, (k - 1) / 2 = i → 0 < k → k < c1.length → k < u) := hlast
        clear hlast
        by_cases hfi : f = i
        · obtain rfl : f = i := hfi
          by_cases q1 : (u : Int) ≤ 2 * (f : Int) + 2
          all_goals
            try have q2 : ¬ (u : Int) < (came.length : Int) := by omega
            go_wp2
            (try simp only [Exit.inBlock, Exit.then]); refine bodyPost_ret (results_none rfl _ _ _) rfl ?_
            exact ⟨rfl, c1, HR.out.1, down_done HR.out.2.1 HL3.out HLA.out, HH2.out, HC2.out, HR.out.2.2.2.2.1.trans (Turn.of_stay HS.out)⟩
        · have hfb : ((f : Int) == (i : Int)) = false := by rw [beq_eq_false_iff_ne]; omega
          have hfl2 : f < came.length ∧ f ≤ 2 * i + 2 := by omega
          have hfgt : i < f := by rcases HL3.out.1 with h | h <;> omega
          have hil2 : i < came.length := by omega
          have li : (i : Int) < (came.length : Int) := by omega
          have lf : (f : Int) < (came.length : Int) := by omega
          obtain ⟨x, hx⟩ : ∃ x, c1[i]? = some x := ⟨_, List.getElem?_eq_getElem (by rw [HR.out.2.2.2.2.2]; exact hil2)⟩
          obtain ⟨y, hy⟩ : ∃ y, c1[f]? = some y := ⟨_, List.getElem?_eq_getElem (by rw [HR.out.2.2.2.2.2]; exact hfl2.1)⟩
          have HXY : Hid (c1[i]? = some x ∧ c1[f]? = some y) := ⟨hx, hy⟩
          clear hx hy
          have fz := HC2.out.free
          have lc := HC2.out.len
          unfold maxLen at lc
          obtain ⟨x1, x3⟩ := x
          obtain ⟨y1, y3⟩ := y
          have d0 : wr.cell? ⟨g, i * 2, none⟩ = some (.int .i64 x1) := HC2.out.cell i _ HXY.out.1 0 (by decide)
          have d1 : wr.cell? ⟨g, i * 2 + 1, none⟩ = some (.int .i64 (x3 : Int)) := HC2.out.cell i _ HXY.out.1 1 (by decide)
          have e0 : wr.cell? ⟨g, f * 2, none⟩ = some (.int .i64 y1) := HC2.out.cell f _ HXY.out.2 0 (by decide)
          have e1 : wr.cell? ⟨g, f * 2 + 1, none⟩ = some (.int .i64 (y3 : Int)) := HC2.out.cell f _ HXY.out.2 1 (by decide)
          have n1 : ¬ f * 2 = i * 2 := by omega
          have n2 : ¬ f * 2 = i * 2 + 1 := by omega
          have n3 : ¬ f * 2 + 1 = i * 2 := by omega
          have n4 : ¬ f * 2 + 1 = i * 2 + 1 := by omega
          by_cases q1 : (u : Int) ≤ 2 * (i : Int) + 2
          all_goals
            try have q2 : ¬ (u : Int) < (came.length : Int) := by omega
            go_wp2_with fail
            go_region
            go_wp2
            obtain ⟨s1, s2, s3⟩ := swap_hp HH2.out HC2.out HXY.out.1 HXY.out.2 hfi
            exact ⟨⟨f, swapL c1 i f _ _, rfl, .inl hfl2.1, (swap_perm HXY.out.1 HXY.out.2).trans HR.out.1, down_step HR.out.2.1 HL3.out hfi HLA.out HXY.out.1 HXY.out.2, s1, s2, (HR.out.2.2.2.2.1.trans (Turn.of_stay HS.out)).trans s3⟩, by simp [intOf]; omega⟩
end
end Go.Proofs.Ytnmaldgmlkcliaa.HI
namespace Go.Proofs.Ytnmaldgmlkcliaa.HI
open Go.RowKit Go.Maps Go.Shelf Go.Sort Go.Proofs.Ytnmaldgmlkcliaa

theorem infoEnt : (Try.prog.info? 82).map (fun i => (i.zero, i.size, i.bytes)) = some (some (.agg #[.int .i64 0, .int .i64 0]), 2, 16) := by kernel_rfl

/-- An append to a list of one's own, as one step of a region that draws its order. -/
theorem step_append_own {P : Program} {ops : Array Oper} {o : Oper} {a : Act} {w : World} {K : Act → World → Prop} {Q : Exit → Act → World → Prop} {X : Prop}
    (hg : o.guard = none) (s x : Operand) (t : TypeId) (hop : o.op = Op.call { callee := Callee.builtin Builtin.append, args := #[s, x], argTypes := #[t, t] }) (base : Nat)
    (e : TypeId) (i : TypeInfo) (z : Value) (size bytes : Nat) (h1 : P.underlying t = some (.slice e)) (h2 : P.info? e = some i) (h3 : i.zero = some z) (h4 : i.size = size) (h5 : i.bytes = bytes) (h6 : z.cells.size = size) (h7 : 0 < size)
    (v : Value) (n : Nat) (xs : List Value) (hs : a.eval s = v) (hown : w.ownsRow base e size v n xs)
    (ad : Addr) (m c : Nat) (news : List Value) (hx : a.eval x = .slice (some ad) m c) (hn : news.length = m * size) (hc : ∀ j u, news[j]? = some u → w.cell? (ad.add j) = some u) (h1c : ∀ u ∈ news, u.oneCell' = true)
    (b1 : n + m ≤ maxLen) (b2 : (n + m) * bytes ≤ 140737488355328) (hbase : base ≤ w.heap.size)
    (hK : ∀ v' w', w'.ownsRow base e size v' (n + m) (xs ++ news) → w.grownBy w' v.ownBlock → (v' = .slice none 0 0 ↔ v = .slice none 0 0 ∧ m = 0) → (v'.ownBlock = v.ownBlock ∨ v'.ownBlock = some w.heap.size) → K (a.put o.dst v') w') :
    if Region.wanted o (yielded ops a.tmps) = true then Oper.wp P o a w K Q else X := by
  have hw : Region.wanted o (yielded ops a.tmps) = true := by simp [Region.wanted, hg]
  rw [if_pos hw]
  obtain ⟨v', w', hrun, r1, r2, r3, r4⟩ := run_append_own_at (P := P) w base t o.type e i z size bytes h1 h2 h3 h4 h5 h6 h7 v n xs hown ad m c news hn hc h1c b1 b2 hbase
  unfold Oper.wp
  simp [execOp, hop, resolve, invoke, builtin, hs, hx, hrun, Result.andThen]
  exact hK v' w' r1 r2 r3 r4

section
variable {w : World} {hb g cap turns : Nat} {came : List E} {fv v : Value} {cf : (Int) → (Int) → Int}

/-- Behind the append: the heap with one more at its end. -/
theorem app_hp (h : Hp w hb fv v turns came) (e0 : E) {W v' w2} (hs : Stay w W) (hown : World.ownsRow w2 0 82 2 v' (came.length + 1) (flat came ++ encE e0)) (hgrow : W.grownBy w2 v.ownBlock)
    (hnil : v' = .slice none 0 0 ↔ v = .slice none 0 0 ∧ 1 = 0) (hloc : v'.ownBlock = v.ownBlock ∨ v'.ownBlock = some W.heap.size) :
    ∃ g cap, v' = .slice (some ⟨g, 0, none⟩) (came.length + 1) cap ∧ w2.cell? ⟨hb, 1, none⟩ = some v ∧ w2.frozen? ⟨hb, 1, none⟩ = false ∧ Hp (w2.setCell ⟨hb, 1, none⟩ (.slice (some ⟨g, 0, none⟩) (came.length + 1) cap)) hb fv (.slice (some ⟨g, 0, none⟩) (came.length + 1) cap) turns (came ++ [e0]) ∧
      Came (w2.setCell ⟨hb, 1, none⟩ (.slice (some ⟨g, 0, none⟩) (came.length + 1) cap)) g cap (came ++ [e0]) ∧ Turn (foot hb v) w (w2.setCell ⟨hb, 1, none⟩ (.slice (some ⟨g, 0, none⟩) (came.length + 1) cap)) ∧ (v.ownBlock = some g ∨ w.heap.size ≤ g) := by
  have hfl : flat came ++ encE e0 = flat (came ++ [e0]) := by rw [flat_append]; simp [flat]
  rw [hfl, show came.length + 1 = (came ++ [e0]).length by simp] at hown
  obtain ⟨g, cap, rfl, hC⟩ := Row.of_owns hown (fun e => by have := (hnil.1 e).2; omega)
  have hT1 : Turn (foot hb v) w W := Turn.of_stay hs
  have hT2 : Turn (foot hb v) w w2 := ⟨hgrow.os.trans hT1.os, hgrow.tape.trans hT1.tape, hgrow.output.trans hT1.output, Nat.le_trans hT1.size hgrow.size, fun k hk hn =>
    (hgrow.block k (Nat.lt_of_lt_of_le hk hT1.size) (fun e => hn (.inr e.symm))).trans (hT1.block k hk hn)⟩
  have hblt := h.lt hb (.inl rfl)
  have hsz := hs.size
  have hbb : w2.heap[hb]? = w.heap[hb]? := (hgrow.block hb (by omega) (fun e => h.two e.symm)).trans (hs.block hb hblt)
  have hbox := hbb.trans h.box
  have hg : v.ownBlock = some g ∨ w.heap.size ≤ g := by
    rcases hloc with h1 | h1
    · exact .inl h1.symm
    · right; simp only [Value.ownBlock, Option.some.injEq] at h1; omega
  have hgb : g ≠ hb := by
    rintro rfl
    rcases hg with h1 | h1
    · exact h.two h1
    · omega
  have hC2 := hC.storeOther hb 1 (.slice (some ⟨g, 0, none⟩) (came.length + 1) cap) hgb
  refine ⟨g, cap, by simp, by simp [World.cell?, hbox], by simp [World.frozen?, hbox], ⟨?_, .inr ⟨g, cap, by simp, hC2⟩, by simp [Value.ownBlock, hgb]⟩, hC2, hT2.set (.inl rfl) _ _, hg⟩
  rw [heap_setCell_same _ _ _ _ _ _ hbox]
  simp

theorem Hp.count (h : Hp w hb fv v turns came) : Hp (w.setCell ⟨hb, 2, none⟩ (.int .i64 ((turns : Int) + 1))) hb fv v (turns + 1) came := by
  refine ⟨?_, ?_, h.two⟩
  · rw [heap_setCell_same _ _ _ _ _ _ h.box]; simp
  · rcases h.row with h1 | ⟨g, cap, hv, hC⟩
    · exact .inl h1
    · refine .inr ⟨g, cap, hv, hC.storeOther hb 2 _ ?_⟩
      have := h.two
      rw [hv] at this
      simpa [Value.ownBlock] using this

set_option maxRecDepth 100000 in
set_option maxHeartbeats 4000000 in
theorem push_any (hf : Fv fv cf) (h : Hp w hb fv v turns came) (hh : IsHeap (ahd cf) came) (x : Int) (hsz : (came.length + 1) * 16 ≤ 140737488355328) (htn : turns ≤ 140737488355328) :
    Calls Try.prog 31 #[.pointer (some ⟨hb, 0, none⟩), .int .i64 x] w fun e w' => e = .returned (.tuple #[]) ∧ ∃ v' came', came'.Perm (came ++ [(x, turns)]) ∧ IsHeap (ahd cf) came' ∧ Hp w' hb fv v' (turns + 1) came' ∧ Turn (foot hb v) w w' ∧ (∀ k, foot hb v' k → foot hb v k ∨ w.heap.size ≤ k) := by
  obtain ⟨i0, hi, hz0, hz1, hz2⟩ := info_parts infoEnt
  obtain ⟨va, vc, rfl⟩ := h.row.form
  have h63 : came.length + 1 ≤ maxLen := by unfold maxLen; omega
  have HF : Hid (IsHeap (ahd cf) came ∧ Fv fv cf) := ⟨hh, hf⟩
  have HW0 : Hid (Stay w w ∧ Hp w hb fv (.slice va came.length vc) turns came) := ⟨Stay.refl _, h⟩
  have k1 := h.c1
  have k2 := h.c2
  have hbl := h.lt hb (.inl rfl)
  clear h hh hf
  go_enter Try.func31, Try.ntmps31
  go_wp2_with fail
  go_region_law (refine step_append_own rfl (.tmp 10) (.tmp 17) 78 rfl 0 82 i0 _ 2 16 Try.underlying78 hi hz0 hz1 hz2 rfl (by decide) (.slice va came.length vc) came.length (flat came) (by simp [Act.eval]) (by first | exact ((HW0.out.2.row.turn (S := fun _ => False) (Turn.of_stay ((Stay.new _ _).trans (Stay.drew _))) (fun _ _ => id)).owns) | exact ((HW0.out.2.row.turn (S := fun _ => False) (Turn.of_stay ((Stay.drew _).alloc _)) (fun _ _ => id)).owns)) ⟨w.heap.size, 0, none⟩ 1 1 [.int .i64 x, .int .i64 (turns : Int)] (by simp [Act.eval]) rfl (by exact new_cells w [.int .i64 x, .int .i64 (turns : Int)] 82) (by simp [Value.oneCell']) h63 hsz (Nat.zero_le _) ?_; intro v' w2 hown2 hgrow hnil hloc; obtain ⟨g, cap, rfl, d1, f1, hH3, hC3, hT3, hg3⟩ := app_hp HW0.out.2 (x, turns) (by first | exact (Stay.new _ _).trans (Stay.drew _) | exact (Stay.drew _).alloc _) hown2 hgrow hnil hloc; have H3 : Hid _ := And.intro hH3 (And.intro hC3 (And.intro hT3 hg3)); clear hown2 hgrow hnil hloc hH3 hC3 hT3 hg3)
  all_goals
    have k3 := H3.out.1.c1
    have k4 := H3.out.1.c2
    have k5 := H3.out.1.free 2
    have hgb : g ≠ hb := by have := H3.out.1.two; simpa [Value.ownBlock] using this
    have HR : Hid (Hp ((w2.setCell ⟨hb, 1, none⟩ (.slice (some ⟨g, 0, none⟩) (came.length + 1) cap)).setCell ⟨hb, 2, none⟩ (.int .i64 ((turns : Int) + 1))) hb fv (.slice (some ⟨g, 0, none⟩) (came.length + 1) cap) (turns + 1) (came ++ [(x, turns)]) ∧ Came ((w2.setCell ⟨hb, 1, none⟩ (.slice (some ⟨g, 0, none⟩) (came.length + 1) cap)).setCell ⟨hb, 2, none⟩ (.int .i64 ((turns : Int) + 1))) g cap (came ++ [(x, turns)]) ∧ Turn (foot hb (.slice va came.length vc)) w ((w2.setCell ⟨hb, 1, none⟩ (.slice (some ⟨g, 0, none⟩) (came.length + 1) cap)).setCell ⟨hb, 2, none⟩ (.int .i64 ((turns : Int) + 1)))) :=
      ⟨H3.out.1.count, H3.out.2.1.storeOther hb 2 _ hgb, H3.out.2.2.1.set (.inl rfl) _ _⟩
    generalize w2.setCell ⟨hb, 1, none⟩ (.slice (some ⟨g, 0, none⟩) (came.length + 1) cap) = W3 at H3 HR k3 k4 k5 ⊢
    have hr := rise_any HF.out.2 (by rw [List.length_append, List.length_singleton]; exact HR.out.1) HR.out.2.1 came.length (by simp) (up_start HF.out.1)
    rw [List.length_append, List.length_singleton] at hr
    go_wp2_with fail
    refine hr.mono ?_
    rintro e9 w5 ⟨rfl, came', hp, hh, hH, hC, hT⟩
    have H5 : Hid _ := And.intro hp (And.intro hh (And.intro hH hT))
    clear hp hh hH hC hT hr
    go_wp2
    go_end0
    refine ⟨rfl, _, came', H5.out.1, H5.out.2.1, H5.out.2.2.1, ?_, ?_⟩
    · refine Turn.then (Turn.of_stay HW0.out.1) (HR.out.2.2.then H5.out.2.2.2 ?_) ?_
      · intro k hk e
        subst e
        rcases H3.out.2.2.2 with h1 | h1
        · exact .inr h1
        · omega
      · intro k _ hk
        exact hk
    · rintro k (rfl | hk)
      · exact .inl (.inl rfl)
      · simp only [Value.ownBlock, Option.some.injEq] at hk
        subst hk
        rcases H3.out.2.2.2 with h1 | h1
        · exact .inl (.inr h1)
        · exact .inr (Nat.le_trans HW0.out.1.size h1)
end
end Go.Proofs.Ytnmaldgmlkcliaa.HI
namespace Go.Proofs.Ytnmaldgmlkcliaa.HI
open Go.RowKit Go.Maps Go.Shelf Go.Sort Go.Proofs.Ytnmaldgmlkcliaa

section
variable {w : World} {hb g cap turns : Nat} {came : List E} {fv v : Value} {cf : (Int) → (Int) → Int}

theorem pop_none (h : Hp w hb fv v turns []) : Calls Try.prog 32 #[.pointer (some ⟨hb, 0, none⟩)] w fun e w' => e = .returned (.tuple #[.int .i64 0, .bool false]) ∧ Stay w w' := by
  have hl := fun (W : World) (hW : Stay w W) => peek_none (h.stay hW)
  go_enter Try.func32, Try.ntmps32
  go_wp2_with fail
  refine (hl _ (Stay.refl _)).mono ?_
  rintro e w9 ⟨rfl, hw⟩
  have HW : Hid (Stay w w9) := hw
  clear hw
  go_wp2
  go_ret2
  exact ⟨rfl, HW.out⟩

/-- The first goes out, the last comes in its place. -/
theorem pop_perm {α : Type} {l : List α} {a b : α} {n : Nat} (hn : l.length = n + 1) (ha : l[0]? = some a) (hb : l[n]? = some b) : (a :: (l.set 0 b).take n).Perm l := by
  cases l with
  | nil => simp at hn
  | cons x t =>
    simp at ha hn
    subst ha
    cases n with
    | zero =>
      have : t = [] := List.eq_nil_of_length_eq_zero hn
      subst this
      simp
    | succ n =>
      simp only [List.set_cons_zero, List.take_succ_cons]
      have e : t = t.take n ++ [b] := by
        conv => lhs; rw [← List.take_append_drop n t]
        congr 1
        have h1 : n < t.length := by omega
        rw [List.drop_eq_getElem_cons h1, List.drop_of_length_le (by omega)]
        simp at hb
        rw [List.getElem?_eq_getElem h1] at hb
        simpa using hb
      conv => rhs; rw [e]
      exact List.Perm.cons _ ((List.perm_append_comm (l₁ := [b]) (l₂ := t.take n)))
theorem Hp.len {n c : Nat} {a : Option Addr} (h : Hp w hb fv (.slice a n c) turns came) : n = came.length := by
  rcases h.row with ⟨h1, h2⟩ | ⟨g', c', h1, _⟩
  · simp at h1; simp [h1, h2]
  · simp at h1; exact h1.2.1

theorem cut_hp {c2 : List E} {n : Nat} {z : E} (h : Hp w hb fv (.slice (some ⟨g, 0, none⟩) (n + 1) cap) turns c2) (hC : Came w g cap c2) (hn : c2.length = n + 1) (hz : c2[n]? = some z) :
    Hp ((stored w g n (0, 0)).setCell ⟨hb, 1, none⟩ (.slice (some ⟨g, 0, none⟩) n cap)) hb fv (.slice (some ⟨g, 0, none⟩) n cap) turns (c2.take n) ∧ Came ((stored w g n (0, 0)).setCell ⟨hb, 1, none⟩ (.slice (some ⟨g, 0, none⟩) n cap)) g cap (c2.take n) ∧
      Turn (foot hb (.slice (some ⟨g, 0, none⟩) (n + 1) cap)) w ((stored w g n (0, 0)).setCell ⟨hb, 1, none⟩ (.slice (some ⟨g, 0, none⟩) n cap)) := by
  have hgb : g ≠ hb := by have := h.two; simpa [Value.ownBlock] using this
  have hC1 := hC.store n z (0, 0) hz
  have hH1 := Hp.store h (by simp [hn]) n (0, 0) hC1
  have hC2 := hC1.cut n (by simp [hn])
  rw [List.take_set_of_le (Nat.le_refl _)] at hC2
  have hC3 := hC2.storeOther hb 1 (.slice (some ⟨g, 0, none⟩) n cap) hgb
  have hl : (c2.take n).length = n := by simp [hn]
  refine ⟨⟨?_, .inr ⟨g, cap, by rw [hl], hC3⟩, by simp [Value.ownBlock, hgb]⟩, hC3, (stored_turn (Turn.refl _ _) (.inr rfl) _ _).set (.inl rfl) _ _⟩
  rw [heap_setCell_same _ _ _ _ _ _ hH1.box]
  simp

set_option maxRecDepth 100000 in
set_option maxHeartbeats 4000000 in
theorem pop_some (hf : Fv fv cf) (h : Hp w hb fv v turns came) (hh : IsHeap (ahd cf) came) (e : E) (he : came[0]? = some e) (hsz : came.length ≤ 1152921504606846976) :
    Calls Try.prog 32 #[.pointer (some ⟨hb, 0, none⟩)] w fun e' w' => e' = .returned (.tuple #[.int .i64 e.1, .bool true]) ∧ ∃ v' came', (e :: came').Perm came ∧ IsHeap (ahd cf) came' ∧ Hp w' hb fv v' turns came' ∧ Turn (foot hb v) w w' ∧ (∀ k, foot hb v' k → foot hb v k) := by
  have hpk := fun (W : World) (hW : Stay w W) => peek_some (h.stay hW) e he
  obtain ⟨g, cap, hv, hC⟩ := h.row.at he
  obtain ⟨n, hn⟩ : ∃ n, came.length = n + 1 := ⟨came.length - 1, by have := (List.getElem?_eq_some_iff.1 he).1; omega⟩
  obtain ⟨b, hb'⟩ : ∃ b, came[n]? = some b := ⟨_, List.getElem?_eq_getElem (by omega)⟩
  rw [hn] at hv
  subst hv
  have hgb : g ≠ hb := by have := h.two; simpa [Value.ownBlock] using this
  have hbl := h.lt hb (.inl rfl)
  have hgl := hC.lt
  have lc := hC.len
  rw [hn] at lc hsz
  unfold maxLen at lc
  have ln : (n : Int) < (n : Int) + 1 := by omega
  have lz : (0 : Int) < (n : Int) + 1 := by omega
  have ncap : (n : Int) ≤ (cap : Int) := by omega
  have HH : Hid (Hp w hb fv (.slice (some ⟨g, 0, none⟩) (n + 1) cap) turns came ∧ Came w g cap came ∧ IsHeap (ahd cf) came ∧ Fv fv cf ∧ came[0]? = some e ∧ came[n]? = some b ∧ came.length = n + 1) := ⟨h, hC, hh, hf, he, hb', hn⟩
  clear h hC hh hf he hb' hn
  go_enter Try.func32, Try.ntmps32
  go_wp2_with fail
  refine (hpk _ (Stay.refl _)).mono ?_
  rintro e9 w1 ⟨rfl, hst⟩
  have HS : Hid (Stay w w1) := hst
  have HH1 : Hid (Hp w1 hb fv (.slice (some ⟨g, 0, none⟩) (n + 1) cap) turns came ∧ Came w1 g cap came) := ⟨HH.out.1.stay hst, HH.out.2.1.stay hst⟩
  clear hpk hst
  have k1 := HH1.out.1.c1
  have fz := HH1.out.2.free
  have fb := HH1.out.1.free 1
  obtain ⟨b1, b3⟩ := b
  have d0 : w1.cell? ⟨g, n * 2, none⟩ = some (.int .i64 b1) := HH1.out.2.cell n _ HH.out.2.2.2.2.2.1 0 (by decide)
  have d1 : w1.cell? ⟨g, n * 2 + 1, none⟩ = some (.int .i64 (b3 : Int)) := HH1.out.2.cell n _ HH.out.2.2.2.2.2.1 1 (by decide)
  obtain ⟨e1, e3⟩ := e
  have c0 : w1.cell? ⟨g, 0, none⟩ = some (.int .i64 e1) := HH1.out.2.cell 0 _ HH.out.2.2.2.2.1 0 (by decide)
  have c1 : w1.cell? ⟨g, 1, none⟩ = some (.int .i64 (e3 : Int)) := HH1.out.2.cell 0 _ HH.out.2.2.2.2.1 1 (by decide)
  go_wp2_with fail
  go_region
  obtain ⟨X2, hX2⟩ : ∃ X, X = (stored w1 g 0 (b1, b3)).drew := ⟨_, rfl⟩
  change Exit.then _ _ Exit.normal _ (stored w1 g 0 (b1, b3)).drew
  rw [← hX2]
  have hC2 : Came X2 g cap (came.set 0 (b1, b3)) := by rw [hX2]; exact (HH1.out.2.store 0 _ (b1, b3) HH.out.2.2.2.2.1).stay (Stay.drew _)
  have hH2 : Hp X2 hb fv (.slice (some ⟨g, 0, none⟩) (n + 1) cap) turns (came.set 0 (b1, b3)) := by rw [hX2] at hC2 ⊢; exact (Hp.store HH1.out.1 (by simp [HH.out.2.2.2.2.2.2]) 0 _ (HH1.out.2.store 0 _ (b1, b3) HH.out.2.2.2.2.1)).stay (Stay.drew _)
  have hT2 : Turn (foot hb (.slice (some ⟨g, 0, none⟩) (n + 1) cap)) w X2 := by rw [hX2]; exact (stored_turn (Turn.of_stay HS.out) (.inr rfl) 0 _).trans (Turn.of_stay (Stay.drew _))
  have hnn : (came.set 0 (b1, b3))[n]? = some (b1, b3) := by
    rw [List.getElem?_set]
    split
    · rename_i h0; rw [if_pos (by have := HH.out.2.2.2.2.2.2; omega)]
    · exact HH.out.2.2.2.2.2.1
  clear hX2 k1 fz fb d0 d1 c0 c1
  have k1 := hH2.c1
  have fz := hC2.free
  have fb := hH2.free 1
  have d0 : X2.cell? ⟨g, n * 2, none⟩ = some (.int .i64 b1) := hC2.cell n _ hnn 0 (by decide)
  have d1 : X2.cell? ⟨g, n * 2 + 1, none⟩ = some (.int .i64 (b3 : Int)) := hC2.cell n _ hnn 1 (by decide)
  have HX : Hid _ := And.intro hC2 (And.intro hH2 (And.intro hT2 hnn))
  clear hC2 hH2 hT2 hnn
  have hl2 : (came.set 0 (b1, b3)).length = n + 1 := by simp [HH.out.2.2.2.2.2.2]
  obtain ⟨q1, q2, q3⟩ := cut_hp HX.out.2.1 HX.out.1 hl2 HX.out.2.2.2
  have htl : ((came.set 0 (b1, b3)).take n).length = n := by simp [HH.out.2.2.2.2.2.2]
  have hdn : Down (ahd cf) ((came.set 0 (b1, b3)).take n) 0 := down_start HH.out.2.2.1 (fun k hk hkl => by
    rw [htl] at hkl
    rw [List.getElem?_take_of_lt hkl, List.getElem?_set_ne (by omega)])
  have hsk := sink_any HH.out.2.2.2.1 (by rw [htl]; exact q1) q2 hdn (by rw [htl]; omega)
  rw [htl] at hsk
  have HQ : Hid _ := And.intro q1 (And.intro q2 q3)
  have HP : Hid ((((e1, e3) : E) :: (came.set 0 (b1, b3)).take n).Perm came) := pop_perm HH.out.2.2.2.2.2.2 HH.out.2.2.2.2.1 HH.out.2.2.2.2.2.1
  clear q1 q2 q3 hdn hl2 htl
  go_wp2_with fail
  refine hsk.mono ?_
  rintro e9 w5 ⟨rfl, came', hp, hhp, hH, hC, hT⟩
  have H5 : Hid _ := And.intro hp (And.intro hhp (And.intro hH hT))
  clear hp hhp hH hC hT hsk
  go_wp2
  go_ret2
  refine ⟨rfl, _, came', (List.Perm.cons _ H5.out.1).trans HP.out, H5.out.2.1, H5.out.2.2.1, ?_, ?_⟩
  · exact (HX.out.2.2.1.trans HQ.out.2.2).then H5.out.2.2.2 (fun k _ e => .inr (by rw [e]; rfl))
  · rintro k (rfl | hk)
    · exact .inl rfl
    · exact .inr hk
end
end Go.Proofs.Ytnmaldgmlkcliaa.HI
namespace Go.Proofs.Ytnmaldgmlkcliaa.HI
open Go.RowKit Go.Maps Go.Shelf Go.Sort Go.Proofs.Ytnmaldgmlkcliaa

theorem new_any (g : Nat) (w : World) : Calls Try.prog 30 #[.func (.func g) #[] #[]] w fun e w' => e = .returned (.pointer (some ⟨w.heap.size, 0, none⟩)) ∧ w' = w.alloc (.cells #[.func (.func g) #[] #[], .slice none 0 0, .int .i64 0] 80) := by
  go_enter Try.func30, Try.ntmps30
  go_wp2
  go_ret
  exact ⟨rfl, rfl⟩
theorem new_hp (fv : Value) (w : World) : Hp (w.alloc (.cells #[fv, .slice none 0 0, .int .i64 0] 80)) w.heap.size fv (.slice none 0 0) 0 [] :=
  ⟨heap_alloc_new _ _, .inl ⟨rfl, rfl⟩, by simp [Value.ownBlock]⟩

/-- Behind B a heap lies, in memory that B did not have. -/
structure Held (cf : (Int) → (Int) → Int) (B w : World) (hb : Nat) (fv v : Value) (turns : Nat) (came : List E) : Prop where
  stay : Stay B w
  hp : Hp w hb fv v turns came
  heap : IsHeap (ahd cf) came
  far : ∀ k, foot hb v k → B.heap.size ≤ k

section
variable {B w : World} {hb turns : Nat} {fv v : Value} {came : List E} {cf : (Int) → (Int) → Int}
theorem Held.go {w' : World} (h : Held cf B w hb fv v turns came) (hs : Stay w w') : Held cf B w' hb fv v turns came := ⟨h.stay.trans hs, h.hp.stay hs, h.heap, h.far⟩
theorem held_new (fv : Value) (w : World) : Held cf w (w.alloc (.cells #[fv, .slice none 0 0, .int .i64 0] 80)) w.heap.size fv (.slice none 0 0) 0 [] :=
  ⟨Stay.new _ _, new_hp fv w, fun k x y _ hx => by simp at hx, fun k hk => by rcases hk with rfl | hk; exact Nat.le_refl _; simp [Value.ownBlock] at hk⟩
theorem Held.push (hf : Fv fv cf) (h : Held cf B w hb fv v turns came) (x : Int) (hsz : (came.length + 1) * 16 ≤ 140737488355328) (htn : turns ≤ 140737488355328) :
    Calls Try.prog 31 #[.pointer (some ⟨hb, 0, none⟩), .int .i64 x] w fun e w' => e = .returned (.tuple #[]) ∧ ∃ v' came', came'.Perm (came ++ [(x, turns)]) ∧ Held cf B w' hb fv v' (turns + 1) came' :=
  (push_any hf h.hp h.heap x hsz htn).mono fun _ _ ⟨he, v', came', hp, hh, hH, hT, hF⟩ => ⟨he, v', came', hp, hT.stay h.stay (fun k hk hf => by have := h.far k hf; omega), hH, hh, fun k hk => by
    rcases hF k hk with h1 | h1
    · exact h.far k h1
    · exact Nat.le_trans h.stay.size h1⟩
theorem Held.pop (hf : Fv fv cf) (h : Held cf B w hb fv v turns came) (e : E) (he : came[0]? = some e) (hsz : came.length ≤ 1152921504606846976) :
    Calls Try.prog 32 #[.pointer (some ⟨hb, 0, none⟩)] w fun e' w' => e' = .returned (.tuple #[.int .i64 e.1, .bool true]) ∧ ∃ v' came', (e :: came').Perm came ∧ Held cf B w' hb fv v' turns came' :=
  (pop_some hf h.hp h.heap e he hsz).mono fun _ _ ⟨he, v', came', hp, hh, hH, hT, hF⟩ => ⟨he, v', came', hp, hT.stay h.stay (fun k hk hf => by have := h.far k hf; omega), hH, hh, fun k hk => h.far k (hF k hk)⟩
end
end Go.Proofs.Ytnmaldgmlkcliaa.HI
