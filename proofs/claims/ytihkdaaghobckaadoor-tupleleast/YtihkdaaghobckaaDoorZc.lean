/- TupleLeast: what its walk needs. -/
import Derived.Test.YtihkdaaghobckaaDoorZb
import Derived.Test.YtihkdaaghobckaaDoorT
namespace Go.Proofs.YtihkdaaghobckaaDoor
open Go.RowKit Go.Maps

def lstM : List (List Int) → List Int
  | [] => []
  | x :: r => leastL x r
def lstB : List (List Int) → Bool
  | [] => false
  | _ :: _ => true

theorem leastL_len {b : Nat} : ∀ (r : List (List Int)) (x : List Int), x.length * 8 ≤ b → (∀ l ∈ r, l.length * 8 ≤ b) → (leastL x r).length * 8 ≤ b
  | [], x, h, _ => h
  | y :: r, x, h, hr => by
    unfold leastL
    refine leastL_len r _ ?_ (fun l hl => hr l (List.mem_cons_of_mem _ hl))
    split
    · exact hr y (List.mem_cons_self ..)
    · exact h
theorem lstM_len {b : Nat} (ls : List (List Int)) (h : ∀ l ∈ ls, l.length * 8 ≤ b) : (lstM ls).length * 8 ≤ b := by
  cases ls with
  | nil => simp [lstM]
  | cons x r => exact leastL_len r x (h x (List.mem_cons_self ..)) (fun l hl => h l (List.mem_cons_of_mem _ hl))

theorem least_all (w : World) (a : Option Addr) (b o c : Nat) (ts : List Tup) (hx : TupsS w a b o ts) (hc : ts.length ≤ c) (hc2 : c ≤ maxLen) :
    Calls Tryd.prog 25 #[.slice a ts.length c] w fun e w' => ∃ v, e = .returned (.tuple #[v, .bool (lstB (ts.map Tup.xs))]) ∧ OwnI w.heap.size w' v (lstM (ts.map Tup.xs)) ∧ Stay w w' := by
  cases ts with
  | nil =>
    refine (least_none w a c).mono ?_
    rintro e w' ⟨rfl, rfl⟩
    exact ⟨_, rfl, World.ownsRow_nil _ _ _ _, Stay.refl _⟩
  | cons T r =>
    simp only [List.length_cons] at hc
    exact least_any w a b o c T r hx (by omega) hc hc2

theorem rleast_all (w : World) (a : Option Addr) (b o c : Nat) (ts : List Tup) (hx : TupsS w a b o ts) (hf : ∀ t ∈ ts, t.fair) (hz : ∀ t ∈ ts, t.xs.length * 8 ≤ 140737488351232) (hl : ts.length ≤ maxLen) :
    Calls Tryd.prog 26 #[.slice a ts.length c] w fun e w' => ∃ v, e = .returned (.tuple #[v, .bool (lstB (ts.map Tup.xs))]) ∧ OwnI w.heap.size w' v (lstM (ts.map Tup.xs)) ∧ Stay w w' := by
  cases ts with
  | nil =>
    refine (rleast_none w a c).mono ?_
    rintro e w' ⟨rfl, rfl⟩
    exact ⟨_, rfl, World.ownsRow_nil _ _ _ _, Stay.refl _⟩
  | cons T r =>
    simp only [List.length_cons] at hl
    exact rleast_any w a b o c T r hx hf hz (by omega)

/-- Two lists, each made behind the one before, and a book behind them. -/
theorem fit2 {W : World} {A B : Ans} {n1 n2 : Nat} {bb bn : Nat} (h1 : IsAns n1 W A) (h2 : IsAns n2 W B) (hA : A.a ≠ none → A.g < n2) (hB : B.a ≠ none → B.g < bb) (h2b : n2 ≤ bb) (hbn : bb < bn)
    (hl : (A.len + 20) * 8 ≤ 140737488355328 ∧ (B.len + 20) * 8 ≤ 140737488355328) : Fit W [A, B] bb bn := by
  refine ⟨?_, ?_, ?_, ?_, ?_⟩
  · intro X hX; simp at hX; rcases hX with rfl | rfl
    · exact h1.1
    · exact h2.1
  · intro X hX; simp at hX; rcases hX with rfl | rfl
    · exact fun hn => ⟨(h1.2 hn).1, (h1.2 hn).2.1, (h1.2 hn).2.2.1, (h1.2 hn).2.2.2.2.1⟩
    · exact fun hn => ⟨(h2.2 hn).1, (h2.2 hn).2.1, (h2.2 hn).2.2.1, (h2.2 hn).2.2.2.2.1⟩
  · intro X hX; simp at hX; rcases hX with rfl | rfl
    · exact hl.1
    · exact hl.2
  · intro i j hi hj hij hni hnj
    have e1 : A.a ≠ none → n1 ≤ A.g := fun h => (h1.2 h).2.2.2.1
    have e2 : B.a ≠ none → n2 ≤ B.g := fun h => (h2.2 h).2.2.2.1
    simp only [List.length_cons, List.length_nil] at hi hj
    match i, j, hi, hj with
    | 0, 0, _, _ => exact absurd rfl hij
    | 0, 1, _, _ => have a1 := hA hni; have a2 := e2 hnj; show A.g ≠ B.g; omega
    | 1, 0, _, _ => have a1 := hA hnj; have a2 := e2 hni; show B.g ≠ A.g; omega
    | 1, 1, _, _ => exact absurd rfl hij
  · intro X hX; simp at hX; rcases hX with rfl | rfl
    · intro hn; have := hA hn; constructor <;> omega
    · intro hn; have := hB hn; constructor <;> omega

def Two (w W : World) (A B : Ans) (n1 n2 : Nat) (xs ys : List Int) : Prop :=
  (A.len = xs.length ∧ IsAns n1 W A ∧ IntsS W A.a A.g 0 xs) ∧ (B.len = ys.length ∧ IsAns n2 W B ∧ IntsS W B.a B.g 0 ys) ∧ (A.a ≠ none → A.g < n2) ∧ w.heap.size ≤ n1 ∧ n1 ≤ n2 ∧ n2 ≤ W.heap.size ∧ Stay w W
theorem Two.stay {w W W' : World} {A B : Ans} {n1 n2 : Nat} {xs ys : List Int} (h : Two w W A B n1 n2 xs ys) (hs : Stay W W') : Two w W' A B n1 n2 xs ys :=
  ⟨⟨h.1.1, h.1.2.1.stay hs, h.1.2.2.stay hs⟩, ⟨h.2.1.1, h.2.1.2.1.stay hs, h.2.1.2.2.stay hs⟩, h.2.2.1, h.2.2.2.1, h.2.2.2.2.1, Nat.le_trans h.2.2.2.2.2.1 hs.size, h.2.2.2.2.2.2.trans hs⟩

/-- Two lists into a new book, and then Apart. -/
theorem two_book {w W : World} {A B : Ans} {n1 n2 : Nat} {xs ys : List Int} (h : Two w W A B n1 n2 xs ys) (hl : (xs.length + 20) * 8 ≤ 140737488355328 ∧ (ys.length + 20) * 8 ≤ 140737488355328) :
    Calls Tryd.prog 15 #[.pointer (some ⟨W.heap.size, 0, none⟩), .slice (some ⟨W.heap.size + 1, 0, none⟩) 2 2] ((W.alloc (.cells #[.slice none 0 0, .slice none 0 0, .slice none 0 0] 39)).alloc (.cells #[.slice A.a xs.length A.cap, .slice B.a ys.length B.cap] 22)) fun e w' => e = .returned (.tuple #[]) ∧
      Calls Tryd.prog 16 #[.pointer (some ⟨W.heap.size, 0, none⟩)] w' fun e w'' => e = .returned (.bool true) ∧ Stay w w'' := by
  obtain ⟨⟨l1, i1, _⟩, ⟨l2, i2, _⟩, hA, e1, e2, e4, hst⟩ := h
  refine (bookInts_any _ W.heap.size (W.heap.size + 1) 2 2 [A, B] (heap_alloc2_old _ _ _) rfl (by decide) (fun i h => ?_) (by simp)).mono ?_
  · have h4 := new_cells (W.alloc (.cells #[.slice none 0 0, .slice none 0 0, .slice none 0 0] 39)) [.slice A.a xs.length A.cap, .slice B.a ys.length B.cap] 22 i
    rw [add_at, World.size_alloc, Nat.zero_add] at h4
    simp only [List.length_cons, List.length_nil] at h
    match i, h with
    | 0, _ => exact h4 _ (by show _ = some (Value.slice A.a A.len A.cap); rw [l1]; rfl)
    | 1, _ => exact h4 _ (by show _ = some (Value.slice B.a B.len B.cap); rw [l2]; rfl)
  · rintro e w15 ⟨rfl, bn, cN, hBk, hbn, hbn2, ht⟩
    refine ⟨rfl, ?_⟩
    have hsz15 : W.heap.size + 2 ≤ bn := by simp only [World.size_alloc] at hbn; omega
    have hst14 : Stay W ((W.alloc (.cells #[.slice none 0 0, .slice none 0 0, .slice none 0 0] 39)).alloc (.cells #[.slice A.a xs.length A.cap, .slice B.a ys.length B.cap] 22)) := (Stay.new _ _).alloc _
    have j1 := (i1.stay hst14).turn ht (fun h e => by have := (i1.2 h).2.2.2.2.1; omega)
    have j2 := (i2.stay hst14).turn ht (fun h e => by have := (i2.2 h).2.2.2.2.1; omega)
    have hst15 : Stay w w15 := ht.stay (hst.trans hst14) (fun k hk e => by have := hst.size; omega)
    have hfit := fit2 (bb := W.heap.size) (bn := bn) j1 j2 hA (fun h => (i2.2 h).2.2.2.2.1) e4 (by omega) (by rw [l1, l2]; exact hl)
    have hroom : ∀ X ∈ [A, B], X.a ≠ none → Room w15 X.g X.cap := by
      intro X hX; simp at hX; rcases hX with rfl | rfl
      · exact fun hn => (j1.2 hn).2.2.2.2.2
      · exact fun hn => (j2.2 hn).2.2.2.2.2
    refine (apart_any w15 W.heap.size bn cN [A, B] hBk hfit hroom (by simp)).mono (fun e w' h => ⟨h.1, h.2.stay hst15 ?_⟩)
    rintro k hk ⟨X, hX, hn, rfl⟩
    simp at hX
    rcases hX with rfl | rfl
    · have := (j1.2 hn).2.2.2.1; omega
    · have := (j2.2 hn).2.2.2.1; omega

/-- The tuple that lend answered. -/
def lentTup (g c : Nat) (xs : List Int) : Tup := ⟨some ⟨g, 0, none⟩, g, 0, c, xs⟩

/-- us are the loans of the first ones of ts. -/
def Loans (base : Nat) (W : World) (us ts : List Tup) : Prop := ∀ (j : Nat) (u : Tup), us[j]? = some u → ∃ (t : Tup) (g c : Nat), ts[j]? = some t ∧ u = lentTup g c t.xs ∧ Lent base W g c t.xs
theorem Loans.stay {base : Nat} {W W' : World} {us ts : List Tup} (h : Loans base W us ts) (hs : Stay W W') : Loans base W' us ts := fun j u hu => by
  obtain ⟨t, g, c, h1, h2, h3⟩ := h j u hu
  exact ⟨t, g, c, h1, h2, h3.stay hs⟩
theorem Loans.turn {base : Nat} {W W' : World} {us ts : List Tup} {v : Value} {n : Nat} {X : List Value} (h : Loans base W us ts) (hv : W.ownsRow base 22 1 v n X) (ht : Turn (fun x => v.ownBlock = some x) W W') : Loans base W' us ts := fun j u hu => by
  obtain ⟨t, g, c, h1, h2, h3⟩ := h j u hu
  refine ⟨t, g, c, h1, h2, own_turn (S := fun x => v.ownBlock = some x) h3 ht (fun k e1 e2 => ?_)⟩
  obtain ⟨c1, q1⟩ := own_type h3 e1
  obtain ⟨c2, q2⟩ := own_type hv e2
  rw [q1] at q2
  simp at q2
theorem Loans.add {base : Nat} {W : World} {us ts : List Tup} {t : Tup} {g c : Nat} (h : Loans base W us ts) (ht : ts[us.length]? = some t) (hl : Lent base W g c t.xs) : Loans base W (us ++ [lentTup g c t.xs]) ts := fun j u hu => by
  by_cases hj : j < us.length
  · rw [List.getElem?_append_left hj] at hu
    exact h j u hu
  · rw [List.getElem?_append_right (by omega)] at hu
    obtain ⟨h1, rfl⟩ := List.getElem?_eq_some_iff.1 hu
    simp at h1
    obtain rfl : j = us.length := by omega
    exact ⟨t, g, c, ht, by simp, hl⟩
theorem Loans.same {base : Nat} {W : World} {us ts : List Tup} (h : Loans base W us ts) (hl : us.length = ts.length) : us.map Tup.xs = ts.map Tup.xs := by
  refine List.ext_getElem? fun j => ?_
  rw [List.getElem?_map, List.getElem?_map]
  by_cases hj : j < us.length
  · obtain ⟨t, g, c, h1, h2, _⟩ := h j us[j] (List.getElem?_eq_getElem hj)
    rw [h1, List.getElem?_eq_getElem hj, h2]
    rfl
  · rw [List.getElem?_eq_none (by omega), List.getElem?_eq_none (by omega)]

/-- All is lent, and one more is behind it. -/
def Mid (w W : World) (bx : Nat) (us ts : List Tup) : Prop :=
  Stay w W ∧ Loans w.heap.size W us ts ∧ us.length = ts.length ∧ (∀ (j : Nat) (u : Tup), us[j]? = some u → W.cell? ⟨bx, j, none⟩ = some u.v) ∧ ∃ z, W.cell? ⟨bx, ts.length, none⟩ = some (.slice (some ⟨z, 0, none⟩) 1 1) ∧ W.cell? ⟨z, 0, none⟩ = some (.int .i64 (-9))
theorem Mid.stay {w W W' : World} {bx : Nat} {us ts : List Tup} (h : Mid w W bx us ts) (hs : Stay W W') : Mid w W' bx us ts := by
  obtain ⟨h1, h2, h3, h4, z, h5, h6⟩ := h
  exact ⟨h1.trans hs, h2.stay hs, h3, fun j u hu => hs.cell (h4 j u hu), z, hs.cell h5, hs.cell h6⟩
theorem Mid.tups {w W : World} {bx : Nat} {us ts : List Tup} (h : Mid w W bx us ts) (hz : ∀ t ∈ ts, t.xs.length * 8 ≤ 140737488351232) : TupsS W (some ⟨bx, 0, none⟩) bx 0 us := by
  refine ⟨fun _ => rfl, fun j hj => ?_⟩
  have e := List.getElem?_eq_getElem hj
  rw [Nat.zero_add]
  refine ⟨h.2.2.2.1 j _ e, ?_⟩
  obtain ⟨t, g, c, h1, h2, h3⟩ := h.2.1 j _ e
  rw [h2]
  exact ⟨h3.ints, by have := hz t (List.mem_of_getElem? h1); show 8 * t.xs.length ≤ _; omega⟩
end Go.Proofs.YtihkdaaghobckaaDoor
