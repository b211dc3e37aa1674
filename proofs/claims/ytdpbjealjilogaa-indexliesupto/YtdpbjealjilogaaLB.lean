/- What IndexLies asks, plainly: which places are taken, and how many are looked at. -/
import Derived.Test.YtdpbjealjilogaaJD
import Derived.Test.YtdpbjealjilogaaJE
namespace Go.Proofs.Ytdpbjealjilogaa.I
open Go.RowKit Go.Maps Go.Shelf Go.Proofs.Ytdpbjealjilogaa

/-- From a home on, d places that are all taken: there are at least so many. -/
theorem path_few {N home : Nat} (hh : home < N) : ∀ (d : Nat) (l : List Nat), l.length = N → d ≤ N → (∀ q, q < N → dist N home q < d → ∃ t, l[q]? = some (t + 1)) → zeros l + d ≤ N
  | 0, l, hl, _, _ => by have := zeros_le l; omega
  | d + 1, l, hl, hd, hp => by
    obtain ⟨q, hq, hqd⟩ : ∃ q, q < N ∧ dist N home q = d := by
      by_cases h : home + d < N
      · exact ⟨home + d, h, by unfold dist; rw [if_pos (by omega)]; omega⟩
      · exact ⟨home + d - N, by omega, by unfold dist; rw [if_neg (by omega)]; omega⟩
    obtain ⟨t, ht⟩ := hp q hq (by omega)
    have hz := zeros_set_zero ht (by omega)
    have := path_few hh d (l.set q 0) (by simpa using hl) (by omega) (fun q' hq' hd' => by
      rw [getElem?_set_eq (by omega), if_neg (fun e => by subst e; omega)]
      exact hp q' hq' (by omega))
    omega

section
variable {bt pb N len reach : Nat} {fp : Nat × Nat × Int} {cv : Value} {came : List E} {places : List Nat}

/-- A search looks at no more places than there are keys, and one. -/
theorem Tab.ends_few {w : World} (h : Tab w bt fp cv pb N len reach came places) {home r : Nat} {f : E → Bool} (hh : home < N) (hE : Ends N home came places f r) : dist N home r ≤ len := by
  have hd := (dist_spec hh hE.lt).1
  have := path_few hh (dist N home r) places h.lies.len (by omega) (fun q hq hd => by
    obtain ⟨t, _, h1, _⟩ := hE.past q hq hd
    exact ⟨t, h1⟩)
  have := h.zer
  omega

/-- Which places the first j of a list have. -/
def taken (L : List E) (j p : Nat) : Bool := (L.take j).any fun e => e.place == p

theorem taken_zero (L : List E) (p : Nat) : taken L 0 p = false := rfl
theorem taken_step (L : List E) {j : Nat} (hj : j < L.length) (p : Nat) : taken L (j + 1) p = (taken L j p || (L[j]?.getD gap).place == p) := by
  unfold taken
  rw [take_snoc (List.getElem?_eq_getElem hj), List.any_append, List.getElem?_eq_getElem hj]
  simp

theorem byPl_inj {w : World} (h : Tab w bt fp cv pb N len reach came places) : ((byPl (live came)).map (·.place)).Nodup := by
  rw [((byPl_perm (live came)).map (·.place)).nodup_iff]
  rw [List.Nodup, List.pairwise_map, List.pairwise_iff_getElem]
  intro i j hi hj hij e
  have := h.lies.fst.inj i j _ _ (List.getElem?_eq_getElem hi) (List.getElem?_eq_getElem hj) e
  omega

theorem taken_new {w : World} (h : Tab w bt fp cv pb N len reach came places) {j : Nat} (hj : j < (byPl (live came)).length) : taken (byPl (live came)) j ((byPl (live came))[j]?.getD gap).place = false := by
  have hn := byPl_inj h
  rw [List.Nodup, List.pairwise_map, List.pairwise_iff_getElem] at hn
  unfold taken
  rw [List.any_eq_false]
  intro e he hp
  obtain ⟨i, hi, rfl⟩ := List.getElem_of_mem he
  rw [List.getElem_take] at hp
  rw [List.getElem?_eq_getElem hj] at hp
  rw [List.length_take] at hi
  exact hn i j (by omega) hj (by omega) (by simpa using hp)

theorem taken_all {w : World} (h : Tab w bt fp cv pb N len reach came places) {p : Nat} : taken (byPl (live came)) (byPl (live came)).length p = true ↔ ∃ t, places[p]? = some (t + 1) := by
  unfold taken
  rw [List.take_length, List.any_eq_true]
  constructor
  · rintro ⟨e, he, hp⟩
    obtain ⟨t, h1, h2⟩ := mem_live ((byPl_perm _).mem_iff.1 he)
    have := (h.lies.here t e (List.getElem?_eq_some_iff.1 h1).1 h1 h2).2
    exact ⟨t, by rw [← eq_of_beq hp]; exact this⟩
  · rintro ⟨t, ht⟩
    obtain ⟨_, e, h1, h2, h3⟩ := h.lies.back p t ht
    refine ⟨e, (byPl_perm _).mem_iff.2 ?_, by simpa using h3⟩
    exact List.mem_filter.2 ⟨List.mem_of_getElem? h1, h2⟩

/-- Of the x-th by places: a live entry, which lies where it lies. -/
theorem byPl_entry {x : Nat} (hx : x < (byPl (live came)).length) : ∃ t : Nat, came[t]? = some ((byPl (live came))[x]?.getD gap) ∧ ((byPl (live came))[x]?.getD gap).there = true := by
  rw [List.getElem?_eq_getElem hx]
  exact mem_live ((byPl_perm _).mem_iff.1 (List.getElem_mem hx))

/-- From a live key's home up to its place no place is empty. -/
theorem byPl_path {w : World} (h : Tab w bt fp cv pb N len reach came places) {x : Nat} (hx : x < (byPl (live came)).length) :
    ((byPl (live came))[x]?.getD gap).place < N ∧ ((byPl (live came))[x]?.getD gap).hash = hf fp ((byPl (live came))[x]?.getD gap).key ∧ KeyOk ((byPl (live came))[x]?.getD gap).key ∧
      ∀ q, q < N → dist N (((byPl (live came))[x]?.getD gap).hash % N) q < dist N (((byPl (live came))[x]?.getD gap).hash % N) ((byPl (live came))[x]?.getD gap).place → taken (byPl (live came)) (byPl (live came)).length q = true := by
  obtain ⟨t, h1, h2⟩ := byPl_entry hx
  have hl := (List.getElem?_eq_some_iff.1 h1).1
  refine ⟨(h.lies.here t _ hl h1 h2).1, (h.keys t _ h1 h2).1, (h.keys t _ h1 h2).2, fun q hq hd => (taken_all h).2 ?_⟩
  obtain ⟨t', _, ht'⟩ := h.lies.first t _ hl h1 h2 q hq hd
  exact ⟨t', ht'⟩

/-- The next place, as Go counts it. -/
theorem nx_mod {N p : Nat} (h : p < N) : (p + 1) % N = nx N p := by
  unfold nx; split
  · next e => rw [e, Nat.mod_self]
  · exact Nat.mod_eq_of_lt (by omega)
theorem nx_tmod {N p : Nat} (h : p < N) : ((p : Int) + 1).tmod (N : Int) = (nx N p : Int) := by
  rw [← nx_mod h, Int.tmod_eq_emod_of_nonneg (by omega), Int.natCast_emod]
  rfl

/-- A key that is not there: from its home on all is taken up to the first empty place, which is where the search ends. -/
theorem Tab.ends_free {w : World} (h : Tab w bt fp cv pb N len reach came places) {k : Int} {r : Nat} (hE : Ends N (hf fp k % N) came places (hit fp (hf fp k) k) r) (hno : ∀ (t : Nat) (e : E), came[t]? = some e → e.there = true → sm fp e.key k = false) :
    taken (byPl (live came)) (byPl (live came)).length r = false ∧ ∀ q, q < N → dist N (hf fp k % N) q < dist N (hf fp k % N) r → taken (byPl (live came)) (byPl (live came)).length q = true := by
  have hF := h.ends_no hE hno
  refine ⟨?_, fun q hq hd => (taken_all h).2 (hF.2.2 q hq hd)⟩
  cases ht : taken (byPl (live came)) (byPl (live came)).length r with
  | false => rfl
  | true =>
    obtain ⟨t, ht⟩ := (taken_all h).1 ht
    rw [hF.2.1] at ht
    simp at ht
end
end Go.Proofs.Ytdpbjealjilogaa.I
