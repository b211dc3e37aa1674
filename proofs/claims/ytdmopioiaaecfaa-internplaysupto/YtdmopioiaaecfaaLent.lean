/- lentTexts: the texts that are handed in lie in new memory, with marks behind them. -/
import Derived.Test.YtdmopioiaaecfaaKnown
namespace Go.Proofs.Ytdmopioiaaecfaa
open Go.RowKit Go.Maps

def mark : Value := .string ⟨#[109, 97, 114, 107]⟩

theorem rowBound {w : World} {base : Nat} {e : TypeId} {v : Value} {n b c : Nat} {xs : List Value} (h : w.ownsRow base e 1 v n xs) (hv : v = .slice (some ⟨b, 0, none⟩) n c) : base ≤ b ∧ n ≤ c ∧ c ≤ maxLen := by
  rcases h.2 with ⟨hx, _⟩ | ⟨b', c', cur, hv', hb, hh, h1, h2, h3, h4⟩
  · rw [hx] at hv; simp at hv
  · rw [hv'] at hv
    simp only [Value.slice.injEq, Option.some.injEq, Addr.mk.injEq, and_true, true_and] at hv
    obtain ⟨rfl, rfl⟩ := hv
    exact ⟨hb, h1, h2⟩

theorem add_at (b off j : Nat) : (⟨b, off, none⟩ : Addr).add j = ⟨b, off + j, none⟩ := by
  unfold Addr.add
  split <;> simp_all

theorem new_cells (w : World) (l : List Value) (t : TypeId) : ∀ j u, l[j]? = some u → (w.alloc (.cells l.toArray t)).cell? ((⟨w.heap.size, 0, none⟩ : Addr).add j) = some u := by
  intro j u h
  rw [add_at, Nat.zero_add]
  unfold World.cell?
  dsimp only
  rw [heap_new]
  simpa using h

set_option maxRecDepth 100000 in
set_option maxHeartbeats 400000 in
theorem lent_some (w : World) (ad : Addr) (cap : Nat) (xs : List Value) (hx : ∀ j u, xs[j]? = some u → w.cell? (ad.add j) = some u) (h1 : ∀ u ∈ xs, u.oneCell' = true) (hb : (xs.length + 2) * 16 ≤ 140737488355328) :
    Calls Try.prog 19 #[.slice (some ad) xs.length cap] w fun e w' => ∃ b c, e = .returned (.slice (some ⟨b, 0, none⟩) xs.length c) ∧
      w'.ownsRow w.heap.size 9 1 (.slice (some ⟨b, 0, none⟩) (xs.length + 2) c) (xs.length + 2) (xs ++ [mark, mark]) ∧ Below w.heap.size w w' := by
  obtain ⟨i0, hi, hz0, hz1, hz2⟩ := info_parts info9
  have HX : Hid (∀ j u, xs[j]? = some u → w.cell? (ad.add j) = some u) := hx
  have H1 : Hid (∀ u ∈ xs, u.oneCell' = true) := h1
  have hr0 := World.ownsRow_nil w w.heap.size 9 1
  clear hx h1
  go_enter Try.func19, Try.ntmps19
  go_wp2_with (first | (at_builtin; refine wpList_append_own _ rfl _ _ 27 rfl w.heap.size 9 i0 _ 1 16 Try.underlying27 hi hz0 hz1 hz2 rfl (by decide) (.slice none 0 0) 0 [] rfl hr0 ad xs.length cap xs rfl (by simp) HX.out H1.out (by unfold maxLen; omega) (by omega) (Nat.le_refl _) ?_; intro v1 w1 hown1 hg1 hn1; rw [Nat.zero_add, List.nil_append] at hown1; have HB1 : Hid (Below w.heap.size w w1) := (Below.refl _ _).grown hg1 (Nat.le_refl _) (fun k e => by simp [Value.ownBlock] at e); have hs1 := HB1.out.size; clear hg1 hn1 hr0) | (at_builtin; (refine wpList_append_own _ rfl _ _ 27 rfl w.heap.size 9 i0 _ 1 16 Try.underlying27 hi hz0 hz1 hz2 rfl (by decide) v1 xs.length xs rfl (hown1.alloc _) ⟨w1.heap.size, 0, none⟩ 2 2 [mark, mark] rfl rfl (new_cells w1 [mark, mark] 9) (by simp [mark, Value.oneCell']) (by unfold maxLen; omega) (by omega) (by rw [World.size_alloc]; omega) ?_; intro v2 w2 hown2 hg2 hn2; obtain ⟨b, c, rfl⟩ := ownsRow_succ hown2; obtain ⟨hb1, hb2, hb3⟩ := rowBound hown2 rfl; have hc2 : ((xs.length : Nat) : Int) ≤ (c : Int) := (by omega); have HR : Hid (w2.ownsRow w.heap.size 9 1 (.slice (some ⟨b, 0, none⟩) (xs.length + 2) c) (xs.length + 2) (xs ++ [mark, mark]) ∧ Below w.heap.size w w2) := ⟨hown2, (HB1.out.alloc hs1 _).grown hg2 (by rw [World.size_alloc]; omega) (fun k e => (hown1.lt k e).1)⟩; unfold maxLen at hb3; clear hown2 hg2 hn2 hown1 hs1)))
  go_ret
  exact ⟨b, c, rfl, HR.out⟩

set_option maxRecDepth 100000 in
set_option maxHeartbeats 400000 in
theorem lent_nil (w : World) : Calls Try.prog 19 #[.slice none 0 0] w fun e w' => ∃ b c, e = .returned (.slice (some ⟨b, 0, none⟩) 0 c) ∧
      w'.ownsRow w.heap.size 9 1 (.slice (some ⟨b, 0, none⟩) 2 c) 2 [mark, mark] ∧ Below w.heap.size w w' := by
  obtain ⟨i0, hi, hz0, hz1, hz2⟩ := info_parts info9
  have hr0 := World.ownsRow_nil w w.heap.size 9 1
  go_enter Try.func19, Try.ntmps19
  go_wp2_with (at_builtin; refine wpList_append_own _ rfl _ _ 27 rfl w.heap.size 9 i0 _ 1 16 Try.underlying27 hi hz0 hz1 hz2 rfl (by decide) (.slice none 0 0) 0 [] rfl (hr0.alloc _) ⟨w.heap.size, 0, none⟩ 2 2 [mark, mark] rfl rfl (new_cells w [mark, mark] 9) (by simp [mark, Value.oneCell']) (by unfold maxLen; omega) (by omega) (by rw [World.size_alloc]; omega) ?_; intro v2 w2 hown2 hg2 hn2; obtain ⟨b, c, rfl⟩ := ownsRow_succ hown2; obtain ⟨hb1, hb2, hb3⟩ := rowBound hown2 rfl; have HR : Hid (w2.ownsRow w.heap.size 9 1 (.slice (some ⟨b, 0, none⟩) 2 c) 2 [mark, mark] ∧ Below w.heap.size w w2) := ⟨hown2, ((Below.refl _ w).alloc (Nat.le_refl _) _).grown hg2 (by rw [World.size_alloc]; omega) (fun k e => (by simp [Value.ownBlock] at e))⟩; unfold maxLen at hb3; clear hown2 hg2 hn2)
  go_ret
  exact ⟨b, c, rfl, HR.out⟩

/-- lentTexts: the texts in new memory, two marks behind them. -/
theorem lent_any (w : World) (a : Option Addr) (b off cap : Nat) (ss : List ByteArray) (hS : StrsAt w a b off ss) (ha : a = none → cap = 0 ∧ ss = []) (hb : (ss.length + 2) * 16 ≤ 140737488355328) :
    Calls Try.prog 19 #[.slice a ss.length cap] w fun e w' => ∃ b' c, e = .returned (.slice (some ⟨b', 0, none⟩) ss.length c) ∧
      w'.ownsRow w.heap.size 9 1 (.slice (some ⟨b', 0, none⟩) (ss.length + 2) c) (ss.length + 2) (ss.map Value.string ++ [mark, mark]) ∧ Below w.heap.size w w' := by
  cases a with
  | none =>
    obtain ⟨rfl, rfl⟩ := ha rfl
    exact lent_nil w
  | some ad =>
    have h := lent_some w ad cap (ss.map Value.string) (fun j u h => ?_) (fun u h => ?_) (by simpa using hb)
    · simpa using h
    · rw [List.getElem?_map, Option.map_eq_some_iff] at h
      obtain ⟨s, h1, rfl⟩ := h
      obtain ⟨hj, rfl⟩ := List.getElem?_eq_some_iff.1 h1
      have e := hS.1 (by omega)
      simp only [Option.some.injEq] at e
      subst e
      rw [add_at]
      exact hS.2 j hj
    · rw [List.mem_map] at h
      obtain ⟨s, _, rfl⟩ := h
      rfl

theorem strs_of_row {w : World} {base b n c : Nat} {ss : List ByteArray} {r : List Value} (h : w.ownsRow base 9 1 (.slice (some ⟨b, 0, none⟩) n c) n (ss.map Value.string ++ r)) : StrsAt w (some ⟨b, 0, none⟩) b 0 ss := by
  refine ⟨fun _ => rfl, fun j hj => ?_⟩
  have hl := h.1
  rcases h.2 with ⟨hx, _⟩ | ⟨b', c', cur, hv', hb, hh, h1, h2, h3, h4⟩
  · simp at hx
  · simp only [Value.slice.injEq, Option.some.injEq, Addr.mk.injEq, and_true, true_and] at hv'
    obtain ⟨rfl, rfl⟩ := hv'
    have e : (cur.toList.take (n * 1))[j]? = (ss.map Value.string ++ r)[j]? := by rw [h4]
    rw [List.getElem?_take_of_lt (by simp at hl; omega), List.getElem?_append_left (by simpa using hj)] at e
    have e2 : cur[j]? = some (.string ss[j]) := by simpa [hj] using e
    simp [World.cell?, hh, e2]

theorem row_lt {w : World} {base b n c : Nat} {xs : List Value} (h : w.ownsRow base 9 1 (.slice (some ⟨b, 0, none⟩) n c) n xs) : base ≤ b ∧ b < w.heap.size := h.lt b rfl

end Go.Proofs.Ytdmopioiaaecfaa
