/- The document's right, Write and Set, plainly: what is wrong, the place of a tuple, a list of lists into which one is put. No walk here. -/
import Derived.Test.YtbbgembkdhcidaaFAh
import Derived.Test.YtbbgembkdhcidaaFY
import Derived.Test.YtbbgembkdhcidaaFKp
import Derived.Lib.AppendStr
namespace Go.Proofs.Ytbbgembkdhcidaa
open Go.RowKit Go.Maps

theorem refZ_out {ts : List (List ByteArray)} {z : Int} (h : ¬ (0 ≤ z ∧ z ≤ 16)) : refZ ts z = 2 := by
  unfold refZ
  rw [if_neg]
  intro hc
  simp only [Bool.and_eq_true, decide_eq_true_eq] at hc
  exact h hc.1
theorem refZ_mis {ts : List (List ByteArray)} {z : Int} {t : List ByteArray} (ht : t ∈ ts) (h : ¬ (t.length : Int) = z) : refZ ts z = 2 := by
  unfold refZ
  rw [if_neg]
  intro hc
  simp only [Bool.and_eq_true, Bool.not_eq_true', List.any_eq_false] at hc
  exact (hc.2 t ht) (by simp [misB, h])
theorem refZ_in {ts : List (List ByteArray)} {z : Int} (h0 : 0 ≤ z) (h16 : z ≤ 16) (hall : ∀ t ∈ ts, (t.length : Int) = z) : refZ ts z = if ts.any longB then 3 else 0 := by
  unfold refZ
  rw [if_pos]
  simp only [Bool.and_eq_true, decide_eq_true_eq, Bool.not_eq_true', List.any_eq_false]
  exact ⟨⟨h0, h16⟩, fun t ht => by simp [misB, hall t ht]⟩
theorem lineT_16 {ss : List ByteArray} (h : ss.length ≤ 16) : lineT ss = if longB ss then ([], 3) else (lineL (dat ss), 0) := by
  unfold lineT
  rw [refZ_one h]
  cases longB ss <;> simp
theorem line_all {ts : List (List ByteArray)} {z : Int} (h : refZ ts z = 0) {t : List ByteArray} (ht : t ∈ ts) : lineT t = (lineL (dat t), 0) := by
  obtain ⟨h0, h16, hall⟩ := refZ_zero h
  obtain ⟨h1, h2⟩ := hall t ht
  rw [lineT_16 (by omega)]
  have hl : longB t = false := by
    unfold longB
    rw [List.any_eq_false]
    intro x hx
    have := h2 x hx
    simp; omega
  rw [hl]; rfl
section
variable {base : Nat} {w w' : World} {v : Value} {l : List UInt8}
/-- A text more. -/
theorem OwnB.text (h : OwnB base w v l) (s : List UInt8) (hb : l.length + s.length ≤ 140737488355328) (hbase : base ≤ w.heap.size) :
    ∃ v' w', (Builtin.append_ #[42, 9] 42 #[v, .string (toB s)]).run Try.prog w = .ok v' w' ∧ OwnB base w' v' (l ++ s) ∧ Turn (fun k => v.ownBlock = some k) w w' := by
  obtain ⟨i0, hi, hz0, hz1, hz2⟩ := info_parts infoU8
  obtain ⟨v', w', hr, h2, h3, _⟩ := Lib.run_append_own_string (P := Try.prog) (w := w) base 42 9 42 5 i0 Try.underlying42 Try.underlying9 hi hz0 hz1 hz2 v l.length (Lib.byteCells l) h (toB s) (by rw [toB_size]; unfold maxLen; omega) (by rw [toB_size]; exact hb) hbase
  refine ⟨v', w', hr, ?_, Turn.of_grown h3⟩
  unfold OwnB
  rw [List.length_append, byteCells_app]
  rw [toB_size] at h2
  have e : Lib.strCells (toB s) = Lib.byteCells s := by unfold Lib.strCells Lib.byteCells; rw [data_toB]
  rw [e] at h2
  exact h2
end
theorem ins_same {gs : List (List ByteArray)} {t : List ByteArray} (h : RisS gs) (hm : t ∈ gs) : insR t gs = gs :=
  ris_unique (insR_ris t gs h) h (fun x => by
    rw [insR_mem]
    exact ⟨fun hx => hx.elim (fun e => e ▸ hm) id, fun hx => .inr hx⟩)
theorem ins_at {gs : List (List ByteArray)} {t : List ByteArray} {j : Nat} (h : RisS gs) (hj : j ≤ gs.length) (hlo : ∀ i x, i + 1 = j → gs[i]? = some x → cmpS x t < 0) (hhi : ∀ i x, j ≤ i → gs[i]? = some x → 0 < cmpS x t) : insR t gs = gs.take j ++ t :: gs.drop j := by
  have hlo2 : ∀ x ∈ gs.take j, cmpS x t < 0 := fun x hx => by
    obtain ⟨i, hi, rfl⟩ := List.mem_iff_getElem.1 hx
    rw [List.length_take] at hi
    rw [List.getElem_take]
    by_cases e : i + 1 = j
    · exact hlo i _ e (List.getElem?_eq_getElem (by omega))
    · have h1 := hlo (j - 1) (gs[j - 1]'(by omega)) (by omega) (List.getElem?_eq_getElem (by omega))
      have h2 := List.pairwise_iff_getElem.1 h i (j - 1) (by omega) (by omega) (by omega)
      exact cmpS_lt h2 (by omega)
  have hhi2 : ∀ x ∈ gs.drop j, cmpS t x < 0 := fun x hx => by
    obtain ⟨i, hi, rfl⟩ := List.mem_iff_getElem.1 hx
    rw [List.length_drop] at hi
    rw [List.getElem_drop]
    have h1 := hhi (j + i) (gs[j + i]'(by omega)) (by omega) (List.getElem?_eq_getElem (by omega))
    have := cmpS_swap (gs[j + i]'(by omega)) t
    omega
  refine ris_unique (insR_ris t gs h) ?_ (fun x => ?_)
  · refine List.pairwise_append.2 ⟨h.sublist (List.take_sublist _ _), List.pairwise_cons.2 ⟨hhi2, h.sublist (List.drop_sublist _ _)⟩, fun x hx y hy => ?_⟩
    rcases List.mem_cons.1 hy with e | hy
    · rw [e]; exact hlo2 x hx
    · exact cmpS_lt (hlo2 x hx) (by have := hhi2 y hy; omega)
  · rw [insR_mem]
    have e : x ∈ gs ↔ x ∈ gs.take j ∨ x ∈ gs.drop j := by rw [← List.mem_append, List.take_append_drop]
    rw [e, List.mem_append, List.mem_cons]
    constructor
    · rintro (h | h | h)
      · exact .inr (.inl h)
      · exact .inl h
      · exact .inr (.inr h)
    · rintro (h | h | h)
      · exact .inr (.inl h)
      · exact .inl h
      · exact .inr (.inr h)
/-- One put in. -/
theorem put_get {α : Type} {l : List α} {k : Nat} (hk : k ≤ l.length) (x : α) (i : Nat) : (l.take k ++ x :: l.drop k)[i]? = if i < k then l[i]? else if i = k then some x else l[i - 1]? := by
  by_cases h1 : i < k
  · rw [if_pos h1, List.getElem?_append_left (by rw [List.length_take]; omega), List.getElem?_take, if_pos h1]
  · rw [if_neg h1, List.getElem?_append_right (by rw [List.length_take]; omega), List.length_take, Nat.min_eq_left hk]
    by_cases h2 : i = k
    · rw [if_pos h2, h2, Nat.sub_self]; rfl
    · rw [if_neg h2]
      obtain ⟨d, rfl⟩ : ∃ d, i = k + d + 1 := ⟨i - k - 1, by omega⟩
      rw [show k + d + 1 - k = d + 1 by omega, List.getElem?_cons_succ, List.getElem?_drop]
      rfl
theorem put_len {α : Type} {l : List α} {k : Nat} (hk : k ≤ l.length) (x : α) : (l.take k ++ x :: l.drop k).length = l.length + 1 := by
  simp; omega
theorem put_set {α : Type} {l : List α} {k : Nat} (hk : k ≤ l.length) (x y : α) : (l.take k ++ x :: l.drop k).set k y = l.take k ++ y :: l.drop k := by
  rw [List.set_append_right _ _ (by rw [List.length_take]; omega), List.length_take, Nat.min_eq_left hk, Nat.sub_self]; rfl
theorem put_move {α : Type} {l : List α} {k : Nat} (hk : k < l.length) : l.take (k + 1) ++ l[k] :: l.drop (k + 1) = l.take k ++ l[k] :: l.drop k := by
  rw [List.take_succ_eq_append_getElem hk, List.drop_eq_getElem_cons hk, List.append_assoc]; rfl
/-- A value written into a row. -/
theorem row_set {base : Nat} {w : World} {e : TypeId} {G n c : Nat} {xs : List Value} (h : w.ownsRow base e 1 (.slice (some ⟨G, 0, none⟩) n c) xs.length xs) (j : Nat) (x : Value) : (w.setCell ⟨G, j, none⟩ x).ownsRow base e 1 (.slice (some ⟨G, 0, none⟩) n c) xs.length (xs.set j x) := by
  refine ⟨by simp, ?_⟩
  rcases h.2 with ⟨hv, hl⟩ | ⟨g, cap, cur, hv, hb, hh, h1, h2, h3, h4⟩
  · cases hv
  · simp only [Value.slice.injEq, Option.some.injEq, Addr.mk.injEq, and_true] at hv
    obtain ⟨rfl, rfl, rfl⟩ := hv
    refine .inr ⟨G, c, _, rfl, hb, heap_setCell_same w G j cur _ _ hh, h1, h2, by simpa using h3, ?_⟩
    rw [Nat.mul_one] at h4 ⊢
    rw [Array.toList_setIfInBounds, List.take_set, h4]
theorem row_free {base : Nat} {w : World} {e : TypeId} {G n c m : Nat} {xs : List Value} (h : w.ownsRow base e 1 (.slice (some ⟨G, 0, none⟩) n c) m xs) : (∀ j, w.frozen? ⟨G, j, none⟩ = false) ∧ n = m ∧ base ≤ G ∧ G < w.heap.size := by
  rcases h.2 with ⟨hv, hl⟩ | ⟨g, cap, cur, hv, hb, hh, h1, h2, h3, h4⟩
  · cases hv
  · simp only [Value.slice.injEq, Option.some.injEq, Addr.mk.injEq, and_true] at hv
    obtain ⟨rfl, rfl, rfl⟩ := hv
    exact ⟨fun j => by simp [World.frozen?, hh], rfl, hb, (Array.getElem?_eq_some_iff.1 hh).1⟩
/-- A list of lists with a gap at k, where x stands. -/
structure Shf (base : Nat) (w : World) (v : Value) (us : List Value) (gs : List (List ByteArray)) (k : Nat) (x : Value) : Prop where
  row : w.ownsRow base 39 1 v (us.length + 1) (us.take k ++ x :: us.drop k)
  le : k ≤ us.length
  len : us.length = gs.length
  each : ∀ (i : Nat) u t, us[i]? = some u → gs[i]? = some t → OwnS base w u t
  apart : ∀ (i j : Nat) u u', us[i]? = some u → us[j]? = some u' → i ≠ j → ∀ k, u.ownBlock = some k → u'.ownBlock ≠ some k
  off : ∀ (i : Nat) u, us[i]? = some u → ∀ k, u.ownBlock = some k → v.ownBlock ≠ some k
section
variable {base : Nat} {w w' : World} {v x : Value} {us : List Value} {gs : List (List ByteArray)} {k : Nat}
theorem OwnG.gap (h : OwnG base w v us gs) (hb : (us.length + 1) * 24 ≤ 140737488355328) (hbase : base ≤ w.heap.size) :
    ∃ G c V, (Builtin.append_ #[22, 22] 22 #[v, .slice (some ⟨w.heap.size, 0, none⟩) 1 1]).run Try.prog (w.alloc (.cells #[.slice none 0 0] 39)) = .ok (.slice (some ⟨G, 0, none⟩) (us.length + 1) c) V ∧ Shf base V (.slice (some ⟨G, 0, none⟩) (us.length + 1) c) us gs us.length (.slice none 0 0) ∧ Turn (fun k => v.ownBlock = some k) w V := by
  obtain ⟨v', V, hr, h2, h3, h4⟩ := append_keep Try.underlying22 infoSs rfl h.row (.slice none 0 0) rfl (by unfold maxLen; omega) hb hbase
  have hv : ∀ k, v'.ownBlock = some k → v.ownBlock = some k ∨ k = w.heap.size + 1 := fun k hk => by
    rcases h4 with ⟨g, e1, e2⟩ | ⟨e1, _⟩
    · rw [e2] at hk; rw [e1]; exact .inl hk
    · rw [e1] at hk; exact .inr (Option.some.inj hk).symm
  have hoff : ∀ (i : Nat) u, us[i]? = some u → ∀ k, u.ownBlock = some k → v'.ownBlock ≠ some k := fun i u hu k hk e => by
    rcases hv k e with e | e
    · exact h.off i u hu k hk e
    · have := (h.lt k (.inr ⟨u, List.mem_of_getElem? hu, hk⟩)).2; omega
  have h2' := h2
  rcases h2.2 with ⟨he, h0⟩ | ⟨g, cap, cur, he, _⟩
  · omega
  · subst he
    refine ⟨g, cap, V, hr, ⟨by rw [List.take_length, List.drop_length]; exact h2', Nat.le_refl _, h.len, fun i u t hu ht => (h.each i u t hu ht).turn h3 (fun k hk e => h.off i u hu k hk e), h.apart, hoff⟩, h3⟩
theorem Shf.move {G n c : Nat} (h : Shf base w (.slice (some ⟨G, 0, none⟩) n c) us gs (k + 1) x) (hk : k < us.length) :
    w.cell? ⟨G, k, none⟩ = some us[k] ∧ w.frozen? ⟨G, k + 1, none⟩ = false ∧ (∃ y, w.cell? ⟨G, k + 1, none⟩ = some y) ∧ Shf base (w.setCell ⟨G, k + 1, none⟩ us[k]) (.slice (some ⟨G, 0, none⟩) n c) us gs k us[k] ∧ Turn (fun i => i = G) w (w.setCell ⟨G, k + 1, none⟩ us[k]) := by
  have hT : Turn (fun i => i = G) w (w.setCell ⟨G, k + 1, none⟩ us[k]) := Turn.set (S := fun i => i = G) (Turn.refl _ _) rfl _ _
  obtain ⟨f1, rfl, _, _⟩ := row_free h.row
  have hrow := h.row
  refine ⟨row_cell hrow k _ ?_, f1 _, ⟨x, row_cell hrow (k + 1) _ ?_⟩, ⟨?_, by omega, h.len, fun i u t hu ht => (h.each i u t hu ht).turn hT (fun b hb e => ?_), h.apart, h.off⟩, hT⟩
  · rw [put_get h.le, if_pos (by omega)]; exact List.getElem?_eq_getElem hk
  · rw [put_get h.le, if_neg (by omega), if_pos rfl]
  · have h1 := row_set (xs := us.take (k + 1) ++ x :: us.drop (k + 1)) (by rw [put_len h.le]; exact hrow) (k + 1) us[k]
    rw [put_len h.le, put_set h.le, put_move hk] at h1
    exact h1
  · subst e; exact h.off i u hu b hb rfl
theorem Shf.move' {G n c q r : Nat} (h : Shf base w (.slice (some ⟨G, 0, none⟩) n c) us gs q x) (hq : q = r + 1) (hk : r < us.length) :
    w.cell? ⟨G, r, none⟩ = some us[r] ∧ w.frozen? ⟨G, q, none⟩ = false ∧ (∃ y, w.cell? ⟨G, q, none⟩ = some y) ∧ Shf base (w.setCell ⟨G, q, none⟩ us[r]) (.slice (some ⟨G, 0, none⟩) n c) us gs r us[r] ∧ Turn (fun i => i = G) w (w.setCell ⟨G, q, none⟩ us[r]) := by
  subst hq
  exact h.move hk
theorem Shf.base_le {G n c : Nat} (h : Shf base w (.slice (some ⟨G, 0, none⟩) n c) us gs k x) : base ≤ G := (row_free h.row).2.2.1
theorem Shf.slice (h : Shf base w v us gs k x) {r : Nat} (hr : r < us.length) : ∃ a m c, us[r] = .slice a m c :=
  own_one (h.each r us[r] (gs[r]'(by rw [← h.len]; exact hr)) (List.getElem?_eq_getElem hr) (List.getElem?_eq_getElem _))
theorem Shf.put {G n c : Nat} (h : Shf base w (.slice (some ⟨G, 0, none⟩) n c) us gs k x) {V : World} (hs : Stay w V) {u : Value} {t : List ByteArray} (hu : OwnS w.heap.size V u t) (hbase : base ≤ w.heap.size) :
    V.frozen? ⟨G, k, none⟩ = false ∧ (∃ y, V.cell? ⟨G, k, none⟩ = some y) ∧ OwnG base (V.setCell ⟨G, k, none⟩ u) (.slice (some ⟨G, 0, none⟩) n c) (us.take k ++ u :: us.drop k) (gs.take k ++ t :: gs.drop k) ∧ Turn (fun i => i = G) V (V.setCell ⟨G, k, none⟩ u) := by
  have hT : Turn (fun i => i = G) V (V.setCell ⟨G, k, none⟩ u) := Turn.set (S := fun i => i = G) (Turn.refl _ _) rfl _ _
  have hrow0 : V.ownsRow base 39 1 (.slice (some ⟨G, 0, none⟩) n c) (us.length + 1) (us.take k ++ x :: us.drop k) := (Turn.of_stay (S := fun _ => False) hs).row h.row (fun _ _ h => h)
  obtain ⟨_, _, _, hGw⟩ := row_free h.row
  obtain ⟨f1, rfl, hbG, hG⟩ := row_free hrow0
  have hle := h.le
  have hleg : k ≤ gs.length := by rw [← h.len]; exact hle
  have hrow1 := row_set (xs := us.take k ++ x :: us.drop k) (by rw [put_len hle]; exact hrow0) k u
  rw [put_len hle, put_set hle] at hrow1
  -- what stands at i
  have each0 : ∀ (i : Nat) y s, us[i]? = some y → gs[i]? = some s → OwnS base (V.setCell ⟨G, k, none⟩ u) y s := fun i y s hy hsg => ((h.each i y s hy hsg).stay hs).turn hT (fun b hb e => by subst e; exact h.off i y hy b hb rfl)
  have hu1 : OwnS base (V.setCell ⟨G, k, none⟩ u) u t := (hu.turn hT (fun b hb e => by have := (hu.lt b hb).1; omega)).low hbase
  have old : ∀ (i : Nat) y, us[i]? = some y → ∀ b, y.ownBlock = some b → b < w.heap.size := fun i y hy b hb =>
    ((h.each i y (gs[i]'(by rw [← h.len]; exact (List.getElem?_eq_some_iff.1 hy).1)) hy (List.getElem?_eq_getElem _)).lt b hb).2
  have cas : ∀ (i : Nat) y, (us.take k ++ u :: us.drop k)[i]? = some y → (i = k ∧ y = u) ∨ (∃ j, us[j]? = some y ∧ ((i < k ∧ j = i) ∨ (k < i ∧ j + 1 = i))) := fun i y hy => by
    rw [put_get hle] at hy
    split at hy
    · exact .inr ⟨i, hy, .inl ⟨‹_›, rfl⟩⟩
    · split at hy
      · exact .inl ⟨‹_›, (Option.some.inj hy).symm⟩
      · exact .inr ⟨i - 1, hy, .inr ⟨by omega, by omega⟩⟩
  refine ⟨f1 _, ⟨x, row_cell hrow0 k _ (by rw [put_get hle, if_neg (Nat.lt_irrefl _), if_pos rfl])⟩, ⟨by rw [put_len hle]; exact hrow1, by rw [put_len hle, put_len hleg, h.len], fun i y s hy hsg => ?_, fun i j y y' hy hy' hij b hb e => ?_, fun i y hy b hb e => ?_⟩, hT⟩
  · rw [put_get hleg] at hsg
    rcases cas i y hy with ⟨rfl, rfl⟩ | ⟨j, hj, hij⟩
    · rw [if_neg (Nat.lt_irrefl _), if_pos rfl] at hsg
      cases hsg; exact hu1
    · rcases hij with ⟨h1, rfl⟩ | ⟨h1, h2⟩
      · rw [if_pos h1] at hsg; exact each0 _ _ _ hj hsg
      · rw [if_neg (by omega), if_neg (by omega), show i - 1 = j by omega] at hsg; exact each0 _ _ _ hj hsg
  · rcases cas i y hy with ⟨rfl, rfl⟩ | ⟨p, hp, hip⟩
    · rcases cas j y' hy' with ⟨rfl, rfl⟩ | ⟨q, hq, hjq⟩
      · exact hij rfl
      · have := old q _ hq b e; have := (hu.lt b hb).1; omega
    · rcases cas j y' hy' with ⟨rfl, rfl⟩ | ⟨q, hq, hjq⟩
      · have := old p _ hp b hb; have := (hu.lt b e).1; omega
      · exact h.apart p q y y' hp hq (by omega) b hb e
  · rcases cas i y hy with ⟨rfl, rfl⟩ | ⟨p, hp, hip⟩
    · have := (hu.lt b hb).1
      simp only [Value.ownBlock] at e
      have := Option.some.inj e
      omega
    · exact h.off p y hp b hb e
end
end Go.Proofs.Ytbbgembkdhcidaa
