/- The program's heap beside the document's: one thing done with both. -/
import Derived.Test.YtjbglpeikhpieaaTJ
namespace Go.Proofs.Ytjbglpeikhpieaa
open Go.RowKit Go.Maps Go.Sort
open Go.Proofs.Ytjbglpeikhpieaa.HT (E Hp foot ahd byC Fv)

theorem erase_perm {α : Type} (l : List α) (b : Nat) (h : b < l.length) : (l[b] :: l.eraseIdx b).Perm l := by
  rw [List.eraseIdx_eq_take_drop_succ]
  conv => rhs; rw [← List.take_append_drop b l, List.drop_eq_getElem_cons h]
  exact List.perm_middle.symm
theorem erase_map {α β : Type} (f : α → β) (l : List α) (b : Nat) : (l.eraseIdx b).map f = (l.map f).eraseIdx b := by
  rw [List.eraseIdx_eq_take_drop_succ, List.eraseIdx_eq_take_drop_succ, List.map_append, List.map_take, List.map_drop]
def fvBy : Value := .func (.func 18) #[] #[]
theorem fvBy_ok : Fv fvBy byC := .inl ⟨rfl, rfl⟩
/-- What is in by turns, as the document has it. -/
structure Turns (came : List E) (turns : Nat) (L : List (Int × Int)) (es : List E) : Prop where
  perm : came.Perm es
  fst : es.map (·.1) = L
  rise : es.Pairwise fun a b => a.2 < b.2
  less : ∀ e ∈ es, e.2 < turns
section
variable {came : List E} {turns : Nat} {L : List (Int × Int)} {es : List E}
theorem Turns.len (h : Turns came turns L es) : came.length = L.length := by rw [h.perm.length_eq, ← h.fst, List.length_map]
theorem Turns.push (h : Turns came turns L es) (x : Int × Int) {came' : List E} (hp : came'.Perm (came ++ [(x, turns)])) : Turns came' (turns + 1) (L ++ [x]) (es ++ [(x, turns)]) := by
  refine ⟨hp.trans (h.perm.append_right _), by rw [List.map_append, h.fst]; rfl, ?_, ?_⟩
  · rw [List.pairwise_append]
    exact ⟨h.rise, List.pairwise_singleton _ _, fun a ha b hb => by simp at hb; rw [hb]; exact h.less a ha⟩
  · intro e he
    rcases List.mem_append.1 he with h1 | h1
    · have := h.less e h1; omega
    · simp at h1; rw [h1]; simp
/-- The least of the heap is the document's first. -/
theorem Turns.first (h : Turns came turns L es) (hh : IsHeap (ahd byC) came) {e : E} (he : came[0]? = some e) {b : Nat} (hB : Best L L.length b) : es[b]? = some e ∧ L[b]? = some e.1 := by
  have hm : e ∈ es := h.perm.mem_iff.1 (List.mem_of_getElem? he)
  obtain ⟨i, hi, rfl⟩ := List.mem_iff_getElem.1 hm
  have hle : es.length = L.length := by rw [← h.fst, List.length_map]
  have hbl : b < es.length := by rw [hle]; exact hB.2.1
  have hLb : ∀ j (hj : j < es.length) (hj2 : j < L.length), L[j] = es[j].1 := by
    intro j hj hj2
    have : (es.map (·.1))[j]? = L[j]? := by rw [h.fst]
    rw [List.getElem?_map, List.getElem?_eq_getElem hj, List.getElem?_eq_getElem hj2] at this
    simpa using this.symm
  obtain ⟨k, hk⟩ := List.mem_iff_getElem?.1 (h.perm.mem_iff.2 (List.getElem_mem hbl))
  have h1 := heap_least (HT.ahd_ok fvBy_ok) hh he k _ hk
  rw [HT.ahd_by, decide_eq_false_iff_not] at h1
  have h2 := hB.2.2.1 i (by omega) hB.2.1 (by omega)
  rw [hLb i hi (by omega), hLb b hbl hB.2.1] at h2
  have hib : i = b := by
    rcases Nat.lt_trichotomy i b with hlt | heq | hgt
    · have h3 := hB.2.2.2 i (by omega) hB.2.1 hlt
      rw [hLb i hi (by omega), hLb b hbl hB.2.1] at h3
      omega
    · exact heq
    · have h4 := List.pairwise_iff_getElem.1 h.rise b i hbl hi hgt
      omega
  subst hib
  exact ⟨List.getElem?_eq_getElem hi, by rw [List.getElem?_eq_getElem (by omega), hLb i hi (by omega)]⟩
theorem Turns.pop (h : Turns came turns L es) {e : E} {b : Nat} (hb : es[b]? = some e) {came' : List E} (hp : (e :: came').Perm came) : Turns came' turns (L.eraseIdx b) (es.eraseIdx b) := by
  obtain ⟨hbl, rfl⟩ := List.getElem?_eq_some_iff.1 hb
  refine ⟨?_, ?_, ?_, ?_⟩
  · have h1 : (es[b] :: es.eraseIdx b).Perm es := erase_perm es b hbl
    exact ((hp.trans h.perm).trans h1.symm).cons_inv
  · rw [erase_map, h.fst]
  · exact h.rise.sublist (List.eraseIdx_sublist _ _)
  · exact fun e he => h.less e ((List.eraseIdx_sublist _ _).subset he)
end

/-- The program's heap and the document's, side by side. -/
structure Pair (w : World) (hb : Nat) (v : Value) (turns : Nat) (rb : Nat) (rv : Value) (L : List (Int × Int)) : Prop where
  own : ∃ came es, Hp w hb fvBy v turns came ∧ IsHeap (ahd byC) came ∧ Turns came turns L es
  ref : RHp w rb rv L
  apart : ∀ k, foot hb v k → ¬ rfoot rb rv k
def both (hb : Nat) (v : Value) (rb : Nat) (rv : Value) (k : Nat) : Prop := foot hb v k ∨ rfoot rb rv k
section
variable {w w' : World} {hb rb turns : Nat} {v rv : Value} {L : List (Int × Int)}
theorem Pair.turn {S : Nat → Prop} (h : Pair w hb v turns rb rv L) (ht : Turn S w w') (hn : ∀ k, both hb v rb rv k → ¬ S k) : Pair w' hb v turns rb rv L := by
  obtain ⟨came, es, h1, h2, h3⟩ := h.own
  exact ⟨⟨came, es, h1.turn ht (fun k hk => hn k (.inl hk)), h2, h3⟩, h.ref.turn ht (fun k hk => hn k (.inr hk)), h.apart⟩
theorem Pair.stay (h : Pair w hb v turns rb rv L) (hs : Stay w w') : Pair w' hb v turns rb rv L := h.turn (S := fun _ => False) (Turn.of_stay hs) (fun _ _ => id)
theorem Pair.lt (h : Pair w hb v turns rb rv L) (k : Nat) (hk : both hb v rb rv k) : k < w.heap.size := by
  obtain ⟨came, es, h1, h2, h3⟩ := h.own
  rcases hk with hk | hk
  · exact h1.lt k hk
  · exact h.ref.lt k hk
/-- What a step leaves. -/
def Left (w : World) (hb : Nat) (v : Value) (turns rb : Nat) (rv : Value) (L L' : List (Int × Int)) (w' : World) : Prop :=
  ∃ v' turns' rv', Pair w' hb v' turns' rb rv' L' ∧ turns' ≤ turns + 1 ∧ Turn (both hb v rb rv) w w' ∧ (∀ k, both hb v' rb rv' k → both hb v rb rv k ∨ w.heap.size ≤ k) ∧ L'.length ≤ L.length + 1
theorem left_same (h : Pair w hb v turns rb rv L) (hs : Stay w w') : Left w hb v turns rb rv L L w' :=
  ⟨v, turns, rv, h.stay hs, by omega, Turn.of_stay hs, fun k hk => .inl hk, by omega⟩

/-- Push on both. -/
theorem pair_push (h : Pair w hb v turns rb rv L) (x : Int × Int) (hsz : (L.length + 1) * 24 ≤ 140737488355328) (htn : turns ≤ 140737488355328) :
    Calls Try.prog 41 #[.pointer (some ⟨hb, 0, none⟩), .agg #[.int .i64 x.1, .int .i64 x.2]] w fun e w' => e = .returned (.tuple #[]) ∧ Turn (foot hb v) w w' ∧ Calls Try.prog 69 #[.pointer (some ⟨rb, 0, none⟩), .agg #[.int .i64 x.1, .int .i64 x.2]] w' fun e w'' => e = .returned (.tuple #[]) ∧ Left w hb v turns rb rv L (L ++ [x]) w'' := by
  obtain ⟨came, es, h1, h2, h3⟩ := h.own
  have hl := h3.len
  refine (HT.push_any fvBy_ok h1 h2 x (by rw [hl]; exact hsz) htn).mono ?_
  rintro e w1 ⟨rfl, v', came', hp, hh, hH, hT, hF⟩
  have hR1 : RHp w1 rb rv L := h.ref.turn hT (fun k hk hf => h.apart k hf hk)
  refine ⟨rfl, hT, (rpush_any hR1 x.1 x.2 (by omega)).mono ?_⟩
  rintro e w2 ⟨rfl, rv', hR2, hT2, hF2⟩
  have hap : ∀ k, foot hb v' k → ¬ rfoot rb rv k := fun k hk hr => by
    rcases hF k hk with h4 | h4
    · exact h.apart k h4 hr
    · have := h.ref.lt k hr; omega
  have hH2 : Hp w2 hb fvBy v' (turns + 1) came' := hH.turn hT2 hap
  refine ⟨rfl, v', turns + 1, rv', ⟨⟨came', _, hH2, hh, h3.push x hp⟩, hR2, fun k hk hr => ?_⟩, by omega, ?_, ?_, by simp⟩
  · rcases hF2 k hr with h4 | h4
    · exact hap k hk h4
    · have := hH.lt k hk; omega
  · exact (hT.mono (fun i _ hi => .inl hi)).then hT2 (fun k _ hk => .inr hk)
  · rintro k (hk | hk)
    · rcases hF k hk with h4 | h4
      · exact .inl (.inl h4)
      · exact .inr h4
    · rcases hF2 k hk with h4 | h4
      · exact .inl (.inr h4)
      · exact .inr (Nat.le_trans hT.size h4)
/-- Pop of both where something is in. -/
theorem pair_pop (h : Pair w hb v turns rb rv L) (hl : 0 < L.length) (hsz : L.length * 24 ≤ 140737488355328) :
    ∃ x1 x2 : Int, Calls Try.prog 42 #[.pointer (some ⟨hb, 0, none⟩)] w fun e w' => e = .returned (.tuple #[.agg #[.int .i64 x1, .int .i64 x2], .bool true]) ∧ w.heap.size ≤ w'.heap.size ∧ ∀ w1, Stay w' w1 → Calls Try.prog 67 #[.pointer (some ⟨rb, 0, none⟩)] w1 fun e w'' => e = .returned (.tuple #[.agg #[.int .i64 x1, .int .i64 x2], .bool true]) ∧ (∀ k, w.heap.size ≤ k → k < w1.heap.size → w''.heap[k]? = w1.heap[k]?) ∧ ∃ L', L'.length + 1 = L.length ∧ Left w hb v turns rb rv L L' w'' := by
  obtain ⟨came, es, h1, h2, h3⟩ := h.own
  have hcl := h3.len
  obtain ⟨e, he⟩ : ∃ e, came[0]? = some e := ⟨_, List.getElem?_eq_getElem (by omega)⟩
  refine ⟨e.1.1, e.1.2, (HT.pop_some fvBy_ok h1 h2 e he (by omega)).mono ?_⟩
  rintro e9 w0 ⟨rfl, v', came', hp, hh, hH0, hT0, hF⟩
  refine ⟨rfl, hT0.size, fun w1 hs1 => ?_⟩
  have hH := hH0.stay hs1
  have hT : Turn (foot hb v) w w1 := hT0.trans (Turn.of_stay hs1)
  have hR1 : RHp w1 rb rv L := h.ref.turn hT (fun k hk hf => h.apart k hf hk)
  refine (rpop_some hR1 hl (by omega)).mono ?_
  rintro e9 w2 ⟨b, y1, y2, hLb, hB, rfl, rv', hR2, hT2, hF2⟩
  obtain ⟨hes, hLe⟩ := h3.first h2 he hB
  rw [hLe] at hLb
  simp only [Option.some.injEq] at hLb
  have hx1 : y1 = e.1.1 := by rw [hLb]
  have hx2 : y2 = e.1.2 := by rw [hLb]
  refine ⟨by rw [hx1, hx2], fun k hk1 hk2 => hT2.block k hk2 (fun hr => by have := h.ref.lt k hr; omega), L.eraseIdx b, ?_, v', turns, rv', ⟨⟨came', _, hH.turn hT2 (fun k hk => h.apart k (hF k hk)), hh, h3.pop hes hp⟩, hR2, fun k hk hr => ?_⟩, by omega, ?_, ?_, ?_⟩
  · rw [List.length_eraseIdx, if_pos hB.2.1]; omega
  · rcases hF2 k hr with h4 | h4
    · exact h.apart k (hF k hk) h4
    · have := hH.lt k hk; omega
  · exact (hT.mono (fun i _ hi => .inl hi)).then hT2 (fun k _ hk => .inr hk)
  · rintro k (hk | hk)
    · exact .inl (.inl (hF k hk))
    · rcases hF2 k hk with h4 | h4
      · exact .inl (.inr h4)
      · exact .inr (Nat.le_trans hT.size h4)
  · have := List.length_eraseIdx_le L b; omega
theorem pair_empty (h : Pair w hb v turns rb rv []) : ∃ v0, Hp w hb fvBy v0 turns [] ∧ v0 = v := by
  obtain ⟨came, es, h1, h2, h3⟩ := h.own
  have : came = [] := List.eq_nil_of_length_eq_zero (by rw [h3.len]; rfl)
  subst this
  exact ⟨v, h1, rfl⟩
end
end Go.Proofs.Ytjbglpeikhpieaa
