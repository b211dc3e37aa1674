/- Lists of lists of one's own, written; lists that hold one mark alone. No walk here. -/
import Derived.Test.YtbbgembkdhcidaaFKp
namespace Go.Proofs.Ytbbgembkdhcidaa
open Go.RowKit Go.Maps

/-- A text written into one of the lists. -/
theorem OwnG.setAt {base : Nat} {w : World} {v : Value} {us : List Value} {ts : List (List ByteArray)} (h : OwnG base w v us ts) {k G m c : Nat} {t : List ByteArray} (hu : us[k]? = some (.slice (some ⟨G, 0, none⟩) m c)) (ht : ts[k]? = some t) (j : Nat) (x : ByteArray) :
    OwnG base (w.setCell ⟨G, j, none⟩ (.string x)) v us (ts.set k (t.set j x)) ∧ Turn (blkG v us) w (w.setCell ⟨G, j, none⟩ (.string x)) := by
  have hT : Turn (fun i => i = G) w (w.setCell ⟨G, j, none⟩ (.string x)) := Turn.set (S := fun i => i = G) (Turn.refl _ _) rfl j _
  have hkl : k < ts.length := (List.getElem?_eq_some_iff.1 ht).1
  refine ⟨⟨hT.row h.row (fun i hi e => ?_), by rw [List.length_set]; exact h.len, fun i u t' hui hti => ?_, h.apart, h.off⟩, hT.mono (fun i _ e => .inr ⟨_, List.mem_of_getElem? hu, by rw [e]; rfl⟩)⟩
  · subst e
    exact h.off k _ hu i rfl hi
  · by_cases hik : i = k
    · subst hik
      rw [List.getElem?_set_self hkl] at hti
      rw [hu] at hui
      cases hti; cases hui
      exact (h.each i _ t hu ht).set j x
    · rw [List.getElem?_set_ne (fun e => hik e.symm)] at hti
      exact (h.each i u t' hui hti).turn hT (fun b hb e => by
        subst e
        exact h.apart k i _ u hu hui (fun e => hik e.symm) b rfl hb)
/-- A list of lists that hold one mark alone, in blocks of P. -/
structure AllM (P : Nat → Prop) (mark : ByteArray) (w : World) (x : Value) : Prop where
  is : ∃ a b c, ∃ xs : List Tx, x = .slice a xs.length c ∧ TxsS w a b 0 xs ∧ xs.length ≤ 1099511627776 ∧ (0 < xs.length → P b) ∧ ∀ t ∈ xs, t.xs.length ≤ 1099511627776 ∧ (∀ y ∈ t.xs, y = mark) ∧ (0 < t.xs.length → P t.b)
theorem AllM.turn {P S : Nat → Prop} {mark : ByteArray} {w w' : World} {x : Value} (h : AllM P mark w x) (ht : Turn S w w') (hn : ∀ k, k < w.heap.size → P k → ¬ S k) : AllM P mark w' x := by
  obtain ⟨a, b, c, xs, h1, h2, h3, h4, h5⟩ := h.is
  refine ⟨a, b, c, xs, h1, ⟨h2.1, fun j hj => ?_⟩, h3, h4, h5⟩
  obtain ⟨hc, hS⟩ := h2.2 j hj
  have hb := World.block_lt_of_cell? w _ hc
  refine ⟨ht.cell hc (hn b hb (h4 (by omega))), ?_⟩
  exact StrsS.turn hS ht (fun h0 => by
    have := World.block_lt_of_cell? w _ (hS.2 0 h0)
    exact hn _ this ((h5 _ (List.getElem_mem hj)).2.2 h0))
theorem AllM.holds {P : Nat → Prop} {mark : ByteArray} {w : World} {x : Value} (h : AllM P mark w x) : Calls Try.prog 26 #[x, .string mark] w fun e w' => e = .returned (.bool true) ∧ w' = w := by
  obtain ⟨a, b, c, xs, rfl, h2, h3, h4, h5⟩ := h.is
  exact holds_any w a b 0 c xs mark h2 (by omega) (fun t ht => by have := (h5 t ht).1; omega) (fun t ht => (h5 t ht).2.1)

/-- What full answers: what it hands out and what it was handed hold the mark alone; nothing but the list's own blocks has turned. -/
def FullQ (W : World) (v : Value) (us : List Value) (mark : ByteArray) (e : Ending) (w' : World) : Prop :=
  ∃ x, e = .returned x ∧ AllM (fun k => blkG v us k ∨ W.heap.size ≤ k) mark w' x ∧ AllM (fun k => blkG v us k ∨ W.heap.size ≤ k) mark w' v ∧ Turn (blkG v us) W w'

set_option maxRecDepth 100000 in
set_option maxHeartbeats 2000000 in
/-- Two lists that have no block in common: each is the caller's. -/
theorem apart_of (W : World) (v1 v2 : Value) (us1 us2 : List Value)
    (hf1 : Calls Try.prog 25 #[v1, .string ⟨#[111, 110, 101]⟩] W (FullQ W v1 us1 ⟨#[111, 110, 101]⟩))
    (hf2 : ∀ W', Turn (blkG v1 us1) W W' → Calls Try.prog 25 #[v2, .string ⟨#[116, 119, 111]⟩] W' (FullQ W' v2 us2 ⟨#[116, 119, 111]⟩))
    (hne : ∀ k, blkG v1 us1 k → ¬ blkG v2 us2 k) (hlt : ∀ k, blkG v2 us2 k → k < W.heap.size) :
    Calls Try.prog 12 #[v1, v2] W fun e w' => e = .returned (.bool true) ∧ Turn (fun k => blkG v1 us1 k ∨ blkG v2 us2 k) W w' := by
  go_enter Try.func12, Try.ntmps12
  go_wp2_with fail
  refine hf1.mono ?_
  rintro e W1 ⟨x1, rfl, a1, b1, t1⟩
  have g2 := hf2 W1 t1
  have H1 : Hid (AllM (fun k => blkG v1 us1 k ∨ W.heap.size ≤ k) ⟨#[111, 110, 101]⟩ W1 x1 ∧ AllM (fun k => blkG v1 us1 k ∨ W.heap.size ≤ k) ⟨#[111, 110, 101]⟩ W1 v1 ∧ Turn (blkG v1 us1) W W1) := ⟨a1, b1, t1⟩
  clear a1 b1 t1 hf1 hf2
  go_wp2_with fail
  refine g2.mono ?_
  rintro e W2 ⟨x2, rfl, a2, b2, t2⟩
  have hk : ∀ k, k < W1.heap.size → (blkG v1 us1 k ∨ W.heap.size ≤ k) → ¬ blkG v2 us2 k := fun k _ hp h2 => by
    rcases hp with h | h
    · exact hne k h h2
    · have := hlt k h2; omega
  have c1 := (H1.out.1.turn t2 hk).holds
  have c2 := a2.holds
  have c3 := (H1.out.2.1.turn t2 hk).holds
  have c4 := b2.holds
  have HT : Hid (Turn (fun k => blkG v1 us1 k ∨ blkG v2 us2 k) W W2) := (H1.out.2.2.mono (fun k _ h => .inl h)).then t2 (fun k _ h => .inr h)
  clear a2 b2 t2 g2 hk hne hlt H1
  go_wp2_with (first
    | (go_at_call 26; refine c1.mono ?_; rintro e w' ⟨rfl, hw'⟩; have hw2 := hw'.symm; subst hw2; clear c1)
    | (go_at_call 26; refine c2.mono ?_; rintro e w' ⟨rfl, hw'⟩; have hw2 := hw'.symm; subst hw2; clear c2)
    | (go_at_call 26; refine c3.mono ?_; rintro e w' ⟨rfl, hw'⟩; have hw2 := hw'.symm; subst hw2; clear c3)
    | (go_at_call 26; refine c4.mono ?_; rintro e w' ⟨rfl, hw'⟩; have hw2 := hw'.symm; subst hw2; clear c4))
  go_ret
  exact ⟨rfl, HT.out⟩
end Go.Proofs.Ytbbgembkdhcidaa
