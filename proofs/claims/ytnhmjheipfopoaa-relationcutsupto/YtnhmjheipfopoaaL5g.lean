/- A relation with one lookup more, plainly; what holds between two rounds of lookup's loop. -/
import Derived.Test.YtnhmjheipfopoaaL5e
namespace Go.Proofs.Ytnhmjheipfopoaa.L
open Go.RowKit Go.Maps Go.Shelf Go.Proofs.Ytnhmjheipfopoaa

section
variable {W W' : World} {F : Nat → Prop} {rb ar : Nat} {T : List (List Int)} {vv : Value} {mb : Nat} {L : List (Nat × Nat)} {Fs : Nat → Nat → Prop}

theorem LkS.self {F : Nat → Prop} {xb c : Nat} {T : List (List Int)} (h : LkS W F xb c T) : F xb := by
  obtain ⟨tb, fp, cv, pb, N, len, reach, came, places, lv, vs, ls, kd, h⟩ := h
  exact h.own.1
theorem LkS.lt {F : Nat → Prop} {xb c : Nat} {T : List (List Int)} (h : LkS W F xb c T) : ∀ k, F k → k < W.heap.size := by
  obtain ⟨tb, fp, cv, pb, N, len, reach, came, places, lv, vs, ls, kd, h⟩ := h
  exact h.lt

theorem Rl.below (h : Rl W F rb ar T vv mb L Fs) {c x : Nat} (hx : lkp L c = some x) : ∀ k, Fs x k → k < W.heap.size := fun k hk => h.lt _ (h.foot.2.2.2 c x hx k hk)

/-- One lookup more. -/
theorem Rl.added (h : Rl W F rb ar T vv mb L Fs) {S : Nat → Prop} (ht : Turn S W W') (hS : ∀ k, k < W.heap.size → S k → k = mb) {c xb : Nat} {Fx : Nat → Prop} (hM : LkM W' mb (L ++ [(c, xb)])) (hL : LkS W' Fx xb c T) (hFx : ∀ k, Fx k → W.heap.size ≤ k) (hc : c < 2 ^ ar) (hno : lkp L c = none) :
    Rl W' (fun k => F k ∨ Fx k) rb ar T vv mb (L ++ [(c, xb)]) (fun y => if y = xb then Fx else Fs y) := by
  have hxb : W.heap.size ≤ xb := hFx _ hL.self
  have hold : ∀ d y, lkp L d = some y → y ≠ xb := fun d y hy => by
    have := h.below hy y (h.looks d y hy).self
    omega
  have hcase : ∀ d y, lkp (L ++ [(c, xb)]) d = some y → (lkp L d = some y ∧ y ≠ xb) ∨ (d = c ∧ y = xb) := by
    intro d y hy
    rw [lkp_snoc] at hy
    cases hl : lkp L d with
    | some z =>
      rw [hl] at hy
      simp at hy
      subst hy
      exact .inl ⟨rfl, hold d z hl⟩
    | none =>
      rw [hl] at hy
      simp at hy
      exact .inr ⟨hy.1.symm, hy.2.symm⟩
  have hFs : ∀ d y, lkp L d = some y → (if y = xb then Fx else Fs y) = Fs y := fun d y hy => by simp [hold d y hy]
  have hFx' : (if xb = xb then Fx else Fs xb) = Fx := by simp
  have hno2 : ∀ k, F k → k ≠ mb → ¬ S k := fun k hk hn hs => hn (hS k (h.lt k hk) hs)
  have hlk := hL.lt
  refine ⟨ht.heap h.box (hno2 _ h.foot.1 h.mine.1), ownI_turn h.vals ht (fun k hk => hno2 _ (h.foot.2.2.1 k hk) (h.mine.2.1 k hk).2), h.rows, h.arle, h.nodup, hM, ?_, ?_, ?_, ?_, ?_, ?_, ?_⟩
  · intro p hp
    rcases List.mem_append.1 hp with hp | hp
    · exact h.small p hp
    · rw [List.mem_singleton.1 hp]; exact hc
  · rw [List.map_append, List.map_singleton]
    refine List.nodup_append.2 ⟨h.nodupL, List.nodup_cons.2 ⟨by simp, List.nodup_nil⟩, fun a ha b hb hab => ?_⟩
    rw [List.mem_singleton] at hb
    subst hb
    subst hab
    obtain ⟨p, hp, hpa⟩ := List.mem_map.1 ha
    have : ∀ (M : List (Nat × Nat)), p ∈ M → lkp M a ≠ none := by
      intro M hM
      induction M with
      | nil => simp at hM
      | cons q M ih =>
        rw [lkp]
        by_cases e : q.1 = a
        · simp [e]
        · rw [if_neg e]
          rcases List.mem_cons.1 hM with rfl | hM
          · exact absurd hpa e
          · exact ih hM
    exact this L hp hno
  · intro d y hy
    rcases hcase d y hy with ⟨h1, hne⟩ | ⟨rfl, rfl⟩
    · rw [hFs d y h1]
      exact (h.looks d y h1).turn ht (fun k hk => hno2 k (h.foot.2.2.2 d y h1 k hk) (h.mine.2.2 d y h1 k hk).2.1)
    · rw [hFx']; exact hL
  · intro d y d' y' hy hy' hne k hk
    rcases hcase d y hy with ⟨h1, _⟩ | ⟨rfl, rfl⟩
    · rw [hFs d y h1] at hk
      rcases hcase d' y' hy' with ⟨h2, _⟩ | ⟨rfl, rfl⟩
      · rw [hFs d' y' h2]; exact h.apart d y d' y' h1 h2 hne k hk
      · rw [hFx']
        intro hk2
        have := h.below h1 k hk
        have := hFx k hk2
        omega
    · rw [hFx'] at hk
      rcases hcase d' y' hy' with ⟨h2, _⟩ | ⟨rfl, rfl⟩
      · rw [hFs d' y' h2]
        intro hk2
        have := h.below h2 k hk2
        have := hFx k hk
        omega
      · exact absurd rfl hne
  · refine ⟨h.mine.1, h.mine.2.1, fun d y hy k hk => ?_⟩
    rcases hcase d y hy with ⟨h1, _⟩ | ⟨rfl, rfl⟩
    · rw [hFs d y h1] at hk; exact h.mine.2.2 d y h1 k hk
    · rw [hFx'] at hk
      have hk1 := hFx k hk
      have h1 := h.lt _ h.foot.1
      have h2 := h.lt _ h.foot.2.1
      exact ⟨by omega, by omega, fun e => by have := h.lt _ (h.foot.2.2.1 k e); omega⟩
  · refine ⟨.inl h.foot.1, .inl h.foot.2.1, fun k hk => .inl (h.foot.2.2.1 k hk), fun d y hy k hk => ?_⟩
    rcases hcase d y hy with ⟨h1, _⟩ | ⟨rfl, rfl⟩
    · rw [hFs d y h1] at hk; exact .inl (h.foot.2.2.2 d y h1 k hk)
    · rw [hFx'] at hk
      exact .inr hk
  · rintro k (hk | hk)
    · have := h.lt k hk; have := ht.size; omega
    · exact hlk k hk

theorem nodup_len : ∀ (N : Nat) (l : List Nat), l.Nodup → (∀ x ∈ l, x < N) → l.length ≤ N
  | 0, l, _, h => by
    cases l with
    | nil => simp
    | cons x l => exact absurd (h x (List.mem_cons_self ..)) (by omega)
  | N + 1, l, hn, h => by
    have h1 := nodup_len N (l.filter (· ≠ N)) (hn.filter _) (fun x hx => by
      have h2 := List.mem_filter.1 hx
      have h3 := h x h2.1
      have h4 : x ≠ N := by simpa using h2.2
      omega)
    have h5 : l.length ≤ (l.filter (· ≠ N)).length + 1 := by
      clear h1 h
      induction l with
      | nil => simp
      | cons x l ih =>
        obtain ⟨k1, k2⟩ := List.nodup_cons.1 hn
        by_cases e : x = N
        · subst e
          have : l.filter (· ≠ x) = l := by
            rw [List.filter_eq_self]
            intro y hy
            have : y ≠ x := fun q => k1 (q ▸ hy)
            simpa using this
          rw [List.filter_cons_of_neg (by simp), this]
          simp
        · rw [List.filter_cons_of_pos (by simpa using e), List.length_cons, List.length_cons]
          have := ih k2
          omega
    omega
theorem Rl.fewL (h : Rl W F rb ar T vv mb L Fs) : L.length ≤ 65536 := by
  have h1 := nodup_len 65536 (L.map (·.1)) h.nodupL (fun x hx => by
    obtain ⟨p, hp, rfl⟩ := List.mem_map.1 hx
    exact pow_ar (h.small p hp) h.arle)
  simpa using h1

/-- Where the blocks of the lookup under way may lie. -/
def Own3 (lo mid hi k : Nat) : Prop := (lo ≤ k ∧ k < mid) ∨ hi ≤ k
/-- Between two rounds of lookup's loop. -/
def LI (V : World) (lo mid xb c : Nat) (T : List (List Int)) (k : Nat) (Y : World) : Prop :=
  ∃ F', LkS Y F' xb c (T.take k) ∧ (∀ i, F' i → Own3 lo mid V.heap.size i) ∧ (∀ i, F' i → Cells Y i) ∧ Turn (Own3 lo mid V.heap.size) V Y

theorem LI.bel {V : World} {lo mid xb c k : Nat} {Y Y' : World} (h : LI V lo mid xb c T k Y) (hb : Bel AnyT V.heap.size Y Y') : LI V lo mid xb c T k Y' := by
  obtain ⟨F', h1, h2, h3, h4⟩ := h
  obtain ⟨k1, k2⟩ := h1.bel h3 hb
  exact ⟨F', k1, h2, k2, h4.trans ((Turn.of_below hb.1).mono (fun i _ hi => .inr hi))⟩

/-- A round of the loop. -/
theorem LI.next {V : World} {lo mid xb c k : Nat} {X Y Z : World} {F' : Nat → Prop} (hX : ∀ i, F' i → Own3 lo mid V.heap.size i) (hc : ∀ i, F' i → Cells X i) (hV : Turn (Own3 lo mid V.heap.size) V X) (hXY : Stay X Y) (hL : LkS Z (Grow F' Y.heap.size Z) xb c (T.take (k + 1))) (ht : Turn F' Y Z) :
    LI V lo mid xb c T (k + 1) Z ∧ Go.Proofs.Ytnhmjheipfopoaa.Holds (fun i => False ∨ Fr AnyT V.heap.size X i) X Z ∧ X.heap.size ≤ Z.heap.size := by
  obtain ⟨F2, k1, k2, k3⟩ := hL.shrink
  refine ⟨⟨F2, k1, fun i hi => ?_, k3, (hV.then (Turn.of_stay (S := F') hXY) (fun i _ hi => hX i hi)).then ht (fun i _ hi => hX i hi)⟩, ?_, Nat.le_trans hXY.size ht.size⟩
  · rcases k2 i hi with h1 | h1
    · exact hX i h1
    · exact .inr (Nat.le_trans hV.size (Nat.le_trans hXY.size h1.1))
  · rintro i (hi | hi)
    · exact hi.elim
    · refine (ht.block i (Nat.lt_of_lt_of_le hi.2.1 hXY.size) (fun hf => ?_)).trans (hXY.block i hi.2.1)
      obtain ⟨cs, t, f, hh⟩ := hc i hf
      exact hi.2.2 ⟨cs, t, f, hh, trivial⟩
end
end Go.Proofs.Ytnhmjheipfopoaa.L
