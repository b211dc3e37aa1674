/- What a lookup holds, plainly: of each key the places of the tuples that have it. -/
import Derived.Test.YtnhmjheipfopoaaL4b
import Derived.Test.YtnhmjheipfopoaaIRl
namespace Go.Proofs.Ytnhmjheipfopoaa.L
open Go.RowKit Go.Maps Go.Proofs.Ytnhmjheipfopoaa

/-- The places of the tuples whose columns c are l. -/
def plc (c : Nat) (T : List (List Int)) (l : List Int) : List Nat := (List.range T.length).filter fun p => decide (cutL (T.getD p []) c = l)

theorem plc_snoc (c : Nat) (T : List (List Int)) (t l : List Int) : plc c (T ++ [t]) l = plc c T l ++ (if cutL t c = l then [T.length] else []) := by
  unfold plc
  rw [List.length_append, List.length_singleton, List.range_succ, List.filter_append]
  congr 1
  · apply List.filter_congr
    intro p hp
    rw [List.mem_range] at hp
    rw [List.getD_eq_getElem?_getD, List.getElem?_append_left hp, List.getD_eq_getElem?_getD]
  · by_cases h : cutL t c = l
    · simp [h]
    · simp [h]
theorem plc_nil (c : Nat) (l : List Int) : plc c [] l = [] := rfl
theorem plc_len (c : Nat) (T : List (List Int)) (l : List Int) : (plc c T l).length ≤ T.length := by
  have := List.length_filter_le (fun p => decide (cutL (T.getD p []) c = l)) (List.range T.length)
  simpa [plc] using this
theorem plc_mem {c : Nat} {T : List (List Int)} {l : List Int} {p : Nat} (h : p ∈ plc c T l) : p < T.length ∧ cutL (T.getD p []) c = l := by
  unfold plc at h
  rw [List.mem_filter, List.mem_range] at h
  exact ⟨h.1, by simpa using h.2⟩

/-- What stands by a key: one place, or the number of a list of them. -/
def Holds (ls : List (List Nat)) (v : Int) (ps : List Nat) : Prop := (∃ p : Nat, v = p ∧ ps = [p]) ∨ ∃ i : Nat, v = -1 - (i : Int) ∧ ls[i]? = some ps ∧ 2 ≤ ps.length

structure Cont (c : Nat) (T : List (List Int)) (came : List E) (ls : List (List Nat)) : Prop where
  there : ∀ (t : Nat) (e : E), came[t]? = some e → e.there = true
  val : ∀ (t : Nat) (e : E), came[t]? = some e → Holds ls e.val (plc c T e.key.l)
  all : ∀ l, plc c T l ≠ [] → ∃ (t : Nat) (e : E), came[t]? = some e ∧ e.key.l = l
  uniq : ∀ (t : Nat) (e : E) (t' : Nat) (e' : E), came[t]? = some e → came[t']? = some e' → e.key.l = e'.key.l → t = t'
  few : came.length ≤ T.length ∧ ls.length ≤ T.length

theorem Cont.empty (c : Nat) : Cont c [] [] [] := ⟨fun t e h => by simp at h, fun t e h => by simp at h, fun l h => absurd (plc_nil c l) h, fun t e t' e' h => by simp at h, Nat.le_refl _, Nat.le_refl _⟩

theorem Holds.ne {ls : List (List Nat)} {v : Int} {ps : List Nat} (h : Holds ls v ps) : ps ≠ [] := by
  rcases h with ⟨p, _, rfl⟩ | ⟨i, _, _, h2⟩
  · simp
  · rintro rfl; simp at h2

theorem Cont.sim {c : Nat} {T : List (List Int)} {came came' : List E} {ls : List (List Nat)} (h : Cont c T came ls) (hs : Sim came came') : Cont c T came' ls := by
  refine ⟨?_, ?_, ?_, ?_, ?_⟩
  · intro t e he
    obtain ⟨p, hp⟩ := hs.at he
    exact h.there t { e with place := p } hp
  · intro t e he
    obtain ⟨p, hp⟩ := hs.at he
    exact h.val t { e with place := p } hp
  · intro l hl
    obtain ⟨t, e, he, hk⟩ := h.all l hl
    obtain ⟨e', he'⟩ : ∃ e', came'[t]? = some e' := by
      have := (List.getElem?_eq_some_iff.1 he).1
      exact ⟨_, List.getElem?_eq_getElem (by rw [hs.len]; exact this)⟩
    obtain ⟨p, hp⟩ := hs.at he'
    rw [he] at hp
    simp only [Option.some.injEq] at hp
    exact ⟨t, e', he', by rw [← hk, hp]⟩
  · intro t e t' e' he he' hk
    obtain ⟨p, hp⟩ := hs.at he
    obtain ⟨p', hp'⟩ := hs.at he'
    exact h.uniq t _ t' _ hp hp' hk
  · rw [hs.len]; exact h.few

/-- The tuple is the first one with its key. -/
theorem Cont.first {c : Nat} {T : List (List Int)} {came : List E} {ls : List (List Nat)} (h : Cont c T came ls) {t : List Int} {k : LK} (hk : k.l = cutL t c) (hno : plc c T k.l = []) (hh : Nat) :
    Cont c (T ++ [t]) (came ++ [ent k T.length hh 0]) ls := by
  have hcg : ∀ (i : Nat) (e : E), (came ++ [ent k T.length hh 0])[i]? = some e → came[i]? = some e ∨ (i = came.length ∧ e = ent k T.length hh 0) := by
    intro i e he
    by_cases hi : i < came.length
    · rw [List.getElem?_append_left hi] at he; exact .inl he
    · have hl := (List.getElem?_eq_some_iff.1 he).1
      rw [List.length_append, List.length_singleton] at hl
      obtain rfl : i = came.length := by omega
      simp at he
      exact .inr ⟨rfl, he.symm⟩
  have hold : ∀ (i : Nat) (e : E), came[i]? = some e → e.key.l ≠ k.l := by
    intro i e he heq
    exact (h.val i e he).ne (by rw [heq]; exact hno)
  refine ⟨?_, ?_, ?_, ?_, ?_⟩
  · intro i e he
    rcases hcg i e he with h1 | ⟨_, rfl⟩
    · exact h.there i e h1
    · rfl
  · intro i e he
    rcases hcg i e he with h1 | ⟨_, rfl⟩
    · rw [plc_snoc, if_neg (fun x => hold i e h1 (by rw [hk]; exact x.symm)), List.append_nil]
      exact h.val i e h1
    · rw [plc_snoc]
      show Holds ls (T.length : Int) (plc c T k.l ++ if cutL t c = k.l then [T.length] else [])
      rw [hno, if_pos hk.symm]
      exact .inl ⟨T.length, rfl, rfl⟩
  · intro l hl
    rw [plc_snoc] at hl
    by_cases he : cutL t c = l
    · exact ⟨came.length, ent k T.length hh 0, by simp, by show k.l = l; rw [hk, he]⟩
    · rw [if_neg he, List.append_nil] at hl
      obtain ⟨i, e, h1, h2⟩ := h.all l hl
      exact ⟨i, e, by rw [List.getElem?_append_left (List.getElem?_eq_some_iff.1 h1).1]; exact h1, h2⟩
  · intro i e i' e' he he' hkk
    rcases hcg i e he with h1 | ⟨rfl, rfl⟩
    · rcases hcg i' e' he' with h2 | ⟨rfl, rfl⟩
      · exact h.uniq i e i' e' h1 h2 hkk
      · exact absurd hkk (hold i e h1)
    · rcases hcg i' e' he' with h2 | ⟨rfl, rfl⟩
      · exact absurd hkk.symm (hold i' e' h2)
      · rfl
  · simp; have := h.few; omega

/-- The tuple is the second one with its key. -/
theorem Cont.second {c : Nat} {T : List (List Int)} {came : List E} {ls : List (List Nat)} (h : Cont c T came ls) {t : List Int} {i : Nat} {e : E} (he : came[i]? = some e) (hk : e.key.l = cutL t c) {p : Nat} (hv : e.val = p) :
    Cont c (T ++ [t]) (came.set i { e with val := -((ls.length : Int) + 1) }) (ls ++ [[p, T.length]]) := by
  have hl := (List.getElem?_eq_some_iff.1 he).1
  have hps : plc c T e.key.l = [p] := by
    rcases h.val i e he with ⟨q, h1, h2⟩ | ⟨j, h1, _⟩
    · rw [h2]; have : q = p := by omega
      rw [this]
    · omega
  have hcg : ∀ (j : Nat) (x : E), (came.set i { e with val := -((ls.length : Int) + 1) })[j]? = some x → (j ≠ i ∧ came[j]? = some x) ∨ (j = i ∧ x = { e with val := -((ls.length : Int) + 1) }) := by
    intro j x hx
    by_cases hj : j = i
    · subst hj; rw [List.getElem?_set_self hl] at hx; exact .inr ⟨rfl, (Option.some.inj hx).symm⟩
    · rw [List.getElem?_set_ne (Ne.symm hj)] at hx; exact .inl ⟨hj, hx⟩
  refine ⟨?_, ?_, ?_, ?_, ?_⟩
  · intro j x hx
    rcases hcg j x hx with ⟨_, h1⟩ | ⟨_, rfl⟩
    · exact h.there j x h1
    · exact h.there i e he
  · intro j x hx
    rcases hcg j x hx with ⟨hj, h1⟩ | ⟨_, rfl⟩
    · rw [plc_snoc, if_neg (fun y => hj (h.uniq j x i e h1 he (by rw [hk]; exact y.symm))), List.append_nil]
      rcases h.val j x h1 with hA | ⟨q, h2, h3, h4⟩
      · exact .inl hA
      · exact .inr ⟨q, h2, by rw [List.getElem?_append_left (List.getElem?_eq_some_iff.1 h3).1]; exact h3, h4⟩
    · refine .inr ⟨ls.length, by show -((ls.length : Int) + 1) = _; omega, ?_, ?_⟩
      · rw [plc_snoc]
        show (ls ++ [[p, T.length]])[ls.length]? = some (plc c T e.key.l ++ if cutL t c = e.key.l then [T.length] else [])
        rw [hps, if_pos hk.symm]; simp
      · rw [plc_snoc]
        show 2 ≤ (plc c T e.key.l ++ if cutL t c = e.key.l then [T.length] else []).length
        rw [hps, if_pos hk.symm]; simp
  · intro l hl'
    have hex : ∃ (j : Nat) (x : E), came[j]? = some x ∧ x.key.l = l := by
      rw [plc_snoc] at hl'
      by_cases hq : cutL t c = l
      · exact ⟨i, e, he, by rw [hk, hq]⟩
      · rw [if_neg hq, List.append_nil] at hl'
        exact h.all l hl'
    obtain ⟨j, x, h1, h2⟩ := hex
    by_cases hj : j = i
    · subst hj
      rw [he] at h1
      obtain rfl := Option.some.inj h1
      exact ⟨j, _, List.getElem?_set_self hl, h2⟩
    · exact ⟨j, x, by rw [List.getElem?_set_ne (Ne.symm hj)]; exact h1, h2⟩
  · intro j x j' x' hx hx' hkk
    rcases hcg j x hx with ⟨hj, h1⟩ | ⟨rfl, rfl⟩
    · rcases hcg j' x' hx' with ⟨hj', h2⟩ | ⟨rfl, rfl⟩
      · exact h.uniq j x j' x' h1 h2 hkk
      · exact h.uniq j x j' e h1 he hkk
    · rcases hcg j' x' hx' with ⟨hj', h2⟩ | ⟨rfl, rfl⟩
      · exact h.uniq j e j' x' he h2 hkk
      · rfl
  · simp; have := h.few; omega

/-- The tuple's key has two or more already. -/
theorem Cont.more {c : Nat} {T : List (List Int)} {came : List E} {ls : List (List Nat)} (h : Cont c T came ls) {t : List Int} {i : Nat} {e : E} (he : came[i]? = some e) (hk : e.key.l = cutL t c) {j : Nat} (hv : e.val = -1 - (j : Int)) :
    ∃ ps, ls[j]? = some ps ∧ ps = plc c T e.key.l ∧ Cont c (T ++ [t]) came (ls.set j (ps ++ [T.length])) := by
  obtain ⟨hj, h2⟩ : ls[j]? = some (plc c T e.key.l) ∧ 2 ≤ (plc c T e.key.l).length := by
    rcases h.val i e he with ⟨q, h1, _⟩ | ⟨q, h1, h2, h3⟩
    · omega
    · have : q = j := by omega
      exact this ▸ ⟨h2, h3⟩
  have hjl := (List.getElem?_eq_some_iff.1 hj).1
  refine ⟨_, hj, rfl, h.there, ?_, ?_, h.uniq, ?_⟩
  · intro i' x hx
    by_cases hq : cutL t c = x.key.l
    · obtain rfl := h.uniq i e i' x he hx (by rw [hk, hq])
      rw [he] at hx
      obtain rfl := Option.some.inj hx
      refine .inr ⟨j, hv, ?_, ?_⟩
      · rw [plc_snoc, if_pos hq, List.getElem?_set_self hjl]
      · rw [plc_snoc, if_pos hq]; simp; omega
    · rw [plc_snoc, if_neg hq, List.append_nil]
      rcases h.val i' x hx with hA | ⟨q, h3, h4, h5⟩
      · exact .inl hA
      · refine .inr ⟨q, h3, ?_, h5⟩
        rw [List.getElem?_set_ne]
        · exact h4
        · rintro rfl
          rw [hj] at h4
          have h6 := Option.some.inj h4
          obtain ⟨p, hp⟩ : ∃ p, p ∈ plc c T e.key.l := by
            cases hq2 : plc c T e.key.l with
            | nil => rw [hq2] at h2; simp at h2
            | cons p r => exact ⟨p, by simp⟩
          have ha := (plc_mem hp).2
          have hb := (plc_mem (h6 ▸ hp)).2
          exact hq (by rw [← hk, ← ha, hb])
  · intro l hl
    rw [plc_snoc] at hl
    by_cases hq : cutL t c = l
    · exact ⟨i, e, he, by rw [hk, hq]⟩
    · rw [if_neg hq, List.append_nil] at hl
      exact h.all l hl
  · simp; have := h.few; omega

/-- What the places of a key are, by what stands by it. -/
theorem Cont.none_iff {c : Nat} {T : List (List Int)} {came : List E} {ls : List (List Nat)} (h : Cont c T came ls) (l : List Int) : plc c T l = [] ↔ ∀ (t : Nat) (e : E), came[t]? = some e → e.key.l ≠ l := by
  constructor
  · intro h0 t e he hk
    exact (h.val t e he).ne (by rw [hk]; exact h0)
  · intro h0
    apply Classical.byContradiction
    intro hne
    obtain ⟨t, e, he, hk⟩ := h.all l hne
    exact h0 t e he hk
end Go.Proofs.Ytnhmjheipfopoaa.L
