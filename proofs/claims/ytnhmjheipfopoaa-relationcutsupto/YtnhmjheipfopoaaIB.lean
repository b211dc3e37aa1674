/- The plain part, on: what a search ends with; the keys that are there; gaps closed. -/
import Derived.Test.YtnhmjheipfopoaaIA
namespace Go.Proofs.Ytnhmjheipfopoaa

section
variable {κ ν : Type} {N n reach m s home r k : Nat} {came : List (Ent κ ν)} {places places' : List Nat} {f : Ent κ ν → Bool}

/-- What a search from home on for what f tells ends with. -/
structure Ends (N home : Nat) (came : List (Ent κ ν)) (places : List Nat) (f : Ent κ ν → Bool) (r : Nat) : Prop where
  lt : r < N
  past : ∀ q, q < N → dist N home q < dist N home r → ∃ t e, places[q]? = some (t + 1) ∧ came[t]? = some e ∧ f e = false
  stop : places[r]? = some 0 ∨ ∃ t e, places[r]? = some (t + 1) ∧ came[t]? = some e ∧ f e = true

/-- Whoever is told by f, and lies from home on, is where the search ends. -/
theorem Ends.found (hE : Ends N home came places f r) (h : Lies N came.length reach came places) (hh : home < N) {t : Nat} {e : Ent κ ν} (he : came[t]? = some e) (hth : e.there = true) (hf : f e = true) (hho : e.hash % N = home)
    (huniq : ∀ (t' : Nat) e', came[t']? = some e' → e'.there = true → f e' = true → t' = t) : r = e.place ∧ places[r]? = some (t + 1) := by
  have hlt : t < came.length := (List.getElem?_eq_some_iff.1 he).1
  have hp := h.here t e hlt he hth
  have hle : ¬ dist N home e.place < dist N home r := by
    intro hd
    obtain ⟨t', e', h1, h2, h3⟩ := hE.past _ hp.1 hd
    rw [hp.2] at h1; simp at h1; subst h1
    rw [he] at h2; simp at h2; subst h2
    rw [hf] at h3; cases h3
  have hge : ¬ dist N home r < dist N home e.place := by
    intro hd
    rw [← hho] at hd
    obtain ⟨t', h1, h2⟩ := h.first t e hlt he hth r hE.lt hd
    rcases hE.stop with hz | ⟨t'', e'', h3, h4, h5⟩
    · rw [hz] at h2; simp at h2
    · rw [h2] at h3; simp at h3; subst h3
      obtain ⟨_, e3, h6, h7, h8⟩ := h.back r t' h2
      rw [h4] at h6; simp at h6; subst h6
      have := huniq t' e'' h4 h7 h5
      omega
  have : r = e.place := dist_inj hh hE.lt hp.1 (by omega)
  exact ⟨this, by rw [this]; exact hp.2⟩

theorem Ends.none (hE : Ends N home came places f r) (h : Lies N came.length reach came places) (hno : ∀ (t : Nat) e, came[t]? = some e → e.there = true → f e = false) : Free N home places r := by
  refine ⟨hE.lt, ?_, ?_⟩
  · rcases hE.stop with hz | ⟨t, e, h1, h2, h3⟩
    · exact hz
    · obtain ⟨_, e', h4, h5, _⟩ := h.back r t h1
      rw [h2] at h4; simp at h4; subst h4
      rw [hno t e h2 h5] at h3; cases h3
  · intro q hq hd
    obtain ⟨t, _, h1, _⟩ := hE.past q hq hd
    exact ⟨t, h1⟩

/-- The keys that are there, in their order. -/
def live (came : List (Ent κ ν)) : List (Ent κ ν) := came.filter (·.there)
/-- The turn that a key has when the gaps are closed. -/
def rank (came : List (Ent κ ν)) (t : Nat) : Nat := (live (came.take t)).length

theorem live_append (a b : List (Ent κ ν)) : live (a ++ b) = live a ++ live b := by simp [live]
theorem take_snoc {α : Type} {l : List α} {t : Nat} {e : α} (h : l[t]? = some e) : l.take (t + 1) = l.take t ++ [e] := by
  obtain ⟨hl, rfl⟩ := List.getElem?_eq_some_iff.1 h
  exact List.take_succ_eq_append_getElem hl
theorem live_take {t : Nat} {e : Ent κ ν} (h : came[t]? = some e) : live (came.take (t + 1)) = if e.there = true then live (came.take t) ++ [e] else live (came.take t) := by
  rw [take_snoc h, live_append]
  split
  · rename_i h'; simp [live, h']
  · rename_i h'; simp [live, h']
theorem live_take_le (came : List (Ent κ ν)) (t : Nat) : (live (came.take t)).length ≤ t := by
  have h1 : (live (came.take t)).length ≤ (came.take t).length := List.length_filter_le _ _
  have h2 : (came.take t).length ≤ t := List.length_take_le _ _
  omega
theorem rank_mono (came : List (Ent κ ν)) {a b : Nat} (h : a ≤ b) : rank came a ≤ rank came b := by
  induction b with
  | zero => have : a = 0 := by omega
            subst this; exact Nat.le_refl _
  | succ b ih =>
    by_cases e : a = b + 1
    · subst e; exact Nat.le_refl _
    · refine Nat.le_trans (ih (by omega)) ?_
      unfold rank
      cases hb : came[b]? with
      | none =>
        have : came.length ≤ b := by simpa using hb
        rw [List.take_of_length_le this, List.take_of_length_le (by omega)]
        exact Nat.le_refl _
      | some x =>
        rw [live_take hb]
        split <;> simp
theorem rank_lt (came : List (Ent κ ν)) {a b : Nat} {e : Ent κ ν} (h : a < b) (he : came[a]? = some e) (hth : e.there = true) : rank came a < rank came b := by
  have h1 : rank came (a + 1) = rank came a + 1 := by unfold rank; rw [live_take he, if_pos hth]; simp
  have h2 := rank_mono came (show a + 1 ≤ b by omega)
  omega
theorem live_rank {t : Nat} {e : Ent κ ν} (he : came[t]? = some e) (hth : e.there = true) : (live came)[rank came t]? = some e := by
  have hl := (List.getElem?_eq_some_iff.1 he).1
  have h1 : live came = live (came.take (t + 1)) ++ live (came.drop (t + 1)) := by rw [← live_append, List.take_append_drop]
  rw [h1, live_take he, if_pos hth, List.append_assoc]
  unfold rank
  rw [List.getElem?_append_right (Nat.le_refl _)]
  simp
theorem rank_ex {k : Nat} {e : Ent κ ν} (h : (live came)[k]? = some e) : ∃ t, came[t]? = some e ∧ e.there = true ∧ rank came t = k := by
  induction came generalizing k with
  | nil => simp [live] at h
  | cons x r ih =>
    by_cases hx : x.there = true
    · have e1 : live (x :: r) = x :: live r := by simp [live, hx]
      rw [e1] at h
      cases k with
      | zero => simp at h; subst h; exact ⟨0, rfl, hx, by simp [rank, live]⟩
      | succ k =>
        simp at h
        obtain ⟨t, h1, h2, h3⟩ := ih h
        refine ⟨t + 1, by simpa using h1, h2, ?_⟩
        unfold rank at *
        have e2 : live ((x :: r).take (t + 1)) = x :: live (r.take t) := by simp [live, hx]
        rw [e2, List.length_cons, h3]
    · have e1 : live (x :: r) = live r := by simp [live, hx]
      rw [e1] at h
      obtain ⟨t, h1, h2, h3⟩ := ih h
      refine ⟨t + 1, by simpa using h1, h2, ?_⟩
      unfold rank at *
      have e2 : live ((x :: r).take (t + 1)) = live (r.take t) := by simp [live, hx]
      rw [e2, h3]
theorem live_there {k : Nat} {e : Ent κ ν} (h : (live came)[k]? = some e) : e.there = true := by
  obtain ⟨t, _, h2, _⟩ := rank_ex h; exact h2

/-- The places while gaps are being closed: those of the first k turns are renumbered. -/
structure Closes (came : List (Ent κ ν)) (places places' : List Nat) (k : Nat) : Prop where
  len : places'.length = places.length
  new : ∀ t e, t < k → came[t]? = some e → e.there = true → places'[e.place]? = some (rank came t + 1)
  old : ∀ p : Nat, (∀ t e, t < k → came[t]? = some e → e.there = true → e.place ≠ p) → places'[p]? = places[p]?
  none : ∀ p : Nat, places'[p]? = some 0 ↔ places[p]? = some 0
  zer : zeros places' = zeros places

theorem Closes.start (came : List (Ent κ ν)) (places : List Nat) : Closes came places places 0 :=
  ⟨rfl, fun _ _ h => by omega, fun _ _ => rfl, fun _ => Iff.rfl, rfl⟩
theorem Closes.skip (h : Closes came places places' k) (hn : ∀ e, came[k]? = some e → e.there = false) : Closes came places places' (k + 1) := by
  refine ⟨h.len, fun t e ht he hth => ?_, fun p hp => h.old p fun t e ht he hth => hp t e (by omega) he hth, h.none, h.zer⟩
  have : t ≠ k := fun e' => by subst e'; rw [hn e he] at hth; cases hth
  exact h.new t e (by omega) he hth
theorem Closes.step (h : Closes came places places' k) (hL : Lies N came.length reach came places) {e : Ent κ ν} (he : came[k]? = some e) (hth : e.there = true) :
    Closes came places (places'.set e.place (rank came k + 1)) (k + 1) := by
  have hk := (List.getElem?_eq_some_iff.1 he).1
  have hh := hL.here k e hk he hth
  have hlt : e.place < places'.length := by rw [h.len, hL.len]; exact hh.1
  have hat : places'[e.place]? = some (k + 1) := by
    rw [h.old e.place fun t e' ht he' hth' hp => ?_]
    · exact hh.2
    · have := hL.here t e' (by omega) he' hth'
      rw [hp, hh.2] at this; simp at this; omega
  refine ⟨by simp [h.len], ?_, ?_, ?_, ?_⟩
  · intro t e' ht he' hth'
    rw [getElem?_set_eq hlt]
    by_cases htk : t = k
    · subst htk; rw [he] at he'; simp at he'; subst he'; simp
    · rw [if_neg]
      · exact h.new t e' (by omega) he' hth'
      · intro hp
        have := hL.here t e' (by omega) he' hth'
        rw [← hp, hh.2] at this; simp at this; omega
  · intro p hp
    rw [getElem?_set_eq hlt, if_neg (hp k e (by omega) he hth)]
    exact h.old p fun t e' ht he' hth' => hp t e' (by omega) he' hth'
  · intro p
    rw [getElem?_set_eq hlt]
    split
    · rename_i e1; subst e1
      rw [hh.2]; simp
    · exact h.none p
  · rw [zeros_set_same hat (by omega) (by omega)]; exact h.zer

theorem Closes.done (h : Closes came places places' came.length) (hL : Lies N came.length reach came places) : Lies N (live came).length reach (live came) places' := by
  refine ⟨by rw [h.len, hL.len], ?_, ?_, ?_, ?_⟩
  · intro p k hp
    have hz : places[p]? ≠ some 0 := by intro h0; rw [(h.none p).2 h0] at hp; simp at hp
    have hl : p < places.length := by rw [← h.len]; exact (List.getElem?_eq_some_iff.1 hp).1
    obtain ⟨t, ht⟩ : ∃ t, places[p]? = some (t + 1) := by
      rw [List.getElem?_eq_getElem hl] at hz ⊢
      cases hv : places[p] with
      | zero => rw [hv] at hz; simp at hz
      | succ t => exact ⟨t, rfl⟩
    obtain ⟨h1, e, h2, h3, h4⟩ := hL.back p t ht
    have hn := h.new t e h1 h2 h3
    rw [h4, hp] at hn
    simp at hn; subst hn
    have := live_rank h2 h3
    exact ⟨(List.getElem?_eq_some_iff.1 this).1, e, this, h3, h4⟩
  · intro k e _ he hth
    obtain ⟨t, h1, h2, h3⟩ := rank_ex he
    have hlt := (List.getElem?_eq_some_iff.1 h1).1
    refine ⟨(hL.here t e hlt h1 h2).1, ?_⟩
    rw [h.new t e hlt h1 h2, h3]
  · intro k e _ he hth q hq hd
    obtain ⟨t, h1, h2, h3⟩ := rank_ex he
    have hlt := (List.getElem?_eq_some_iff.1 h1).1
    obtain ⟨t', h4, h5⟩ := hL.first t e hlt h1 h2 q hq hd
    obtain ⟨h6, e', h7, h8, h9⟩ := hL.back q t' h5
    refine ⟨rank came t', ?_, ?_⟩
    · rw [← h3]; exact rank_lt came h4 h7 h8
    · rw [← h9]; exact h.new t' e' h6 h7 h8
  · intro k e _ he hth
    obtain ⟨t, h1, h2, h3⟩ := rank_ex he
    exact hL.near t e (List.getElem?_eq_some_iff.1 h1).1 h1 h2
end
end Go.Proofs.Ytnhmjheipfopoaa
