/- The plain part of the table with open addressing: places on a circle, what a layout is, and what each change keeps of it; no Go text here. The plain part, on: what a search ends with; the keys that are there; gaps closed. Blocks that turn and stay; the circle of places as the masks reckon it. -/
import Derived.Test.YtnhmjheipfopoaaA
import Derived.Laws.BitsLemmas
import Derived.Laws.BitsAllLaws
import Derived.Laws.AppendOwn
import Derived.ScopeJumps
import Derived.WalkMore
namespace Go.Proofs.Ytnhmjheipfopoaa

/-- How many steps lead upward from a to b on a circle of N places. -/
def dist (N a b : Nat) : Nat := if a ≤ b then b - a else b + N - a
theorem dist_spec {N a b : Nat} (ha : a < N) (hb : b < N) : dist N a b < N ∧ (a + dist N a b = b ∨ a + dist N a b = b + N) := by
  unfold dist; split <;> omega
theorem dist_self (N a : Nat) : dist N a a = 0 := by simp [dist]
def nx (N p : Nat) : Nat := if p + 1 = N then 0 else p + 1
theorem nx_spec {N p : Nat} (h : p < N) : nx N p < N ∧ (nx N p = p + 1 ∨ nx N p + N = p + 1) := by
  unfold nx; split <;> omega
theorem dist_zero {N a b : Nat} (ha : a < N) (hb : b < N) (h : dist N a b = 0) : a = b := by
  have := dist_spec ha hb; omega
theorem dist_nx {N a b : Nat} (ha : a < N) (hb : b < N) (h : a ≠ b) : dist N a b = dist N (nx N a) b + 1 := by
  have h1 := dist_spec ha hb
  have h2 := nx_spec ha
  have h3 := dist_spec h2.1 hb
  omega
/-- Behind s, seen from h, as long as a place z lies ahead that is not s. -/
theorem dist_step {N h s z : Nat} (hh : h < N) (hs : s < N) (hz : z < N) (hle : dist N h s < dist N h z) : dist N h (nx N s) = dist N h s + 1 := by
  have h1 := dist_spec hh hs
  have h2 := dist_spec hh hz
  have h3 := nx_spec hs
  have h4 := dist_spec hh h3.1
  omega
theorem dist_inj {N h a b : Nat} (hh : h < N) (ha : a < N) (hb : b < N) (e : dist N h a = dist N h b) : a = b := by
  have h1 := dist_spec hh ha
  have h2 := dist_spec hh hb
  omega

/-- What a list of places counts. -/
def zeros (l : List Nat) : Nat := l.countP (· == 0)
theorem zeros_set_pos {l : List Nat} {p v : Nat} (h : l[p]? = some 0) (hv : v ≠ 0) : zeros (l.set p v) + 1 = zeros l := by
  induction l generalizing p with
  | nil => simp at h
  | cons x r ih =>
    cases p with
    | zero => simp at h; subst h; simp [zeros, List.set, hv]
    | succ p =>
      simp at h
      have := ih h
      simp only [zeros, List.set, List.countP_cons] at *
      omega
theorem zeros_set_zero {l : List Nat} {p v : Nat} (h : l[p]? = some v) (hv : v ≠ 0) : zeros (l.set p 0) = zeros l + 1 := by
  induction l generalizing p with
  | nil => simp at h
  | cons x r ih =>
    cases p with
    | zero => simp at h; subst h; simp [zeros, List.set, hv]
    | succ p =>
      simp at h
      have := ih h
      simp only [zeros, List.set, List.countP_cons] at *
      omega
theorem zeros_set_same {l : List Nat} {p v u : Nat} (h : l[p]? = some v) (hv : v ≠ 0) (hu : u ≠ 0) : zeros (l.set p u) = zeros l := by
  induction l generalizing p with
  | nil => simp at h
  | cons x r ih =>
    cases p with
    | zero => simp at h; subst h; simp [zeros, List.set, hv, hu]
    | succ p =>
      simp at h
      have := ih h
      simp only [zeros, List.set, List.countP_cons] at *
      omega
theorem zeros_ex {l : List Nat} (h : 0 < zeros l) : ∃ p, p < l.length ∧ l[p]? = some 0 := by
  unfold zeros at h
  rw [List.countP_pos_iff] at h
  obtain ⟨a, ha, e⟩ := h
  obtain ⟨p, hp, hpe⟩ := List.getElem_of_mem ha
  refine ⟨p, hp, ?_⟩
  have e' : a = 0 := by simpa using e
  rw [List.getElem?_eq_getElem hp, hpe, e']
theorem zeros_le (l : List Nat) : zeros l ≤ l.length := List.countP_le_length

/-- A key with its value, its hash, where it lies, and whether it is there. -/
structure Ent (κ ν : Type) where
  key : κ
  val : ν
  hash : Nat
  place : Nat
  there : Bool

section
variable {κ ν : Type}

/-- The first n keys are laid, by their turns, each in the first place from its home on that no earlier one has. -/
structure Lies (N n reach : Nat) (came : List (Ent κ ν)) (places : List Nat) : Prop where
  len : places.length = N
  back : ∀ p t, places[p]? = some (t + 1) → t < n ∧ ∃ e, came[t]? = some e ∧ e.there = true ∧ e.place = p
  here : ∀ t e, t < n → came[t]? = some e → e.there = true → e.place < N ∧ places[e.place]? = some (t + 1)
  first : ∀ t e, t < n → came[t]? = some e → e.there = true → ∀ q, q < N → dist N (e.hash % N) q < dist N (e.hash % N) e.place → ∃ t', t' < t ∧ places[q]? = some (t' + 1)
  near : ∀ t e, t < n → came[t]? = some e → e.there = true → dist N (e.hash % N) e.place ≤ reach

variable {N n reach m s : Nat} {came : List (Ent κ ν)} {places : List Nat}

theorem Lies.empty (N : Nat) (came : List (Ent κ ν)) : Lies N 0 0 came (List.replicate N 0) := by
  refine ⟨by simp, ?_, ?_, ?_, ?_⟩
  · intro p t h
    rw [List.getElem?_replicate] at h
    split at h <;> simp at h
  all_goals (intro t e h; omega)

theorem Lies.skip (h : Lies N n reach came places) (hn : ∀ e, came[n]? = some e → e.there = false) : Lies N (n + 1) reach came places := by
  refine ⟨h.len, fun p t hp => ?_, fun t e ht he hth => ?_, fun t e ht he hth => ?_, fun t e ht he hth => ?_⟩
  · have := h.back p t hp; exact ⟨by omega, this.2⟩
  all_goals
    have : t ≠ n := fun e' => by subst e'; rw [hn e he] at hth; cases hth
  · exact h.here t e (by omega) he hth
  · exact h.first t e (by omega) he hth
  · exact h.near t e (by omega) he hth

/-- What a search for an empty place, or for a key, ends with. -/
def Free (N home : Nat) (places : List Nat) (r : Nat) : Prop := r < N ∧ places[r]? = some 0 ∧ ∀ q, q < N → dist N home q < dist N home r → ∃ t, places[q]? = some (t + 1)

theorem getElem?_set_eq {l : List Nat} {p v : Nat} (h : p < l.length) (q : Nat) : (l.set p v)[q]? = if p = q then some v else l[q]? := by
  rw [List.getElem?_set]
  split
  · rename_i e; subst e; simp
  · rfl

/-- The key of turn n is laid. -/
theorem Lies.lay (h : Lies N n reach came places) {e : Ent κ ν} (he : came[n]? = some e) (hth : e.there = true) {r : Nat} (hr : Free N (e.hash % N) places r) :
    Lies N (n + 1) (max reach (dist N (e.hash % N) r)) (came.set n { e with place := r }) (places.set r (n + 1)) := by
  obtain ⟨hrN, hr0, hrf⟩ := hr
  have hlt : n < came.length := (List.getElem?_eq_some_iff.1 he).1
  have hcg : ∀ t e', (came.set n { e with place := r })[t]? = some e' → (t = n ∧ e' = { e with place := r }) ∨ (t ≠ n ∧ came[t]? = some e') := by
    intro t e' h'
    by_cases ht : t = n
    · subst ht; rw [List.getElem?_set_self hlt] at h'; exact .inl ⟨rfl, by simpa [eq_comm] using h'⟩
    · rw [List.getElem?_set_ne (Ne.symm ht)] at h'; exact .inr ⟨ht, h'⟩
  have hpl : r < places.length := by rw [h.len]; exact hrN
  refine ⟨by simp [h.len], ?_, ?_, ?_, ?_⟩
  · intro p t hp
    rw [getElem?_set_eq hpl] at hp
    split at hp
    · rename_i e'; subst e'
      have ht : t = n := by simp at hp; omega
      subst ht
      exact ⟨by omega, _, List.getElem?_set_self hlt, hth, rfl⟩
    · have := h.back p t hp
      refine ⟨by omega, ?_⟩
      rw [List.getElem?_set_ne (by omega)]
      exact this.2
  · intro t e' ht he' hth'
    rw [getElem?_set_eq hpl]
    rcases hcg t e' he' with ⟨rfl, rfl⟩ | ⟨hne, he''⟩
    · exact ⟨hrN, by simp⟩
    · have := h.here t e' (by omega) he'' hth'
      refine ⟨this.1, ?_⟩
      rw [if_neg (fun e1 => by rw [← e1, hr0] at this; simp at this)]
      exact this.2
  · intro t e' ht he' hth' q hq hd
    rw [getElem?_set_eq hpl]
    rcases hcg t e' he' with ⟨rfl, rfl⟩ | ⟨hne, he''⟩
    · obtain ⟨t', ht'⟩ := hrf q hq hd
      rw [if_neg (fun e1 => by rw [← e1, hr0] at ht'; simp at ht')]
      exact ⟨t', (h.back q t' ht').1, ht'⟩
    · obtain ⟨t', h1, h2⟩ := h.first t e' (by omega) he'' hth' q hq hd
      rw [if_neg (fun e1 => by rw [← e1, hr0] at h2; simp at h2)]
      exact ⟨t', h1, h2⟩
  · intro t e' ht he' hth'
    rcases hcg t e' he' with ⟨rfl, rfl⟩ | ⟨hne, he''⟩
    · exact Nat.le_max_right _ _
    · have := h.near t e' (by omega) he'' hth'
      omega

/-- While a hole at m is being mended: all lie but x, which is gone; a place that is passed is that of an earlier one, or the hole. -/
structure Mends (N n reach : Nat) (came : List (Ent κ ν)) (places : List Nat) (m : Nat) : Prop where
  len : places.length = N
  hole : m < N
  back : ∀ p t, p ≠ m → places[p]? = some (t + 1) → t < n ∧ ∃ e, came[t]? = some e ∧ e.there = true ∧ e.place = p
  here : ∀ t e, t < n → came[t]? = some e → e.there = true → e.place < N ∧ e.place ≠ m ∧ places[e.place]? = some (t + 1)
  first : ∀ t e, t < n → came[t]? = some e → e.there = true → ∀ q, q < N → q ≠ m → dist N (e.hash % N) q < dist N (e.hash % N) e.place → ∃ t', t' < t ∧ places[q]? = some (t' + 1)
  near : ∀ t e, t < n → came[t]? = some e → e.there = true → dist N (e.hash % N) e.place ≤ reach
  full : ∃ v, places[m]? = some (v + 1)

/-- The key of turn x is gone: a hole is where it lay. -/
theorem Lies.gone (h : Lies N n reach came places) {x : Nat} {e g : Ent κ ν} (hx : x < n) (he : came[x]? = some e) (hth : e.there = true) (hg : g.there = false) :
    Mends N n reach (came.set x g) places e.place := by
  have hlt : x < came.length := (List.getElem?_eq_some_iff.1 he).1
  have hh := h.here x e hx he hth
  have hcg : ∀ t e', (came.set x g)[t]? = some e' → e'.there = true → t ≠ x ∧ came[t]? = some e' := by
    intro t e' h' ht'
    by_cases ht : t = x
    · subst ht; rw [List.getElem?_set_self hlt] at h'
      simp only [Option.some.injEq] at h'; subst h'; rw [hg] at ht'; cases ht'
    · rw [List.getElem?_set_ne (Ne.symm ht)] at h'; exact ⟨ht, h'⟩
  have hne : ∀ t e', t ≠ x → t < n → came[t]? = some e' → e'.there = true → e'.place ≠ e.place := by
    intro t e' ht htn he' hth' hp
    have := h.here t e' htn he' hth'
    rw [hp, hh.2] at this
    simp at this; omega
  refine ⟨h.len, hh.1, ?_, ?_, ?_, ?_, ⟨_, hh.2⟩⟩
  · intro p t hp hpt
    obtain ⟨h1, e', h2, h3, h4⟩ := h.back p t hpt
    refine ⟨h1, e', ?_, h3, h4⟩
    rw [List.getElem?_set_ne]
    · exact h2
    · rintro rfl
      rw [he] at h2; simp at h2; subst h2; exact hp h4.symm
  · intro t e' htn he' hth'
    obtain ⟨h1, h2⟩ := hcg t e' he' hth'
    have := h.here t e' htn h2 hth'
    exact ⟨this.1, hne t e' h1 htn h2 hth', this.2⟩
  · intro t e' htn he' hth' q hq _ hd
    obtain ⟨h1, h2⟩ := hcg t e' he' hth'
    exact h.first t e' htn h2 hth' q hq hd
  · intro t e' htn he' hth'
    obtain ⟨h1, h2⟩ := hcg t e' he' hth'
    exact h.near t e' htn h2 hth'

/-- Those that lie between the hole and s do not pass the hole. -/
def Seen (N : Nat) (came : List (Ent κ ν)) (places : List Nat) (m s : Nat) : Prop :=
  ∀ q t e, q < N → 0 < dist N m q → dist N m q < dist N m s → places[q]? = some (t + 1) → came[t]? = some e → dist N (e.hash % N) q ≤ dist N (e.hash % N) m

/-- The key at place s does not pass the hole: go on. -/
theorem Seen.more (h : Seen N came places m s) (hm : m < N) (hs : s < N) (hms : m ≠ s) {t : Nat} {e : Ent κ ν} (hp : places[s]? = some (t + 1)) (he : came[t]? = some e) (hd : dist N (e.hash % N) s ≤ dist N (e.hash % N) m) :
    Seen N came places m (nx N s) := by
  intro q t' e' hq h0 h1 hp' he'
  by_cases hqs : q = s
  · subst hqs
    rw [hp] at hp'; simp at hp'; subst hp'
    rw [he] at he'; simp at he'; subst he'
    exact hd
  · have a1 := dist_spec hm hs
    have a2 := dist_spec hm hq
    have a3 := nx_spec hs
    have a4 := dist_spec hm a3.1
    exact h q t' e' hq h0 (by omega) hp' he'

/-- Right behind the hole nothing has been looked at. -/
theorem Seen.start (m : Nat) (hm : m < N) : Seen N came places m (nx N m) := by
  intro q t e hq h0 h1
  have a2 := dist_spec hm hq
  have a3 := nx_spec hm
  have a4 := dist_spec hm a3.1
  omega

/-- The key at place s passes the hole: it goes there, and s is the hole. -/
theorem Mends.move (h : Mends N n reach came places m) (hs : s < N) (hms : m ≠ s) (hseen : Seen N came places m s) {t : Nat} {e : Ent κ ν} (hp : places[s]? = some (t + 1)) (he : came[t]? = some e) (hN : 0 < N)
    (hd : dist N (e.hash % N) m < dist N (e.hash % N) s) : Mends N n reach (came.set t { e with place := m }) (places.set m (t + 1)) s := by
  obtain ⟨htn, e0, he0, hth, hpl⟩ := h.back s t (Ne.symm hms) hp
  rw [he] at he0; simp at he0; subst he0
  have hlt : t < came.length := (List.getElem?_eq_some_iff.1 he).1
  have hml : m < places.length := by rw [h.len]; exact h.hole
  have hcg : ∀ t' e', (came.set t { e with place := m })[t']? = some e' → (t' = t ∧ e' = { e with place := m }) ∨ (t' ≠ t ∧ came[t']? = some e') := by
    intro t' e' h'
    by_cases ht : t' = t
    · subst ht; rw [List.getElem?_set_self hlt] at h'; exact .inl ⟨rfl, by simpa [eq_comm] using h'⟩
    · rw [List.getElem?_set_ne (Ne.symm ht)] at h'; exact .inr ⟨ht, h'⟩
  have hm' := h.hole
  refine ⟨by simp [h.len], hs, ?_, ?_, ?_, ?_, ?_⟩
  · intro p t' hps hpt
    rw [getElem?_set_eq hml] at hpt
    split at hpt
    · rename_i e1; subst e1
      have : t' = t := by simp at hpt; omega
      subst this
      exact ⟨htn, _, List.getElem?_set_self hlt, hth, rfl⟩
    · rename_i e1
      obtain ⟨h1, e', h2, h3, h4⟩ := h.back p t' (Ne.symm e1) hpt
      refine ⟨h1, ?_⟩
      by_cases ht : t' = t
      · subst ht; rw [he] at h2; simp at h2; subst h2; exact absurd (hpl.symm.trans h4) (Ne.symm hps)
      · exact ⟨e', by rw [List.getElem?_set_ne (Ne.symm ht)]; exact h2, h3, h4⟩
  · intro t' e' htn' he' hth'
    rw [getElem?_set_eq hml]
    rcases hcg t' e' he' with ⟨rfl, rfl⟩ | ⟨hne, he''⟩
    · exact ⟨h.hole, hms, by simp⟩
    · have := h.here t' e' htn' he'' hth'
      refine ⟨this.1, ?_, ?_⟩
      · intro e1; rw [e1, hp] at this; simp at this; omega
      · rw [if_neg (Ne.symm this.2.1)]; exact this.2.2
  · intro t' e' htn' he' hth' q hq hqs hdq
    rw [getElem?_set_eq hml]
    rcases hcg t' e' he' with ⟨rfl, rfl⟩ | ⟨hne, he''⟩
    · have hqm : m ≠ q := by rintro rfl; exact absurd hdq (Nat.lt_irrefl _)
      rw [if_neg hqm]
      exact h.first t' e htn he hth q hq (Ne.symm hqm) (by rw [hpl]; exact Nat.lt_trans hdq hd)
    · split
      · rename_i e1; subst e1
        -- e' passes the hole: so it passes s, which is that of t
        refine ⟨t, ?_, rfl⟩
        have hh := h.here t' e' htn' he'' hth'
        have hhome : e'.hash % N < N := Nat.mod_lt _ hN
        have hps : e'.place ≠ s := by intro e1; rw [e1, hp] at hh; simp at hh; omega
        have a1 := dist_spec hhome hm'
        have a2 := dist_spec hhome hs
        have a3 := dist_spec hhome hh.1
        have a4 := dist_spec hm' hs
        have a5 := dist_spec hm' hh.1
        have hns : ¬ dist N m e'.place < dist N m s := by
          intro hlt'
          have := hseen e'.place t' e' hh.1 (by omega) hlt' hh.2.2 he''
          omega
        obtain ⟨t'', h1, h2⟩ := h.first t' e' htn' he'' hth' s hs (Ne.symm hms) (by omega)
        rw [hp] at h2; simp at h2; omega
      · rename_i e1
        exact h.first t' e' htn' he'' hth' q hq (Ne.symm e1) hdq
  · intro t' e' htn' he' hth'
    rcases hcg t' e' he' with ⟨rfl, rfl⟩ | ⟨hne, he''⟩
    · have := h.near t' e htn he hth
      rw [hpl] at this
      have : dist N (e.hash % N) m ≤ reach := by omega
      exact this
    · exact h.near t' e' htn' he'' hth'
  · refine ⟨t, ?_⟩
    rw [getElem?_set_eq hml, if_neg hms]; exact hp

/-- Behind the mending the hole is empty, and all lie as if x had never come. -/
theorem Mends.done (h : Mends N n reach came places m) (hs : s < N) (hms : m ≠ s) (hseen : Seen N came places m s) (hN : 0 < N) (hend : places[s]? = some 0 ∨ reach < dist N m s) :
    Lies N n reach came (places.set m 0) := by
  have hm' := h.hole
  have hml : m < places.length := by rw [h.len]; exact h.hole
  refine ⟨by simp [h.len], ?_, ?_, ?_, h.near⟩
  · intro p t hpt
    rw [getElem?_set_eq hml] at hpt
    split at hpt
    · simp at hpt
    · rename_i e1; exact h.back p t (Ne.symm e1) hpt
  · intro t e htn he hth
    rw [getElem?_set_eq hml]
    have := h.here t e htn he hth
    exact ⟨this.1, by rw [if_neg (Ne.symm this.2.1)]; exact this.2.2⟩
  · intro t e htn he hth q hq hd
    rw [getElem?_set_eq hml]
    split
    · rename_i e1; subst e1
      exfalso
      have hh := h.here t e htn he hth
      have hnr := h.near t e htn he hth
      have hhome : e.hash % N < N := Nat.mod_lt _ hN
      have a1 := dist_spec hhome hm'
      have a2 := dist_spec hhome hs
      have a3 := dist_spec hhome hh.1
      have a4 := dist_spec hm' hs
      have a5 := dist_spec hm' hh.1
      have hns : ¬ dist N m e.place < dist N m s := by
        intro hlt'
        have := hseen e.place t e hh.1 (by omega) hlt' hh.2.2 he
        omega
      rcases hend with hz | hz
      · have hps : e.place ≠ s := by intro e1; rw [e1, hz] at hh; simp at hh
        obtain ⟨t'', h1, h2⟩ := h.first t e htn he hth s hs (Ne.symm hms) (by omega)
        rw [hz] at h2; simp at h2
      · omega
    · rename_i e1
      exact h.first t e htn he hth q hq (Ne.symm e1) hd
end
end Go.Proofs.Ytnhmjheipfopoaa
namespace Go.Proofs.Ytnhmjheipfopoaa

section
variable {κ ν : Type} {N n reach m s home r k : Nat} {came : List (Ent κ ν)} {places places' : List Nat} {f : Ent κ ν → Bool}

/-- What a search from home on for what f tells ends with. -/
structure Ends (N home : Nat) (came : List (Ent κ ν)) (places : List Nat) (f : Ent κ ν → Bool) (r : Nat) : Prop where
  lt : r < N
  past : ∀ q, q < N → dist N home q < dist N home r → ∃ t e, places[q]? = some (t + 1) ∧ came[t]? = some e ∧ f e = false
  stop : places[r]? = some 0 ∨ ∃ t e, places[r]? = some (t + 1) ∧ came[t]? = some e ∧ f e = true

/-- Whoever is told by f, and lies from home on, is where the search ends. -/
theorem Ends.found (hE : Ends N home came places f r) (h : Lies N came.length reach came places) (hh : home < N) {t : Nat} {e : Ent κ ν} (he : came[t]? = some e) (hth : e.there = true) (hf : f e = true) (hho : e.hash % N = home)
    (huniq : ∀ (t' : Nat) e', came[t']? = some e' → e'.there = true → f e' = true → t' = t) : r = e.place ∧ places[r]? = some (t + 1) := by
  have hlt : t < came.length := (List.getElem?_eq_some_iff.1 he).1
  have hp := h.here t e hlt he hth
  have hle : ¬ dist N home e.place < dist N home r := by
    intro hd
    obtain ⟨t', e', h1, h2, h3⟩ := hE.past _ hp.1 hd
    rw [hp.2] at h1; simp at h1; subst h1
    rw [he] at h2; simp at h2; subst h2
    rw [hf] at h3; cases h3
  have hge : ¬ dist N home r < dist N home e.place := by
    intro hd
    rw [← hho] at hd
    obtain ⟨t', h1, h2⟩ := h.first t e hlt he hth r hE.lt hd
    rcases hE.stop with hz | ⟨t'', e'', h3, h4, h5⟩
    · rw [hz] at h2; simp at h2
    · rw [h2] at h3; simp at h3; subst h3
      obtain ⟨_, e3, h6, h7, h8⟩ := h.back r t' h2
      rw [h4] at h6; simp at h6; subst h6
      have := huniq t' e'' h4 h7 h5
      omega
  have : r = e.place := dist_inj hh hE.lt hp.1 (by omega)
  exact ⟨this, by rw [this]; exact hp.2⟩

theorem Ends.none (hE : Ends N home came places f r) (h : Lies N came.length reach came places) (hno : ∀ (t : Nat) e, came[t]? = some e → e.there = true → f e = false) : Free N home places r := by
  refine ⟨hE.lt, ?_, ?_⟩
  · rcases hE.stop with hz | ⟨t, e, h1, h2, h3⟩
    · exact hz
    · obtain ⟨_, e', h4, h5, _⟩ := h.back r t h1
      rw [h2] at h4; simp at h4; subst h4
      rw [hno t e h2 h5] at h3; cases h3
  · intro q hq hd
    obtain ⟨t, _, h1, _⟩ := hE.past q hq hd
    exact ⟨t, h1⟩

/-- The keys that are there, in their order. -/
def live (came : List (Ent κ ν)) : List (Ent κ ν) := came.filter (·.there)
/-- The turn that a key has when the gaps are closed. -/
def rank (came : List (Ent κ ν)) (t : Nat) : Nat := (live (came.take t)).length

theorem live_append (a b : List (Ent κ ν)) : live (a ++ b) = live a ++ live b := by simp [live]
theorem take_snoc {α : Type} {l : List α} {t : Nat} {e : α} (h : l[t]? = some e) : l.take (t + 1) = l.take t ++ [e] := by
  obtain ⟨hl, rfl⟩ := List.getElem?_eq_some_iff.1 h
  exact List.take_succ_eq_append_getElem hl
theorem live_take {t : Nat} {e : Ent κ ν} (h : came[t]? = some e) : live (came.take (t + 1)) = if e.there = true then live (came.take t) ++ [e] else live (came.take t) := by
  rw [take_snoc h, live_append]
  split
  · rename_i h'; simp [live, h']
  · rename_i h'; simp [live, h']
theorem live_take_le (came : List (Ent κ ν)) (t : Nat) : (live (came.take t)).length ≤ t := by
  have h1 : (live (came.take t)).length ≤ (came.take t).length := List.length_filter_le _ _
  have h2 : (came.take t).length ≤ t := List.length_take_le _ _
  omega
theorem rank_mono (came : List (Ent κ ν)) {a b : Nat} (h : a ≤ b) : rank came a ≤ rank came b := by
  induction b with
  | zero => have : a = 0 := by omega
            subst this; exact Nat.le_refl _
  | succ b ih =>
    by_cases e : a = b + 1
    · subst e; exact Nat.le_refl _
    · refine Nat.le_trans (ih (by omega)) ?_
      unfold rank
      cases hb : came[b]? with
      | none =>
        have : came.length ≤ b := by simpa using hb
        rw [List.take_of_length_le this, List.take_of_length_le (by omega)]
        exact Nat.le_refl _
      | some x =>
        rw [live_take hb]
        split <;> simp
theorem rank_lt (came : List (Ent κ ν)) {a b : Nat} {e : Ent κ ν} (h : a < b) (he : came[a]? = some e) (hth : e.there = true) : rank came a < rank came b := by
  have h1 : rank came (a + 1) = rank came a + 1 := by unfold rank; rw [live_take he, if_pos hth]; simp
  have h2 := rank_mono came (show a + 1 ≤ b by omega)
  omega
theorem live_rank {t : Nat} {e : Ent κ ν} (he : came[t]? = some e) (hth : e.there = true) : (live came)[rank came t]? = some e := by
  have hl := (List.getElem?_eq_some_iff.1 he).1
  have h1 : live came = live (came.take (t + 1)) ++ live (came.drop (t + 1)) := by rw [← live_append, List.take_append_drop]
  rw [h1, live_take he, if_pos hth, List.append_assoc]
  unfold rank
  rw [List.getElem?_append_right (Nat.le_refl _)]
  simp
theorem rank_ex {k : Nat} {e : Ent κ ν} (h : (live came)[k]? = some e) : ∃ t, came[t]? = some e ∧ e.there = true ∧ rank came t = k := by
  induction came generalizing k with
  | nil => simp [live] at h
  | cons x r ih =>
    by_cases hx : x.there = true
    · have e1 : live (x :: r) = x :: live r := by simp [live, hx]
      rw [e1] at h
      cases k with
      | zero => simp at h; subst h; exact ⟨0, rfl, hx, by simp [rank, live]⟩
      | succ k =>
        simp at h
        obtain ⟨t, h1, h2, h3⟩ := ih h
        refine ⟨t + 1, by simpa using h1, h2, ?_⟩
        unfold rank at *
        have e2 : live ((x :: r).take (t + 1)) = x :: live (r.take t) := by simp [live, hx]
        rw [e2, List.length_cons, h3]
    · have e1 : live (x :: r) = live r := by simp [live, hx]
      rw [e1] at h
      obtain ⟨t, h1, h2, h3⟩ := ih h
      refine ⟨t + 1, by simpa using h1, h2, ?_⟩
      unfold rank at *
      have e2 : live ((x :: r).take (t + 1)) = live (r.take t) := by simp [live, hx]
      rw [e2, h3]
theorem live_there {k : Nat} {e : Ent κ ν} (h : (live came)[k]? = some e) : e.there = true := by
  obtain ⟨t, _, h2, _⟩ := rank_ex h; exact h2

/-- The places while gaps are being closed: those of the first k turns are renumbered. -/
structure Closes (came : List (Ent κ ν)) (places places' : List Nat) (k : Nat) : Prop where
  len : places'.length = places.length
  new : ∀ t e, t < k → came[t]? = some e → e.there = true → places'[e.place]? = some (rank came t + 1)
  old : ∀ p : Nat, (∀ t e, t < k → came[t]? = some e → e.there = true → e.place ≠ p) → places'[p]? = places[p]?
  none : ∀ p : Nat, places'[p]? = some 0 ↔ places[p]? = some 0
  zer : zeros places' = zeros places

theorem Closes.start (came : List (Ent κ ν)) (places : List Nat) : Closes came places places 0 :=
  ⟨rfl, fun _ _ h => by omega, fun _ _ => rfl, fun _ => Iff.rfl, rfl⟩
theorem Closes.skip (h : Closes came places places' k) (hn : ∀ e, came[k]? = some e → e.there = false) : Closes came places places' (k + 1) := by
  refine ⟨h.len, fun t e ht he hth => ?_, fun p hp => h.old p fun t e ht he hth => hp t e (by omega) he hth, h.none, h.zer⟩
  have : t ≠ k := fun e' => by subst e'; rw [hn e he] at hth; cases hth
  exact h.new t e (by omega) he hth
theorem Closes.step (h : Closes came places places' k) (hL : Lies N came.length reach came places) {e : Ent κ ν} (he : came[k]? = some e) (hth : e.there = true) :
    Closes came places (places'.set e.place (rank came k + 1)) (k + 1) := by
  have hk := (List.getElem?_eq_some_iff.1 he).1
  have hh := hL.here k e hk he hth
  have hlt : e.place < places'.length := by rw [h.len, hL.len]; exact hh.1
  have hat : places'[e.place]? = some (k + 1) := by
    rw [h.old e.place fun t e' ht he' hth' hp => ?_]
    · exact hh.2
    · have := hL.here t e' (by omega) he' hth'
      rw [hp, hh.2] at this; simp at this; omega
  refine ⟨by simp [h.len], ?_, ?_, ?_, ?_⟩
  · intro t e' ht he' hth'
    rw [getElem?_set_eq hlt]
    by_cases htk : t = k
    · subst htk; rw [he] at he'; simp at he'; subst he'; simp
    · rw [if_neg]
      · exact h.new t e' (by omega) he' hth'
      · intro hp
        have := hL.here t e' (by omega) he' hth'
        rw [← hp, hh.2] at this; simp at this; omega
  · intro p hp
    rw [getElem?_set_eq hlt, if_neg (hp k e (by omega) he hth)]
    exact h.old p fun t e' ht he' hth' => hp t e' (by omega) he' hth'
  · intro p
    rw [getElem?_set_eq hlt]
    split
    · rename_i e1; subst e1
      rw [hh.2]; simp
    · exact h.none p
  · rw [zeros_set_same hat (by omega) (by omega)]; exact h.zer

theorem Closes.done (h : Closes came places places' came.length) (hL : Lies N came.length reach came places) : Lies N (live came).length reach (live came) places' := by
  refine ⟨by rw [h.len, hL.len], ?_, ?_, ?_, ?_⟩
  · intro p k hp
    have hz : places[p]? ≠ some 0 := by intro h0; rw [(h.none p).2 h0] at hp; simp at hp
    have hl : p < places.length := by rw [← h.len]; exact (List.getElem?_eq_some_iff.1 hp).1
    obtain ⟨t, ht⟩ : ∃ t, places[p]? = some (t + 1) := by
      rw [List.getElem?_eq_getElem hl] at hz ⊢
      cases hv : places[p] with
      | zero => rw [hv] at hz; simp at hz
      | succ t => exact ⟨t, rfl⟩
    obtain ⟨h1, e, h2, h3, h4⟩ := hL.back p t ht
    have hn := h.new t e h1 h2 h3
    rw [h4, hp] at hn
    simp at hn; subst hn
    have := live_rank h2 h3
    exact ⟨(List.getElem?_eq_some_iff.1 this).1, e, this, h3, h4⟩
  · intro k e _ he hth
    obtain ⟨t, h1, h2, h3⟩ := rank_ex he
    have hlt := (List.getElem?_eq_some_iff.1 h1).1
    refine ⟨(hL.here t e hlt h1 h2).1, ?_⟩
    rw [h.new t e hlt h1 h2, h3]
  · intro k e _ he hth q hq hd
    obtain ⟨t, h1, h2, h3⟩ := rank_ex he
    have hlt := (List.getElem?_eq_some_iff.1 h1).1
    obtain ⟨t', h4, h5⟩ := hL.first t e hlt h1 h2 q hq hd
    obtain ⟨h6, e', h7, h8, h9⟩ := hL.back q t' h5
    refine ⟨rank came t', ?_, ?_⟩
    · rw [← h3]; exact rank_lt came h4 h7 h8
    · rw [← h9]; exact h.new t' e' h6 h7 h8
  · intro k e _ he hth
    obtain ⟨t, h1, h2, h3⟩ := rank_ex he
    exact hL.near t e (List.getElem?_eq_some_iff.1 h1).1 h1 h2
end
end Go.Proofs.Ytnhmjheipfopoaa
namespace Go.Proofs.Ytnhmjheipfopoaa
open Go.RowKit Go.Maps

/-- From w to w' nothing has turned but blocks of S; new blocks may have come. -/
structure Turn (S : Nat → Prop) (w w' : World) : Prop where
  os : w'.os = w.os
  tape : w'.tape = w.tape
  output : w'.output = w.output
  size : w.heap.size ≤ w'.heap.size
  block : ∀ k, k < w.heap.size → ¬ S k → w'.heap[k]? = w.heap[k]?

theorem Turn.refl (S : Nat → Prop) (w : World) : Turn S w w := ⟨rfl, rfl, rfl, Nat.le_refl _, fun _ _ _ => rfl⟩
theorem Turn.trans {S : Nat → Prop} {a b c : World} (h : Turn S a b) (k : Turn S b c) : Turn S a c :=
  ⟨k.os.trans h.os, k.tape.trans h.tape, k.output.trans h.output, Nat.le_trans h.size k.size, fun i hi hn => (k.block i (Nat.lt_of_lt_of_le hi h.size) hn).trans (h.block i hi hn)⟩
theorem Turn.mono {S S' : Nat → Prop} {a b : World} (h : Turn S a b) (hs : ∀ i, i < a.heap.size → S i → S' i) : Turn S' a b :=
  ⟨h.os, h.tape, h.output, h.size, fun i hi hn => h.block i hi (fun e => hn (hs i hi e))⟩
theorem Turn.then {S S' : Nat → Prop} {a b c : World} (h : Turn S a b) (k : Turn S' b c) (hs : ∀ i, i < a.heap.size → S' i → S i) : Turn S a c :=
  ⟨k.os.trans h.os, k.tape.trans h.tape, k.output.trans h.output, Nat.le_trans h.size k.size, fun i hi hn => (k.block i (Nat.lt_of_lt_of_le hi h.size) (fun e => hn (hs i hi e))).trans (h.block i hi hn)⟩
theorem Turn.of_stay {S : Nat → Prop} {a b : World} (h : Stay a b) : Turn S a b := ⟨h.os, h.tape, h.output, h.size, fun i hi _ => h.block i hi⟩
theorem Turn.stay {S : Nat → Prop} {w a b : World} (h : Turn S a b) (hs : Stay w a) (hS : ∀ k, k < w.heap.size → ¬ S k) : Stay w b :=
  ⟨h.os.trans hs.os, h.tape.trans hs.tape, h.output.trans hs.output, Nat.le_trans hs.size h.size, fun k hk => (h.block k (Nat.lt_of_lt_of_le hk hs.size) (hS k hk)).trans (hs.block k hk)⟩
theorem Turn.set {S : Nat → Prop} {a b : World} (h : Turn S a b) {g : Nat} (hg : S g) (k : Nat) (v : Value) : Turn S a (b.setCell ⟨g, k, none⟩ v) :=
  ⟨h.os, h.tape, h.output, by simpa [World.setCell] using h.size, fun j hj hn => (Below.heap_setCell _ _ _ _ (by show j ≠ g; intro e; exact hn (e ▸ hg))).trans (h.block j hj hn)⟩
theorem Turn.heap {S : Nat → Prop} {a b : World} (h : Turn S a b) {k : Nat} {o : Obj} (hk : a.heap[k]? = some o) (hn : ¬ S k) : b.heap[k]? = some o :=
  (h.block k (Array.getElem?_eq_some_iff.1 hk).1 hn).trans hk
theorem Turn.grown {S : Nat → Prop} {a b c : World} (h : Turn S a b) {g : Nat} (k : b.grownBy c (some g)) (hg : g < a.heap.size → S g) : Turn S a c :=
  ⟨k.os.trans h.os, k.tape.trans h.tape, k.output.trans h.output, Nat.le_trans h.size k.size, fun i hi hn => (k.block i (Nat.lt_of_lt_of_le hi h.size) (by intro e; cases e; exact hn (hg hi))).trans (h.block i hi hn)⟩

theorem Turn.of_below {n : Nat} {w w' : World} (h : Below n w w') : Turn (fun k => n ≤ k) w w' :=
  ⟨h.os, h.tape, h.output, h.size, fun k _ hn => h.block k (by omega)⟩
theorem Turn.cell {S : Nat → Prop} {w w' : World} (h : Turn S w w') {p : Addr} {v : Value} (hc : w.cell? p = some v) (hn : ¬ S p.block) : w'.cell? p = some v :=
  (World.cell?_of_block (h.block p.block (World.block_lt_of_cell? w p hc) hn)).trans hc
theorem Turn.row {S : Nat → Prop} {w w' : World} (h : Turn S w w') {base : Nat} {e : TypeId} {size : Nat} {v : Value} {n : Nat} {xs : List Value} (hr : w.ownsRow base e size v n xs)
    (hn : ∀ k, v.ownBlock = some k → ¬ S k) : w'.ownsRow base e size v n xs := by
  refine ⟨hr.1, ?_⟩
  rcases hr.2 with hx | ⟨g, cap, cur, rfl, hb, hgg, rest⟩
  · exact .inl hx
  · exact .inr ⟨g, cap, cur, rfl, hb, by rw [h.block g (Array.getElem?_eq_some_iff.1 hgg).1 (hn g rfl)]; exact hgg, rest⟩

/-- The mask of a power of two is the rest. -/
theorem i64_mask (N m : Nat) (hN : N = 2 ^ m) (hm : m ≤ 62) (n : Int) : bits .and .i64 n ((N : Int) - 1) = n % (N : Int) := by
  subst hN
  have hpos : 0 < 2 ^ m := Nat.two_pow_pos m
  have hle : 2 ^ m ≤ 2 ^ 62 := Nat.pow_le_pow_right (by decide) hm
  have hc : (((2 ^ m : Nat) : Int) - 1) = ((2 ^ m - 1 : Nat) : Int) := by rw [Int.natCast_sub hpos]; simp
  have hM : (BitVec.ofInt 64 (((2 ^ m : Nat) : Int) - 1)).toNat = 2 ^ m - 1 := by
    rw [hc, BitVec.ofInt_natCast, BitVec.toNat_ofNat, Nat.mod_eq_of_lt (by omega)]
  have key : (BitVec.ofInt 64 n &&& BitVec.ofInt 64 (((2 ^ m : Nat) : Int) - 1)).toNat = (n % ((2 ^ 64 : Nat) : Int)).toNat % 2 ^ m := by
    rw [BitVec.toNat_and, BitVec.toNat_ofInt, hM, Nat.and_two_pow_sub_one_eq_mod]
  show IntKind.i64.wrap ((BitVec.ofInt 64 n &&& BitVec.ofInt 64 (((2 ^ m : Nat) : Int) - 1)).toNat : Nat) = n % ((2 ^ m : Nat) : Int)
  rw [key, IntKind.wrap_i64]
  have h1 : (n % ((2 ^ 64 : Nat) : Int)).toNat % 2 ^ m < 2 ^ m := Nat.mod_lt _ hpos
  have h2 : (((n % ((2 ^ 64 : Nat) : Int)).toNat % 2 ^ m : Nat) : Int) = n % ((2 ^ m : Nat) : Int) := by
    rw [Int.natCast_emod, Int.toNat_of_nonneg (Int.emod_nonneg _ (by decide))]
    exact Int.emod_emod_of_dvd n (by
      have : (2 ^ m : Nat) ∣ (2 ^ 64 : Nat) := Nat.pow_dvd_pow 2 (by omega)
      exact_mod_cast this)
  have h3 : 0 ≤ n % ((2 ^ m : Nat) : Int) := Int.emod_nonneg _ (by omega)
  have h4 : n % ((2 ^ m : Nat) : Int) < ((2 ^ m : Nat) : Int) := Int.emod_lt_of_pos _ (by omega)
  rw [h2]
  have h5 : ((2 ^ m : Nat) : Int) ≤ 4611686018427387904 := by have : (2:Nat) ^ 62 = 4611686018427387904 := by decide
                                                              omega
  omega

theorem u64_mask (N m : Nat) (hN : N = 2 ^ m) (hm : m ≤ 62) (h : Nat) (hh : h < 18446744073709551616) : bits .and .u64 (h : Int) ((N : Int) - 1) = ((h % N : Nat) : Int) := by
  subst hN
  have hpos : 0 < 2 ^ m := Nat.two_pow_pos m
  have hle : 2 ^ m ≤ 2 ^ 62 := Nat.pow_le_pow_right (by decide) hm
  have hc : (((2 ^ m : Nat) : Int) - 1) = ((2 ^ m - 1 : Nat) : Int) := by rw [Int.natCast_sub hpos]; simp
  rw [hc, u64_and_nat h (2 ^ m - 1) hh (by omega), Nat.and_two_pow_sub_one_eq_mod]

theorem nx_mod {N p : Nat} (h : p < N) : ((p : Int) + 1) % (N : Int) = ((nx N p : Nat) : Int) := by
  unfold nx
  split
  · rename_i e; subst e; rw [show (p : Int) + 1 = ((p + 1 : Nat) : Int) by simp]; simp
  · rw [Int.emod_eq_of_lt (by omega) (by omega)]; simp

theorem dist_mod {N a b : Nat} (ha : a < N) (hb : b < N) : ((b : Int) - (a : Int)) % (N : Int) = ((dist N a b : Nat) : Int) := by
  unfold dist
  split
  · rw [Int.emod_eq_of_lt (by omega) (by omega)]; omega
  · rw [← Int.add_emod_right, Int.emod_eq_of_lt (by omega) (by omega)]; omega
end Go.Proofs.Ytnhmjheipfopoaa
