/- The plain part of the table with open addressing: places on a circle, what a layout is, and what each change keeps of it; no Go text here. -/
namespace Go.Proofs.Ytnhmjheipfopoaa

/-- How many steps lead upward from a to b on a circle of N places. -/
def dist (N a b : Nat) : Nat := if a ≤ b then b - a else b + N - a
theorem dist_spec {N a b : Nat} (ha : a < N) (hb : b < N) : dist N a b < N ∧ (a + dist N a b = b ∨ a + dist N a b = b + N) := by
  unfold dist; split <;> omega
theorem dist_self (N a : Nat) : dist N a a = 0 := by simp [dist]
def nx (N p : Nat) : Nat := if p + 1 = N then 0 else p + 1
theorem nx_spec {N p : Nat} (h : p < N) : nx N p < N ∧ (nx N p = p + 1 ∨ nx N p + N = p + 1) := by
  unfold nx; split <;> omega
theorem dist_zero {N a b : Nat} (ha : a < N) (hb : b < N) (h : dist N a b = 0) : a = b := by
  have := dist_spec ha hb; omega
theorem dist_nx {N a b : Nat} (ha : a < N) (hb : b < N) (h : a ≠ b) : dist N a b = dist N (nx N a) b + 1 := by
  have h1 := dist_spec ha hb
  have h2 := nx_spec ha
  have h3 := dist_spec h2.1 hb
  omega
/-- Behind s, seen from h, as long as a place z lies ahead that is not s. -/
theorem dist_step {N h s z : Nat} (hh : h < N) (hs : s < N) (hz : z < N) (hle : dist N h s < dist N h z) : dist N h (nx N s) = dist N h s + 1 := by
  have h1 := dist_spec hh hs
  have h2 := dist_spec hh hz
  have h3 := nx_spec hs
  have h4 := dist_spec hh h3.1
  omega
theorem dist_inj {N h a b : Nat} (hh : h < N) (ha : a < N) (hb : b < N) (e : dist N h a = dist N h b) : a = b := by
  have h1 := dist_spec hh ha
  have h2 := dist_spec hh hb
  omega

/-- What a list of places counts. -/
def zeros (l : List Nat) : Nat := l.countP (· == 0)
theorem zeros_set_pos {l : List Nat} {p v : Nat} (h : l[p]? = some 0) (hv : v ≠ 0) : zeros (l.set p v) + 1 = zeros l := by
  induction l generalizing p with
  | nil => simp at h
  | cons x r ih =>
    cases p with
    | zero => simp at h; subst h; simp [zeros, List.set, hv]
    | succ p =>
      simp at h
      have := ih h
      simp only [zeros, List.set, List.countP_cons] at *
      omega
theorem zeros_set_zero {l : List Nat} {p v : Nat} (h : l[p]? = some v) (hv : v ≠ 0) : zeros (l.set p 0) = zeros l + 1 := by
  induction l generalizing p with
  | nil => simp at h
  | cons x r ih =>
    cases p with
    | zero => simp at h; subst h; simp [zeros, List.set, hv]
    | succ p =>
      simp at h
      have := ih h
      simp only [zeros, List.set, List.countP_cons] at *
      omega
theorem zeros_set_same {l : List Nat} {p v u : Nat} (h : l[p]? = some v) (hv : v ≠ 0) (hu : u ≠ 0) : zeros (l.set p u) = zeros l := by
  induction l generalizing p with
  | nil => simp at h
  | cons x r ih =>
    cases p with
    | zero => simp at h; subst h; simp [zeros, List.set, hv, hu]
    | succ p =>
      simp at h
      have := ih h
      simp only [zeros, List.set, List.countP_cons] at *
      omega
theorem zeros_ex {l : List Nat} (h : 0 < zeros l) : ∃ p, p < l.length ∧ l[p]? = some 0 := by
  unfold zeros at h
  rw [List.countP_pos_iff] at h
  obtain ⟨a, ha, e⟩ := h
  obtain ⟨p, hp, hpe⟩ := List.getElem_of_mem ha
  refine ⟨p, hp, ?_⟩
  have e' : a = 0 := by simpa using e
  rw [List.getElem?_eq_getElem hp, hpe, e']
theorem zeros_le (l : List Nat) : zeros l ≤ l.length := List.countP_le_length

/-- A key with its value, its hash, where it lies, and whether it is there. -/
structure Ent (κ ν : Type) where
  key : κ
  val : ν
  hash : Nat
  place : Nat
  there : Bool

section
variable {κ ν : Type}

/-- The first n keys are laid, by their turns, each in the first place from its home on that no earlier one has. -/
structure Lies (N n reach : Nat) (came : List (Ent κ ν)) (places : List Nat) : Prop where
  len : places.length = N
  back : ∀ p t, places[p]? = some (t + 1) → t < n ∧ ∃ e, came[t]? = some e ∧ e.there = true ∧ e.place = p
  here : ∀ t e, t < n → came[t]? = some e → e.there = true → e.place < N ∧ places[e.place]? = some (t + 1)
  first : ∀ t e, t < n → came[t]? = some e → e.there = true → ∀ q, q < N → dist N (e.hash % N) q < dist N (e.hash % N) e.place → ∃ t', t' < t ∧ places[q]? = some (t' + 1)
  near : ∀ t e, t < n → came[t]? = some e → e.there = true → dist N (e.hash % N) e.place ≤ reach

variable {N n reach m s : Nat} {came : List (Ent κ ν)} {places : List Nat}

theorem Lies.empty (N : Nat) (came : List (Ent κ ν)) : Lies N 0 0 came (List.replicate N 0) := by
  refine ⟨by simp, ?_, ?_, ?_, ?_⟩
  · intro p t h
    rw [List.getElem?_replicate] at h
    split at h <;> simp at h
  all_goals (intro t e h; omega)

theorem Lies.skip (h : Lies N n reach came places) (hn : ∀ e, came[n]? = some e → e.there = false) : Lies N (n + 1) reach came places := by
  refine ⟨h.len, fun p t hp => ?_, fun t e ht he hth => ?_, fun t e ht he hth => ?_, fun t e ht he hth => ?_⟩
  · have := h.back p t hp; exact ⟨by omega, this.2⟩
  all_goals
    have : t ≠ n := fun e' => by subst e'; rw [hn e he] at hth; cases hth
  · exact h.here t e (by omega) he hth
  · exact h.first t e (by omega) he hth
  · exact h.near t e (by omega) he hth

/-- What a search for an empty place, or for a key, ends with. -/
def Free (N home : Nat) (places : List Nat) (r : Nat) : Prop := r < N ∧ places[r]? = some 0 ∧ ∀ q, q < N → dist N home q < dist N home r → ∃ t, places[q]? = some (t + 1)

theorem getElem?_set_eq {l : List Nat} {p v : Nat} (h : p < l.length) (q : Nat) : (l.set p v)[q]? = if p = q then some v else l[q]? := by
  rw [List.getElem?_set]
  split
  · rename_i e; subst e; simp
  · rfl

/-- The key of turn n is laid. -/
theorem Lies.lay (h : Lies N n reach came places) {e : Ent κ ν} (he : came[n]? = some e) (hth : e.there = true) {r : Nat} (hr : Free N (e.hash % N) places r) :
    Lies N (n + 1) (max reach (dist N (e.hash % N) r)) (came.set n { e with place := r }) (places.set r (n + 1)) := by
  obtain ⟨hrN, hr0, hrf⟩ := hr
  have hlt : n < came.length := (List.getElem?_eq_some_iff.1 he).1
  have hcg : ∀ t e', (came.set n { e with place := r })[t]? = some e' → (t = n ∧ e' = { e with place := r }) ∨ (t ≠ n ∧ came[t]? = some e') := by
    intro t e' h'
    by_cases ht : t = n
    · subst ht; rw [List.getElem?_set_self hlt] at h'; exact .inl ⟨rfl, by simpa [eq_comm] using h'⟩
    · rw [List.getElem?_set_ne (Ne.symm ht)] at h'; exact .inr ⟨ht, h'⟩
  have hpl : r < places.length := by rw [h.len]; exact hrN
  refine ⟨by simp [h.len], ?_, ?_, ?_, ?_⟩
  · intro p t hp
    rw [getElem?_set_eq hpl] at hp
    split at hp
    · rename_i e'; subst e'
      have ht : t = n := by simp at hp; omega
      subst ht
      exact ⟨by omega, _, List.getElem?_set_self hlt, hth, rfl⟩
    · have := h.back p t hp
      refine ⟨by omega, ?_⟩
      rw [List.getElem?_set_ne (by omega)]
      exact this.2
  · intro t e' ht he' hth'
    rw [getElem?_set_eq hpl]
    rcases hcg t e' he' with ⟨rfl, rfl⟩ | ⟨hne, he''⟩
    · exact ⟨hrN, by simp⟩
    · have := h.here t e' (by omega) he'' hth'
      refine ⟨this.1, ?_⟩
      rw [if_neg (fun e1 => by rw [← e1, hr0] at this; simp at this)]
      exact this.2
  · intro t e' ht he' hth' q hq hd
    rw [getElem?_set_eq hpl]
    rcases hcg t e' he' with ⟨rfl, rfl⟩ | ⟨hne, he''⟩
    · obtain ⟨t', ht'⟩ := hrf q hq hd
      rw [if_neg (fun e1 => by rw [← e1, hr0] at ht'; simp at ht')]
      exact ⟨t', (h.back q t' ht').1, ht'⟩
    · obtain ⟨t', h1, h2⟩ := h.first t e' (by omega) he'' hth' q hq hd
      rw [if_neg (fun e1 => by rw [← e1, hr0] at h2; simp at h2)]
      exact ⟨t', h1, h2⟩
  · intro t e' ht he' hth'
    rcases hcg t e' he' with ⟨rfl, rfl⟩ | ⟨hne, he''⟩
    · exact Nat.le_max_right _ _
    · have := h.near t e' (by omega) he'' hth'
      omega

/-- While a hole at m is being mended: all lie but x, which is gone; a place that is passed is that of an earlier one, or the hole. -/
structure Mends (N n reach : Nat) (came : List (Ent κ ν)) (places : List Nat) (m : Nat) : Prop where
  len : places.length = N
  hole : m < N
  back : ∀ p t, p ≠ m → places[p]? = some (t + 1) → t < n ∧ ∃ e, came[t]? = some e ∧ e.there = true ∧ e.place = p
  here : ∀ t e, t < n → came[t]? = some e → e.there = true → e.place < N ∧ e.place ≠ m ∧ places[e.place]? = some (t + 1)
  first : ∀ t e, t < n → came[t]? = some e → e.there = true → ∀ q, q < N → q ≠ m → dist N (e.hash % N) q < dist N (e.hash % N) e.place → ∃ t', t' < t ∧ places[q]? = some (t' + 1)
  near : ∀ t e, t < n → came[t]? = some e → e.there = true → dist N (e.hash % N) e.place ≤ reach
  full : ∃ v, places[m]? = some (v + 1)

/-- The key of turn x is gone: a hole is where it lay. -/
theorem Lies.gone (h : Lies N n reach came places) {x : Nat} {e g : Ent κ ν} (hx : x < n) (he : came[x]? = some e) (hth : e.there = true) (hg : g.there = false) :
    Mends N n reach (came.set x g) places e.place := by
  have hlt : x < came.length := (List.getElem?_eq_some_iff.1 he).1
  have hh := h.here x e hx he hth
  have hcg : ∀ t e', (came.set x g)[t]? = some e' → e'.there = true → t ≠ x ∧ came[t]? = some e' := by
    intro t e' h' ht'
    by_cases ht : t = x
    · subst ht; rw [List.getElem?_set_self hlt] at h'
      simp only [Option.some.injEq] at h'; subst h'; rw [hg] at ht'; cases ht'
    · rw [List.getElem?_set_ne (Ne.symm ht)] at h'; exact ⟨ht, h'⟩
  have hne : ∀ t e', t ≠ x → t < n → came[t]? = some e' → e'.there = true → e'.place ≠ e.place := by
    intro t e' ht htn he' hth' hp
    have := h.here t e' htn he' hth'
    rw [hp, hh.2] at this
    simp at this; omega
  refine ⟨h.len, hh.1, ?_, ?_, ?_, ?_, ⟨_, hh.2⟩⟩
  · intro p t hp hpt
    obtain ⟨h1, e', h2, h3, h4⟩ := h.back p t hpt
    refine ⟨h1, e', ?_, h3, h4⟩
    rw [List.getElem?_set_ne]
    · exact h2
    · rintro rfl
      rw [he] at h2; simp at h2; subst h2; exact hp h4.symm
  · intro t e' htn he' hth'
    obtain ⟨h1, h2⟩ := hcg t e' he' hth'
    have := h.here t e' htn h2 hth'
    exact ⟨this.1, hne t e' h1 htn h2 hth', this.2⟩
  · intro t e' htn he' hth' q hq _ hd
    obtain ⟨h1, h2⟩ := hcg t e' he' hth'
    exact h.first t e' htn h2 hth' q hq hd
  · intro t e' htn he' hth'
    obtain ⟨h1, h2⟩ := hcg t e' he' hth'
    exact h.near t e' htn h2 hth'

/-- Those that lie between the hole and s do not pass the hole. -/
def Seen (N : Nat) (came : List (Ent κ ν)) (places : List Nat) (m s : Nat) : Prop :=
  ∀ q t e, q < N → 0 < dist N m q → dist N m q < dist N m s → places[q]? = some (t + 1) → came[t]? = some e → dist N (e.hash % N) q ≤ dist N (e.hash % N) m

/-- The key at place s does not pass the hole: go on. -/
theorem Seen.more (h : Seen N came places m s) (hm : m < N) (hs : s < N) (hms : m ≠ s) {t : Nat} {e : Ent κ ν} (hp : places[s]? = some (t + 1)) (he : came[t]? = some e) (hd : dist N (e.hash % N) s ≤ dist N (e.hash % N) m) :
    Seen N came places m (nx N s) := by
  intro q t' e' hq h0 h1 hp' he'
  by_cases hqs : q = s
  · subst hqs
    rw [hp] at hp'; simp at hp'; subst hp'
    rw [he] at he'; simp at he'; subst he'
    exact hd
  · have a1 := dist_spec hm hs
    have a2 := dist_spec hm hq
    have a3 := nx_spec hs
    have a4 := dist_spec hm a3.1
    exact h q t' e' hq h0 (by omega) hp' he'

/-- Right behind the hole nothing has been looked at. -/
theorem Seen.start (m : Nat) (hm : m < N) : Seen N came places m (nx N m) := by
  intro q t e hq h0 h1
  have a2 := dist_spec hm hq
  have a3 := nx_spec hm
  have a4 := dist_spec hm a3.1
  omega

/-- The key at place s passes the hole: it goes there, and s is the hole. -/
theorem Mends.move (h : Mends N n reach came places m) (hs : s < N) (hms : m ≠ s) (hseen : Seen N came places m s) {t : Nat} {e : Ent κ ν} (hp : places[s]? = some (t + 1)) (he : came[t]? = some e) (hN : 0 < N)
    (hd : dist N (e.hash % N) m < dist N (e.hash % N) s) : Mends N n reach (came.set t { e with place := m }) (places.set m (t + 1)) s := by
  obtain ⟨htn, e0, he0, hth, hpl⟩ := h.back s t (Ne.symm hms) hp
  rw [he] at he0; simp at he0; subst he0
  have hlt : t < came.length := (List.getElem?_eq_some_iff.1 he).1
  have hml : m < places.length := by rw [h.len]; exact h.hole
  have hcg : ∀ t' e', (came.set t { e with place := m })[t']? = some e' → (t' = t ∧ e' = { e with place := m }) ∨ (t' ≠ t ∧ came[t']? = some e') := by
    intro t' e' h'
    by_cases ht : t' = t
    · subst ht; rw [List.getElem?_set_self hlt] at h'; exact .inl ⟨rfl, by simpa [eq_comm] using h'⟩
    · rw [List.getElem?_set_ne (Ne.symm ht)] at h'; exact .inr ⟨ht, h'⟩
  have hm' := h.hole
  refine ⟨by simp [h.len], hs, ?_, ?_, ?_, ?_, ?_⟩
  · intro p t' hps hpt
    rw [getElem?_set_eq hml] at hpt
    split at hpt
    · rename_i e1; subst e1
      have : t' = t := by simp at hpt; omega
      subst this
      exact ⟨htn, _, List.getElem?_set_self hlt, hth, rfl⟩
    · rename_i e1
      obtain ⟨h1, e', h2, h3, h4⟩ := h.back p t' (Ne.symm e1) hpt
      refine ⟨h1, ?_⟩
      by_cases ht : t' = t
      · subst ht; rw [he] at h2; simp at h2; subst h2; exact absurd (hpl.symm.trans h4) (Ne.symm hps)
      · exact ⟨e', by rw [List.getElem?_set_ne (Ne.symm ht)]; exact h2, h3, h4⟩
  · intro t' e' htn' he' hth'
    rw [getElem?_set_eq hml]
    rcases hcg t' e' he' with ⟨rfl, rfl⟩ | ⟨hne, he''⟩
    · exact ⟨h.hole, hms, by simp⟩
    · have := h.here t' e' htn' he'' hth'
      refine ⟨this.1, ?_, ?_⟩
      · intro e1; rw [e1, hp] at this; simp at this; omega
      · rw [if_neg (Ne.symm this.2.1)]; exact this.2.2
  · intro t' e' htn' he' hth' q hq hqs hdq
    rw [getElem?_set_eq hml]
    rcases hcg t' e' he' with ⟨rfl, rfl⟩ | ⟨hne, he''⟩
    · have hqm : m ≠ q := by rintro rfl; exact absurd hdq (Nat.lt_irrefl _)
      rw [if_neg hqm]
      exact h.first t' e htn he hth q hq (Ne.symm hqm) (by rw [hpl]; exact Nat.lt_trans hdq hd)
    · split
      · rename_i e1; subst e1
        -- e' passes the hole: so it passes s, which is that of t
        refine ⟨t, ?_, rfl⟩
        have hh := h.here t' e' htn' he'' hth'
        have hhome : e'.hash % N < N := Nat.mod_lt _ hN
        have hps : e'.place ≠ s := by intro e1; rw [e1, hp] at hh; simp at hh; omega
        have a1 := dist_spec hhome hm'
        have a2 := dist_spec hhome hs
        have a3 := dist_spec hhome hh.1
        have a4 := dist_spec hm' hs
        have a5 := dist_spec hm' hh.1
        have hns : ¬ dist N m e'.place < dist N m s := by
          intro hlt'
          have := hseen e'.place t' e' hh.1 (by omega) hlt' hh.2.2 he''
          omega
        obtain ⟨t'', h1, h2⟩ := h.first t' e' htn' he'' hth' s hs (Ne.symm hms) (by omega)
        rw [hp] at h2; simp at h2; omega
      · rename_i e1
        exact h.first t' e' htn' he'' hth' q hq (Ne.symm e1) hdq
  · intro t' e' htn' he' hth'
    rcases hcg t' e' he' with ⟨rfl, rfl⟩ | ⟨hne, he''⟩
    · have := h.near t' e htn he hth
      rw [hpl] at this
      have : dist N (e.hash % N) m ≤ reach := by omega
      exact this
    · exact h.near t' e' htn' he'' hth'
  · refine ⟨t, ?_⟩
    rw [getElem?_set_eq hml, if_neg hms]; exact hp

/-- Behind the mending the hole is empty, and all lie as if x had never come. -/
theorem Mends.done (h : Mends N n reach came places m) (hs : s < N) (hms : m ≠ s) (hseen : Seen N came places m s) (hN : 0 < N) (hend : places[s]? = some 0 ∨ reach < dist N m s) :
    Lies N n reach came (places.set m 0) := by
  have hm' := h.hole
  have hml : m < places.length := by rw [h.len]; exact h.hole
  refine ⟨by simp [h.len], ?_, ?_, ?_, h.near⟩
  · intro p t hpt
    rw [getElem?_set_eq hml] at hpt
    split at hpt
    · simp at hpt
    · rename_i e1; exact h.back p t (Ne.symm e1) hpt
  · intro t e htn he hth
    rw [getElem?_set_eq hml]
    have := h.here t e htn he hth
    exact ⟨this.1, by rw [if_neg (Ne.symm this.2.1)]; exact this.2.2⟩
  · intro t e htn he hth q hq hd
    rw [getElem?_set_eq hml]
    split
    · rename_i e1; subst e1
      exfalso
      have hh := h.here t e htn he hth
      have hnr := h.near t e htn he hth
      have hhome : e.hash % N < N := Nat.mod_lt _ hN
      have a1 := dist_spec hhome hm'
      have a2 := dist_spec hhome hs
      have a3 := dist_spec hhome hh.1
      have a4 := dist_spec hm' hs
      have a5 := dist_spec hm' hh.1
      have hns : ¬ dist N m e.place < dist N m s := by
        intro hlt'
        have := hseen e.place t e hh.1 (by omega) hlt' hh.2.2 he
        omega
      rcases hend with hz | hz
      · have hps : e.place ≠ s := by intro e1; rw [e1, hz] at hh; simp at hh
        obtain ⟨t'', h1, h2⟩ := h.first t e htn he hth s hs (Ne.symm hms) (by omega)
        rw [hz] at h2; simp at h2
      · omega
    · rename_i e1
      exact h.first t e htn he hth q hq (Ne.symm e1) hd
end
end Go.Proofs.Ytnhmjheipfopoaa
