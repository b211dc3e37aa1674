/- A table of texts and lists as a plain list of pairs. -/
import Derived.Test.YteicdcpkikmjhaaIZs
import Derived.Test.YteicdcpkikmjhaaIRs
namespace Go.Proofs.Yteicdcpkikmjhaa
section
variable {κ ν : Type} {came : List (Ent κ ν)}
theorem live_split {t : Nat} {e : Ent κ ν} (he : came[t]? = some e) (x : Ent κ ν) : live (came.set t x) = live (came.take t) ++ ((if x.there then [x] else []) ++ live (came.drop (t + 1))) := by
  have hl := (List.getElem?_eq_some_iff.1 he).1
  rw [List.set_eq_take_append_cons_drop, if_pos hl]
  unfold live
  rw [List.filter_append, List.filter_cons]
  split <;> simp
theorem live_split_self {t : Nat} {e : Ent κ ν} (he : came[t]? = some e) (ht : e.there = true) : live came = live (came.take t) ++ ([e] ++ live (came.drop (t + 1))) := by
  have h := live_split he e
  rw [if_pos ht] at h
  have hs : came.set t e = came := by
    apply List.ext_getElem?
    intro i
    by_cases hi : t = i
    · subst hi; rw [List.getElem?_set_self (List.getElem?_eq_some_iff.1 he).1, he]
    · rw [List.getElem?_set_ne hi]
  rw [hs] at h
  exact h
end
namespace S
open Go.RowKit Go.Maps Go.Proofs.Yteicdcpkikmjhaa

abbrev Pr := ByteArray × (Option Addr × Nat × Nat)
def kv (e : E) : Pr := (e.key, e.val)
theorem kv_sim {a b : List E} (h : Sim a b) : b.map kv = a.map kv := by
  have e : ∀ l : List E, l.map kv = (l.map strip).map kv := fun l => by rw [List.map_map]; rfl
  rw [e b, e a, h]

section
variable {w w' : World} {bt pb N len reach c : Nat} {cv : Value} {came : List E} {places : List Nat} {Fo : Nat → Prop} {P : List Pr}

theorem kv_gone {t : Nat} {e : E} (he : came[t]? = some e) (ht : e.there = true) : (live (came.set t gap)).map kv = ((live came).map kv).take (rank came t) ++ ((live came).map kv).drop (rank came t + 1) := by
  rw [live_split he gap, live_split_self he ht, if_neg (show ¬ (gap : E).there = true by simp)]
  have hr : rank came t = ((live (came.take t)).map kv).length := by rw [List.length_map]; rfl
  simp only [List.map_append, List.nil_append, List.map_cons, List.map_nil]
  rw [hr, List.take_left, List.drop_append, List.drop_eq_nil_of_le (Nat.le_succ _)]
  simp
theorem kv_set {t : Nat} {e : E} (he : came[t]? = some e) (ht : e.there = true) (v : Option Addr × Nat × Nat) : (live (came.set t { e with val := v })).map kv = ((live came).map kv).set (rank came t) (e.key, v) := by
  rw [live_split he _, live_split_self he ht, if_pos (show ({ e with val := v } : E).there = true from ht)]
  have hr : rank came t = ((live (came.take t)).map kv).length := by rw [List.length_map]; rfl
  simp only [List.map_append, List.map_cons, List.map_nil]
  rw [hr, List.set_append_right _ _ (Nat.le_refl _)]
  simp [kv]

/-- A table that holds these pairs, in the order in which they came; its blocks. -/
def PT (w : World) (bt : Nat) (Fo : Nat → Prop) (P : List Pr) (c : Nat) : Prop :=
  ∃ cv pb N len reach came places, Tab w bt () cv pb N len reach came places ∧ came.length ≤ c ∧ (live came).map kv = P ∧ (∀ k, Fo k ↔ foot bt pb cv k)

theorem PT.turn {S : Nat → Prop} (h : PT w bt Fo P c) (ht : Turn S w w') (hn : ∀ k, Fo k → ¬ S k) : PT w' bt Fo P c := by
  obtain ⟨cv, pb, N, len, reach, came, places, hT, h1, h2, h3⟩ := h
  exact ⟨cv, pb, N, len, reach, came, places, hT.turn ht (fun k hk => hn k ((h3 k).2 hk)) (fun k hk => hk.elim), h1, h2, h3⟩
theorem PT.lt (h : PT w bt Fo P c) (k : Nat) (hk : Fo k) : k < w.heap.size := by
  obtain ⟨cv, pb, N, len, reach, came, places, hT, h1, h2, h3⟩ := h
  exact hT.lt k (.inl ((h3 k).1 hk))
theorem PT.few (h : PT w bt Fo P c) : P.length ≤ c := by
  obtain ⟨cv, pb, N, len, reach, came, places, hT, h1, rfl, h3⟩ := h
  have := live_length_le came
  rw [List.length_map]; omega

theorem pt_at {j : Nat} {x : Pr} (hj : ((live came).map kv)[j]? = some x) : ∃ (t : Nat) (e : E), came[t]? = some e ∧ e.there = true ∧ rank came t = j ∧ kv e = x := by
  rw [List.getElem?_map] at hj
  cases hl : (live came)[j]? with
  | none => rw [hl] at hj; simp at hj
  | some e =>
    rw [hl] at hj
    simp only [Option.map_some, Option.some.injEq] at hj
    obtain ⟨t, h1, h2, h3⟩ := rank_ex hl
    exact ⟨t, e, h1, h2, h3, hj⟩
theorem pt_no {k : ByteArray} (hno : ∀ (j : Nat) (x : Pr), ((live came).map kv)[j]? = some x → x.1 ≠ k) (t : Nat) (e : E) (he : came[t]? = some e) (ht : e.there = true) : sm () e.key k = false := by
  cases hs : sm () e.key k with
  | false => rfl
  | true =>
    have h1 := live_rank he ht
    exact (hno (rank came t) (kv e) (by rw [List.getElem?_map, h1]; rfl) (sm_eq hs)).elim

theorem PT.put_at (h : PT w bt Fo P c) {j : Nat} {x : Pr} (hj : P[j]? = some x) (hk : KeyOk x.1) (v : Option Addr × Nat × Nat) :
    Calls Try.prog 28 #[.pointer (some ⟨bt, 0, none⟩), .string x.1, .slice v.1 v.2.1 v.2.2] w fun e' w' => e' = .returned (.tuple #[.slice x.2.1 x.2.2.1 x.2.2.2, .bool true, .int .i64 0]) ∧ ∃ Fo', PT w' bt Fo' (P.set j (x.1, v)) (c + 1) ∧ Turn Fo w w' ∧ (∀ k, Fo' k → Fo k ∨ w.heap.size ≤ k) := by
  obtain ⟨cv, pb, N, len, reach, came, places, hT, h1, rfl, h3⟩ := h
  obtain ⟨t, e, he, ht, hr, rfl⟩ := pt_at hj
  refine (put_yes hT e.key hk v he ht (sm_refl _ _)).mono ?_
  rintro e9 w9 ⟨rfl, hT9, hTu9⟩
  refine ⟨rfl, Fo, ⟨cv, pb, N, len, reach, _, places, hT9, by rw [List.length_set]; omega, ?_, h3⟩, hTu9.mono (fun k _ hk => (h3 k).2 hk), fun k hk => .inl hk⟩
  rw [kv_set he ht v, hr]
  rfl
theorem PT.put_no (h : PT w bt Fo P c) (k : ByteArray) (hk : KeyOk k) (hno : ∀ (j : Nat) (x : Pr), P[j]? = some x → x.1 ≠ k) (v : Option Addr × Nat × Nat) (hc : c + 1 ≤ 68719476736) :
    Calls Try.prog 28 #[.pointer (some ⟨bt, 0, none⟩), .string k, .slice v.1 v.2.1 v.2.2] w fun e' w' => e' = .returned (.tuple #[.slice none 0 0, .bool false, .int .i64 0]) ∧ ∃ Fo', PT w' bt Fo' (P ++ [(k, v)]) (c + 1) ∧ Turn Fo w w' ∧ (∀ k, Fo' k → Fo k ∨ w.heap.size ≤ k) := by
  obtain ⟨cv, pb, N, len, reach, came, places, hT, h1, rfl, h3⟩ := h
  refine (put_new hT k hk v (pt_no hno) (by omega)).mono ?_
  rintro e9 w9 ⟨rfl, cv', pb', reach', came', places', hT9, hS, hTu9, hf9⟩
  refine ⟨rfl, foot bt pb' cv', ⟨cv', pb', _, _, reach', came', places', hT9, ?_, ?_, fun k => Iff.rfl⟩, hTu9.mono (fun k _ hk => (h3 k).2 hk), fun k hk => (hf9 k hk).imp (fun h => (h3 k).2 h) id⟩
  · have := hS.len; simp at this; omega
  · rw [kv_sim hS.lives]
    unfold live
    rw [List.filter_append, List.map_append]
    rfl
theorem PT.take_at (h : PT w bt Fo P c) {j : Nat} {x : Pr} (hj : P[j]? = some x) (hk : KeyOk x.1) :
    Calls Try.prog 27 #[.pointer (some ⟨bt, 0, none⟩), .string x.1] w fun e' w' => e' = .returned (.tuple #[.slice x.2.1 x.2.2.1 x.2.2.2, .bool true]) ∧ ∃ Fo', PT w' bt Fo' (P.take j ++ P.drop (j + 1)) (c + 1) ∧ Turn Fo w w' ∧ (∀ k, Fo' k → Fo k ∨ w.heap.size ≤ k) := by
  obtain ⟨cv, pb, N, len, reach, came, places, hT, h1, rfl, h3⟩ := h
  obtain ⟨t, e, he, ht, hr, rfl⟩ := pt_at hj
  refine (take_yes hT e.key hk he ht (sm_refl _ _)).mono ?_
  rintro e9 w9 ⟨rfl, cv', came', places', hT9, hS, hl9, hown, hTu9⟩
  refine ⟨rfl, foot bt pb cv', ⟨cv', pb, N, _, reach, came', places', hT9, by omega, ?_, fun k => Iff.rfl⟩, hTu9.mono (fun k _ hk => (h3 k).2 hk), fun k hk => .inl ((h3 k).2 ?_)⟩
  · rw [kv_sim hS, kv_gone he ht, hr]
  · rcases hk with h1 | h1 | h1
    · exact .inl h1
    · exact .inr (.inl h1)
    · exact .inr (.inr (by rw [← hown]; exact h1))
theorem PT.take_no (h : PT w bt Fo P c) (k : ByteArray) (hk : KeyOk k) (hno : ∀ (j : Nat) (x : Pr), P[j]? = some x → x.1 ≠ k) :
    Calls Try.prog 27 #[.pointer (some ⟨bt, 0, none⟩), .string k] w fun e' w' => e' = .returned (.tuple #[.slice none 0 0, .bool false]) ∧ ∃ n, w' = w.drewN n := by
  obtain ⟨cv, pb, N, len, reach, came, places, hT, h1, rfl, h3⟩ := h
  exact S.take_no hT k hk (pt_no hno)
/-- No key stands twice. -/
theorem PT.uniq (h : PT w bt Fo P c) {i j : Nat} {x y : Pr} (hi : P[i]? = some x) (hj : P[j]? = some y) (hxy : x.1 = y.1) : i = j := by
  obtain ⟨cv, pb, N, len, reach, came, places, hT, h1, rfl, h3⟩ := h
  obtain ⟨t, e, he, ht, hr, rfl⟩ := pt_at hi
  obtain ⟨t', e', he', ht', hr', rfl⟩ := pt_at hj
  rw [← hr, ← hr', hT.uniq t e t' e' he ht he' ht' (by rw [show e.key = e'.key from hxy]; exact sm_refl _ _)]
end
end S
end Go.Proofs.Yteicdcpkikmjhaa
