/- Sets, plainly. No walk here. -/
import Derived.Test.YtdbilngkokkggaaSB
import Derived.Test.YtdbilngkokkggaaSF
namespace Go.Proofs.Ytdbilngkokkggaa

/-- Strictly rising. -/
def Strict (l : List (Int × Int)) : Prop := l.Pairwise fun a b => a.1 < b.1
theorem Strict.rises {l : List (Int × Int)} (h : Strict l) : Rises l := h.imp (fun h => by omega)
theorem Strict.filter {l : List (Int × Int)} (h : Strict l) (p : Int × Int → Bool) : Strict (l.filter p) := h.sublist List.filter_sublist
theorem has_iff {m : List (Int × Int)} {y : Int} : hasR m y = true ↔ ∃ x ∈ m, x.1 = y := by
  unfold hasR
  rw [List.any_eq_true]
  simp
theorem has_cons (x : Int × Int) (m : List (Int × Int)) (y : Int) : hasR (x :: m) y = (x.1 == y || hasR m y) := by simp [hasR]
theorem has_above {x : Int × Int} {m : List (Int × Int)} (h : ∀ a ∈ m, x.1 < a.1) {y : Int} (hy : y ≤ x.1) : hasR m y = false := by
  cases e : hasR m y with
  | false => rfl
  | true =>
    obtain ⟨a, ha, h1⟩ := has_iff.1 e
    have := h a ha
    omega
/-- One list alone rises strictly and has these. -/
theorem strict_unique : ∀ {A B : List (Int × Int)}, A.Perm B → Strict A → Rises B → A = B
  | [], B, hp, _, _ => by rw [List.nil_perm.1 hp]
  | a :: A, [], hp, _, _ => by simp at hp
  | a :: A, b :: B, hp, hA, hB => by
    have hA1 := List.pairwise_cons.1 hA
    have hB1 := List.pairwise_cons.1 hB
    have hb : b ∈ a :: A := hp.mem_iff.2 (by simp)
    have ha : a ∈ b :: B := hp.mem_iff.1 (by simp)
    have h1 : b.1 ≤ a.1 := by
      rcases List.mem_cons.1 ha with h | h
      · rw [h]; omega
      · exact hB1.1 a h
    have hab : b = a := by
      rcases List.mem_cons.1 hb with h | h
      · exact h
      · have := hA1.1 b h; omega
    subst hab
    rw [strict_unique hp.cons_inv hA1.2 hB1.2]
theorem minus_mem {m l : List (Int × Int)} {x : Int × Int} (h : x ∈ minusR m l) : x ∈ m := (List.mem_filter.1 h).1
theorem union_perm : ∀ (l m : List (Int × Int)), Strict l → Strict m → (unionR l m).Perm (l ++ minusR m l)
  | [], m, _, _ => by
    have e : minusR m [] = m := List.filter_eq_self.2 (fun _ _ => rfl)
    rw [unionR, e]
    exact List.Perm.refl _
  | x :: l, [], _, _ => by simp [unionR, minusR]
  | x :: l, y :: m, hl, hm => by
    have hl1 := List.pairwise_cons.1 hl
    have hm1 := List.pairwise_cons.1 hm
    rw [unionR]
    by_cases h1 : x.1 < y.1
    · rw [if_pos h1]
      have e : minusR (y :: m) (x :: l) = minusR (y :: m) l := by
        unfold minusR
        apply List.filter_congr
        intro z hz
        rw [has_cons]
        have hxz : ¬ x.1 = z.1 := by
          rcases List.mem_cons.1 hz with h | h
          · rw [h]; omega
          · have := hm1.1 z h; omega
        simp [hxz]
      rw [e]
      exact (union_perm l (y :: m) hl1.2 hm).cons x
    · rw [if_neg h1]
      by_cases h2 : y.1 < x.1
      · rw [if_pos h2]
        have hn : hasR (x :: l) y.1 = false := by
          rw [has_cons, has_above hl1.1 (by omega)]
          have : ¬ x.1 = y.1 := by omega
          simp [this]
        have e : minusR (y :: m) (x :: l) = y :: minusR m (x :: l) := by
          unfold minusR
          rw [List.filter_cons, hn]
          simp
        rw [e]
        exact ((union_perm (x :: l) m hl hm1.2).cons y).trans List.perm_middle.symm
      · rw [if_neg h2]
        have hxy : x.1 = y.1 := by omega
        have e : minusR (y :: m) (x :: l) = minusR m l := by
          unfold minusR
          rw [List.filter_cons, has_cons]
          simp only [hxy, beq_self_eq_true, Bool.true_or, Bool.not_true, Bool.false_eq_true, if_false]
          apply List.filter_congr
          intro z hz
          rw [has_cons]
          have hxz : ¬ x.1 = z.1 := by have := hm1.1 z hz; omega
          simp [hxz]
        rw [e]
        exact (union_perm l m hl1.2 hm1.2).cons x
termination_by l m => l.length + m.length
theorem union_mem {l m : List (Int × Int)} (hl : Strict l) (hm : Strict m) {x : Int × Int} (h : x ∈ unionR l m) : x ∈ l ∨ x ∈ m := by
  rcases List.mem_append.1 ((union_perm l m hl hm).mem_iff.1 h) with h1 | h1
  · exact .inl h1
  · exact .inr (minus_mem h1)
theorem union_strict : ∀ (l m : List (Int × Int)), Strict l → Strict m → Strict (unionR l m)
  | [], m, _, hm => by simpa [unionR] using hm
  | x :: l, [], hl, _ => by simpa [unionR] using hl
  | x :: l, y :: m, hl, hm => by
    have hl1 := List.pairwise_cons.1 hl
    have hm1 := List.pairwise_cons.1 hm
    rw [unionR]
    by_cases h1 : x.1 < y.1
    · rw [if_pos h1]
      refine List.pairwise_cons.2 ⟨fun e he => ?_, union_strict l (y :: m) hl1.2 hm⟩
      rcases union_mem hl1.2 hm he with h | h
      · exact hl1.1 e h
      · rcases List.mem_cons.1 h with h | h
        · rw [h]; exact h1
        · have := hm1.1 e h; omega
    · rw [if_neg h1]
      by_cases h2 : y.1 < x.1
      · rw [if_pos h2]
        refine List.pairwise_cons.2 ⟨fun e he => ?_, union_strict (x :: l) m hl hm1.2⟩
        rcases union_mem hl hm1.2 he with h | h
        · rcases List.mem_cons.1 h with h | h
          · rw [h]; exact h2
          · have := hl1.1 e h; omega
        · exact hm1.1 e h
      · rw [if_neg h2]
        refine List.pairwise_cons.2 ⟨fun e he => ?_, union_strict l m hl1.2 hm1.2⟩
        rcases union_mem hl1.2 hm1.2 he with h | h
        · exact hl1.1 e h
        · have := hm1.1 e h; omega
termination_by l m => l.length + m.length
/-- Union of sets is what the document says. -/
theorem union_sort {l m : List (Int × Int)} (hl : Strict l) (hm : Strict m) : unionR l m = sortR (l ++ minusR m l) :=
  strict_unique ((union_perm l m hl hm).trans (sortR_perm _).symm) (union_strict l m hl hm) (sortR_rises _)
theorem uniq_strict {s : List (Int × Int)} (hs : Rises s) : ∀ k, k ≤ s.length → Strict (uniqR s k) ∧ ∀ e ∈ uniqR s k, ∀ (h : k - 1 < s.length), e.1 ≤ s[k - 1].1
  | 0, _ => ⟨List.Pairwise.nil, fun e he => by simp [uniqR] at he⟩
  | k + 1, hk => by
    obtain ⟨h1, h2⟩ := uniq_strict hs k (by omega)
    have hg : s.getD k (0, 0) = s[k] := by simp [List.getD_eq_getElem?_getD, List.getElem?_eq_getElem (show k < s.length by omega)]
    have hup : ∀ e ∈ uniqR s k, 0 < k → e.1 ≤ (s[k - 1]'(by omega)).1 := fun e he _ => h2 e he (by omega)
    have hle : 0 < k → (s[k - 1]'(by omega)).1 ≤ (s[k]'(by omega)).1 := fun h => List.pairwise_iff_getElem.1 hs (k - 1) k (by omega) (by omega) (by omega)
    have hkn : uniqR s k ≠ [] → 0 < k := fun hne => by
      cases k with
      | zero => exact absurd rfl hne
      | succ n => omega
    rw [uniqR, hg]
    by_cases hc : k = 0 ∨ ¬ s[k].1 = (s.getD (k - 1) (0, 0)).1
    · rw [if_pos hc]
      refine ⟨?_, fun e he h => ?_⟩
      · unfold Strict
        rw [List.pairwise_append]
        refine ⟨h1, List.pairwise_singleton _ _, fun a ha b hb => ?_⟩
        simp only [List.mem_singleton] at hb
        subst hb
        have h0 := hkn (List.ne_nil_of_mem ha)
        have h3 := hup a ha h0
        have h4 := hle h0
        have hg2 : s.getD (k - 1) (0, 0) = s[k - 1] := by simp [List.getD_eq_getElem?_getD, List.getElem?_eq_getElem (show k - 1 < s.length by omega)]
        rw [hg2] at hc
        rcases hc with hc | hc
        · omega
        · omega
      · simp only [Nat.add_sub_cancel]
        rcases List.mem_append.1 he with h3 | h3
        · have h0 := hkn (List.ne_nil_of_mem h3)
          have := hup e h3 h0
          have := hle h0
          omega
        · simp only [List.mem_singleton] at h3
          rw [h3]; omega
    · rw [if_neg hc, List.append_nil]
      refine ⟨h1, fun e he h => ?_⟩
      simp only [Nat.add_sub_cancel]
      have h0 := hkn (List.ne_nil_of_mem he)
      have := hup e he h0
      have := hle h0
      omega
theorem set_strict (l : List (Int × Int)) : Strict (setR l) := (uniq_strict (sortR_rises l) l.length (by rw [sortR_len]; omega)).1
theorem set_len (l : List (Int × Int)) : (setR l).length ≤ l.length := uniqR_len _ _
theorem minus_self (l : List (Int × Int)) : minusR l l = [] := by
  unfold minusR
  rw [List.filter_eq_nil_iff]
  intro a ha
  rw [has_iff.2 ⟨a, ha, rfl⟩]
  simp
theorem meet_self (l : List (Int × Int)) : meetR l l = l := List.filter_eq_self.2 (fun a ha => has_iff.2 ⟨a, ha, rfl⟩)
/-- What was kept and what was struck, joined. -/
theorem union_parts {s : List (Int × Int)} (hs : Strict s) (t : List (Int × Int)) : unionR (minusR s t) (meetR s t) = s := by
  have h1 : Strict (minusR s t) := hs.filter _
  have h2 : Strict (meetR s t) := hs.filter _
  have e : minusR (meetR s t) (minusR s t) = meetR s t := by
    refine List.filter_eq_self.2 (fun a ha => ?_)
    have ha2 := (List.mem_filter.1 ha).2
    have hn : hasR (minusR s t) a.1 = false := by
      cases e : hasR (minusR s t) a.1 with
      | false => rfl
      | true =>
        obtain ⟨b, hb, h3⟩ := has_iff.1 e
        have h4 := (List.mem_filter.1 hb).2
        rw [h3, ha2] at h4
        simp at h4
    rw [hn]; rfl
  refine strict_unique ((union_perm _ _ h1 h2).trans ?_) (union_strict _ _ h1 h2) hs.rises
  rw [e]
  have := List.filter_append_perm (fun x : Int × Int => hasR t x.1) s
  exact List.perm_append_comm.trans this
theorem meet_ranks (l m : List (Int × Int)) (r : Int) : r ∈ (meetR l m).map (·.1) ↔ hasR l r = true ∧ hasR m r = true := by
  rw [List.mem_map]
  constructor
  · rintro ⟨a, ha, rfl⟩
    obtain ⟨h1, h2⟩ := List.mem_filter.1 ha
    exact ⟨has_iff.2 ⟨a, h1, rfl⟩, h2⟩
  · rintro ⟨h1, h2⟩
    obtain ⟨a, ha, rfl⟩ := has_iff.1 h1
    exact ⟨a, List.mem_filter.2 ⟨ha, h2⟩, rfl⟩
theorem Strict.ranks {l : List (Int × Int)} (h : Strict l) : (l.map (·.1)).Nodup := by
  unfold List.Nodup
  rw [List.pairwise_map]
  exact List.Pairwise.imp (fun h e => by omega) h
theorem meet_len {l m : List (Int × Int)} (hl : Strict l) (hm : Strict m) : (meetR l m).length = (meetR m l).length := by
  have h1 : Strict (meetR l m) := hl.filter _
  have h2 : Strict (meetR m l) := hm.filter _
  have h := (List.perm_ext_iff_of_nodup h1.ranks h2.ranks).2 (fun r => by rw [meet_ranks, meet_ranks]; exact And.comm)
  simpa using h.length_eq
theorem union_len {l m : List (Int × Int)} (hl : Strict l) (hm : Strict m) : (unionR l m).length + (meetR l m).length = l.length + m.length := by
  have h1 := (union_perm l m hl hm).length_eq
  have h2 := (List.filter_append_perm (fun x : Int × Int => hasR l x.1) m).length_eq
  have h3 := meet_len hl hm
  rw [List.length_append] at h1 h2
  unfold meetR at h3 ⊢
  unfold minusR at h1
  omega
end Go.Proofs.Ytdbilngkokkggaa
