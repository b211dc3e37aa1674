/- SafeWay, plainly: what it asks of a rule's names, of its faults, of its way. -/
import Derived.Test.YtpnjmldbohecdaaEZ
import Derived.Test.YtpnjmldbohecdaaEH
import Derived.Test.YtpnjmldbohecdaaEG
import Derived.Test.YtpnjmldbohecdaaEY
namespace Go.Proofs.Ytpnjmldbohecdaa
open Go.RowKit Go.Maps Go.Shelf

theorem onceN_mem {ps : List (Int × ByteArray)} {s : ByteArray} : s ∈ onceN ps ↔ s ∈ namesP ps := new_names
theorem allV_eq (x : Ru) : allS (onceN (bindP x.body)) (onceN (placesR x)) = ruleB x := by
  rw [Bool.eq_iff_iff, ruleB_iff]
  unfold allS
  rw [List.all_eq_true]
  constructor
  · intro h s hs
    have := (inB_iff _ _).1 (h s (onceN_mem.2 (placesR_names.2 hs)))
    exact bindP_names.1 (onceN_mem.1 this)
  · intro h s hs
    exact (inB_iff _ _).2 (onceN_mem.2 (bindP_names.2 (h s (placesR_names.1 (onceN_mem.1 hs)))))
theorem faults_one (x : Ru) : faultsF 0 [x] = (looseP x).map (fun p => ((0 : Int), p)) := by simp [faultsF]
theorem faults_len (x : Ru) : ((faultsF 0 [x]).length = 0) ↔ ruleB x = true := by
  rw [faults_one, List.length_map]
  unfold ruleB
  cases looseP x <;> simp [noneB]
theorem fault_name {x : Ru} (h : ruleB x = false) : ∃ p qs, looseP x = p :: qs ∧ faultsF 0 [x] = ((0 : Int), p) :: qs.map (fun p => ((0 : Int), p)) ∧ ruleN x = p.2 ∧ inB (onceN (bindP x.body)) p.2 = false ∧ inB (onceN (placesR x)) p.2 = true := by
  unfold ruleB at h
  cases hl : looseP x with
  | nil => rw [hl] at h; simp [noneB] at h
  | cons p qs =>
    have hp : p ∈ looseP x := by rw [hl]; exact List.mem_cons_self
    rw [looseP_eq, List.mem_filter] at hp
    refine ⟨p, qs, rfl, by rw [faults_one, hl]; rfl, by unfold ruleN; rw [hl]; rfl, ?_, ?_⟩
    · rw [inB_no, onceN_mem, ← inB_no]
      simpa using hp.2
    · rw [inB_iff, onceN_mem, ← new_names]
      exact namesP_mem.2 ⟨p, hp.1, rfl⟩
/-- The literals that a way has to tell. -/
def canB (us : List ByteArray) (ls : List Li) : Bool := ls.all fun l => !ofThree l || readyB l us
def manyN (ls : List Li) : Nat := (ls.filter ofThree).length
theorem ofThree_iff (l : Li) : ofThree l = true ↔ l.kind = 1 ∨ l.kind = 2 ∨ l.kind = 3 := by simp [ofThree, or_assoc]
theorem readyB_iff (l : Li) (us : List ByteArray) (h : ofThree l = true) : readyB l us = true ↔ l.kind = 1 ∨ ∀ s ∈ varsT l.terms, s ∈ us := by
  unfold readyB allS
  rw [ofThree_iff] at h
  simp only [Bool.or_eq_true, Bool.and_eq_true, beq_iff_eq, List.all_eq_true]
  constructor
  · rintro (h1 | ⟨-, h2⟩)
    · exact .inl h1
    · exact .inr fun s hs => (inB_iff _ _).1 (h2 s hs)
  · rintro (h1 | h2)
    · exact .inl h1
    · rcases h with h | h
      · exact .inl h
      · exact .inr ⟨h, fun s hs => (inB_iff _ _).2 (h2 s hs)⟩
theorem not_three_vars {l : Li} (h : ofThree l = false) : varsT l.terms = [] := by
  have h' : ¬ (l.kind = 1 ∨ l.kind = 2 ∨ l.kind = 3) := fun h2 => by rw [(ofThree_iff l).2 h2] at h; cases h
  unfold Li.terms
  rw [if_neg (fun h2 => h' (h2.imp id .inl)), if_neg (fun h2 => h' (.inr (.inr h2)))]
  rfl
theorem can_way (ls : List Li) : canB (onceN (bindP ls)) ls = wayOkB ls := by
  rw [Bool.eq_iff_iff, wayOk_iff]
  unfold canB
  rw [List.all_eq_true]
  constructor
  · intro h l hl s hs
    have h1 := h l hl
    cases h3 : ofThree l
    · rw [not_three_vars h3] at hs; cases hs
    · rw [h3] at h1
      rcases (readyB_iff l _ h3).1 (by simpa using h1) with h2 | h2
      · exact bindP_names.2 ⟨l, hl, h2, hs⟩
      · exact onceN_mem.1 (h2 s hs)
  · intro h l hl
    cases h3 : ofThree l
    · rfl
    · rw [(readyB_iff l _ h3).2 (.inr fun s hs => onceN_mem.2 (h l hl s hs))]
      rfl
def idxT : Nat → List Li → List Int
  | _, [] => []
  | k, l :: ls => if ofThree l = true then (k : Int) :: idxT (k + 1) ls else idxT (k + 1) ls
theorem idxT_mem : ∀ (k : Nat) (ls : List Li) (z : Int), z ∈ idxT k ls ↔ ∃ (j : Nat) (l : Li), z = ((k + j : Nat) : Int) ∧ ls[j]? = some l ∧ ofThree l = true
  | _, [], z => by simp [idxT]
  | k, l :: ls, z => by
    have ih := idxT_mem (k + 1) ls z
    have hcons : (∃ (j : Nat) (l' : Li), z = ((k + j : Nat) : Int) ∧ (l :: ls)[j]? = some l' ∧ ofThree l' = true) ↔ (z = (k : Int) ∧ ofThree l = true) ∨ z ∈ idxT (k + 1) ls := by
      rw [ih]
      constructor
      · rintro ⟨j, l', h1, h2, h3⟩
        cases j with
        | zero => simp at h2; subst h2; exact .inl ⟨by simpa using h1, h3⟩
        | succ j => exact .inr ⟨j, l', by rw [h1]; omega, by simpa using h2, h3⟩
      · rintro (⟨h1, h2⟩ | ⟨j, l', h1, h2, h3⟩)
        · exact ⟨0, l, by simpa using h1, rfl, h2⟩
        · exact ⟨j + 1, l', by rw [h1]; omega, by simpa using h2, h3⟩
    rw [hcons]
    have e : idxT k (l :: ls) = if ofThree l = true then (k : Int) :: idxT (k + 1) ls else idxT (k + 1) ls := rfl
    rw [e]
    split
    · rename_i h; rw [List.mem_cons]; simp [h]
    · rename_i h; simp [h]
theorem idxT_nodup : ∀ (k : Nat) (ls : List Li), (idxT k ls).Nodup
  | _, [] => by simp [idxT]
  | k, l :: ls => by
    unfold idxT
    split
    · rw [List.nodup_cons]
      refine ⟨fun h => ?_, idxT_nodup _ _⟩
      obtain ⟨j, l', h1, -⟩ := (idxT_mem _ _ _).1 h
      omega
    · exact idxT_nodup _ _
theorem idxT_len : ∀ (k : Nat) (ls : List Li), (idxT k ls).length = manyN ls
  | _, [] => rfl
  | k, l :: ls => by
    have ih := idxT_len (k + 1) ls
    unfold manyN at *
    unfold idxT
    rw [List.filter_cons]
    split
    · rw [List.length_cons, List.length_cons, ih]
    · exact ih
theorem way_len {ls : List Li} (hok : wayOkB ls = true) : (takeN (bindP ls) ls ls.length).1.length = manyN ls := by
  rw [← idxT_len 0 ls]
  have hn := (take_inv ((wayOk_iff ls).1 hok) ls.length (Nat.le_refl _)).nodw
  refine Nat.le_antisymm (nodup_le hn fun z hz => ?_) (nodup_le (idxT_nodup 0 ls) fun z hz => ?_)
  · obtain ⟨j, l, h⟩ := (way_members hok z).1 hz
    exact (idxT_mem 0 ls z).2 ⟨j, l, by simpa using h⟩
  · obtain ⟨j, l, h⟩ := (idxT_mem 0 ls z).1 hz
    exact (way_members hok z).2 ⟨j, l, by simpa using h⟩
/-- The literals behind a list of numbers. -/
def litsAt (ls : List Li) (zs : List Int) : List Li := zs.filterMap fun z => ls[z.toNat]?
theorem way_round {ls : List Li} (hok : wayOkB ls = true) {i : Nat} (hi : i < (takeN (bindP ls) ls ls.length).1.length) :
    ∃ (j : Nat) (l : Li), (takeN (bindP ls) ls ls.length).1[i] = (j : Int) ∧ ls[j]? = some l ∧ (j : Int) ∉ (takeN (bindP ls) ls ls.length).1.take i ∧ readyB l (onceN (bindP (litsAt ls ((takeN (bindP ls) ls ls.length).1.take i)))) = true := by
  obtain ⟨j, l, hz, hl, h3⟩ := (way_members hok _).1 (List.getElem_mem hi)
  have hI := take_inv ((wayOk_iff ls).1 hok) ls.length (Nat.le_refl _)
  generalize (takeN (bindP ls) ls ls.length).1 = way at *
  have hsp : way = way.take i ++ way[i] :: way.drop (i + 1) := by
    rw [List.getElem_cons_drop]; exact (List.take_append_drop i way).symm
  refine ⟨j, l, hz, hl, fun hm => ?_, (readyB_iff l _ h3).2 ?_⟩
  · have hn := hI.nodw
    rw [hsp, List.nodup_append] at hn
    exact hn.2.2 _ hm _ List.mem_cons_self hz.symm
  · by_cases hk : l.kind = 1
    · exact .inl hk
    · refine .inr fun s hs => ?_
      obtain ⟨f, l', h1, h2, h4, h5⟩ := hI.rdy _ _ _ hsp j l hz hl hk s hs
      rw [onceN_mem]
      refine bindP_names.2 ⟨l', ?_, h4, h5⟩
      unfold litsAt
      rw [List.mem_filterMap]
      exact ⟨f, h1, by simpa using h2⟩
theorem litsAt_mem {ls : List Li} {zs : List Int} {l : Li} (h : l ∈ litsAt ls zs) : l ∈ ls := by
  unfold litsAt at h
  obtain ⟨z, -, hz⟩ := List.mem_filterMap.1 h
  exact List.mem_of_getElem? hz
theorem litsAt_snoc {ls : List Li} {zs : List Int} {j : Nat} {l : Li} (h : ls[j]? = some l) : litsAt ls (zs ++ [(j : Int)]) = litsAt ls zs ++ [l] := by
  unfold litsAt
  rw [List.filterMap_append]
  simp [h]
theorem litsAt_len (ls : List Li) (zs : List Int) : (litsAt ls zs).length ≤ zs.length := List.length_filterMap_le _ _
end Go.Proofs.Ytpnjmldbohecdaa
