/- What take tells is a way: each literal of the three kinds once, each ready given the positive ones ahead. Plainly. -/
import Derived.Test.YtpnjmldbohecdaaEU
import Derived.Test.YtpnjmldbohecdaaET
import Derived.Test.YtpnjmldbohecdaaQO
namespace Go.Proofs.Ytpnjmldbohecdaa
open Go.RowKit Go.Maps Go.Shelf

/-- Has a body a way. -/
def wayOkB (ls : List Li) : Bool := allIn (bindP ls) (placesB 0 ls)
/-- The numbers of places rise. -/
theorem places_rise : ∀ (k : Nat) (ls : List Li), (placesB k ls).Pairwise (fun p q => p.1 ≤ q.1)
  | _, [] => by simp [placesB]
  | k, l :: ls => by
    unfold placesB
    rw [List.pairwise_append]
    refine ⟨?_, places_rise (k + 1) ls, fun p hp q hq => ?_⟩
    · rw [List.pairwise_map]
      exact List.pairwise_of_forall (fun _ _ => Int.le_refl _)
    · obtain ⟨s, -, rfl⟩ := List.mem_map.1 hp
      obtain ⟨j, hj, h1, -⟩ := placesB_mem (k + 1) ls q hq
      rw [h1]
      show (k : Int) ≤ _
      omega
theorem bind_rise (ls : List Li) : (bindP ls).Pairwise (fun p q => p.1 ≤ q.1) := by
  rw [bindP_eq]
  exact (places_rise 0 ls).filter _
theorem firstAt_le : ∀ {ps : List (Int × ByteArray)} (_ : ps.Pairwise (fun p q => p.1 ≤ q.1)) {p : Int × ByteArray} (_ : p ∈ ps), firstAt ps p.2 ≤ p.1
  | [], _, _, h => absurd h List.not_mem_nil
  | q :: qs, hr, p, h => by
    rw [List.pairwise_cons] at hr
    unfold firstAt
    split
    · rcases List.mem_cons.1 h with rfl | h
      · exact Int.le_refl _
      · exact hr.1 p h
    · rename_i hne
      rcases List.mem_cons.1 h with rfl | h
      · exact absurd rfl hne
      · exact firstAt_le hr.2 h
theorem firstAt_mem : ∀ {ps : List (Int × ByteArray)} {s : ByteArray}, s ∈ namesP ps → (firstAt ps s, s) ∈ ps
  | [], s, h => by simp [namesP] at h
  | q :: qs, s, h => by
    unfold firstAt
    split
    · rename_i he
      subst he
      exact List.mem_cons_self
    · rename_i hne
      refine List.mem_cons_of_mem _ (firstAt_mem ?_)
      simp only [namesP, List.map_cons, List.mem_cons] at h
      rcases h with h | h
      · exact absurd h.symm hne
      · exact h
theorem bind_at {ls : List Li} {p : Int × ByteArray} (h : p ∈ bindP ls) : ∃ f l, p.1 = (f : Nat) ∧ ls[f]? = some l ∧ l.kind = 1 ∧ p.2 ∈ varsT l.terms := by
  rw [bindP_eq, List.mem_filter] at h
  obtain ⟨j, hj, hpj, hv⟩ := placesB_mem 0 ls p h.1
  rw [Nat.zero_add] at hpj
  have := h.2
  rw [bindC_at hj hpj] at this
  exact ⟨j, _, hpj, List.getElem?_eq_getElem hj, by simpa using this, hv⟩
theorem bind_has {ls : List Li} {j : Nat} {l : Li} {s : ByteArray} (hj : ls[j]? = some l) (hk : l.kind = 1) (hs : s ∈ varsT l.terms) : ((j : Int), s) ∈ bindP ls := by
  obtain ⟨h1, h2⟩ := List.getElem?_eq_some_iff.1 hj
  subst h2
  rw [bindP_eq, List.mem_filter]
  have hm := placesB_has 0 ls j h1 s hs
  rw [Nat.zero_add] at hm
  exact ⟨hm, by rw [bindC_at h1 rfl]; simpa using hk⟩
theorem lastS_le {bs : List (Int × ByteArray)} {ss : List ByteArray} {s : ByteArray} (h : s ∈ ss) : firstAt bs s ≤ lastS bs ss := by
  unfold lastS
  have mono : ∀ (l : List ByteArray) (m : Int), m ≤ l.foldl (fun m s => max m (firstAt bs s)) m := by
    intro l
    induction l with
    | nil => exact fun m => Int.le_refl _
    | cons x l ih => exact fun m => Int.le_trans (Int.le_max_left _ _) (ih _)
  have : ∀ (l : List ByteArray) (m : Int), s ∈ l → firstAt bs s ≤ l.foldl (fun m s => max m (firstAt bs s)) m := by
    intro l
    induction l with
    | nil => exact fun m h => absurd h List.not_mem_nil
    | cons x l ih =>
      intro m h
      rcases List.mem_cons.1 h with rfl | h
      · exact Int.le_trans (Int.le_max_right _ _) (mono l _)
      · exact ih _ h
  exact this ss 0 h
theorem lastS_is {bs : List (Int × ByteArray)} {ss : List ByteArray} (h : 0 < lastS bs ss) : ∃ s ∈ ss, lastS bs ss = firstAt bs s := by
  unfold lastS at *
  have : ∀ (l : List ByteArray) (m : Int), l.foldl (fun m s => max m (firstAt bs s)) m = m ∨ ∃ s ∈ l, l.foldl (fun m s => max m (firstAt bs s)) m = firstAt bs s := by
    intro l
    induction l with
    | nil => exact fun m => .inl rfl
    | cons x l ih =>
      intro m
      rw [List.foldl_cons]
      rcases ih (max m (firstAt bs x)) with h | ⟨s, hs, h⟩
      · rw [h]
        by_cases hm : m ≤ firstAt bs x
        · exact .inr ⟨x, List.mem_cons_self, by omega⟩
        · exact .inl (by omega)
      · exact .inr ⟨s, List.mem_cons_of_mem _ hs, h⟩
  rcases this ss 0 with h0 | h0
  · omega
  · exact h0
theorem waits_no {bs : List (Int × ByteArray)} {i : Int} {l : Li} (h : waits bs i l = false) {s : ByteArray} (hs : s ∈ varsT l.terms) : firstAt bs s ≤ i := by
  unfold waits waitsS at h
  rw [List.any_eq_false] at h
  have := h s hs
  simpa using this
theorem waits_yes {bs : List (Int × ByteArray)} {i : Int} {l : Li} (h : waits bs i l = true) : ∃ s ∈ varsT l.terms, i < firstAt bs s := by
  unfold waits waitsS at h
  obtain ⟨s, hs, h⟩ := List.any_eq_true.1 h
  exact ⟨s, hs, by simpa using h⟩

/-- A positive literal never waits. -/
theorem pos_waits {ls : List Li} {j : Nat} {l : Li} (hj : ls[j]? = some l) (hk : l.kind = 1) : waits (bindP ls) (j : Int) l = false := by
  cases hw : waits (bindP ls) (j : Int) l
  · rfl
  · obtain ⟨s, hs, h⟩ := waits_yes hw
    have := firstAt_le (bind_rise ls) (bind_has hj hk hs)
    dsimp only at this
    omega
/-- Whoever waits waits for a positive one behind it. -/
theorem waits_last {ls : List Li} (hok : ∀ l ∈ ls, ∀ s ∈ varsT l.terms, s ∈ namesP (bindP ls)) {j : Nat} {l : Li} (hj : ls[j]? = some l) (hw : waits (bindP ls) (j : Int) l = true) : ∃ i l', lastS (bindP ls) (varsT l.terms) = (i : Nat) ∧ ls[i]? = some l' ∧ l'.kind = 1 ∧ j < i := by
  obtain ⟨s, hs, h⟩ := waits_yes hw
  have h1 := lastS_le (bs := bindP ls) hs
  obtain ⟨s', hs', h2⟩ := lastS_is (bs := bindP ls) (ss := varsT l.terms) (by omega)
  obtain ⟨f, l', e, hf, hk, -⟩ := bind_at (firstAt_mem (hok l (List.mem_of_getElem? hj) s' hs'))
  dsimp only at e
  exact ⟨f, l', by rw [h2, e], hf, hk, by omega⟩
theorem first_pos {ls : List Li} (hok : ∀ l ∈ ls, ∀ s ∈ varsT l.terms, s ∈ namesP (bindP ls)) {j : Nat} {l : Li} (hj : ls[j]? = some l) {s : ByteArray} (hs : s ∈ varsT l.terms) : ∃ f l', firstAt (bindP ls) s = (f : Nat) ∧ ls[f]? = some l' ∧ l'.kind = 1 ∧ s ∈ varsT l'.terms := by
  obtain ⟨f, l', e, hf, hk, hv⟩ := bind_at (firstAt_mem (hok l (List.mem_of_getElem? hj) s hs))
  exact ⟨f, l', e, hf, hk, hv⟩

/-- Who stands in the lists, who on the way. -/
def InWt (ls : List Li) (k : Nat) (m z : Int) : Prop := ∃ (j : Nat) (l : Li), z = j ∧ j < k ∧ ls[j]? = some l ∧ ofThree l = true ∧ waits (bindP ls) (j : Int) l = true ∧ lastS (bindP ls) (varsT l.terms) = m
def InWy (ls : List Li) (k : Nat) (z : Int) : Prop := ∃ (j : Nat) (l : Li), z = j ∧ j < k ∧ ls[j]? = some l ∧ ofThree l = true ∧ (waits (bindP ls) (j : Int) l = false ∨ lastS (bindP ls) (varsT l.terms) < k)
/-- A literal that stands behind X is ready. -/
def RdyBy (ls : List Li) (X : List Int) (z : Int) : Prop := ∀ (j : Nat) (l : Li), z = j → ls[j]? = some l → l.kind ≠ 1 → ∀ s ∈ varsT l.terms, ∃ (f : Nat) (l' : Li), (f : Int) ∈ X ∧ ls[f]? = some l' ∧ l'.kind = 1 ∧ s ∈ varsT l'.terms
structure TakeI (ls : List Li) (k : Nat) (way : List Int) (wt : Int → List Int) : Prop where
  wts : ∀ m z, z ∈ wt m ↔ InWt ls k m z
  wys : ∀ z, z ∈ way ↔ InWy ls k z
  nodw : way.Nodup
  nodt : ∀ m, (wt m).Nodup
  rdy : ∀ X z Y, way = X ++ z :: Y → RdyBy ls X z
theorem three_pos {l : Li} (h : l.kind = 1) : ofThree l = true := by unfold ofThree; rw [h]; rfl
theorem TakeI.step {ls : List Li} (hok : ∀ l ∈ ls, ∀ s ∈ varsT l.terms, s ∈ namesP (bindP ls)) {k : Nat} {way : List Int} {wt : Int → List Int} (h : TakeI ls k way wt) {l : Li} (hk : ls[k]? = some l) : TakeI ls (k + 1) (takeS (bindP ls) (k : Int) l (way, wt)).1 (takeS (bindP ls) (k : Int) l (way, wt)).2 := by
  have lastk : ∀ (j : Nat) (l' : Li), ls[j]? = some l' → waits (bindP ls) (j : Int) l' = true → lastS (bindP ls) (varsT l'.terms) = (k : Int) → l.kind = 1 := fun j l' hj hw hl => by
    obtain ⟨i, l2, e, hi, hp, -⟩ := waits_last hok hj hw
    obtain rfl : i = k := by omega
    rw [hk] at hi
    cases hi
    exact hp
  by_cases h3 : ofThree l = true
  · by_cases hw : waits (bindP ls) (k : Int) l = true
    · have e : takeS (bindP ls) (k : Int) l (way, wt) = (way, fun j => if j = lastS (bindP ls) (varsT l.terms) then wt (lastS (bindP ls) (varsT l.terms)) ++ [(k : Int)] else wt j) := by unfold takeS; rw [if_pos h3, if_pos hw]
      rw [e]
      obtain ⟨i, l2, hL, hi, hp, hki⟩ := waits_last hok hk hw
      have hnp : l.kind ≠ 1 := fun hp => by rw [pos_waits hk hp] at hw; cases hw
      have hnk : ∀ m, (k : Int) ∉ wt m := fun m hm => by
        obtain ⟨j, l', e1, e2, -⟩ := (h.wts m _).1 hm
        omega
      refine ⟨fun m z => ?_, fun z => ?_, h.nodw, fun m => ?_, h.rdy⟩
      · dsimp only
        by_cases hm : m = lastS (bindP ls) (varsT l.terms)
        · rw [if_pos hm, List.mem_append, List.mem_singleton, ← hm, h.wts]
          constructor
          · rintro (⟨j, l', e1, e2, e3⟩ | rfl)
            · exact ⟨j, l', e1, by omega, e3⟩
            · exact ⟨k, l, rfl, by omega, hk, h3, hw, hm.symm⟩
          · rintro ⟨j, l', e1, e2, e3, e4⟩
            by_cases hj : j = k
            · exact .inr (by rw [e1, hj])
            · exact .inl ⟨j, l', e1, by omega, e3, e4⟩
        · rw [if_neg hm, h.wts]
          constructor
          · rintro ⟨j, l', e1, e2, e3⟩
            exact ⟨j, l', e1, by omega, e3⟩
          · rintro ⟨j, l', e1, e2, e3, e4, e5, e6⟩
            have hj : j ≠ k := fun hj => by subst hj; rw [hk] at e3; cases e3; exact hm e6.symm
            exact ⟨j, l', e1, by omega, e3, e4, e5, e6⟩
      · rw [h.wys]
        constructor
        · rintro ⟨j, l', e1, e2, e3, e4, e5⟩
          exact ⟨j, l', e1, by omega, e3, e4, e5.imp id (fun h => by omega)⟩
        · rintro ⟨j, l', e1, e2, e3, e4, e5⟩
          have hj : j ≠ k := fun hj => by
            subst hj
            rw [hk] at e3
            cases e3
            rcases e5 with e5 | e5
            · rw [hw] at e5; cases e5
            · omega
          refine ⟨j, l', e1, by omega, e3, e4, ?_⟩
          cases hwj : waits (bindP ls) (j : Int) l'
          · exact .inl rfl
          · refine .inr ?_
            rcases e5 with e5 | e5
            · rw [hwj] at e5; cases e5
            · have : lastS (bindP ls) (varsT l'.terms) ≠ (k : Int) := fun hl => hnp (lastk j l' e3 hwj hl)
              omega
      · dsimp only
        split
        · rw [List.nodup_append]
          exact ⟨h.nodt _, by simp, fun a ha b hb => by rw [List.mem_singleton] at hb; subst hb; exact fun e => hnk _ (e ▸ ha)⟩
        · exact h.nodt m
    · have hw : waits (bindP ls) (k : Int) l = false := by simpa using hw
      have e : takeS (bindP ls) (k : Int) l (way, wt) = (way ++ [(k : Int)] ++ wt k, wt) := by unfold takeS; rw [if_pos h3, if_neg (by rw [hw]; simp)]
      rw [e]
      have hposin : ∀ (f : Nat) (l' : Li), f < k → ls[f]? = some l' → l'.kind = 1 → (f : Int) ∈ way := fun f l' h1 h2 h3' => (h.wys _).2 ⟨f, l', rfl, h1, h2, three_pos h3', .inl (pos_waits h2 h3')⟩
      have hnk : (k : Int) ∉ way := fun hm => by
        obtain ⟨j, l', e1, e2, -⟩ := (h.wys _).1 hm
        omega
      have hnt : (k : Int) ∉ wt k := fun hm => by
        obtain ⟨j, l', e1, e2, -⟩ := (h.wts _ _).1 hm
        omega
      refine ⟨fun m z => ?_, fun z => ?_, ?_, h.nodt, fun X z Y hX => ?_⟩
      · rw [h.wts]
        constructor
        · rintro ⟨j, l', e1, e2, e3⟩
          exact ⟨j, l', e1, by omega, e3⟩
        · rintro ⟨j, l', e1, e2, e3, e4, e5, e6⟩
          have hj : j ≠ k := fun hj => by subst hj; rw [hk] at e3; cases e3; rw [hw] at e5; cases e5
          exact ⟨j, l', e1, by omega, e3, e4, e5, e6⟩
      · rw [List.mem_append, List.mem_append, List.mem_singleton, h.wys, h.wts]
        constructor
        · rintro ((⟨j, l', e1, e2, e3, e4, e5⟩ | rfl) | ⟨j, l', e1, e2, e3, e4, e5, e6⟩)
          · exact ⟨j, l', e1, by omega, e3, e4, e5.imp id (fun h => by omega)⟩
          · exact ⟨k, l, rfl, by omega, hk, h3, .inl hw⟩
          · exact ⟨j, l', e1, by omega, e3, e4, .inr (by omega)⟩
        · rintro ⟨j, l', e1, e2, e3, e4, e5⟩
          by_cases hj : j = k
          · exact .inl (.inr (by rw [e1, hj]))
          · cases hwj : waits (bindP ls) (j : Int) l'
            · exact .inl (.inl ⟨j, l', e1, by omega, e3, e4, .inl hwj⟩)
            · rcases e5 with e5 | e5
              · rw [hwj] at e5; cases e5
              · by_cases hl : lastS (bindP ls) (varsT l'.terms) = (k : Int)
                · exact .inr ⟨j, l', e1, by omega, e3, e4, hwj, hl⟩
                · exact .inl (.inl ⟨j, l', e1, by omega, e3, e4, .inr (by omega)⟩)
      · rw [List.nodup_append, List.nodup_append]
        refine ⟨⟨h.nodw, by simp, fun a ha b hb => ?_⟩, h.nodt _, fun a ha b hb e => ?_⟩
        · rw [List.mem_singleton] at hb
          subst hb
          exact fun e => hnk (e ▸ ha)
        · subst e
          rcases List.mem_append.1 ha with ha | ha
          · obtain ⟨j, l', e1, e2, e3, e4, e5⟩ := (h.wys _).1 ha
            obtain ⟨j2, l2, f1, f2, f3, f4, f5, f6⟩ := (h.wts _ _).1 hb
            obtain rfl : j = j2 := by omega
            rw [e3] at f3
            cases f3
            rcases e5 with e5 | e5
            · rw [f5] at e5; cases e5
            · omega
          · rw [List.mem_singleton] at ha
            subst ha
            exact hnt hb
      · have atK : RdyBy ls way (k : Int) := fun j l' hj hl hk1 s hs => by
          obtain rfl : k = j := by omega
          rw [hk] at hl
          cases hl
          obtain ⟨f, l2, e1, e2, e3, e4⟩ := first_pos hok hk hs
          have h1 := waits_no hw hs
          have hne : f ≠ k := fun hf => by subst hf; rw [hk] at e2; cases e2; exact hk1 e3
          exact ⟨f, l2, hposin f l2 (by omega) e2 e3, e2, e3, e4⟩
        rw [List.append_assoc, List.append_eq_append_iff] at hX
        rcases hX with ⟨c, hc1, hc2⟩ | ⟨c, hc1, hc2⟩
        · cases c with
          | nil =>
            rw [List.nil_append, List.singleton_append, List.cons.injEq] at hc2
            rw [hc1, List.append_nil, ← hc2.1]
            exact atK
          | cons x c =>
            rw [List.singleton_append, List.cons_append, List.cons.injEq] at hc2
            have hz : z ∈ wt k := by rw [hc2.2]; simp
            obtain ⟨j, l', e1, e2, e3, e4, e5, e6⟩ := (h.wts _ _).1 hz
            intro j2 l2 hj2 hl2 hk2 s hs
            obtain rfl : j = j2 := by omega
            rw [e3] at hl2
            cases hl2
            obtain ⟨f, l3, f1, f2, f3, f4⟩ := first_pos hok e3 hs
            have h1 := lastS_le (bs := bindP ls) hs
            refine ⟨f, l3, ?_, f2, f3, f4⟩
            rw [hc1]
            by_cases hf : f = k
            · rw [hf, hc2.1]
              simp
            · exact List.mem_append_left _ (hposin f l3 (by omega) f2 f3)
        · cases c with
          | nil =>
            rw [List.nil_append, List.singleton_append, List.cons.injEq] at hc2
            rw [List.append_nil] at hc1
            rw [← hc1, hc2.1]
            exact atK
          | cons x c =>
            rw [List.cons_append, List.cons.injEq] at hc2
            exact h.rdy X z c (by rw [hc1, hc2.1])
  · have e : takeS (bindP ls) (k : Int) l (way, wt) = (way, wt) := by unfold takeS; rw [if_neg h3]
    rw [e]
    have hnp : l.kind ≠ 1 := fun hp => h3 (three_pos hp)
    refine ⟨fun m z => ?_, fun z => ?_, h.nodw, h.nodt, h.rdy⟩
    · rw [h.wts]
      constructor
      · rintro ⟨j, l', e1, e2, e3⟩
        exact ⟨j, l', e1, by omega, e3⟩
      · rintro ⟨j, l', e1, e2, e3, e4, e5, e6⟩
        have hj : j ≠ k := fun hj => by subst hj; rw [hk] at e3; cases e3; exact h3 e4
        exact ⟨j, l', e1, by omega, e3, e4, e5, e6⟩
    · rw [h.wys]
      constructor
      · rintro ⟨j, l', e1, e2, e3, e4, e5⟩
        exact ⟨j, l', e1, by omega, e3, e4, e5.imp id (fun h => by omega)⟩
      · rintro ⟨j, l', e1, e2, e3, e4, e5⟩
        have hj : j ≠ k := fun hj => by subst hj; rw [hk] at e3; cases e3; exact h3 e4
        refine ⟨j, l', e1, by omega, e3, e4, ?_⟩
        cases hwj : waits (bindP ls) (j : Int) l'
        · exact .inl rfl
        · refine .inr ?_
          rcases e5 with e5 | e5
          · rw [hwj] at e5; cases e5
          · have : lastS (bindP ls) (varsT l'.terms) ≠ (k : Int) := fun hl => hnp (lastk j l' e3 hwj hl)
            omega
theorem take_inv {ls : List Li} (hok : ∀ l ∈ ls, ∀ s ∈ varsT l.terms, s ∈ namesP (bindP ls)) : ∀ k, k ≤ ls.length → TakeI ls k (takeN (bindP ls) ls k).1 (takeN (bindP ls) ls k).2
  | 0, _ => ⟨fun m z => ⟨fun h => by simp [takeN] at h, fun ⟨j, l, _, h, _⟩ => absurd h (Nat.not_lt_zero _)⟩, fun z => ⟨fun h => by simp [takeN] at h, fun ⟨j, l, _, h, _⟩ => absurd h (Nat.not_lt_zero _)⟩, by simp [takeN], fun m => by simp [takeN], fun X z Y h => by simp [takeN] at h⟩
  | k + 1, hk => by
    have ih := take_inv hok k (by omega)
    rw [takeN_succ (by omega)]
    exact ih.step hok (List.getElem?_eq_getElem (by omega))
/-- A rule's way. -/
theorem wayOk_iff (ls : List Li) : wayOkB ls = true ↔ ∀ l ∈ ls, ∀ s ∈ varsT l.terms, s ∈ namesP (bindP ls) := by
  unfold wayOkB allIn
  rw [List.all_eq_true]
  constructor
  · intro h l hl s hs
    have : s ∈ namesP (placesB 0 ls) := placesB_names.2 ⟨l, hl, hs⟩
    obtain ⟨p, hp, rfl⟩ := namesP_mem.1 this
    exact (inB_iff _ _).1 (h p hp)
  · intro h p hp
    obtain ⟨j, hj, -, hv⟩ := placesB_mem 0 ls p hp
    exact (inB_iff _ _).2 (h _ (List.getElem_mem hj) _ hv)
theorem nodup_le {α : Type} [BEq α] [LawfulBEq α] : ∀ {xs ys : List α}, xs.Nodup → (∀ x ∈ xs, x ∈ ys) → xs.length ≤ ys.length
  | [], _, _, _ => Nat.zero_le _
  | x :: xs, ys, hn, h => by
    rw [List.nodup_cons] at hn
    have hx := h x List.mem_cons_self
    have := nodup_le (ys := ys.erase x) hn.2 (fun y hy => (List.mem_erase_of_ne (show y ≠ x from fun e => hn.1 (by rw [← e]; exact hy))).2 (h y (List.mem_cons_of_mem _ hy)))
    rw [List.length_erase_of_mem hx] at this
    have := List.length_pos_of_mem hx
    simp only [List.length_cons]
    omega
theorem way_members {ls : List Li} (hok : wayOkB ls = true) (z : Int) : z ∈ (takeN (bindP ls) ls ls.length).1 ↔ ∃ (j : Nat) (l : Li), z = j ∧ ls[j]? = some l ∧ ofThree l = true := by
  have hok' := (wayOk_iff ls).1 hok
  rw [(take_inv hok' ls.length (Nat.le_refl _)).wys]
  constructor
  · rintro ⟨j, l, e1, -, e3, e4, -⟩
    exact ⟨j, l, e1, e3, e4⟩
  · rintro ⟨j, l, e1, e3, e4⟩
    have hj := (List.getElem?_eq_some_iff.1 e3).1
    refine ⟨j, l, e1, hj, e3, e4, ?_⟩
    cases hw : waits (bindP ls) (j : Int) l
    · exact .inl rfl
    · obtain ⟨i, l', e, hi, -, -⟩ := waits_last hok' e3 hw
      have := (List.getElem?_eq_some_iff.1 hi).1
      exact .inr (by omega)
end Go.Proofs.Ytpnjmldbohecdaa
