/- What take tells is the document's way: always the first one of those left that is ready. Plainly. The document's way, round by round, plainly: what is left, what is bound, what was told. The document's way: what lies in memory between two rounds; plainly what is left behind one. No walk here. -/
import Derived.Test.YtpnjmldbohecdaaEZ
import Derived.Test.YtpnjmldbohecdaaWSb
import Derived.Test.YtpnjmldbohecdaaEI
import Derived.Test.YtpnjmldbohecdaaEG
import Derived.Test.YtpnjmldbohecdaaER
namespace Go.Proofs.Ytpnjmldbohecdaa
open Go.RowKit Go.Maps Go.Shelf

/-- A literal that is not ready behind X. -/
def NoRdy (ls : List Li) (X : List Int) (l : Li) : Prop := l.kind ≠ 1 ∧ ∃ s ∈ varsT l.terms, ∀ (f : Nat) (l' : Li), (f : Int) ∈ X → ls[f]? = some l' → l'.kind = 1 → s ∉ varsT l'.terms
theorem waiter {ls : List Li} {j : Nat} {l : Li} {X : List Int} (hj : ls[j]? = some l) (hw : waits (bindP ls) (j : Int) l = true) (hX : ∀ (f : Nat) (l' : Li), (f : Int) ∈ X → ls[f]? = some l' → l'.kind = 1 → (f : Int) < lastS (bindP ls) (varsT l.terms)) : NoRdy ls X l := by
  refine ⟨fun hp => ?_, ?_⟩
  · rw [pos_waits hj hp] at hw; cases hw
  · obtain ⟨s0, hs0, h0⟩ := waits_yes hw
    have h1 := lastS_le (bs := bindP ls) hs0
    obtain ⟨s, hs, h2⟩ := lastS_is (bs := bindP ls) (ss := varsT l.terms) (by omega)
    refine ⟨s, hs, fun f l' hf hl' hk hv => ?_⟩
    have h3 := firstAt_le (bind_rise ls) (bind_has hl' hk hv)
    have h4 := hX f l' hf hl' hk
    dsimp only at h3
    omega
structure TakeL (ls : List Li) (way : List Int) (wt : Int → List Int) : Prop where
  srt : ∀ m, (wt m).Pairwise (· < ·)
  min : ∀ X z Y, way = X ++ z :: Y → ∀ (j : Nat) (l : Li), (j : Int) < z → ls[j]? = some l → ofThree l = true → (j : Int) ∉ X → NoRdy ls X l
theorem TakeL.step {ls : List Li} {k : Nat} {way : List Int} {wt : Int → List Int} (h : TakeI ls k way wt) (hL : TakeL ls way wt) (l : Li) : TakeL ls (takeS (bindP ls) (k : Int) l (way, wt)).1 (takeS (bindP ls) (k : Int) l (way, wt)).2 := by
  by_cases h3 : ofThree l = true
  · by_cases hw : waits (bindP ls) (k : Int) l = true
    · have e : takeS (bindP ls) (k : Int) l (way, wt) = (way, fun j => if j = lastS (bindP ls) (varsT l.terms) then wt (lastS (bindP ls) (varsT l.terms)) ++ [(k : Int)] else wt j) := by unfold takeS; rw [if_pos h3, if_pos hw]
      rw [e]
      refine ⟨fun m => ?_, hL.min⟩
      dsimp only
      split
      · rw [List.pairwise_append]
        refine ⟨hL.srt _, List.pairwise_singleton _ _, fun a ha b hb => ?_⟩
        rw [List.mem_singleton] at hb
        obtain ⟨j, l', e1, e2, -⟩ := (h.wts _ _).1 ha
        omega
      · exact hL.srt m
    · have hw : waits (bindP ls) (k : Int) l = false := by simpa using hw
      have e : takeS (bindP ls) (k : Int) l (way, wt) = (way ++ [(k : Int)] ++ wt k, wt) := by unfold takeS; rw [if_pos h3, if_neg (by rw [hw]; simp)]
      rw [e]
      have late : ∀ (j : Nat) (l' : Li), j < k → ls[j]? = some l' → ofThree l' = true → (j : Int) ∉ way → waits (bindP ls) (j : Int) l' = true ∧ (k : Int) ≤ lastS (bindP ls) (varsT l'.terms) := fun j l' h1 h2 h4 h5 => by
        have h6 : ¬ (waits (bindP ls) (j : Int) l' = false ∨ lastS (bindP ls) (varsT l'.terms) < (k : Int)) := fun h7 => h5 ((h.wys _).2 ⟨j, l', rfl, h1, h2, h4, h7⟩)
        rw [not_or] at h6
        exact ⟨by simpa using h6.1, by omega⟩
      have inway : ∀ (f : Nat), (f : Int) ∈ way → f < k := fun f hf => by
        obtain ⟨j, l', e1, e2, -⟩ := (h.wys _).1 hf
        omega
      have atk : ∀ (j : Nat) (l' : Li), (j : Int) < (k : Int) → ls[j]? = some l' → ofThree l' = true → (j : Int) ∉ way → NoRdy ls way l' := fun j l' h1 h2 h4 h5 => by
        obtain ⟨g1, g2⟩ := late j l' (by omega) h2 h4 h5
        exact waiter h2 g1 fun f l'' hf _ _ => by have := inway f hf; omega
      refine ⟨hL.srt, fun X z Y hX j l' hjz hj hj3 hjX => ?_⟩
      rw [List.append_assoc] at hX
      rcases List.append_eq_append_iff.1 hX with ⟨a, e1, e2⟩ | ⟨c, e1, e2⟩
      · cases a with
        | nil =>
          simp only [List.nil_append, List.singleton_append, List.cons.injEq] at e2
          rw [List.append_nil] at e1
          subst e1
          exact atk j l' (by omega) hj hj3 hjX
        | cons a0 A =>
          simp only [List.cons_append, List.nil_append, List.cons.injEq] at e2
          obtain ⟨e3, e4⟩ := e2
          subst e3
          subst e1
          have hz : z ∈ wt k := by rw [e4]; simp
          obtain ⟨jz, lz, ez, hzk, -⟩ := (h.wts _ _).1 hz
          have hnw : (j : Int) ∉ way := fun hm => hjX (List.mem_append_left _ hm)
          obtain ⟨g1, g2⟩ := late j l' (by omega) hj hj3 hnw
          have hne : lastS (bindP ls) (varsT l'.terms) ≠ (k : Int) := fun he => by
            have hm : (j : Int) ∈ wt k := (h.wts _ _).2 ⟨j, l', rfl, by omega, hj, hj3, g1, he⟩
            have hs := hL.srt (k : Int)
            rw [e4] at hm hs
            rw [List.pairwise_append] at hs
            rcases List.mem_append.1 hm with hm | hm
            · exact hjX (List.mem_append_right _ (List.mem_cons_of_mem _ hm))
            · rcases List.mem_cons.1 hm with hm | hm
              · omega
              · have := (List.pairwise_cons.1 hs.2.1).1 _ hm
                omega
          refine waiter hj g1 fun f l'' hf _ _ => ?_
          rcases List.mem_append.1 hf with hf | hf
          · have := inway f hf; omega
          · rcases List.mem_cons.1 hf with hf | hf
            · omega
            · obtain ⟨jf, lf', ef, hfk, -⟩ := (h.wts (k : Int) _).1 (show (f : Int) ∈ wt k by rw [e4]; exact List.mem_append_left _ hf)
              omega
      · cases c with
        | nil =>
          simp only [List.nil_append, List.singleton_append, List.cons.injEq] at e2
          rw [List.append_nil] at e1
          subst e1
          exact atk j l' (by omega) hj hj3 hjX
        | cons c0 C =>
          simp only [List.cons_append, List.cons.injEq] at e2
          obtain ⟨e3, -⟩ := e2
          subst e3
          exact hL.min X z C e1 j l' hjz hj hj3 hjX
  · have e : takeS (bindP ls) (k : Int) l (way, wt) = (way, wt) := by unfold takeS; rw [if_neg h3]
    rw [e]
    exact hL
theorem take_min {ls : List Li} (hok : ∀ l ∈ ls, ∀ s ∈ varsT l.terms, s ∈ namesP (bindP ls)) : ∀ k, k ≤ ls.length → TakeL ls (takeN (bindP ls) ls k).1 (takeN (bindP ls) ls k).2
  | 0, _ => ⟨fun _ => List.Pairwise.nil, fun X z Y h => by simp [takeN] at h⟩
  | k + 1, h => by
    rw [takeN_succ (by omega)]
    exact (take_min hok k (by omega)).step (take_inv hok k (by omega)) _
/-- Ahead of what stands next on the way, nothing that is left is ready. -/
theorem way_min {ls : List Li} (hok : wayOkB ls = true) {i : Nat} (hi : i < (takeN (bindP ls) ls ls.length).1.length) {j : Nat} {l : Li} (hj : (j : Int) < (takeN (bindP ls) ls ls.length).1[i]) (hl : ls[j]? = some l) (h3 : ofThree l = true) (hn : (j : Int) ∉ (takeN (bindP ls) ls ls.length).1.take i)
    (us : List ByteArray) (hus : ∀ s, s ∈ us → s ∈ namesP (bindP (litsAt ls ((takeN (bindP ls) ls ls.length).1.take i)))) : readyB l us = false := by
  have hm := (take_min ((wayOk_iff ls).1 hok) ls.length (Nat.le_refl _)).min _ _ _ (show (takeN (bindP ls) ls ls.length).1 = (takeN (bindP ls) ls ls.length).1.take i ++ (takeN (bindP ls) ls ls.length).1[i] :: (takeN (bindP ls) ls ls.length).1.drop (i + 1) by rw [List.getElem_cons_drop, List.take_append_drop]) j l hj hl h3 hn
  cases hr : readyB l us
  · rfl
  · rcases (readyB_iff l us h3).1 hr with hp | hall
    · exact absurd hp hm.1
    · obtain ⟨s, hs, hno⟩ := hm.2
      obtain ⟨l', hl', hk', hv'⟩ := bindP_names.1 (hus s (hall s hs))
      unfold litsAt at hl'
      obtain ⟨z, hz, hz'⟩ := List.mem_filterMap.1 hl'
      obtain ⟨f, lf', ef, -⟩ := (way_members hok z).1 (List.mem_of_mem_take hz)
      subst ef
      exact absurd hv' (hno f l' hz (by simpa using hz') hk')
end Go.Proofs.Ytpnjmldbohecdaa
namespace Go.Proofs.Ytpnjmldbohecdaa
open Go.RowKit Go.Maps Go.Shelf

theorem idxT_ge : ∀ (k : Nat) (ls : List Li) (z : Int), z ∈ idxT k ls → (k : Int) ≤ z := fun k ls z h => by
  obtain ⟨j, l, e, -⟩ := (idxT_mem k ls z).1 h
  omega
/-- The numbers that are left behind those that were told. -/
def leftO (ls : List Li) (out : List Int) : List Int := (idxT 0 ls).filter (fun z => !out.contains z)
theorem leftO_mem {ls : List Li} {out : List Int} {z : Int} : z ∈ leftO ls out ↔ (∃ (j : Nat) (l : Li), z = j ∧ ls[j]? = some l ∧ ofThree l = true) ∧ z ∉ out := by
  unfold leftO
  rw [List.mem_filter, idxT_mem]
  simp
theorem leftO_nil (ls : List Li) : leftO ls [] = idxT 0 ls := by
  unfold leftO
  rw [List.filter_eq_self]
  intro a _
  simp
theorem leftO_nodup (ls : List Li) (out : List Int) : (leftO ls out).Nodup := (idxT_nodup 0 ls).filter _
theorem filter_at {l : List Int} (hn : l.Nodup) {a : Nat} (h : a < l.length) : l.filter (fun z => !(z == l[a])) = l.take a ++ l.drop (a + 1) := by
  have e : l = l.take a ++ l[a] :: l.drop (a + 1) := by rw [List.getElem_cons_drop, List.take_append_drop]
  generalize l[a] = x at *
  generalize l.take a = A at *
  generalize l.drop (a + 1) = B at *
  subst e
  rw [List.nodup_append] at hn
  obtain ⟨-, h2, h3⟩ := hn
  rw [List.nodup_cons] at h2
  rw [List.filter_append, List.filter_cons]
  have hA : A.filter (fun z => !(z == x)) = A := List.filter_eq_self.2 fun z hz => by
    have := h3 z hz x List.mem_cons_self
    simpa using this
  have hB : B.filter (fun z => !(z == x)) = B := List.filter_eq_self.2 fun z hz => by
    have : z ≠ x := fun e => h2.1 (e ▸ hz)
    simpa using this
  rw [hA, hB]
  simp
theorem leftO_snoc {ls : List Li} {out : List Int} {a : Nat} (h : a < (leftO ls out).length) : leftO ls (out ++ [(leftO ls out)[a]]) = (leftO ls out).take a ++ (leftO ls out).drop (a + 1) := by
  rw [← filter_at (leftO_nodup ls out) h]
  generalize (leftO ls out)[a] = x
  unfold leftO
  rw [List.filter_filter]
  congr 1
  funext z
  simp only [List.contains_eq_mem, List.mem_append, List.mem_singleton]
  by_cases h1 : z ∈ out <;> by_cases h2 : z = x <;> simp [h1, h2]
theorem idxT_sorted : ∀ (k : Nat) (ls : List Li), (idxT k ls).Pairwise (· < ·)
  | _, [] => List.Pairwise.nil
  | k, l :: ls => by
    have ih := idxT_sorted (k + 1) ls
    unfold idxT
    split
    · rw [List.pairwise_cons]
      exact ⟨fun z hz => by have := idxT_ge (k + 1) ls z hz; omega, ih⟩
    · exact ih
theorem leftO_sorted (ls : List Li) (out : List Int) : (leftO ls out).Pairwise (· < ·) := (idxT_sorted 0 ls).filter _

theorem idxT_app : ∀ (k : Nat) (xs ys : List Li), idxT k (xs ++ ys) = idxT k xs ++ idxT (k + xs.length) ys
  | k, [], ys => by simp [idxT]
  | k, x :: xs, ys => by
    rw [List.cons_append, idxT, idxT, idxT_app (k + 1) xs ys, List.length_cons, show k + 1 + xs.length = k + (xs.length + 1) by omega]
    split <;> simp
theorem idxT_take {ls : List Li} {j : Nat} (h : j < ls.length) : idxT 0 (ls.take (j + 1)) = idxT 0 (ls.take j) ++ (if ofThree ls[j] = true then [(j : Int)] else []) := by
  rw [List.take_add_one, List.getElem?_eq_getElem h, Option.toList_some, idxT_app, List.length_take, Nat.min_eq_left (by omega), Nat.zero_add]
  simp [idxT]
/-- Between two rounds. -/
structure Gr (ls : List Li) (out left : List Int) (bound : List ByteArray) : Prop where
  lft : left = leftO ls out
  bnd : ∀ s, s ∈ bound ↔ s ∈ namesP (bindP (litsAt ls out))
  all : ∀ (j : Nat) (l : Li), (j : Int) ∈ out → ls[j]? = some l → ∀ s ∈ varsT l.terms, s ∈ namesP (bindP ls)
  ok : wayOkB ls = true → ∃ i, i ≤ (takeN (bindP ls) ls ls.length).1.length ∧ out = (takeN (bindP ls) ls ls.length).1.take i
theorem Gr.start (ls : List Li) : Gr ls [] (idxT 0 ls) [] :=
  ⟨(leftO_nil ls).symm, fun s => by simp [litsAt, bindP, placesB, sel, selF, namesP], fun _ _ h => by simp at h, fun _ => ⟨0, Nat.zero_le _, rfl⟩⟩
/-- What stands next on the way is left, and ready. -/
theorem Gr.next {ls : List Li} {out left : List Int} {bound : List ByteArray} (h : Gr ls out left bound) (hok : wayOkB ls = true) (h0 : 0 < left.length) :
    ∃ i, ∃ hi : i < (takeN (bindP ls) ls ls.length).1.length, out = (takeN (bindP ls) ls ls.length).1.take i ∧ ∃ (p : Nat) (hp : p < left.length) (l : Li), left[p] = (takeN (bindP ls) ls ls.length).1[i] ∧ ls[left[p].toNat]? = some l ∧ readyB l bound = true := by
  obtain ⟨i, hi, ho⟩ := h.ok hok
  have hlt : i < (takeN (bindP ls) ls ls.length).1.length := by
    refine Nat.lt_of_le_of_ne hi fun e => ?_
    have hm : left[0] ∈ leftO ls out := by rw [← h.lft]; exact List.getElem_mem h0
    obtain ⟨h1, h2⟩ := leftO_mem.1 hm
    rw [ho, e, List.take_length] at h2
    exact h2 ((way_members hok _).2 h1)
  obtain ⟨j, l, e1, e2, e3, e4⟩ := way_round hok hlt
  obtain ⟨j', l', e5, e6, e7⟩ := (way_members hok _).1 (List.getElem_mem hlt)
  have hjj : j' = j := by omega
  subst hjj
  rw [e2] at e6
  cases e6
  have hm : ((j' : Nat) : Int) ∈ left := by
    rw [h.lft]
    exact leftO_mem.2 ⟨⟨j', l, rfl, e2, e7⟩, by rw [ho]; exact e3⟩
  obtain ⟨p, hp, hpe⟩ := List.mem_iff_getElem.1 hm
  refine ⟨i, hlt, ho, p, hp, l, by rw [hpe, e1], by rw [hpe]; simpa using e2, ?_⟩
  rw [readyB_iff l _ e7] at e4 ⊢
  refine e4.imp id fun g s hs => (h.bnd s).2 ?_
  rw [ho]
  exact onceN_mem.1 (g s hs)
theorem Gr.stuck {ls : List Li} {out left : List Int} {bound : List ByteArray} (h : Gr ls out left bound) (h0 : 0 < left.length) (hno : ∀ k (hk : k < left.length) l', ls[left[k].toNat]? = some l' → readyB l' bound = false) : wayOkB ls = false := by
  cases hok : wayOkB ls
  · rfl
  · obtain ⟨i, hi, -, p, hp, l, -, h2, h3⟩ := h.next hok h0
    rw [hno p hp l h2] at h3
    cases h3
theorem Gr.push {ls : List Li} {out left : List Int} {bound bound' : List ByteArray} (h : Gr ls out left bound) {a : Nat} (ha : a < left.length) {l : Li} (hl : ls[left[a].toNat]? = some l) (hfirst : ∀ k (hk : k < a) l', ls[left[k].toNat]? = some l' → readyB l' bound = false) (hr : readyB l bound = true)
    (hb : ∀ s, s ∈ bound' ↔ s ∈ bound ∨ (l.kind = 1 ∧ s ∈ varsT l.terms)) : Gr ls (out ++ [left[a]]) (left.take a ++ left.drop (a + 1)) bound' := by
  obtain ⟨⟨j, l', e1, e2, e3⟩, hnin⟩ := leftO_mem.1 (show left[a] ∈ leftO ls out by rw [← h.lft]; exact List.getElem_mem ha)
  rw [e1, Int.toNat_natCast, e2] at hl
  cases hl
  refine ⟨?_, fun s => ?_, fun f lf' hf hlf s hs => ?_, fun hok => ?_⟩
  · have hlf := h.lft
    subst hlf
    exact (leftO_snoc ha).symm
  · rw [e1, litsAt_snoc e2, hb, h.bnd, bindP_names, bindP_names]
    constructor
    · rintro (⟨l1, g1, g2, g3⟩ | ⟨g1, g2⟩)
      · exact ⟨l1, List.mem_append_left _ g1, g2, g3⟩
      · exact ⟨l, List.mem_append_right _ List.mem_cons_self, g1, g2⟩
    · rintro ⟨l1, g1, g2, g3⟩
      rcases List.mem_append.1 g1 with g1 | g1
      · exact .inl ⟨l1, g1, g2, g3⟩
      · rw [List.mem_singleton] at g1
        subst g1
        exact .inr ⟨g2, g3⟩
  · rcases List.mem_append.1 hf with hf | hf
    · exact h.all f lf' hf hlf s hs
    · rw [List.mem_singleton, e1] at hf
      obtain rfl : f = j := by omega
      rw [e2] at hlf
      cases hlf
      rcases (readyB_iff l bound e3).1 hr with hp | hall
      · exact bindP_names.2 ⟨l, List.mem_of_getElem? e2, hp, hs⟩
      · obtain ⟨l1, g1, g2, g3⟩ := bindP_names.1 ((h.bnd s).1 (hall s hs))
        exact bindP_names.2 ⟨l1, litsAt_mem g1, g2, g3⟩
  · obtain ⟨i, hi, ho, p, hp, lp, g1, g2, g3⟩ := h.next hok (by omega)
    have hap : ¬ p < a := fun hlt => by
      rw [hfirst p hlt lp g2] at g3
      cases g3
    have hpa : ¬ a < p := fun hlt => by
      have hs : left.Pairwise (· < ·) := by rw [h.lft]; exact leftO_sorted ls out
      have hlt2 := List.pairwise_iff_getElem.1 hs a p ha hp hlt
      have := way_min hok hi (j := j) (l := l) (by rw [← e1, ← g1]; exact hlt2) e2 e3 (by rw [← ho, ← e1]; exact hnin) bound (fun s hs => by rw [← ho]; exact (h.bnd s).1 hs)
      rw [this] at hr
      cases hr
    obtain rfl : p = a := by omega
    exact ⟨i + 1, hi, by rw [List.take_add_one, List.getElem?_eq_getElem hi, Option.toList_some, ← ho, g1]⟩
theorem Gr.done {ls : List Li} {out : List Int} {bound : List ByteArray} (h : Gr ls out [] bound) : wayOkB ls = true ∧ out = (takeN (bindP ls) ls ls.length).1 := by
  have hall : ∀ (j : Nat) (l : Li), ls[j]? = some l → ofThree l = true → (j : Int) ∈ out := fun j l hj h3 => by
    by_cases hm : (j : Int) ∈ out
    · exact hm
    · have := leftO_mem.2 ⟨⟨j, l, rfl, hj, h3⟩, hm⟩
      rw [← h.lft] at this
      exact absurd this List.not_mem_nil
  have hok : wayOkB ls = true := (wayOk_iff ls).2 fun l hl s hs => by
    obtain ⟨j, hj, rfl⟩ := List.mem_iff_getElem.1 hl
    cases h3 : ofThree ls[j]
    · rw [not_three_vars h3] at hs
      exact absurd hs List.not_mem_nil
    · exact h.all j _ (hall j _ (List.getElem?_eq_getElem hj) h3) (List.getElem?_eq_getElem hj) s hs
  refine ⟨hok, ?_⟩
  obtain ⟨i, hi, ho⟩ := h.ok hok
  rcases Nat.lt_or_ge i (takeN (bindP ls) ls ls.length).1.length with hlt | hge
  · obtain ⟨j, l, e1, e2, e3, -⟩ := way_round hok hlt
    obtain ⟨j', l', e5, e6, e7⟩ := (way_members hok _).1 (List.getElem_mem hlt)
    have := hall j' l' e6 e7
    rw [ho, ← e5, e1] at this
    exact absurd this e3
  · rw [ho, List.take_of_length_le hge]
end Go.Proofs.Ytpnjmldbohecdaa
namespace Go.Proofs.Ytpnjmldbohecdaa
open Go.RowKit Go.Maps Go.Shelf

/-- What is left without the one at a, of the first j. -/
def restN (l : List Int) (a j : Nat) : List Int := l.take (min j a) ++ (l.drop (a + 1)).take (j - (a + 1))
theorem restN_zero (l : List Int) (a : Nat) : restN l a 0 = [] := by simp [restN]
theorem restN_same {l : List Int} {a : Nat} : restN l a (a + 1) = restN l a a := by simp [restN]
theorem restN_step {l : List Int} {a j : Nat} (h : j < l.length) (hne : j ≠ a) : restN l a (j + 1) = restN l a j ++ [l[j]] := by
  unfold restN
  rcases Nat.lt_or_gt_of_ne hne with h1 | h1
  · rw [Nat.min_eq_left (by omega), Nat.min_eq_left (by omega), show j + 1 - (a + 1) = 0 by omega, show j - (a + 1) = 0 by omega, List.take_zero, List.append_nil, List.append_nil, List.take_add_one, List.getElem?_eq_getElem h, Option.toList_some]
  · rw [Nat.min_eq_right (by omega), Nat.min_eq_right (by omega), show j + 1 - (a + 1) = j - (a + 1) + 1 by omega, List.take_add_one, List.getElem?_drop, show a + 1 + (j - (a + 1)) = j by omega, List.getElem?_eq_getElem h, Option.toList_some, List.append_assoc]
theorem restN_all {l : List Int} {a : Nat} (h : a < l.length) : restN l a l.length = l.take a ++ l.drop (a + 1) := by
  unfold restN
  rw [Nat.min_eq_right (by omega), List.take_of_length_le (l := l.drop (a + 1)) (by rw [List.length_drop]; omega)]
theorem restN_len (l : List Int) (a j : Nat) : (restN l a j).length ≤ j := by
  unfold restN
  rw [List.length_append, List.length_take, List.length_take]
  omega

/-- The first one that is ready: none up to j, or the one at a. -/
def NoneR (ls : List Li) (left : List Int) (bd : List ByteArray) (j : Nat) : Prop := ∀ k, k < j → ∀ (hk : k < left.length) l', ls[left[k].toNat]? = some l' → readyB l' bd = false
def AtP (ls : List Li) (left : List Int) (bd : List ByteArray) (j : Nat) (v : Value) : Prop :=
  (v = .int .i64 (-1) ∧ NoneR ls left bd j) ∨ ∃ a, v = .int .i64 ((a : Nat) : Int) ∧ ∃ ha : a < left.length, j = a + 1 ∧ NoneR ls left bd a ∧ ∀ l, ls[left[a].toNat]? = some l → readyB l bd = true

/-- What lies in memory: what was told, what is bound, what is left. -/
structure MyI (w1 : World) (vo vb : Value) (la : Option Addr) (lb : Nat) (out left : List Int) (bd : List ByteArray) (W : World) : Prop where
  out : OwnR 3 1 encI w1.heap.size W vo out
  bnd : OwnR 9 1 encSt w1.heap.size W vb bd
  lft : RecS 1 encI W la lb 0 left
  lies : 0 < left.length → lb < W.heap.size ∧ vo.ownBlock ≠ some lb ∧ vb.ownBlock ≠ some lb
  apart : ∀ q, vo.ownBlock = some q → vb.ownBlock ≠ some q
  stay : Stay w1 W
variable {w1 W W' : World} {vo vb : Value} {la : Option Addr} {lb : Nat} {out left : List Int} {bd : List ByteArray}
theorem MyI.keep (h : MyI w1 vo vb la lb out left bd W) (hs : Stay W W') : MyI w1 vo vb la lb out left bd W' :=
  ⟨h.out.stay hs, h.bnd.stay hs, h.lft.stay hs, fun h0 => ⟨Nat.lt_of_lt_of_le (h.lies h0).1 hs.size, (h.lies h0).2⟩, h.apart, h.stay.trans hs⟩
theorem MyI.pushB (h : MyI w1 vo vb la lb out left bd W) {a : Option Addr} {b off c : Nat} {ys : List ByteArray} (hS : RecS 1 encSt W a b off ys) (ha : a = none → c = 0 ∧ ys = []) (hn : bd.length + ys.length ≤ 4398046511104) (ty : TypeId) :
    ∃ a2 c2 W2, (Builtin.append_ #[28, 28] ty #[vb, .slice a ys.length c]).run Try.prog W = .ok (.slice a2 (bd ++ ys).length c2) W2 ∧ MyI w1 vo (.slice a2 (bd ++ ys).length c2) la lb out left (bd ++ ys) W2 ∧ ∀ k, k < w1.heap.size → W2.heap[k]? = W.heap[k]? := by
  obtain ⟨v', w', hr, hO, hg, -, hat⟩ := append_recs (P := Try.prog) (ty := ty) encStOk Try.underlying28 infoSt rfl h.bnd hS ha (by unfold maxLen; omega) (by omega) h.stay.size
  obtain ⟨a2, b2, c2, rfl, -⟩ := hO.form encStOk
  have hblk : ∀ k, k < W.heap.size → vb.ownBlock ≠ some k → w'.heap[k]? = W.heap[k]? := fun k hk hn => hg.block k hk (fun e => hn e.symm)
  refine ⟨a2, c2, w', hr, ⟨h.out.held fun q hq => hblk q (h.out.lt q hq).2 (h.apart q hq), hO, rec_held h.lft fun h0 => hblk lb (h.lies h0).1 (h.lies h0).2.2, fun h0 => ⟨Nat.lt_of_lt_of_le (h.lies h0).1 hg.size, (h.lies h0).2.1, fun e => ?_⟩, fun q hq e => ?_, ownR_grow h.stay (Nat.le_refl _) h.bnd hg⟩, fun k hk => hblk k (Nat.lt_of_lt_of_le hk h.stay.size) fun e => by have := (h.bnd.lt k e).1; omega⟩
  · rcases hat with g | g
    · exact (h.lies h0).2.2 (g ▸ e)
    · rw [g] at e
      have := Option.some.inj e
      have := (h.lies h0).1
      omega
  · rcases hat with g | g
    · exact h.apart q hq (g ▸ e)
    · rw [g] at e
      have := Option.some.inj e
      have := (h.out.lt q hq).2
      omega
theorem MyI.pushO (h : MyI w1 vo vb la lb out left bd W) (z : Int) (hn : out.length ≤ 1048576) (ty : TypeId) :
    ∃ a2 c2 W2, (Builtin.append_ #[32, 32] ty #[vo, .slice (some ⟨W.heap.size, 0, none⟩) 1 1]).run Try.prog (W.alloc (.cells #[.int .i64 z] 3)) = .ok (.slice a2 (out.length + 1) c2) W2 ∧ MyI w1 (.slice a2 (out.length + 1) c2) vb la lb (out ++ [z]) left bd W2 ∧ ∀ k, k < w1.heap.size → W2.heap[k]? = W.heap[k]? := by
  obtain ⟨a2, c2, W2, hr, hO, hb, hblk, hat, hsz⟩ := own_push encIOk Try.underlying32 infoI rfl h.out z (by unfold maxLen; omega) (by omega) h.stay.size ty
  refine ⟨a2, c2, W2, hr, ⟨hO, h.bnd.held fun q hq => hblk q (h.bnd.lt q hq).2 (fun e => h.apart q e hq), rec_held h.lft fun h0 => hblk lb (h.lies h0).1 (h.lies h0).2.1, fun h0 => ⟨Nat.lt_of_lt_of_le (h.lies h0).1 (Nat.le_of_lt hsz), fun e => ?_, (h.lies h0).2.2⟩, fun q hq e => ?_, Below.trans h.stay hb⟩, fun k hk => hblk k (Nat.lt_of_lt_of_le hk h.stay.size) fun e => by have := (h.out.lt k e).1; omega⟩
  · rcases hat with g | g
    · exact (h.lies h0).2.1 (g ▸ e)
    · rw [g] at e
      have := Option.some.inj e
      have := (h.lies h0).1
      omega
  · rcases hat with g | g
    · exact h.apart q (g ▸ hq) e
    · rw [g] at hq
      have := Option.some.inj hq
      have := (h.bnd.lt q e).2
      omega
theorem MyI.next (h : MyI w1 vo vb la lb out left bd W) {vr : Value} {rs : List Int} (hO : OwnR 3 1 encI W.heap.size W' vr rs) (hs : Stay W W') : ∃ a b c, vr = .slice a rs.length c ∧ MyI w1 vo vb a b out rs bd W' := by
  obtain ⟨a, b, c, rfl, hR, -, hp, -⟩ := hO.form encIOk
  refine ⟨a, b, c, rfl, h.out.stay hs, h.bnd.stay hs, hR, fun h0 => ?_, h.apart, h.stay.trans hs⟩
  have hb := hO.lt b (by rw [hp h0]; rfl)
  exact ⟨hb.2, fun e => by have := (h.out.lt b e).2; omega, fun e => by have := (h.bnd.lt b e).2; omega⟩

/-- Between two rounds. -/
structure WyI (w1 : World) (ls : List Li) (vo vb : Value) (la : Option Addr) (lb : Nat) (out left : List Int) (bd : List ByteArray) (W : World) : Prop where
  mem : MyI w1 vo vb la lb out left bd W
  gr : Gr ls out left bd
  few : out.length + left.length ≤ ls.length
  bfew : bd.length ≤ out.length * 1048578
theorem bound_one {l : Li} (h : l.atom.ts.length ≤ 1048576) : (onceN (bindP [l])).length ≤ 1048578 := by
  have h1 := onceN_len (bindP [l])
  have h2 := sel_len (bindC [l]) (placesB 0 [l])
  have h3 : (placesB 0 [l]).length ≤ l.terms.length := by
    simp only [placesB, List.append_nil, List.length_map]
    exact varsT_len _
  have h4 := Li.terms_len l
  unfold bindP at *
  omega
theorem bound_mem {l : Li} {s : ByteArray} : s ∈ onceN (bindP [l]) ↔ l.kind = 1 ∧ s ∈ varsT l.terms := by
  rw [onceN_mem, bindP_names]
  constructor
  · rintro ⟨m, hm, h1, h2⟩
    rw [List.mem_singleton] at hm
    subst hm
    exact ⟨h1, h2⟩
  · rintro ⟨h1, h2⟩
    exact ⟨l, List.mem_singleton_self _, h1, h2⟩
end Go.Proofs.Ytpnjmldbohecdaa
