/- Heads and rests, plainly: what is in the heap names what is left of each list. No walk here. -/
import Derived.Test.YtnmaldgmlkcliaaOMA
import Derived.Test.YtnmaldgmlkcliaaOMB
import Derived.Test.YtnmaldgmlkcliaaHBH
namespace Go.Proofs.Ytnmaldgmlkcliaa.HH
open Go.RowKit Go.Maps Go.Proofs.Ytnmaldgmlkcliaa

/-- The head of list i from its thing p on. -/
def hdAt (L : Ls) (i p : Nat) : Hd := ⟨some ⟨L.b, L.off + p * 2, none⟩, L.ts.length - p, L.c - p, i, L.ts[p]?.getD (0, 0)⟩
theorem hdAt_in {w : World} {L : Ls} {xb i p : Nat} (h : L.In w) (hp : p < L.ts.length) (hb : L.b ≤ xb) : (hdAt L i p).In w xb := by
  have := h.1.2 p hp
  refine ⟨L.b, L.off + p * 2, rfl, hb, ?_, ?_, ?_⟩
  · show 0 < L.ts.length - p; omega
  · rw [this.1]; simp [hdAt, hp]
  · rw [this.2]; simp [hdAt, hp]
/-- The first m lists are in, as far as something is left of them. -/
structure Fro (l : List Ls) (m : Nat) (rs : List (List (Int × Int))) (came : List E) : Prop where
  len : rs.length = l.length
  names : ∀ e ∈ came, e.1.i < m ∧ ∃ L p, l[e.1.i]? = some L ∧ p < L.ts.length ∧ rs[e.1.i]? = some (L.ts.drop p) ∧ e.1 = hdAt L e.1.i p
  all : ∀ (i : Nat) (x : Int × Int) (r : List (Int × Int)), i < m → rs[i]? = some (x :: r) → ∃ e ∈ came, e.1.i = i
  once : (came.map fun e => e.1.i).Nodup

section
variable {l : List Ls} {m : Nat} {rs : List (List (Int × Int))} {came came' : List E}
theorem Fro.start (l : List Ls) : Fro l 0 (l.map Ls.ts) [] := ⟨by simp, (fun e he => by cases he), (fun i x r hi => by omega), List.Pairwise.nil⟩
theorem Fro.skip (h : Fro l m rs came) (hm : rs[m]? = some []) : Fro l (m + 1) rs came :=
  ⟨h.len, fun e he => ⟨by have := (h.names e he).1; omega, (h.names e he).2⟩, fun i x r hi hr => by
    by_cases e : i = m
    · subst e; rw [hm] at hr; simp at hr
    · exact h.all i x r (by omega) hr, h.once⟩
theorem Fro.push (h : Fro l m rs came) {L : Ls} (hL : l[m]? = some L) (hm : rs[m]? = some L.ts) (hn : 0 < L.ts.length) (t : Nat) (hp : came'.Perm (came ++ [(hdAt L m 0, t)])) : Fro l (m + 1) rs came' := by
  refine ⟨h.len, fun e he => ?_, fun i x r hi hr => ?_, ?_⟩
  · rcases List.mem_append.1 (hp.mem_iff.1 he) with he | he
    · exact ⟨by have := (h.names e he).1; omega, (h.names e he).2⟩
    · simp only [List.mem_singleton] at he
      subst he
      exact ⟨Nat.lt_succ_self m, L, 0, hL, hn, by rw [List.drop_zero]; exact hm, rfl⟩
  · by_cases e : i = m
    · subst e
      exact ⟨_, hp.mem_iff.2 (List.mem_append_right _ (List.mem_singleton.2 rfl)), rfl⟩
    · obtain ⟨e0, h1, h2⟩ := h.all i x r (by omega) hr
      exact ⟨e0, hp.mem_iff.2 (List.mem_append_left _ h1), h2⟩
  · refine (hp.map fun e => e.1.i).nodup_iff.2 ?_
    rw [List.map_append]
    refine List.nodup_append.2 ⟨h.once, by simp, fun a ha b hb => ?_⟩
    obtain ⟨e0, h1, rfl⟩ := List.mem_map.1 ha
    simp only [List.map_cons, List.map_nil, List.mem_singleton] at hb
    have := (h.names e0 h1).1
    have hb2 : b = m := hb
    omega
/-- The first goes out; nothing is left of its list. -/
theorem Fro.out (h : Fro l m rs came) {e : E} {r : List (Int × Int)} (hp : (e :: came').Perm came) (hr : r = []) : Fro l m (rs.set e.1.i r) came' := by
  have hon : ((e :: came').map fun e => e.1.i).Nodup := (hp.map fun e => e.1.i).nodup_iff.2 h.once
  rw [List.map_cons, List.nodup_cons] at hon
  refine ⟨by simp [h.len], fun e0 he => ?_, fun i x r' hi hr' => ?_, hon.2⟩
  · have hm := hp.mem_iff.1 (List.mem_cons_of_mem _ he)
    have hne : e0.1.i ≠ e.1.i := fun e1 => hon.1 (e1 ▸ List.mem_map.2 ⟨e0, he, rfl⟩)
    obtain ⟨h1, L, p, h2, h3, h4, h5⟩ := h.names e0 hm
    exact ⟨h1, L, p, h2, h3, by rw [List.getElem?_set_ne (Ne.symm hne)]; exact h4, h5⟩
  · by_cases e1 : e.1.i = i
    · subst e1
      rw [List.getElem?_set_self'] at hr'
      subst hr
      cases hx : rs[e.1.i]? <;> rw [hx] at hr' <;> simp at hr'
    · rw [List.getElem?_set_ne e1] at hr'
      obtain ⟨e0, h1, h2⟩ := h.all i x r' hi hr'
      rcases List.mem_cons.1 (hp.mem_iff.2 h1) with h3 | h3
      · subst h3; exact absurd h2 e1
      · exact ⟨e0, h3, h2⟩
/-- The first goes out, and its list's next comes in. -/
theorem Fro.back (h : Fro l m rs came) {e : E} {came'' : List E} {L : Ls} {p t : Nat} (hp : (e :: came').Perm came) (hL : l[e.1.i]? = some L) (hpl : p + 1 < L.ts.length) (hq : came''.Perm (came' ++ [(hdAt L e.1.i (p + 1), t)])) : Fro l m (rs.set e.1.i (L.ts.drop (p + 1))) came'' := by
  have hon : ((e :: came').map fun e => e.1.i).Nodup := (hp.map fun e => e.1.i).nodup_iff.2 h.once
  rw [List.map_cons, List.nodup_cons] at hon
  have hil : e.1.i < rs.length := by rw [h.len]; exact (List.getElem?_eq_some_iff.1 hL).1
  refine ⟨by simp [h.len], fun e0 he => ?_, fun i x r' hi hr' => ?_, ?_⟩
  · rcases List.mem_append.1 (hq.mem_iff.1 he) with he | he
    · have hm := hp.mem_iff.1 (List.mem_cons_of_mem _ he)
      have hne : e0.1.i ≠ e.1.i := fun e1 => hon.1 (e1 ▸ List.mem_map.2 ⟨e0, he, rfl⟩)
      obtain ⟨h1, L', p', h2, h3, h4, h5⟩ := h.names e0 hm
      exact ⟨h1, L', p', h2, h3, by rw [List.getElem?_set_ne (Ne.symm hne)]; exact h4, h5⟩
    · simp only [List.mem_singleton] at he
      subst he
      exact ⟨(h.names e (hp.mem_iff.1 List.mem_cons_self)).1, L, p + 1, hL, hpl, by show (rs.set e.1.i _)[e.1.i]? = _; rw [List.getElem?_set_self hil], rfl⟩
  · by_cases e1 : e.1.i = i
    · subst e1
      exact ⟨_, hq.mem_iff.2 (List.mem_append_right _ (List.mem_singleton.2 rfl)), rfl⟩
    · rw [List.getElem?_set_ne e1] at hr'
      obtain ⟨e0, h1, h2⟩ := h.all i x r' hi hr'
      rcases List.mem_cons.1 (hp.mem_iff.2 h1) with h3 | h3
      · subst h3; exact absurd h2 e1
      · exact ⟨e0, hq.mem_iff.2 (List.mem_append_left _ h3), h2⟩
  · refine (hq.map fun e => e.1.i).nodup_iff.2 ?_
    rw [List.map_append]
    refine List.nodup_append.2 ⟨hon.2, by simp, fun a ha b hb e1 => hon.1 ?_⟩
    have hb2 : b = e.1.i := by simpa [hdAt] using hb
    rw [← hb2, ← e1]
    exact ha
/-- None of the heads is ahead of the first. -/
theorem Fro.least (h : Fro l m rs came) (hm : m = l.length) {e : E} (hl : ∀ e' ∈ came, ahd hdC e' e = false) :
    (∀ (j : Nat) (y : Int × Int) (r' : List (Int × Int)), rs[j]? = some (y :: r') → e.1.x.1 ≤ y.1) ∧ ∀ (j : Nat) (y : Int × Int) (r' : List (Int × Int)), j < e.1.i → rs[j]? = some (y :: r') → e.1.x.1 < y.1 := by
  have key : ∀ (j : Nat) (y : Int × Int) (r' : List (Int × Int)), rs[j]? = some (y :: r') → e.1.x.1 ≤ y.1 ∧ (j < e.1.i → e.1.x.1 < y.1) := fun j y r' hr => by
    have hj : j < m := by have := (List.getElem?_eq_some_iff.1 hr).1; rw [h.len] at this; omega
    obtain ⟨e', h1, rfl⟩ := h.all j y r' hj hr
    obtain ⟨_, L, p, h2, h3, h4, h5⟩ := h.names e' h1
    have hx : e'.1.x = y := by
      rw [h5]
      show L.ts[p]?.getD (0, 0) = y
      rw [h4, List.drop_eq_getElem_cons h3] at hr
      simp only [Option.some.injEq, List.cons.injEq] at hr
      rw [List.getElem?_eq_getElem h3]
      exact hr.1
    have hlt := hl e' h1
    rw [ahd_hd, decide_eq_false_iff_not, hx] at hlt
    omega
  exact ⟨fun j y r' hr => (key j y r' hr).1, fun j y r' hj hr => (key j y r' hr).2 hj⟩
end
end Go.Proofs.Ytnmaldgmlkcliaa.HH
