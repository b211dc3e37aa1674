/- Four lists that were answered one behind the other (the head of SK, on its own: a text takes SK or this). -/
import Derived.Test.YtdbilngkokkggaaSJ
namespace Go.Proofs.Ytdbilngkokkggaa
open Go.RowKit Go.Maps Go.Sort

theorem OwnT.shape {base : Nat} {w : World} {v : Value} {ts : List (Int × Int)} (h : OwnT base w v ts) : ∃ a b c, v = .slice a ts.length c ∧ ThS w a b 0 ts ∧ (a = none → c = 0 ∧ ts = []) ∧ ts.length ≤ c := by
  by_cases hn : v = .slice none 0 0
  · have h0 : ts = [] := by
      rcases h.2 with ⟨_, h2⟩ | ⟨b, c, cur, hv, _⟩
      · exact List.eq_nil_of_length_eq_zero h2
      · rw [hn] at hv; simp at hv
    subst h0 hn
    exact ⟨none, 0, 0, rfl, ⟨fun h => by simp at h, fun j hj => by simp at hj⟩, fun _ => ⟨rfl, rfl⟩, Nat.le_refl _⟩
  · obtain ⟨g, cap, rfl, hR, hb⟩ := h.row hn
    exact ⟨_, g, cap, rfl, hR.things, fun h => (by cases h), hR.len.1⟩
/-- Four values by their numbers. -/
def four (a b c d : Value) : Nat → Value
  | 0 => a
  | 1 => b
  | 2 => c
  | _ => d
def fourL (a b c d : List (Int × Int)) : Nat → List (Int × Int)
  | 0 => a
  | 1 => b
  | 2 => c
  | _ => d
/-- Four lists that came one behind the other stand apart. -/
theorem four_lists {W : World} {va vb vc vd : Value} {la lb lc ld : List (Int × Int)} {n0 n1 n2 n3 : Nat} (h0 : OwnT n0 W va la) (h1 : OwnT n1 W vb lb) (h2 : OwnT n2 W vc lc) (h3 : OwnT n3 W vd ld)
    (k0 : ∀ k, va.ownBlock = some k → k < n1) (k1 : ∀ k, vb.ownBlock = some k → k < n2) (k2 : ∀ k, vc.ownBlock = some k → k < n3) (e1 : n0 ≤ n1) (e2 : n1 ≤ n2) (e3 : n2 ≤ n3) :
    Lists n0 (W.alloc (.cells #[va, vb, vc, vd] 29)) W.heap.size 4 (four va vb vc vd) (fourL la lb lc ld) := by
  have l0 := fun k e => h0.lt k e
  have l1 := fun k e => h1.lt k e
  have l2 := fun k e => h2.lt k e
  have l3 := fun k e => h3.lt k e
  refine ⟨⟨fun i j hi hj hij b hb hb2 => ?_, fun i hi hb => ?_⟩, fun i hi => ?_, fun i hi => ?_⟩
  · have c0 := fun e => And.intro (l0 b e) (k0 b e)
    have c1 := fun e => And.intro (l1 b e) (k1 b e)
    have c2 := fun e => And.intro (l2 b e) (k2 b e)
    have c3 := fun e => l3 b e
    match i, j, hi, hj with
    | 0, 0, _, _ => exact hij rfl
    | 0, 1, _, _ => have := c0 hb; have := c1 hb2; omega
    | 0, 2, _, _ => have := c0 hb; have := c2 hb2; omega
    | 0, 3, _, _ => have := c0 hb; have := c3 hb2; omega
    | 1, 0, _, _ => have := c1 hb; have := c0 hb2; omega
    | 1, 1, _, _ => exact hij rfl
    | 1, 2, _, _ => have := c1 hb; have := c2 hb2; omega
    | 1, 3, _, _ => have := c1 hb; have := c3 hb2; omega
    | 2, 0, _, _ => have := c2 hb; have := c0 hb2; omega
    | 2, 1, _, _ => have := c2 hb; have := c1 hb2; omega
    | 2, 2, _, _ => exact hij rfl
    | 2, 3, _, _ => have := c2 hb; have := c3 hb2; omega
    | 3, 0, _, _ => have := c3 hb; have := c0 hb2; omega
    | 3, 1, _, _ => have := c3 hb; have := c1 hb2; omega
    | 3, 2, _, _ => have := c3 hb; have := c2 hb2; omega
    | 3, 3, _, _ => exact hij rfl
  · match i, hi with
    | 0, _ => have := l0 _ hb; omega
    | 1, _ => have := l1 _ hb; omega
    | 2, _ => have := l2 _ hb; omega
    | 3, _ => have := l3 _ hb; omega
  · have h9 := new_cells W [va, vb, vc, vd] 29
    match i, hi with
    | 0, _ => have := h9 0 va rfl; rwa [add_at] at this
    | 1, _ => have := h9 1 vb rfl; rwa [add_at] at this
    | 2, _ => have := h9 2 vc rfl; rwa [add_at] at this
    | 3, _ => have := h9 3 vd rfl; rwa [add_at] at this
  · match i, hi with
    | 0, _ => exact (h0.alloc _)
    | 1, _ => exact ((h1.alloc _).mono (by omega))
    | 2, _ => exact ((h2.alloc _).mono (by omega))
    | 3, _ => exact ((h3.alloc _).mono (by omega))
end Go.Proofs.Ytdbilngkokkggaa
