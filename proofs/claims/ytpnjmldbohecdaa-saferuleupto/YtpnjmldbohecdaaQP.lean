/- A rule's body that grows literal by literal: what lies in memory. -/
import Derived.Test.YtpnjmldbohecdaaQO
import Derived.Test.YtpnjmldbohecdaaCE
import Derived.Deep.RegionLaw
import Derived.Deep.Cut
namespace Go.Proofs.Ytpnjmldbohecdaa
open Go.RowKit Go.Maps Go.Shelf

theorem step_append_run {P : Program} {ops : Array Oper} {o : Oper} {a : Act} {w : World} {K : Act → World → Prop} {Q : Exit → Act → World → Prop} {E : Prop} (hg : o.guard = none) (s x : Operand) (t u : TypeId)
    (ho : o.op = .call { callee := .builtin .append, args := #[s, x], argTypes := #[t, u] }) {v z : Value} (hs : a.eval s = v) (hx : a.eval x = z) {v' : Value} {w' : World}
    (hr : (Builtin.append_ #[t, u] o.type #[v, z]).run P w = .ok v' w') (h : K (a.put o.dst v') w') : if Region.wanted o (yielded ops a.tmps) = true then Oper.wp P o a w K Q else E := by
  have hw : Region.wanted o (yielded ops a.tmps) = true := by simp [Region.wanted, hg]
  rw [if_pos hw]
  unfold Oper.wp
  simp only [execOp, ho, resolve, invoke, builtin, Sem.run_bind, Sem.run_pure, Result.andThen_ok, List.map_toArray, List.map_cons, List.map_nil, hs, hx, hr]
  exact h

/-- At Bs lies a rule whose body is a list of its own, behind it; what lay ahead of Bs at V is as it was. -/
def SJ (V : World) (Bs : Nat) (p : ByteArray) (hv v : Value) (ls : List Li) (W : World) : Prop :=
  W.heap[Bs]? = some (.cells #[.string p, hv, v] 27 (0, 0)) ∧ OwnR 53 7 encLi (Bs + 1) W v ls ∧ Below Bs V W
theorem SJ.stay {V W W' : World} {Bs : Nat} {p : ByteArray} {hv v : Value} {ls : List Li} (h : SJ V Bs p hv v ls W) (hs : Stay W W') : SJ V Bs p hv v ls W' :=
  have hl := (Array.getElem?_eq_some_iff.1 h.1).1
  ⟨(hs.block _ hl).trans h.1, h.2.1.stay hs, h.2.2.trans (Below.mono hs (Nat.le_of_lt hl))⟩
theorem SJ.push {V W : World} {Bs : Nat} {p : ByteArray} {hv v : Value} {ls : List Li} (h : SJ V Bs p hv v ls W) (m : Li) (hl : ls.length ≤ 4000000) (ty : TypeId) :
    ∃ a1 n1 k1 w2, (Builtin.append_ #[25, 25] ty #[v, .slice (some ⟨W.heap.size, 0, none⟩) 1 1]).run Try.prog (W.alloc (.cells (encLi m).toArray 53)) = .ok (.slice a1 n1 k1) w2 ∧
      w2.cell? ⟨Bs, 2, none⟩ = some v ∧ w2.frozen? ⟨Bs, 2, none⟩ = false ∧ SJ V Bs p hv (.slice a1 n1 k1) (ls ++ [m]) (w2.setCell ⟨Bs, 2, none⟩ (.slice a1 n1 k1)) := by
  obtain ⟨h0, h1, h2⟩ := h
  have hBs := (Array.getElem?_eq_some_iff.1 h0).1
  have hlit := recs_lit encLiOk W [m] 53
  rw [show cellsR encLi [m] = encLi m by simp [cellsR]] at hlit
  obtain ⟨v', w2, hr, ho, hg, _, hat⟩ := append_recs (P := Try.prog) (ty := ty) encLiOk Try.underlying25 infoLi rfl (h1.alloc (.cells (encLi m).toArray 53)) hlit (c := 1) (fun h => nomatch h) (by simp [maxLen]; omega) (by simp; omega) (by rw [World.size_alloc]; omega)
  have hob : ∀ k, v.ownBlock = some k → k ≠ Bs := fun k hk => by have := (h1.lt k hk).1; omega
  have hg2 : w2.heap[Bs]? = W.heap[Bs]? := (hg.block Bs (by rw [World.size_alloc]; omega) (fun e => hob Bs e.symm rfl)).trans (Below.heap_alloc _ _ _ hBs)
  obtain ⟨a1, b1, k1, rfl, hR, hnone, hpos, hle, hmx⟩ := ho.form encLiOk
  have q0 := hg2.trans h0
  refine ⟨a1, (ls ++ [m]).length, k1, w2, hr, by simp [World.cell?, q0], by simp [World.frozen?, q0], ?_, ?_, ?_⟩
  · simp [World.setCell, Array.getElem?_modify, q0]
  · have hne : ∀ k, (Value.slice a1 (ls ++ [m]).length k1).ownBlock = some k → k ≠ Bs := fun k hk => by
      have := (ho.lt k hk).1; omega
    refine ⟨ho.1, ?_⟩
    rcases ho.2 with hx | ⟨b, c, cur, hv', hb, hh, rest⟩
    · exact .inl hx
    · refine .inr ⟨b, c, cur, hv', hb, ?_, rest⟩
      rw [← hh]
      exact Below.heap_setCell _ _ _ _ (fun e => by have : b = Bs := e; omega)
  · refine Below.setCell ?_ (p := ⟨Bs, 2, none⟩) (Nat.le_refl _) _
    refine h2.trans ?_
    refine ⟨hg.os, hg.tape, hg.output, ?_, fun k hk => (hg.block k (by rw [World.size_alloc]; omega) (fun e => by have := (h1.lt k e.symm).1; omega)).trans (Below.heap_alloc _ _ _ (by omega))⟩
    have := hg.size
    rw [World.size_alloc] at this
    omega

/-- What is added, what is left. -/
def moreAt (ms : List Li) (i : Nat) : List Li := match ms[i]? with
  | some m => if m.kind = 1 then [m] else []
  | none => []
def keepAt (bs : List Bool) (cs : List Li) (i : Nat) : List Li := match cs[i]? with
  | some c => if bs[i]? = some true ∧ c.kind ≠ 1 then [] else [c]
  | none => []
def builtL (ms : List Li) (bs : List Bool) (cs : List Li) : Nat → List Li
  | 0 => []
  | i + 1 => builtL ms bs cs i ++ moreAt ms i ++ keepAt bs cs i
theorem moreAt_mem {ms : List Li} {i : Nat} {l : Li} (h : l ∈ moreAt ms i) : l ∈ ms ∧ l.kind = 1 := by
  unfold moreAt at h
  split at h
  · rename_i m hm
    split at h
    · rename_i hk
      rw [List.mem_singleton] at h
      subst h
      exact ⟨List.mem_of_getElem? hm, hk⟩
    · simp at h
  · simp at h
theorem keepAt_mem {bs : List Bool} {cs : List Li} {i : Nat} {l : Li} (h : l ∈ keepAt bs cs i) : l ∈ cs := by
  unfold keepAt at h
  split at h
  · rename_i m hm
    split at h
    · simp at h
    · rw [List.mem_singleton] at h
      subst h
      exact List.mem_of_getElem? hm
  · simp at h
theorem builtL_mem {ms : List Li} {bs : List Bool} {cs : List Li} {l : Li} : ∀ i, l ∈ builtL ms bs cs i → (l ∈ ms ∧ l.kind = 1) ∨ l ∈ cs
  | 0, h => by simp [builtL] at h
  | i + 1, h => by
    unfold builtL at h
    rcases List.mem_append.1 h with h | h
    · rcases List.mem_append.1 h with h | h
      · exact builtL_mem i h
      · exact .inl (moreAt_mem h)
    · exact .inr (keepAt_mem h)
theorem builtL_keeps {ms : List Li} {bs : List Bool} {cs : List Li} : ∀ (i j : Nat), j < i → ∀ c, cs[j]? = some c → c.kind = 1 → c ∈ builtL ms bs cs i
  | 0, j, h, _, _, _ => absurd h (Nat.not_lt_zero _)
  | i + 1, j, h, c, hc, hk => by
    unfold builtL
    by_cases hj : j < i
    · exact List.mem_append_left _ (List.mem_append_left _ (builtL_keeps i j hj c hc hk))
    · obtain rfl : j = i := by omega
      refine List.mem_append_right _ ?_
      unfold keepAt
      rw [hc]
      simp [hk]
theorem builtL_len (ms : List Li) (bs : List Bool) (cs : List Li) : ∀ i, (builtL ms bs cs i).length ≤ 2 * i
  | 0 => by simp [builtL]
  | i + 1 => by
    have := builtL_len ms bs cs i
    have h1 : (moreAt ms i).length ≤ 1 := by
      unfold moreAt
      split
      · split <;> simp
      · simp
    have h2 : (keepAt bs cs i).length ≤ 1 := by
      unfold keepAt
      split
      · split <;> simp
      · simp
    unfold builtL
    rw [List.length_append, List.length_append]
    omega
/-- A safe rule stays safe. -/
theorem built_safe {x y : Ru} {ms : List Li} {bs : List Bool} (hx : ruleB x = true) (hh : y.head.ts = x.head.ts) (hb : y.body = builtL ms bs x.body x.body.length) : ruleB y = true := by
  rw [ruleB_iff] at *
  have up : ∀ s, (∃ l ∈ x.body, l.kind = 1 ∧ s ∈ varsT l.terms) → ∃ l ∈ y.body, l.kind = 1 ∧ s ∈ varsT l.terms := by
    rintro s ⟨l, hl, hk, hs⟩
    obtain ⟨j, hj, rfl⟩ := List.mem_iff_getElem.1 hl
    exact ⟨_, by rw [hb]; exact builtL_keeps _ j hj _ (List.getElem?_eq_getElem hj) hk, hk, hs⟩
  intro s hs
  rcases hs with hs | ⟨l, hl, hs⟩
  · exact up s (hx s (.inl (hh ▸ hs)))
  · rw [hb] at hl
    rcases builtL_mem _ hl with ⟨h1, h2⟩ | h
    · exact ⟨l, by rw [hb]; exact hl, h2, hs⟩
    · exact up s (hx s (.inr ⟨l, h, hs⟩))
end Go.Proofs.Ytpnjmldbohecdaa
