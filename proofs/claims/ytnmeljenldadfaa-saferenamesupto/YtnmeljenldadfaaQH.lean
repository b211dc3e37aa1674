/- Which variables a body binds, and by which literal first: bindersOf. -/
import Derived.Test.YtnmeljenldadfaaQG
namespace Go.Proofs.Ytnmeljenldadfaa
open Go.RowKit Go.Maps Go.Shelf
attribute [local go_sem] Oper.semAt_some

def firstAt : List (Int × ByteArray) → ByteArray → Int
  | [], _ => 0
  | p :: ps, s => if p.2 = s then p.1 else firstAt ps s
def namesP (ps : List (Int × ByteArray)) : List ByteArray := ps.map (·.2)
theorem firstAt_no : ∀ {ps : List (Int × ByteArray)} {s : ByteArray}, s ∉ namesP ps → firstAt ps s = 0
  | [], _, _ => rfl
  | p :: ps, s, h => by
    simp only [namesP, List.map_cons, List.mem_cons, not_or] at h
    rw [firstAt, if_neg (fun e => h.1 e.symm), firstAt_no h.2]
theorem firstAt_snoc : ∀ (ps : List (Int × ByteArray)) (p : Int × ByteArray) (s : ByteArray), firstAt (ps ++ [p]) s = if s ∈ namesP ps then firstAt ps s else if p.2 = s then p.1 else 0
  | [], p, s => by simp [firstAt, namesP]
  | q :: ps, p, s => by
    rw [List.cons_append, firstAt, firstAt, firstAt_snoc ps p s]
    by_cases h : q.2 = s
    · simp [h, namesP]
    · have : s ∈ namesP (q :: ps) ↔ s ∈ namesP ps := by simp [namesP, Ne.symm h]
      simp only [h, if_false, this]
theorem namesP_snoc (ps : List (Int × ByteArray)) (p : Int × ByteArray) : namesP (ps ++ [p]) = namesP ps ++ [p.2] := by simp [namesP]

/-- At bm lies a map of the names in ps, each with the number that first stands by it. -/
def BndM (w : World) (bm : Nat) (ps : List (Int × ByteArray)) : Prop :=
  ∃ D : DataW Unit, w.ownsMap Try.prog 9 (plainElem Try.prog 3) bm ps.length D ∧ (∀ s, has D (keyB s) = inB (namesP ps) s) ∧ ∀ s, D.atKey (keyB s) (.lit (.int .i64 0)) = .lit (.int .i64 (firstAt ps s))
theorem BndM.keep {w w' : World} {bm : Nat} {us : List (Int × ByteArray)} (h : BndM w bm us) (hb : w'.heap[bm]? = w.heap[bm]?) : BndM w' bm us := by
  obtain ⟨D, ⟨es, clock, h1, h2⟩, h3⟩ := h
  exact ⟨D, ⟨es, clock, hb.trans h1, h2⟩, h3⟩
theorem BndM.lt {w : World} {bm : Nat} {us : List (Int × ByteArray)} (h : BndM w bm us) : bm < w.heap.size := by
  obtain ⟨D, h1, _⟩ := h; exact h1.lt
theorem BndM.obj {w : World} {bm : Nat} {us : List (Int × ByteArray)} (h : BndM w bm us) : ∃ o, w.heap[bm]? = some o ∧ o.isCells = false := by
  obtain ⟨D, ⟨es, clock, h1, _⟩, _⟩ := h
  exact ⟨_, h1, rfl⟩
theorem BndM.stay {w w' : World} {bm : Nat} {us : List (Int × ByteArray)} (h : BndM w bm us) (hs : Stay w w') : BndM w' bm us := h.keep (hs.block _ h.lt)
theorem bndM_new (w : World) : BndM (w.alloc (.map #[] 0)) w.heap.size [] := ⟨_, w.ownsMap_made _ _ _, fun s => by simp [has, inB, namesP], fun s => by simp [DataW.atKey, firstAt]⟩
theorem run_mapB (W : World) : (Instr.makeMap 79 none).run Try.prog W = .ok (.map (some W.heap.size)) (W.alloc (.map #[] 0)) := by kernel_rfl
theorem zeroI (w : World) : (zeroValue 3).run Try.prog w = .ok (.int .i64 0) w := by kernel_rfl
theorem BndM.there {w : World} {bm : Nat} {ps : List (Int × ByteArray)} {p : Int × ByteArray} (h : BndM w bm ps) (hp : p.2 ∈ namesP ps) : BndM w bm (ps ++ [p]) := by
  obtain ⟨D, ⟨es, clock, h1, F, hn, hD⟩, h2, h3⟩ := h
  refine ⟨D, ⟨es, clock, h1, F, by simp; omega, hD⟩, fun s => ?_, fun s => ?_⟩
  · rw [h2, namesP_snoc, inB_snoc, Bool.eq_iff_iff]
    simp only [inB_iff, Bool.or_eq_true, beq_iff_eq]
    constructor
    · exact .inl
    · rintro (h | rfl)
      · exact h
      · exact hp
  · rw [h3, firstAt_snoc]
    split
    · rfl
    · rename_i hs
      rw [if_neg (fun e : p.2 = s => hs (e ▸ hp)), firstAt_no hs]
theorem BndM.added {w : World} {bm : Nat} {ps : List (Int × ByteArray)} {p : Int × ByteArray} {D : DataW Unit} (hm : IsMap D) (hno : p.2 ∉ namesP ps) (h2 : ∀ s, has D (keyB s) = inB (namesP ps) s) (h3 : ∀ s, D.atKey (keyB s) (.lit (.int .i64 0)) = .lit (.int .i64 (firstAt ps s)))
    (h : w.ownsMap Try.prog 9 (plainElem Try.prog 3) bm (ps.length + 1) (D.put (keyB p.2) (.lit (.int .i64 p.1)))) : BndM w bm (ps ++ [p]) := by
  have hk : WideAt.IsKeyLit (keyB p.2) := by simp [keyB, WideAt.IsKeyLit]
  refine ⟨_, by simpa using h, fun s => ?_, fun s => ?_⟩
  · rw [namesP_snoc, inB_snoc]
    by_cases e : s = p.2
    · subst e
      rw [has_put_same hm hk]
      simp
    · rw [has_put_other (fun h => e (keyB_inj h)), h2 s]
      simp [e]
  · rw [firstAt_snoc]
    by_cases e : s = p.2
    · subst e
      rw [atKey_put_same hm hk, if_neg hno, if_pos rfl]
    · rw [atKey_put_other (fun h => e (keyB_inj h)), h3 s]
      split
      · rfl
      · rename_i hs
        rw [if_neg (fun h => e h.symm), firstAt_no hs]
end Go.Proofs.Ytnmeljenldadfaa
