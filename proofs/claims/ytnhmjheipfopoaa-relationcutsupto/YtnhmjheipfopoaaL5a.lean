/- The map of lookups: keys are rows of columns, values are pointers to lookups. -/
import Derived.Test.YtnhmjheipfopoaaL4j
import Derived.DeepKeys4
import Derived.Maps.Range
import Derived.Maps.RangeWalk
import Derived.Maps.OwnSet
import Derived.Maps.Views
namespace Go.Proofs.Ytnhmjheipfopoaa.L
open Go.RowKit Go.Maps Go.Proofs.Ytnhmjheipfopoaa

theorem laidOut : laidOutB Try.prog = true := by kernel_rfl
theorem keyT : Try.prog.keyTypeAt 5 64 = true := by kernel_rfl
theorem smallT : 5 + 1 ≤ 10000 := by omega
theorem rowT : 64 < Try.prog.types.size := of_decide_eq_true (by kernel_rfl)
set_option maxRecDepth 100000 in
theorem keyedR : Keyed Try.prog 64 := Keyed.of_law (deep_law_laid laidOut smallT rowT keyT (by kernel_rfl))

/-- What a row of columns reads as. -/
def keyR (c : Nat) : Lit := .string (keyBytes ((List.range 16).map fun i => Lit.bool (c.testBit i)))
theorem keyOf_row (c : Nat) : keyOf Try.prog 64 (.agg (rowV c)) = some (keyR c) := by kernel_rfl
theorem keyR_inj {c d : Nat} (hc : c < 65536) (hd : d < 65536) (h : keyR c = keyR d) : c = d := by
  have h1 := keyOf_row c
  rw [h] at h1
  have := keyedR.inj h1 (keyOf_row d)
  simp only [Value.agg.injEq] at this
  exact rowV_inj hc hd this

/-- A pointer to a box, or nil. -/
def mkP : Option Nat → Value
  | none => .pointer none
  | some b => .pointer (some ⟨b, 0, none⟩)
def encP : Option Nat → Int
  | none => -1
  | some b => b
def ptrE : Value → Option (DataW Unit × List MemPlace)
  | .pointer none => some (.lit (.int .i64 (-1)), [])
  | .pointer (some ⟨b, 0, none⟩) => some (.lit (.int .i64 b), [])
  | _ => none
theorem ptrE_mk (o : Option Nat) : ptrE (mkP o) = some (.lit (.int .i64 (encP o)), []) := by
  cases o <;> rfl
theorem ptrE_inv {v : Value} {y : DataW Unit × List MemPlace} (h : ptrE v = some y) : ∃ o, v = mkP o ∧ y = (.lit (.int .i64 (encP o)), []) := by
  unfold ptrE at h
  split at h
  · exact ⟨none, rfl, (Option.some.inj h).symm⟩
  · rename_i b
    exact ⟨some b, rfl, (Option.some.inj h).symm⟩
  · cases h
theorem encP_inj {a b : Option Nat} (h : encP a = encP b) : a = b := by
  cases a <;> cases b <;> simp [encP] at h ⊢ <;> omega

/-- The lookup of a row. -/
def lkp : List (Nat × Nat) → Nat → Option Nat
  | [], _ => none
  | p :: L, c => if p.1 = c then some p.2 else lkp L c
theorem lkp_snoc (L : List (Nat × Nat)) (c x d : Nat) : lkp (L ++ [(c, x)]) d = if (lkp L d).isSome then lkp L d else if c = d then some x else none := by
  induction L with
  | nil => simp [lkp]
  | cons p L ih =>
    rw [List.cons_append, lkp, lkp]
    by_cases h : p.1 = d
    · simp [h]
    · simp only [h, if_false]; exact ih
theorem lkp_mem {L : List (Nat × Nat)} {c x : Nat} (h : lkp L c = some x) : (c, x) ∈ L := by
  induction L with
  | nil => simp [lkp] at h
  | cons p L ih =>
    rw [lkp] at h
    by_cases e : p.1 = c
    · rw [if_pos e] at h
      obtain rfl := Option.some.inj h
      rw [← e]; exact List.mem_cons_self ..
    · rw [if_neg e] at h; exact List.mem_cons_of_mem _ (ih h)

/-- At mb lies the map of the lookups in L. -/
def LkM (W : World) (mb : Nat) (L : List (Nat × Nat)) : Prop :=
  ∃ D : DataW Unit, W.ownsMap Try.prog 64 ptrE mb L.length D ∧ (∀ c, c < 65536 → has D (keyR c) = (lkp L c).isSome) ∧ (∀ c, c < 65536 → D.atKey (keyR c) (.lit (.int .i64 (-1))) = .lit (.int .i64 (encP (lkp L c)))) ∧ ∀ kl, has D kl = true → ∃ c x, c < 65536 ∧ kl = keyR c ∧ lkp L c = some x

theorem LkM.keep {W W' : World} {mb : Nat} {L : List (Nat × Nat)} (h : LkM W mb L) (hb : W'.heap[mb]? = W.heap[mb]?) : LkM W' mb L := by
  obtain ⟨D, ⟨es, clock, h1, h2⟩, h3⟩ := h
  exact ⟨D, ⟨es, clock, hb.trans h1, h2⟩, h3⟩
theorem LkM.lt {W : World} {mb : Nat} {L : List (Nat × Nat)} (h : LkM W mb L) : mb < W.heap.size := by
  obtain ⟨D, h1, _⟩ := h; exact h1.lt
theorem LkM.turn {S : Nat → Prop} {W W' : World} {mb : Nat} {L : List (Nat × Nat)} (h : LkM W mb L) (ht : Turn S W W') (hn : ¬ S mb) : LkM W' mb L := h.keep (ht.block _ h.lt hn)
theorem LkM.stay {W W' : World} {mb : Nat} {L : List (Nat × Nat)} (h : LkM W mb L) (ht : Stay W W') : LkM W' mb L := h.keep (ht.block _ h.lt)
theorem lkM_new (W : World) : LkM (W.alloc (.map #[] 0)) W.heap.size [] := ⟨_, W.ownsMap_made _ _ _, fun c _ => by simp [has, lkp], fun c _ => by simp [DataW.atKey, lkp, encP], fun kl h => by simp [has] at h⟩
theorem run_mapL (W : World) : (Instr.makeMap 56 none).run Try.prog W = .ok (.map (some W.heap.size)) (W.alloc (.map #[] 0)) := by kernel_rfl
theorem zeroP (W : World) : (zeroValue 68).run Try.prog W = .ok (.pointer none) W := by kernel_rfl

theorem LkM.look {W : World} {mb : Nat} {L : List (Nat × Nat)} (h : LkM W mb L) {c : Nat} (hc : c < 65536) : (Instr.lookup 56 (.map (some mb)) (.agg (rowV c)) true).run Try.prog W = .ok (.tuple #[mkP (lkp L c), .bool (lkp L c).isSome]) W := by
  obtain ⟨D, h1, h2, h3, _⟩ := h
  obtain ⟨v, ps, hr, hv⟩ := h1.look_ok keyedR Try.underlying56 (zeroP W) (ptrE_mk none) (keyOf_row c)
  rw [show encP none = -1 from rfl, h3 c hc] at hv
  obtain ⟨o, rfl, ho⟩ := ptrE_inv hv
  simp only [Prod.mk.injEq, DataW.lit.injEq, Lit.int.injEq, true_and] at ho
  rw [hr, h2 c hc, ← encP_inj ho.1]

theorem LkM.put {W : World} {mb : Nat} {L : List (Nat × Nat)} (h : LkM W mb L) {c x : Nat} (hc : c < 65536) (hno : lkp L c = none) (hl : L.length < maxLen) : ∃ w', (Instr.mapUpdate 56 (.map (some mb)) (.agg (rowV c)) (.pointer (some ⟨x, 0, none⟩))).run Try.prog W = .ok () w' ∧ LkM w' mb (L ++ [(c, x)]) ∧ W.mapTurned w' mb := by
  obtain ⟨D, h1, h2, h3, h4⟩ := h
  obtain ⟨w', hr, ho, ht⟩ := h1.store keyedR Try.underlying56 hl (keyOf_row c) (ptrE_mk (some x))
  have hm := h1.isMap
  have hk : WideAt.IsKeyLit (keyR c) := by simp [keyR, WideAt.IsKeyLit]
  refine ⟨w', hr, ⟨_, by simpa using ho, fun d hd => ?_, fun d hd => ?_, fun kl hkl => ?_⟩, ht⟩
  · rw [lkp_snoc]
    by_cases e : d = c
    · subst e
      rw [has_put_same hm hk, hno]; simp
    · rw [has_put_other (fun q => e (keyR_inj hd hc q)), h2 d hd]
      cases lkp L d <;> simp [Ne.symm e]
  · rw [lkp_snoc]
    by_cases e : d = c
    · subst e
      rw [atKey_put_same hm hk, hno]; simp [encP]
    · rw [atKey_put_other (fun q => e (keyR_inj hd hc q)), h3 d hd]
      cases lkp L d <;> simp [Ne.symm e]
  · by_cases e : kl = keyR c
    · exact ⟨c, x, hc, e, by rw [lkp_snoc, hno]; simp⟩
    · rw [has_put_other e] at hkl
      obtain ⟨d, y, hd, rfl, hy⟩ := h4 kl hkl
      exact ⟨d, y, hd, rfl, by rw [lkp_snoc, hy]; simp⟩
end Go.Proofs.Ytnhmjheipfopoaa.L
