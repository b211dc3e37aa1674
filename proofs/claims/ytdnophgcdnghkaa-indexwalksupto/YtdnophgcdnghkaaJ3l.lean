/- A table and the document's: the same keys in the same order lie at the same places. No walk here. -/
import Derived.Test.YtdnophgcdnghkaaJ3k
import Derived.Test.YtdnophgcdnghkaaJF
namespace Go.Proofs.Ytdnophgcdnghkaa.I
open Go.RowKit Go.Maps Go.Proofs.Ytdnophgcdnghkaa

variable {way : Int} {ps : List (Int × Int)} {N n reach : Nat} {came came2 : List E} {places places2 : List Nat}
theorem LayI.strips (h : LayI way ps N n came2 places2) : came2.length = ps.length ∧ ∀ (i : Nat) (e : E), came2[i]? = some e → e.there = true ∧ ∃ p, ps[i]? = some p ∧ e.key = p.1 ∧ e.val = p.2 ∧ e.hash = hashOf way p.1 := by
  have hl := h.sim.len
  rw [List.length_map] at hl
  refine ⟨hl, fun i e he => ?_⟩
  have hi : i < came2.length := (List.getElem?_eq_some_iff.1 he).1
  have hs := congrArg (fun l => l[i]?) h.sim
  simp only [List.getElem?_map, he, List.getElem?_eq_getElem (show i < ps.length by omega), Option.map_some, Option.some.injEq] at hs
  exact ⟨congrArg Ent.there hs, ps[i], List.getElem?_eq_getElem _, congrArg Ent.key hs, congrArg Ent.val hs, congrArg Ent.hash hs⟩
theorem LayI.live (h : LayI way ps N n came2 places2) : live came2 = came2 := by
  unfold Go.Proofs.Ytdnophgcdnghkaa.live
  rw [List.filter_eq_self]
  intro e he
  obtain ⟨i, hi, rfl⟩ := List.mem_iff_getElem.1 he
  exact (h.strips.2 i _ (List.getElem?_eq_getElem hi)).1
/-- Both lay their keys alike. -/
theorem lay_same (hL : Lies N came.length reach came places) (hN : 0 < N) (hps : (live came).map kv = ps) (hh : ∀ (i : Nat) (e : E), (live came)[i]? = some e → e.hash = hashOf way e.key) (h2 : LayI way ps N ps.length came2 places2) {i : Nat} {e e2 : E} (he : (live came)[i]? = some e) (he2 : came2[i]? = some e2) : e.place = e2.place := by
  obtain ⟨hl, hst⟩ := h2.strips
  obtain ⟨r2, hL2⟩ := h2.lies
  have hF1 := hL.fst
  have hF2 : Fst N (live came2) := Lies.fst (by rw [hl]; exact hL2)
  rw [h2.live] at hF2
  refine hF1.same hF2 hN ?_ (fun i e e' he he' => ?_) i e e2 he he2
  · rw [hl, ← hps, List.length_map]
  · obtain ⟨-, p, hp, h1, h3, h4⟩ := hst i e' he'
    rw [← hps, List.getElem?_map, he] at hp
    have hp := Option.some.inj hp
    rw [h4, ← hp, hh i e he]
    rfl
end Go.Proofs.Ytdnophgcdnghkaa.I
