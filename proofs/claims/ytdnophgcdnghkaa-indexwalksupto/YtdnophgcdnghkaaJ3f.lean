/- The document's table of layer 3: Layout: all keys laid anew. -/
import Derived.Test.YtdnophgcdnghkaaJ3e
import Derived.Test.YtdnophgcdnghkaaIKi
namespace Go.Proofs.Ytdnophgcdnghkaa.I
open Go.RowKit Go.Maps

/-- A pair as a key that is there. -/
def mkE (way : Int) (p : Int × Int) : E := ⟨p.1, p.2, hashOf way p.1, 0, true⟩
/-- The numbers that Layout tells: turns, or -1. -/
def outL (places : List Nat) : List Value := places.map fun (p : Nat) => Value.int .i64 ((p : Int) - 1)
theorem outL_set (places : List Nat) (r i : Nat) : (outL places).set r (.int .i64 (i : Int)) = outL (places.set r (i + 1)) := by
  unfold outL
  rw [List.map_set]
  congr 2
  omega
/-- The row that Layout fills. -/
def LayRow (w : World) (bl : Nat) (L : List Value) : Prop := w.heap[bl]? = some (.cells L.toArray 3 (0, 0))
theorem LayRow.set {w : World} {bl : Nat} {L : List Value} (h : LayRow w bl L) (j : Nat) (v : Value) : LayRow (w.setCell ⟨bl, j, none⟩ v) bl (L.set j v) := by
  unfold LayRow at *
  simp [World.setCell, Array.getElem?_modify, h]
theorem LayRow.cell {w : World} {bl : Nat} {L : List Value} (h : LayRow w bl L) {j : Nat} {v : Value} (hv : L[j]? = some v) : w.cell? ⟨bl, j, none⟩ = some v ∧ w.frozen? ⟨bl, j, none⟩ = false := by
  unfold LayRow at h
  simp [World.cell?, World.frozen?, h, hv]
theorem LayRow.stay {w w' : World} {bl : Nat} {L : List Value} (h : LayRow w bl L) (hs : Stay w w') : LayRow w' bl L := (hs.block bl (Array.getElem?_eq_some_iff.1 h).1).trans h
/-- What Layout comes to. -/
structure LayI (way : Int) (ps : List (Int × Int)) (N n : Nat) (came : List E) (places : List Nat) : Prop where
  lies : ∃ reach, Lies N n reach came places
  sim : Sim (ps.map (mkE way)) came
  free : zeros places + n = N
theorem LayI.start (way : Int) (ps : List (Int × Int)) (N : Nat) : LayI way ps N 0 (ps.map (mkE way)) (List.replicate N 0) :=
  ⟨⟨0, Lies.empty N _⟩, Sim.refl _, by simp [zeros, List.countP_replicate]⟩
theorem LayI.at {way : Int} {ps : List (Int × Int)} {N n : Nat} {came : List E} {places : List Nat} (h : LayI way ps N n came places) (hn : n < ps.length) : ∃ e : E, came[n]? = some e ∧ e.hash = hashOf way ps[n].1 ∧ e.there = true := by
  have hl := h.sim.len
  rw [List.length_map] at hl
  have hlt : n < came.length := by omega
  refine ⟨came[n], List.getElem?_eq_getElem hlt, ?_⟩
  have hs := congrArg (fun l => l[n]?) h.sim
  simp only [List.getElem?_map, List.getElem?_eq_getElem hlt, List.getElem?_eq_getElem hn, Option.map_some, Option.some.injEq] at hs
  have h1 := congrArg Ent.hash hs
  have h2 := congrArg Ent.there hs
  exact ⟨h1, h2⟩
theorem LayI.lay {way : Int} {ps : List (Int × Int)} {N n : Nat} {came : List E} {places : List Nat} (h : LayI way ps N n came places) (hn : n < ps.length) {r : Nat} (hr : Free N (hashOf way ps[n].1 % N) places r) : ∃ came', LayI way ps N (n + 1) came' (places.set r (n + 1)) := by
  obtain ⟨e, he, hh, hth⟩ := h.at hn
  obtain ⟨reach, hL⟩ := h.lies
  rw [← hh] at hr
  refine ⟨_, ⟨_, hL.lay he hth hr⟩, h.sim.set he, ?_⟩
  have := zeros_set_pos (v := n + 1) hr.2.1 (by omega)
  have := h.free
  omega
/-- Between two places of a search. -/
def Full (N home : Nat) (places : List Nat) (s : Nat) : Prop := s < N ∧ ∀ q, q < N → dist N home q < dist N home s → ∃ t, places[q]? = some (t + 1)
theorem nx_mod {N s : Nat} (h : s < N) : (s + 1) % N = nx N s := by
  unfold nx
  split
  · rename_i e; rw [e, Nat.mod_self]
  · exact Nat.mod_eq_of_lt (by omega)
theorem Full.start {N home : Nat} (places : List Nat) (h : home < N) : Full N home places home := ⟨h, fun q _ hd => by rw [dist_self] at hd; omega⟩
/-- A place that is taken is not the free one. -/
theorem Full.lt {N home s z : Nat} {places : List Nat} (h : Full N home places s) (hh : home < N) (hz : z < N) (hz0 : places[z]? = some 0) {t : Nat} (hs : places[s]? = some (t + 1)) : dist N home s < dist N home z := by
  rcases Nat.lt_trichotomy (dist N home s) (dist N home z) with g | g | g
  · exact g
  · have := dist_inj hh h.1 hz g
    subst this
    rw [hz0] at hs
    simp at hs
  · obtain ⟨t', ht'⟩ := h.2 z hz g
    rw [hz0] at ht'
    simp at ht'
theorem Full.next {N home s z : Nat} {places : List Nat} (h : Full N home places s) (hh : home < N) (hz : z < N) (hz0 : places[z]? = some 0) {t : Nat} (hs : places[s]? = some (t + 1)) : Full N home places (nx N s) ∧ dist N home (nx N s) = dist N home s + 1 ∧ dist N home s < dist N home z := by
  have hlt := h.lt hh hz hz0 hs
  have hd := dist_step hh h.1 hz hlt
  refine ⟨⟨(nx_spec h.1).1, fun q hq hdq => ?_⟩, hd, hlt⟩
  rw [hd] at hdq
  rcases Nat.lt_or_eq_of_le (Nat.le_of_lt_succ hdq) with g | g
  · exact h.2 q hq g
  · have := dist_inj hh hq h.1 g
    subst this
    exact ⟨t, hs⟩
end Go.Proofs.Ytdnophgcdnghkaa.I
