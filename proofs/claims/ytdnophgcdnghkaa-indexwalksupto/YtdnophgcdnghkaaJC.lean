/- byPlaces: what there is, by rising places. -/
import Derived.Test.YtdnophgcdnghkaaJAi
import Derived.Test.YtdnophgcdnghkaaShelfE
namespace Go.Proofs.Ytdnophgcdnghkaa.I
open Go.RowKit Go.Maps Go.Shelf Go.Sort Go.Proofs.Ytdnophgcdnghkaa

/-- An entry whose place is a small number. -/
abbrev EP := { e : E // e.place < 1099511627776 }
instance : Inhabited EP := ⟨⟨gap, by decide⟩⟩
def encP (x : EP) : List Value := encE x.1
def cfP (x y : EP) : Int := (x.1.place : Int) - (y.1.place : Int)

theorem ltP (x y : EP) : ltOf cfP x y = decide (x.1.place < y.1.place) := by
  unfold ltOf cfP
  rw [Bool.eq_iff_iff, decide_eq_true_iff, decide_eq_true_iff]
  omega
theorem swoP : SWO (ltOf cfP) where
  irrefl x := by rw [ltP]; simp
  trans x y z h1 h2 := by rw [ltP] at *; simp at *; omega
  ntrans x y z h1 h2 := by rw [ltP] at *; simp at *; omega

theorem aggEnt (w : World) : (isAgg 75).run Try.prog w = .ok true w := by kernel_rfl
theorem sizEnt (w : World) : (Go.sizeOf 75).run Try.prog w = .ok 5 w := by kernel_rfl

theorem cmpP_any (x y : EP) (W : World) : Calls Try.prog 55 #[.agg (encP x).toArray, .agg (encP y).toArray] W fun e w' => e = .returned (.int .i64 (cfP x y)) ∧ ∃ q os', w' = grow (W.drewN q) os' := by
  obtain ⟨⟨k1, v1, h1, p1, t1⟩, hx⟩ := x
  obtain ⟨⟨k2, v2, h2, p2, t2⟩, hy⟩ := y
  unfold cfP encP encE
  dsimp only at hx hy ⊢
  go_enter Try.func55, Try.ntmps55
  go_wp2
  go_ret
  exact ⟨rfl, 0, _, by rw [alloc_eq_grow, alloc_eq_grow, grow_grow]; rfl⟩

section
variable {w : World} {g cap : Nat} {L : List E}

theorem Came.cellAt (h : Came w g cap L) (j : Nat) (hj : j < L.length * 5) : w.cell? ⟨g, j, none⟩ = (flat L)[j]? := by
  obtain ⟨cur, h1, h2, h3, h4, h5⟩ := h
  rw [← h5, List.getElem?_take_of_lt hj]
  simp only [World.cell?, h1]
  simp

theorem sortK_turn (w : World) (blk m : Nat) (d : Array EP) (os : Array Obj) : Turn (fun k => k = blk) w (sortWorldK encP 5 w blk 0 m d os) := by
  refine ⟨rfl, rfl, rfl, ?_, fun k hk hn => ?_⟩
  · simp [sortWorldK, grow, putRowK, putRow, mapBlock, Sort.ahead]
  · unfold sortWorldK
    rw [heap_grow_old _ _ (by simpa [putRowK, putRow, mapBlock, Sort.ahead] using hk)]
    simp only [putRowK, putRow, mapBlock, Array.getElem?_modify]
    rw [if_neg (fun e => hn e.symm)]
    rfl

theorem sortK_row (w : World) (blk m : Nat) (d : Array EP) (os : Array Obj) {cur : Array Value} {e : TypeId} (h : w.heap[blk]? = some (.cells cur e (0, 0))) :
    (sortWorldK encP 5 w blk 0 m d os).heap[blk]? = some (.cells (putCells id 0 (flatK encP 5 d) cur) e (0, 0)) := by
  have hlt := (Array.getElem?_eq_some_iff.1 h).1
  unfold sortWorldK
  rw [heap_grow_old _ _ (by simpa [putRowK, putRow, mapBlock, Sort.ahead] using hlt)]
  simp only [putRowK, putRow, mapBlock, Array.getElem?_modify, if_true]
  show Option.map _ w.heap[blk]? = _
  rw [h]
  rfl

theorem flatK_get (d : Array EP) (j : Nat) (hj : j < d.size * 5) : (flat (d.toList.map (·.1)))[j]? = some ((flatK encP 5 d)[j]!) := by
  have hq : j / 5 < d.size := by omega
  have h1 : (d.toList.map (fun x : EP => x.1))[j / 5]? = some (d[j / 5]!).1 := by
    rw [List.getElem?_map, Array.getElem?_toList, Array.getElem?_eq_getElem hq, getElem!_pos d _ hq]; rfl
  have h2 := flat_at (d.toList.map (fun x : EP => x.1)) (j / 5) (j % 5) _ h1 (Nat.mod_lt _ (by decide))
  rw [show j / 5 * 5 + j % 5 = j by omega] at h2
  rw [h2, get_flatK encP 5 d j hj]
  have h3 : j % 5 < (encP d[j / 5]!).length := Nat.mod_lt _ (by decide)
  rw [getElem!_pos (encP d[j / 5]!) (j % 5) h3]
  exact List.getElem?_eq_getElem h3

set_option maxHeartbeats 1000000 in
/-- slices.SortFunc by places: a permutation, rising. -/
theorem sortE_any (hC : Came w g cap L) (hp : ∀ e ∈ L, e.place < 1099511627776) (c' : Nat) (hsz : L.length < 4611686018427387904) :
    Calls Try.prog 54 #[.slice (some ⟨g, 0, none⟩) L.length c', .func (.func 55) #[] #[]] w fun e w' => e = .returned (.tuple #[]) ∧ ∃ L', L'.Perm L ∧ L'.Pairwise (fun a b => a.place ≤ b.place) ∧ Came w' g cap L' ∧ Turn (fun k => k = g) w w' := by
  have eg : ∀ args w, (callFunc 55 args).run Try.prog w = .ok (.enter 55 args) w := enters_of Try.func55 (by kernel_rfl) rfl
  obtain ⟨d, hd⟩ : ∃ d : Array EP, d.toList.map (·.1) = L := ⟨(L.pmap (fun e h => (⟨e, h⟩ : EP)) hp).toArray, by simp [List.map_pmap]⟩
  have hds : d.size = L.length := by rw [← hd]; simp
  have hH : HoldsK encP 5 w g 0 d := fun j hj => by
    rw [size_flatK, hds] at hj
    refine ⟨?_, hC.free _⟩
    rw [Nat.zero_add, hC.cellAt j hj, ← hd]
    exact flatK_get d j (by rw [hds]; exact hj)
  have hcmp : CmpLays Try.prog 55 #[] encP 5 cfP g 0 d.size w := fun _ _ _ _ x y => cmpP_any x y _
  have hcon := AnyQ.slices_SortFunc Try.sortE 5 aggEnt sizEnt encP (fun _ => rfl) (fun x v hv => by simp [encP, encE] at hv; rcases hv with rfl | rfl | rfl | rfl | rfl <;> rfl) cfP swoP 55 #[] g 0 c' d w eg hcmp hH hC.lt (by rw [hds]; exact hsz)
  rw [hds] at hcon
  change Calls Try.prog 54 _ _ _ at hcon
  refine hcon.mono ?_
  rintro e w' ⟨he, d', m, os, hpm, hs, rfl⟩
  obtain ⟨hps, _, hpp⟩ := hpm
  rw [hds] at hps
  rw [Array.extract_eq_self_of_le (by omega), Array.extract_eq_self_of_le (by omega)] at hpp
  have hperm : (d'.toList.map (·.1)).Perm L := by
    have := hpp.map (fun x : EP => x.1)
    rwa [hd] at this
  refine ⟨he, d'.toList.map (·.1), hperm, ?_, ?_, sortK_turn _ _ _ _ _⟩
  · rw [List.pairwise_map, List.pairwise_iff_getElem]
    intro i j hi hj hij
    have hi' : i < d'.size := by simpa using hi
    have hj' : j < d'.size := by simpa using hj
    have h1 := hs i j (Nat.zero_le _) hij (by omega)
    rw [getElem!_pos d' i hi', getElem!_pos d' j hj'] at h1
    rw [ltP, decide_eq_false_iff_not, Nat.not_lt] at h1
    simp only [Array.getElem_toList]
    exact h1
  · obtain ⟨cur, h1, h2, h3, h4, h5⟩ := hC
    have hl' : (d'.toList.map (fun x : EP => x.1)).length = L.length := by simpa using hps
    refine ⟨_, sortK_row _ _ _ _ _ h1, by rw [hl']; exact h2, h3, by simpa [putCells] using h4, ?_⟩
    apply List.ext_getElem?
    intro j
    rw [hl']
    by_cases hj : j < L.length * 5
    · rw [List.getElem?_take_of_lt hj, flatK_get d' j (by rw [hps]; exact hj)]
      have hjc : j < cur.size := by omega
      rw [Array.getElem?_toList]
      simp only [putCells, Array.getElem?_mapIdx, Array.getElem?_eq_getElem hjc, Option.map_some]
      rw [if_pos (by rw [size_flatK, hps]; omega)]
      rfl
    · rw [List.getElem?_eq_none (by rw [List.length_take]; omega), List.getElem?_eq_none (by rw [flat_len, hl']; omega)]
end
end Go.Proofs.Ytdnophgcdnghkaa.I
