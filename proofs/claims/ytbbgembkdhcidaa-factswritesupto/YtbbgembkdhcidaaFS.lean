/- slices.SortFunc of lists of texts by slices.Compare. -/
import Derived.Test.YtbbgembkdhcidaaFR
import Derived.Test.YtbbgembkdhcidaaFQ
import Derived.Test.YtbbgembkdhcidaaSsh
namespace Go.Proofs.Ytbbgembkdhcidaa
open Go.RowKit Go.Maps Go.Shelf Go.Sort

def cfT {w : World} (x y : TxAt w) : Int := cmpS x.1.xs y.1.xs
theorem ltT {w : World} (x y : TxAt w) : ltOf cfT x y = decide (cmpS x.1.xs y.1.xs < 0) := by
  unfold ltOf cfT
  rfl
theorem swoT (w : World) : SWO (ltOf (cfT (w := w))) where
  irrefl x := by rw [ltT, cmpS_self]; rfl
  trans x y z h1 h2 := by
    rw [ltT] at *
    simp only [decide_eq_true_eq] at *
    exact cmpS_lt h1 (by omega)
  ntrans x y z h1 h2 := by
    rw [ltT] at *
    simp only [decide_eq_false_iff_not, Int.not_lt] at *
    have e1 := cmpS_swap x.1.xs y.1.xs
    have e2 := cmpS_swap y.1.xs z.1.xs
    have e3 := cmpS_swap x.1.xs z.1.xs
    have := cmpS_trans z.1.xs y.1.xs x.1.xs (by omega) (by omega)
    omega
section
variable {α : Type} [Inhabited α] {enc : α → Value}
theorem sortW_turn (w : World) (blk off m : Nat) (d : Array α) (os : Array Obj) : Turn (fun k => k = blk) w (sortWorld enc w blk off m d os) := by
  refine ⟨rfl, rfl, rfl, ?_, fun k hk hn => ?_⟩
  · simp [sortWorld, grow, putRow, mapBlock, Sort.ahead]
  · unfold sortWorld
    rw [heap_grow_old _ _ (by simpa [putRow, mapBlock, Sort.ahead] using hk)]
    simp only [putRow, mapBlock, Array.getElem?_modify]
    rw [if_neg (fun e => hn e.symm)]
    rfl
theorem sortW_row (w : World) (blk m : Nat) (d : Array α) (os : Array Obj) {cur : Array Value} {e : TypeId} (h : w.heap[blk]? = some (.cells cur e (0, 0))) :
    (sortWorld enc w blk 0 m d os).heap[blk]? = some (.cells (putCells enc 0 d cur) e (0, 0)) := by
  have hlt := (Array.getElem?_eq_some_iff.1 h).1
  unfold sortWorld
  rw [heap_grow_old _ _ (by simpa [putRow, mapBlock, Sort.ahead] using hlt)]
  simp only [putRow, mapBlock, Array.getElem?_modify, if_true]
  show Option.map _ w.heap[blk]? = _
  rw [h]
  rfl
end

theorem insertT_none (p : Option Addr) (cap : Nat) (fv : Value) (w : World) : Calls Try.prog 72 #[.slice p 0 cap, .int .i64 0, .int .i64 0, fv] w fun e w' => e = .returned (.tuple #[]) ∧ w' = w := by
  go_enter Try.func72, Try.ntmps72
  go_wp2
  go_loopw [8, 9] (fun i _ wr => i = .int .i64 1 ∧ wr = w) (fun _ _ _ => 0)
  case atStart => exact ⟨rfl, rfl⟩
  case round =>
    obtain ⟨rfl, rfl⟩ := hrel
    go_wp2
    go_end0
    exact ⟨rfl, rfl⟩
set_option maxRecDepth 100000 in
set_option maxHeartbeats 2000000 in
theorem pdqT_none (p : Option Addr) (cap : Nat) (lim : Int) (fv : Value) (w : World) : Calls Try.prog 65 #[.slice p 0 cap, .int .i64 0, .int .i64 0, .int .i64 lim, fv] w fun e w' => e = .returned (.tuple #[]) ∧ w' = w := by
  have hi := insertT_none p cap fv
  go_enter Try.func65, Try.ntmps65
  go_wp2
  go_loopw [1, 2, 3, 10, 11] (fun a b _ _ _ wr => a = .int .i64 0 ∧ b = .int .i64 0 ∧ wr = w) (fun _ _ _ _ _ _ => 0)
  case atStart => exact ⟨rfl, rfl, rfl⟩
  case round =>
    obtain ⟨rfl, rfl, rfl⟩ := hrel
    go_wp2_with (go_at_call 72; refine (hi _).mono ?_; rintro e w' ⟨rfl, hw'⟩; have hw2 := hw'.symm; subst hw2)
    refine bodyPost_ret (results_none rfl _ _ _) rfl ?_
    exact ⟨rfl, rfl⟩
theorem sortT_none (p : Option Addr) (cap : Nat) (fv : Value) (w : World) : Calls Try.prog 54 #[.slice p 0 cap, fv] w fun e w' => e = .returned (.tuple #[]) ∧ w' = w := by
  have hl := fun W => Try.bits_Len 0 W (by decide) (by decide)
  have hp := fun lim W => pdqT_none p cap lim fv W
  go_enter Try.func54, Try.ntmps54
  go_wp2_with (first
    | (go_at_call 66; refine (hl _).mono ?_; rintro e w' ⟨rfl, hw'⟩; have hw2 := hw'.symm; subst hw2)
    | (go_at_call 65; refine (hp _ _).mono ?_; rintro e w' ⟨rfl, hw'⟩; have hw2 := hw'.symm; subst hw2))
  go_end0
  exact ⟨rfl, rfl⟩

set_option maxHeartbeats 1000000 in
/-- A row of lists of texts, sorted: the same ones, rising. -/
theorem sortT_any {w0 w : World} {v : Value} {ts : List Tx} (hs : Stay w0 w) (hT : ∀ t ∈ ts, t.S w0 ∧ t.xs.length ≤ 9223372036854775807) (ho : w.ownsRow w0.heap.size 39 1 v ts.length (ts.map Tx.v)) (hsz : ts.length < 4611686018427387904) :
    Calls Try.prog 54 #[v, .func (.func 38) #[] #[]] w fun e w' => e = .returned (.tuple #[]) ∧ ∃ zs : List Tx, zs.Perm ts ∧ zs.Pairwise (fun a b => cmpS a.xs b.xs ≤ 0) ∧ w'.ownsRow w0.heap.size 39 1 v ts.length (zs.map Tx.v) ∧ Stay w0 w' := by
  have eg : ∀ args w, (callFunc 38 args).run Try.prog w = .ok (.enter 38 args) w := enters_of Try.func38 (by kernel_rfl) rfl
  rcases ho.2 with ⟨rfl, h0⟩ | ⟨g, cap, cur, rfl, hb, hh, k1, k2, k3, k4⟩
  · have e : ts = [] := List.eq_nil_of_length_eq_zero h0
    subst e
    exact (sortT_none none 0 _ w).mono fun e w' h => ⟨h.1, [], List.Perm.nil, List.Pairwise.nil, by rw [h.2]; exact ho, by rw [h.2]; exact hs⟩
  · obtain ⟨d, hd⟩ : ∃ d : Array (TxAt w0), d.toList.map (·.1) = ts := ⟨(ts.pmap (fun t h => (⟨t, h⟩ : TxAt w0)) hT).toArray, by simp [List.map_pmap]⟩
    have hds : d.size = ts.length := by rw [← hd]; simp
    have hget : ∀ j (hj : j < ts.length), (d[j]!).1 = ts[j] := fun j hj => by
      rw [getElem!_pos d j (by omega)]
      have : (d.toList.map (·.1))[j]'(by simp; omega) = ts[j] := by simp only [hd]
      simpa using this
    have hH : Sort.Holds (fun t : TxAt w0 => t.1.v) w g 0 d := fun j hj => by
      rw [hds] at hj
      refine ⟨?_, World.ownsRow.frozenAt ho _⟩
      dsimp only
      rw [Nat.zero_add, hget j hj]
      exact row_cell ho j _ (by simp [hj])
    have hcmp : CmpLays1 Try.prog 38 #[] (fun t : TxAt w0 => t.1.v) cfT g 0 d.size w := fun m os dk _ x y => by
      have hst : Stay w0 (sortWorld (fun t : TxAt w0 => t.1.v) w g 0 m dk os) := (sortW_turn _ _ _ _ _ _).stay hs (fun k hk e => by omega)
      exact (compare_any _ x.1.a y.1.a x.1.b x.1.o y.1.b y.1.o x.1.c y.1.c x.1.xs y.1.xs (StrsS.stay x.2.1 hst) (StrsS.stay y.2.1 hst) x.2.2 y.2.2).mono fun e w' h => ⟨h.1, 0, #[], by rw [h.2, grow_empty]; rfl⟩
    have hcon := Try.slices_SortFunc (fun t : TxAt w0 => t.1.v) (fun x => rfl) cfT (swoT w0) 38 #[] g 0 cap d w eg hcmp hH (Array.getElem?_eq_some_iff.1 hh).1 (by rw [hds]; exact hsz)
    rw [hds] at hcon
    refine hcon.mono ?_
    rintro e w' ⟨he, d', m, os, hpm, hso, rfl⟩
    obtain ⟨hps, _, hpp⟩ := hpm
    rw [hds] at hps
    rw [Array.extract_eq_self_of_le (by omega), Array.extract_eq_self_of_le (by omega)] at hpp
    have hperm : (d'.toList.map (·.1)).Perm ts := by
      have := hpp.map (fun x : TxAt w0 => x.1)
      rwa [hd] at this
    refine ⟨he, d'.toList.map (·.1), hperm, ?_, ?_, (sortW_turn _ _ _ _ _ _).stay hs (fun k hk e => by omega)⟩
    · rw [List.pairwise_map, List.pairwise_iff_getElem]
      intro i j hi hj hij
      have hi' : i < d'.size := by simpa using hi
      have hj' : j < d'.size := by simpa using hj
      have h1 := hso i j (Nat.zero_le _) hij (by omega)
      rw [getElem!_pos d' i hi', getElem!_pos d' j hj', ltT, decide_eq_false_iff_not, Int.not_lt] at h1
      simp only [Array.getElem_toList]
      have := cmpS_swap d'[i].1.xs d'[j].1.xs
      omega
    · refine ⟨by simp [hps], .inr ⟨g, cap, _, rfl, hb, sortW_row _ _ _ _ _ hh, k1, k2, by simpa [putCells] using k3, ?_⟩⟩
      rw [Nat.mul_one]
      have hl' : (d'.toList.map (fun x : TxAt w0 => x.1)).length = ts.length := by simpa using hps
      apply List.ext_getElem?
      intro j
      by_cases hj : j < ts.length
      · rw [List.getElem?_take_of_lt hj]
        have hjc : j < cur.size := by omega
        have hjd : j < d'.size := by omega
        rw [Array.getElem?_toList]
        simp only [putCells, Array.getElem?_mapIdx, Array.getElem?_eq_getElem hjc, Option.map_some, List.map_map, List.getElem?_map]
        rw [if_pos (by omega), Nat.sub_zero, getElem!_pos d' j hjd, Array.getElem?_toList, Array.getElem?_eq_getElem hjd]
        rfl
      · rw [List.getElem?_eq_none (by rw [List.length_take]; omega), List.getElem?_eq_none (by simp; omega)]
end Go.Proofs.Ytbbgembkdhcidaa
