/- slices.SortFunc over the numbers of a table, by their texts. -/
import Derived.Test.YtdmopioiaaecfaaIter
import Derived.Test.YtdmopioiaaecfaaShelfB
import Derived.Test.YtdmopioiaaecfaaOrder
import Derived.Deep.QuietTactic
import Derived.BigQuiet
namespace Go.Proofs.Ytdmopioiaaecfaa
open Go.RowKit Go.Maps Go.Shelf Go.Sort

set_option maxRecDepth 100000 in
set_option maxHeartbeats 1000000 in
/-- The comparison that Rising hands to the sort: by the two numbers' texts. -/
theorem cmp_any (w : World) (B bt g n cap a b : Nat) (sa sb : ByteArray) (hB : w.cell? ⟨B, 0, none⟩ = some (.pointer (some ⟨bt, 0, none⟩))) (hc0 : w.cell? ⟨bt, 0, none⟩ = some (.slice (some ⟨g, 0, none⟩) n cap))
    (ha : w.cell? ⟨g, a, none⟩ = some (.string sa)) (hb : w.cell? ⟨g, b, none⟩ = some (.string sb)) (han : (a : Int) < (n : Int)) (hbn : (b : Int) < (n : Int)) :
    Calls Try.prog 49 #[.int .i64 a, .int .i64 b, .pointer (some ⟨B, 0, none⟩)] w fun e w' => e = .returned (.int .i64 (cmpT sa sb)) ∧ ∃ q, w' = w.drewN q := by
  have hcmp : ∀ W, Calls Try.prog 50 #[.string sa, .string sb] W fun e w' => e = .returned (.int .i64 (cmpT sa sb)) ∧ w' = W := fun W => Try.strings_Compare sa sb W
  generalize cmpT sa sb = r at hcmp ⊢
  go_enter Try.func49, Try.ntmps49
  go_wp2
  go_quiet ((go_at_call 50; exact Calls.quiet_of_same (hcmp _)))
  go_wp2
  go_ret
  exact ⟨rfl, _, rfl⟩

/-- A world of the sort's: the row has turned, new blocks have come, nothing else. -/
theorem sortWorld_turn {α : Type} [Inhabited α] (enc : α → Value) (w : World) (blk m : Nat) (d : Array α) (os : Array Obj) : Turn (fun k => k = blk) w (sortWorld enc w blk 0 m d os) := by
  refine ⟨rfl, rfl, rfl, ?_, fun k hk hn => ?_⟩
  · simp [sortWorld, grow, putRow, mapBlock, Sort.ahead]
  · unfold sortWorld
    rw [heap_grow_old _ _ (by simpa [putRow, mapBlock, Sort.ahead] using hk)]
    simp only [putRow, mapBlock, Array.getElem?_modify]
    rw [if_neg (fun e => hn e.symm)]
    rfl

theorem sortWorld_row {α : Type} [Inhabited α] (enc : α → Value) (w : World) (blk m : Nat) (d : Array α) (os : Array Obj) {cur : Array Value} {e : TypeId} (h : w.heap[blk]? = some (.cells cur e (0, 0))) :
    (sortWorld enc w blk 0 m d os).heap[blk]? = some (.cells (putCells enc 0 d cur) e (0, 0)) := by
  have hlt := (Array.getElem?_eq_some_iff.1 h).1
  unfold sortWorld
  rw [heap_grow_old _ _ (by simpa [putRow, mapBlock, Sort.ahead] using hlt)]
  simp only [putRow, mapBlock, Array.getElem?_modify, if_true]
  show Option.map _ w.heap[blk]? = _
  rw [h]
  rfl

theorem ofFn_get {n : Nat} [Inhabited (Fin n)] (j : Nat) (h : j < n) : (Array.ofFn (fun i : Fin n => i))[j]! = ⟨j, h⟩ := by
  rw [getElem!_pos _ j (by simpa using h)]
  simp

theorem ofFn_toList {n : Nat} : (Array.ofFn (fun i : Fin n => i)).toList.map Fin.val = List.range n := by
  apply List.ext_getElem
  · simp
  · intro i h1 h2
    simp

set_option maxHeartbeats 1000000 in
/-- slices.SortFunc over the numbers of a table's texts. -/
theorem sort_any {w : World} {bt bm g cap : Nat} {ts : List ByteArray} (hT : Tab w bt bm g cap ts) (B blk c c' : Nat) (hB : w.cell? ⟨B, 0, none⟩ = some (.pointer (some ⟨bt, 0, none⟩))) (hI : IntsAt w blk c ((List.range ts.length).map Int.ofNat))
    (hne : B ≠ blk) (h0 : 0 < ts.length) (hsz : ts.length < 4611686018427387904) :
    Calls Try.prog 48 #[.slice (some ⟨blk, 0, none⟩) ts.length c', .func (.func 49) #[] #[.pointer (some ⟨B, 0, none⟩)]] w fun e w' => e = .returned (.tuple #[]) ∧
      ∃ zs, Rises ts zs ∧ IntsAt w' blk c (zs.map Int.ofNat) ∧ Turn (fun k => k = blk) w w' := by
  letI : Inhabited (Fin ts.length) := ⟨⟨0, h0⟩⟩
  have hfoot := hI.ne hT
  have eg : ∀ args w, (callFunc 49 args).run Try.prog w = .ok (.enter 49 args) w := enters_of Try.func49 (by kernel_rfl) rfl
  have hds : (Array.ofFn (fun i : Fin ts.length => i)).size = ts.length := by simp
  have hH : Holds (fun i : Fin ts.length => Value.int .i64 (i.val : Int)) w blk 0 (Array.ofFn (fun i : Fin ts.length => i)) := fun j hj => by
    rw [hds] at hj
    refine ⟨?_, hI.frozen _⟩
    rw [Nat.zero_add, hI.cell j (by simpa using hj), ofFn_get j hj]
    simp
  have hcmp : CmpReads Try.prog 49 #[.pointer (some ⟨B, 0, none⟩)] (fun i : Fin ts.length => Value.int .i64 (i.val : Int)) (fun x y => cmpT ts[x.val] ts[y.val]) blk 0 (Array.ofFn (fun i : Fin ts.length => i)).size w := fun m os dk _ x y => by
    have ht := sortWorld_turn (fun i : Fin ts.length => Value.int .i64 (i.val : Int)) w blk m dk os
    exact cmp_any _ B bt g ts.length cap x.val y.val ts[x.val] ts[y.val] (ht.cell hB hne) (ht.cell hT.c0 (fun e => hfoot _ (.inl rfl) e)) (ht.cell (hT.text x.isLt) (fun e => hfoot _ (.inr (.inr rfl)) e)) (ht.cell (hT.text y.isLt) (fun e => hfoot _ (.inr (.inr rfl)) e)) (by have := x.isLt; omega) (by have := y.isLt; omega)
  have hcon := Any.slices_SortFunc Try.sortL (fun i : Fin ts.length => Value.int .i64 (i.val : Int)) (fun _ => rfl) (fun x y => cmpT ts[x.val] ts[y.val]) (swo_of fun x : Fin ts.length => ts[x.val]) 49 #[.pointer (some ⟨B, 0, none⟩)] blk 0 c' (Array.ofFn (fun i : Fin ts.length => i)) w eg hcmp.lays hH hI.lt (by rw [hds]; exact hsz)
  rw [hds] at hcon
  change Calls Try.prog 48 _ _ _ at hcon
  refine hcon.mono ?_
  rintro e w' ⟨he, d', m, os, hp, hs, rfl⟩
  obtain ⟨hps, _, hpp⟩ := hp
  rw [hds] at hps
  have hperm : (d'.toList.map Fin.val).Perm (List.range ts.length) := by
    rw [Array.extract_eq_self_of_le (by omega), Array.extract_eq_self_of_le (by omega)] at hpp
    have := hpp.map Fin.val
    rwa [ofFn_toList] at this
  have hnd : (d'.toList.map Fin.val).Nodup := hperm.nodup_iff.2 List.nodup_range
  refine ⟨he, d'.toList.map Fin.val, ⟨hperm, ?_⟩, ?_, sortWorld_turn _ _ _ _ _ _⟩
  · rw [List.pairwise_iff_getElem]
    intro i j hi hj hij
    have hi' : i < d'.size := by simpa using hi
    have hj' : j < d'.size := by simpa using hj
    have h1 := hs i j (Nat.zero_le _) hij (by omega)
    rw [getElem!_pos d' i hi', getElem!_pos d' j hj'] at h1
    simp only [ltOf, decide_eq_false_iff_not, Int.not_lt] at h1
    simp only [List.getElem_map, Array.getElem_toList]
    rw [List.getElem?_eq_getElem (d'[i]).isLt, List.getElem?_eq_getElem (d'[j]).isLt]
    simp only [Option.getD_some]
    have h2 := cmpT_swap ts[(d'[j]).val] ts[(d'[i]).val]
    have h3 : cmpT ts[(d'[j]).val] ts[(d'[i]).val] ≠ 0 := fun e0 => by
      have e1 := cmpT_eq e0
      have e2 : (d'[j]).val = (d'[i]).val := nodup_inj hT.nodup _ _ e1
      have e3 : (d'.toList.map Fin.val)[j] = (d'.toList.map Fin.val)[i] := by simpa using e2
      have := nodup_inj hnd _ _ e3
      omega
    omega
  · obtain ⟨cur, h1, h2, h3, h4⟩ := hI
    refine ⟨_, sortWorld_row _ _ _ _ _ _ h1, by simpa [putCells] using h2, by simpa [hps] using h3, fun j hj => ?_⟩
    have hj' : j < d'.size := by simpa using hj
    have hjc : j < cur.size := by
      simp at h3
      omega
    simp only [putCells, Array.getElem?_mapIdx, Array.getElem?_eq_getElem hjc, Option.map_some]
    rw [if_pos ⟨Nat.zero_le _, by omega⟩, Nat.sub_zero, getElem!_pos d' j hj']
    simp

set_option maxRecDepth 100000 in
theorem ins_none (p : Option Addr) (c : Nat) (fv : Value) (w : World) : Calls Try.prog 59 #[.slice p 0 c, .int .i64 0, .int .i64 0, fv] w fun e w' => e = .returned (.tuple #[]) ∧ w' = w := by
  go_enter Try.func59, Try.ntmps59
  go_wp2
  refine wp_loop_rounds 1 ?_
  rw [rounds_succ]
  go_wp2
  go_end0
  exact ⟨rfl, rfl⟩

set_option maxRecDepth 100000 in
set_option maxHeartbeats 2000000 in
theorem pdq_none (p : Option Addr) (c : Nat) (lim : Int) (fv : Value) (w : World) : Calls Try.prog 56 #[.slice p 0 c, .int .i64 0, .int .i64 0, .int .i64 lim, fv] w fun e w' => e = .returned (.tuple #[]) ∧ w' = w := by
  have hi := fun W => ins_none p c fv W
  go_enter Try.func56, Try.ntmps56
  go_wp2
  refine wp_loop_rounds 1 ?_
  rw [rounds_succ]
  go_wp2_with (go_at_call 59; refine (hi _).mono ?_; rintro e w' ⟨rfl, rfl⟩)
  (try simp only [Exit.inBlock, Exit.then]); refine bodyPost_ret (results_none rfl _ _ _) rfl ?_
  exact ⟨rfl, rfl⟩

theorem sort_none (p : Option Addr) (c : Nat) (fv : Value) (w : World) : Calls Try.prog 48 #[.slice p 0 c, fv] w fun e w' => e = .returned (.tuple #[]) ∧ w' = w := by
  have hp := fun lim W => pdq_none p c lim fv W
  have hl : ∀ W, Calls Try.prog 57 #[.int .u64 0] W fun e w' => (∃ k : Int, e = .returned (.int .i64 k)) ∧ w' = W := fun W =>
    (Any.bits_Len Try.lays125 0 W (by omega) (by omega)).mono fun _ _ ⟨he, hw⟩ => ⟨⟨_, he⟩, hw⟩
  go_enter Try.func48, Try.ntmps48
  go_wp2_with (first | (go_at_call 57; refine (hl _).mono ?_; rintro e w' ⟨⟨k, rfl⟩, rfl⟩) | (go_at_call 56; refine (hp _ _).mono ?_; rintro e w' ⟨rfl, rfl⟩))
  go_end0
  exact ⟨rfl, rfl⟩

/-- slices.SortFunc over the numbers of a table's texts, of none too. -/
theorem sort_all {w : World} {bt bm g cap : Nat} {ts : List ByteArray} (hT : Tab w bt bm g cap ts) (B blk c c' : Nat) (hB : w.cell? ⟨B, 0, none⟩ = some (.pointer (some ⟨bt, 0, none⟩))) (hI : IntsAt w blk c ((List.range ts.length).map Int.ofNat))
    (hne : B ≠ blk) (hsz : ts.length < 4611686018427387904) :
    Calls Try.prog 48 #[.slice (some ⟨blk, 0, none⟩) ts.length c', .func (.func 49) #[] #[.pointer (some ⟨B, 0, none⟩)]] w fun e w' => e = .returned (.tuple #[]) ∧
      ∃ zs, Rises ts zs ∧ IntsAt w' blk c (zs.map Int.ofNat) ∧ Turn (fun k => k = blk) w w' := by
  by_cases h0 : 0 < ts.length
  · exact sort_any hT B blk c c' hB hI hne h0 hsz
  · obtain rfl : ts = [] := by cases ts <;> simp_all
    refine (sort_none _ _ _ _).mono ?_
    rintro e w' ⟨he, rfl⟩
    exact ⟨he, [], ⟨by simp, by simp⟩, by simpa using hI, Turn.refl _ _⟩

end Go.Proofs.Ytdmopioiaaecfaa
