/- order.Sort, by whatever the stable sort leaves. -/
import Derived.Test.YtnmaldgmlkcliaaRS
namespace Go.Proofs.Ytnmaldgmlkcliaa.HT
open Go.RowKit Go.Maps Go.Shelf Go.Sort Go.Proofs.Ytnmaldgmlkcliaa

theorem flat_cells (ts : List (Int × Int)) (j : Nat) (hj : j < ts.length * 2) : (cellsT ts)[j]? = some ((flatK encT 2 ts.toArray)[j]!) := by
  have hq : j / 2 < ts.length := by omega
  rw [get_flatK encT 2 ts.toArray j (by simpa using hj), getElem!_pos ts.toArray (j / 2) (by simpa using hq)]
  have h := cellsT_at ts (j / 2) hq
  rcases Nat.mod_two_eq_zero_or_one j with h0 | h0
  · rw [show j / 2 * 2 = j by omega] at h
    rw [h.1, h0]; simp [encT]
  · rw [show j / 2 * 2 + 1 = j by omega] at h
    rw [h.2, h0]; simp [encT]
theorem holds_row {W : World} {G : Nat} {t : TypeId} {ts : List (Int × Int)} (h : W.heap[G]? = some (.cells (cellsT ts).toArray t (0, 0))) : HoldsK encT 2 W G 0 ts.toArray := by
  intro j hj
  have hj2 : j < ts.length * 2 := by simpa using hj
  have e := flat_cells ts j hj2
  refine ⟨?_, by simp [World.frozen?, h]⟩
  rw [Nat.zero_add]
  simp only [World.cell?, h]
  simpa using e
theorem holds_things {W : World} {G : Nat} {d : Array (Int × Int)} (h : HoldsK encT 2 W G 0 d) : ThS W (some ⟨G, 0, none⟩) G 0 d.toList := by
  refine ⟨fun _ => rfl, fun j hj => ?_⟩
  have hj2 : j < d.size := by simpa using hj
  have h0 := (h.cell hj2 (show 0 < 2 by decide)).1
  have h1 := (h.cell hj2 (show 1 < 2 by decide)).1
  rw [getElem!_pos d j hj2] at h0 h1
  exact ⟨h0, h1⟩
theorem sortK_stay {w W : World} {G m : Nat} {d : Array (Int × Int)} {os : Array Obj} (hs : Stay w W) (hG : w.heap.size ≤ G) : Stay w (sortWorldK encT 2 W G 0 m d os) := by
  refine ⟨hs.os, hs.tape, hs.output, ?_, fun k hk => ?_⟩
  · have := hs.size
    simp [sortWorldK, grow, putRowK, putRow, mapBlock, Sort.ahead]; omega
  · have hk2 : k < W.heap.size := Nat.lt_of_lt_of_le hk hs.size
    unfold sortWorldK
    rw [heap_grow_old _ _ (by simpa [putRowK, putRow, mapBlock, Sort.ahead] using hk2)]
    simp only [putRowK, putRow, mapBlock, Array.getElem?_modify]
    rw [if_neg (by omega)]
    exact hs.block k hk

theorem run_makeT (n : Nat) (hn : 16 * n ≤ 281474976710656) (W : World) :
    (Instr.makeSlice 23 (.int .i64 n) (.int .i64 n)).run Try.prog W = .ok (.slice (some ⟨W.heap.size, 0, none⟩) n n) (W.alloc (.cells (madeCells #[.int .i64 0, .int .i64 0] (n * 2)) 26)) := by
  obtain ⟨i, hi, hz0, hz1, hz2⟩ := info_parts infoT
  have h := run_make (P := Try.prog) W 23 26 i _ Try.underlying23 hi hz0 .i64 .i64 n n (by omega) (by omega) (by rw [hz2]; omega) (by omega)
  rw [hz1] at h
  simpa [Value.cells] using h

/-- What a call of the stable sort on a row leaves. -/
def Sorts (fn : Value) (ts : List (Int × Int)) (D : Array (Int × Int)) : Prop :=
  D.size = ts.length ∧ ∀ (W : World) (G : Nat), HoldsK encT 2 W G 0 ts.toArray → G < W.heap.size → Calls Try.prog 50 #[.slice (some ⟨G, 0, none⟩) ts.length ts.length, .int .i64 (ts.length : Int), fn] W fun e w' => e = .returned (.tuple #[]) ∧ ∃ n os, w' = sortWorldK encT 2 W G 0 n D os
theorem ltB (x y : Int × Int) : ltOf byC x y = decide (x.1 < y.1) := by
  unfold ltOf byC
  rw [Bool.eq_iff_iff, decide_eq_true_iff, decide_eq_true_iff]
  split
  · simp; assumption
  · split <;> simp <;> omega
theorem swoB : SWO (ltOf byC) where
  irrefl x := by rw [ltB]; simp
  trans x y z h1 h2 := by rw [ltB] at *; simp at *; omega
  ntrans x y z h1 h2 := by rw [ltB] at *; simp at *; omega
theorem sorts_small (ts : List (Int × Int)) (h : ts.length ≤ 19) : Sorts (.func (.func 9) #[] #[]) ts (Sort.insertionSort (ltOf byC) ts.toArray 0 ts.length) := by
  refine ⟨?_, fun W G hH hG => ?_⟩
  · have := (insertionSort_holds (lt := ltOf byC) swoB ts.toArray 0 ts.length (Nat.zero_le _) (by simp)).1
    simpa using this.1
  · have := stable_small W G 0 ts.length ts.toArray (by simpa using h) hH hG
    simpa using this

theorem src_things {w : World} {a : Option Addr} {b off : Nat} {ts : List (Int × Int)} (h : ThS w a b off ts) : ∀ ad, a = some ad → ∀ (j : Nat) (v : Value), (cellsT ts)[j]? = some v → w.cell? (ad.add j) = some v := by
  intro ad ha j v hv
  have hl := (List.getElem?_eq_some_iff.1 hv).1
  rw [cellsT_len] at hl
  have h0 := h.1 (by omega)
  rw [ha] at h0
  simp only [Option.some.injEq] at h0
  subst h0
  have hq : j / 2 < ts.length := by omega
  have hc := h.2 (j / 2) hq
  have hx := cellsT_at ts (j / 2) hq
  rw [add_at]
  rcases Nat.mod_two_eq_zero_or_one j with e | e
  · rw [show j / 2 * 2 = j by omega] at hc hx
    rw [hx.1] at hv; cases hv; exact hc.1
  · rw [show off + j / 2 * 2 + 1 = off + j by omega] at hc
    rw [show j / 2 * 2 + 1 = j by omega] at hx
    rw [hx.2] at hv; cases hv; exact hc.2

theorem SortStable_any {fn : Value} {ts : List (Int × Int)} {D : Array (Int × Int)} (hS : Sorts fn ts D) (W : World) (G : Nat) (hH : HoldsK encT 2 W G 0 ts.toArray) (hG : G < W.heap.size) :
    Calls Try.prog 36 #[.slice (some ⟨G, 0, none⟩) ts.length ts.length, fn] W fun e w' => e = .returned (.tuple #[]) ∧ ∃ n os, w' = sortWorldK encT 2 W G 0 n D os := by
  have h := hS.2 W G hH hG
  clear hS hH
  go_enter Try.func36, Try.ntmps36
  go_wp2_with fail
  refine h.mono ?_
  rintro e9 w9 ⟨rfl, hw⟩
  have HW : Hid _ := hw
  clear hw h
  go_wp2
  go_end0
  exact ⟨rfl, HW.out⟩

set_option maxRecDepth 100000 in
set_option maxHeartbeats 1000000 in
theorem sort_any {fv : Value} {g : Nat} (hof : ∀ W, Calls Try.prog 21 #[fv] W fun e w' => e = .returned (.func (.func g) #[] #[]) ∧ w' = W) {ts : List (Int × Int)} {D : Array (Int × Int)} (hS : Sorts (.func (.func g) #[] #[]) ts D) (w : World) (a : Option Addr) (b off c : Nat) (hT : ThS w a b off ts) (ha : a = none → c = 0 ∧ ts = []) (hlx : 16 * ts.length ≤ 281474976710656) :
    Calls Try.prog 15 #[.slice a ts.length c, fv] w fun e w' => ∃ G, e = .returned (.slice (some ⟨G, 0, none⟩) ts.length ts.length) ∧ w.heap.size ≤ G ∧ HoldsK encT 2 w' G 0 D ∧ G < w'.heap.size ∧ Stay w w' := by
  obtain ⟨Z, hZ⟩ : ∃ Z, Z = madeCells #[.int .i64 0, .int .i64 0] (ts.length * 2) := ⟨_, rfl⟩
  have hmk := run_makeT ts.length hlx w
  rw [← hZ] at hmk
  have hZs : Z.size = ts.length * 2 := by rw [hZ, size_madeCells]
  have hG : (w.alloc (.cells Z 26)).heap[w.heap.size]? = some (.cells Z 26 (0, 0)) := heap_alloc_new _ _
  have hcp : ∃ v W2, (Builtin.copy_ #[23, 23] 3 #[.slice (some ⟨w.heap.size, 0, none⟩) ts.length ts.length, .slice a ts.length c]).run Try.prog (w.alloc (.cells Z 26)) = .ok v W2 ∧ W2.heap[w.heap.size]? = some (.cells (cellsT ts).toArray 26 (0, 0)) ∧ Stay w W2 := by
    cases a with
    | none =>
      obtain ⟨rfl, rfl⟩ := ha rfl
      refine ⟨_, _, run_copy_nil Try.prog (w.alloc (.cells Z 26)) 23 23 3 26 _ _ _ Try.underlying23 (by rw [sizeT]; rfl), ?_, Stay.new _ _⟩
      rw [hG, show Z = #[] from Array.eq_empty_of_size_eq_zero (by simpa using hZs)]
      rfl
    | some ad =>
      refine ⟨_, _, run_copy_rowK _ 23 23 3 26 w.heap.size 0 ts.length ts.length 2 ad ts.length c Z 26 (cellsT ts) Try.underlying23 sizeT hG (by rw [cellsT_len]; exact congrArg (· * 2) (Nat.min_self _).symm) (fun j v hv => (Stay.new w _).cell (src_things hT ad rfl j v hv)) (by rw [cellsT_len]; omega) (cellsT_one ts), ?_, ?_⟩
      · rw [setRow_heap _ _ _ _ _ _ hG]
        simp [List.drop_eq_nil_of_le, cellsT_len, hZs]
      · refine ⟨rfl, rfl, rfl, by simp [World.setRow], fun k hk => ?_⟩
        simp only [World.setRow, Array.getElem?_modify]
        rw [if_neg (by omega)]
        exact (Stay.new w _).block k hk
  obtain ⟨cv, W2, hrun, hrow, hst⟩ := hcp
  have hlt : w.heap.size < W2.heap.size := (Array.getElem?_eq_some_iff.1 hrow).1
  have hH := holds_row hrow
  have hso := SortStable_any hS W2 w.heap.size hH hlt
  have HH : Hid (Stay w W2 ∧ HoldsK encT 2 W2 w.heap.size 0 ts.toArray ∧ D.size = ts.length) := ⟨hst, hH, hS.1⟩
  have HR : Hid ((Builtin.copy_ #[23, 23] 3 #[.slice (some ⟨w.heap.size, 0, none⟩) ts.length ts.length, .slice a ts.length c]).run Try.prog (w.alloc (.cells Z 26)) = .ok cv W2) := hrun
  clear hT ha hZ hZs hG hrun hrow hst hH hS hlx
  go_enter Try.func15, Try.ntmps15
  go_wp2_with fail
  rw [HR.out]
  simp only [Result.andThen]
  rw [Oper.upon_value]
  go_wp2_with fail
  refine (hof _).mono ?_
  rintro e9 w9 ⟨rfl, hw⟩
  have hw' := hw.symm; subst hw'
  go_wp2_with fail
  refine hso.mono ?_
  rintro e9 w9 ⟨rfl, n9, os9, hw⟩
  have HW : Hid (HoldsK encT 2 w9 w.heap.size 0 D ∧ w.heap.size < w9.heap.size ∧ Stay w w9) := by
    rw [hw]
    exact ⟨holdsK_sortWorldK encT 2 W2 w.heap.size 0 n9 ts.toArray D os9 hlt HH.out.2.1 (by rw [HH.out.2.2]; simp), lt_sortWorldK encT 2 W2 w.heap.size 0 n9 D os9 hlt, sortK_stay HH.out.1 (Nat.le_refl _)⟩
  clear hw hso HR HH hlt
  go_wp2
  go_ret
  exact ⟨w.heap.size, rfl, Nat.le_refl _, HW.out.1, HW.out.2.1, HW.out.2.2⟩
end Go.Proofs.Ytnmaldgmlkcliaa.HT
