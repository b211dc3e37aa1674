/- order.Sort, of any list: by the order and by the nil function. -/
import Derived.Test.YtnmaldgmlkcliaaGI
import Derived.Test.YtnmaldgmlkcliaaGJp
import Derived.Test.YtnmaldgmlkcliaaHBT
namespace Go.Proofs.Ytnmaldgmlkcliaa
open Go.RowKit Go.Maps Go.Shelf Go.Sort Go.Proofs.Ytnmaldgmlkcliaa.HT

theorem SortStable_all {g : Nat} {κ : Int × Int → Int} {cf : Int × Int → Int × Int → Int} (h : Ord g κ cf) (W : World) (G n : Nat) (L0 : List (Int × Int)) (hn : L0.length = n) (hsz : n < 2305843009213693952) (hI : InT W G L0) :
    Calls Try.prog 36 #[.slice (some ⟨G, 0, none⟩) n n, .func (.func g) #[] #[]] W fun e w' => e = .returned (.tuple #[]) ∧ ∃ Z, RisK κ Z ∧ Eqv κ L0 Z ∧ Z.length = n ∧ InT w' G Z ∧ Turn (fun j => j = G) W w' := by
  have hc := stable_any h W G n n L0 hn hsz hI
  clear h hI hn hsz
  go_enter Try.func36, Try.ntmps36
  go_wp2_with fail
  refine hc.mono ?_
  rintro e9 w9 ⟨rfl, hw⟩
  have HW : Hid _ := hw
  clear hw hc
  go_wp2
  go_end0
  exact ⟨rfl, HW.out⟩

set_option maxRecDepth 100000 in
set_option maxHeartbeats 1000000 in
theorem osort_any {fv : Value} {g : Nat} {κ : Int × Int → Int} {cf : Int × Int → Int × Int → Int} (ho : Ord g κ cf) (hof : ∀ W, Calls Try.prog 21 #[fv] W fun e w' => e = .returned (.func (.func g) #[] #[]) ∧ w' = W) (w : World) (a : Option Addr) (b off c : Nat) (ts : List (Int × Int)) (hT : ThS w a b off ts) (ha : a = none → c = 0 ∧ ts = []) (hlx : ts.length * 16 ≤ 140737488355328) :
    Calls Try.prog 15 #[.slice a ts.length c, fv] w fun e w' => ∃ G Z, e = .returned (.slice (some ⟨G, 0, none⟩) ts.length ts.length) ∧ w.heap.size ≤ G ∧ RisK κ Z ∧ Eqv κ ts Z ∧ Z.length = ts.length ∧ InT w' G Z ∧ Stay w w' := by
  obtain ⟨Z, hZ⟩ : ∃ Z, Z = madeCells #[.int .i64 0, .int .i64 0] (ts.length * 2) := ⟨_, rfl⟩
  have hmk := run_makeT ts.length (by omega) w
  rw [← hZ] at hmk
  have hZs : Z.size = ts.length * 2 := by rw [hZ, size_madeCells]
  have hG : (w.alloc (.cells Z 26)).heap[w.heap.size]? = some (.cells Z 26 (0, 0)) := heap_alloc_new _ _
  have hcp : ∃ v W2, (Builtin.copy_ #[23, 23] 3 #[.slice (some ⟨w.heap.size, 0, none⟩) ts.length ts.length, .slice a ts.length c]).run Try.prog (w.alloc (.cells Z 26)) = .ok v W2 ∧ W2.heap[w.heap.size]? = some (.cells (cellsT ts).toArray 26 (0, 0)) ∧ Stay w W2 := by
    cases a with
    | none =>
      obtain ⟨rfl, rfl⟩ := ha rfl
      refine ⟨_, _, run_copy_nil Try.prog (w.alloc (.cells Z 26)) 23 23 3 26 _ _ _ Try.underlying23 (by rw [sizeT]; rfl), ?_, Stay.new _ _⟩
      rw [hG, show Z = #[] from Array.eq_empty_of_size_eq_zero (by simpa using hZs)]
      rfl
    | some ad =>
      refine ⟨_, _, run_copy_rowK _ 23 23 3 26 w.heap.size 0 ts.length ts.length 2 ad ts.length c Z 26 (cellsT ts) Try.underlying23 sizeT hG (by rw [cellsT_len]; exact congrArg (· * 2) (Nat.min_self _).symm) (fun j v hv => (Stay.new w _).cell (src_things hT ad rfl j v hv)) (by rw [cellsT_len]; omega) (cellsT_one ts), ?_, ?_⟩
      · rw [setRow_heap _ _ _ _ _ _ hG]
        simp [List.drop_eq_nil_of_le, cellsT_len, hZs]
      · refine ⟨rfl, rfl, rfl, by simp [World.setRow], fun k hk => ?_⟩
        simp only [World.setRow, Array.getElem?_modify]
        rw [if_neg (by omega)]
        exact (Stay.new w _).block k hk
  obtain ⟨cv, W2, hrun, hrow, hst⟩ := hcp
  have hlt : w.heap.size < W2.heap.size := (Array.getElem?_eq_some_iff.1 hrow).1
  have hI : InT W2 w.heap.size ts := ⟨hlt, _, hrow, Nat.le_refl _, by unfold maxLen; omega, by simp [cellsT_len], by simp [List.take_of_length_le, cellsT_len]⟩
  have hso := SortStable_all ho W2 w.heap.size ts.length ts rfl (by omega) hI
  have HH : Hid (Stay w W2) := hst
  have HR : Hid ((Builtin.copy_ #[23, 23] 3 #[.slice (some ⟨w.heap.size, 0, none⟩) ts.length ts.length, .slice a ts.length c]).run Try.prog (w.alloc (.cells Z 26)) = .ok cv W2) := hrun
  clear hT ha hZ hZs hG hrun hrow hst hI hlx ho
  go_enter Try.func15, Try.ntmps15
  go_wp2_with fail
  rw [HR.out]
  simp only [Result.andThen]
  rw [Oper.upon_value]
  go_wp2_with fail
  refine (hof _).mono ?_
  rintro e9 w9 ⟨rfl, hw⟩
  have hw' := hw.symm; subst hw'
  go_wp2_with fail
  refine hso.mono ?_
  rintro e9 w9 ⟨rfl, Z9, h1, h2, h3, h4, h5⟩
  have HW : Hid (RisK κ Z9 ∧ Eqv κ ts Z9 ∧ Z9.length = ts.length ∧ InT w9 w.heap.size Z9 ∧ Stay w w9) := ⟨h1, h2, h3, h4, h5.stay HH.out (fun k hk e => by omega)⟩
  clear h1 h2 h3 h4 h5 hso HR HH hlt
  go_wp2
  go_ret
  exact ⟨w.heap.size, Z9, rfl, Nat.le_refl _, HW.out⟩
theorem InT.own {W : World} {G base : Nat} {Z : List (Int × Int)} (h : InT W G Z) (hb : base ≤ G) : OwnT base W (.slice (some ⟨G, 0, none⟩) Z.length Z.length) Z := h.2.own hb
/-- order.Sort by the order. -/
theorem sort_by (w : World) (a : Option Addr) (b off c : Nat) (ts : List (Int × Int)) (hT : ThS w a b off ts) (ha : a = none → c = 0 ∧ ts = []) (hlx : ts.length * 16 ≤ 140737488355328) :
    Calls Try.prog 15 #[.slice a ts.length c, .func (.func 9) #[] #[]] w fun e w' => ∃ v, e = .returned v ∧ OwnT w.heap.size w' v (sortR ts) ∧ Stay w w' :=
  (osort_any ordBy orderOf_yes w a b off c ts hT ha hlx).mono fun e w' ⟨G, Z, he, hG, hr, hq, hl, hI, hs⟩ => by
    have := hI.own hG
    rw [hl, sorted_is hr hq] at this
    exact ⟨_, he, this, hs⟩
/-- order.Sort by the nil function. -/
theorem sort_nil (w : World) (a : Option Addr) (b off c : Nat) (ts : List (Int × Int)) (hT : ThS w a b off ts) (ha : a = none → c = 0 ∧ ts = []) (hlx : ts.length * 16 ≤ 140737488355328) :
    Calls Try.prog 15 #[.slice a ts.length c, .nilFunc] w fun e w' => ∃ v, e = .returned v ∧ OwnT w.heap.size w' v ts ∧ Stay w w' :=
  (osort_any ordNo orderOf_nil w a b off c ts hT ha hlx).mono fun e w' ⟨G, Z, he, hG, hr, hq, hl, hI, hs⟩ => by
    have := hI.own hG
    rw [hl, none_is hq] at this
    exact ⟨_, he, this, hs⟩
end Go.Proofs.Ytnmaldgmlkcliaa
