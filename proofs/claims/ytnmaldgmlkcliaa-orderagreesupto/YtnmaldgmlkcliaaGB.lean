/- Things in a row that is sorted in place: what lies there; the library's insertion sort is stable. No walk here. -/
import Derived.Test.YtnmaldgmlkcliaaGA
import Derived.Test.YtnmaldgmlkcliaaRT
import Derived.Test.YtnmaldgmlkcliaaTB
import Derived.Sort.WalkA
import Derived.Sort.LotA
namespace Go.Proofs.Ytnmaldgmlkcliaa
open Go.RowKit Go.Maps Go.Shelf Go.Sort Go.Proofs.Ytnmaldgmlkcliaa.HT

/-- The things ts lie in block G, and fill it. -/
def InT (W : World) (G : Nat) (ts : List (Int × Int)) : Prop := G < W.heap.size ∧ RowT W G ts.length ts
section
variable {W W' : World} {G : Nat} {ts : List (Int × Int)}
theorem RowT.inT (h : RowT W G ts.length ts) : InT W G ts := ⟨h.lt, h⟩
theorem InT.cell (h : InT W G ts) : ∀ j u, (cellsT ts)[j]? = some u → W.cell? ⟨G, j, none⟩ = some u ∧ W.frozen? ⟨G, j, none⟩ = false := by
  intro j u hj
  have hf := h.2.free j
  obtain ⟨cur, h1, _, _, h4, h5⟩ := h.2
  have hl := (List.getElem?_eq_some_iff.1 hj).1
  rw [cellsT_len] at hl
  rw [← h5, List.getElem?_take_of_lt hl] at hj
  refine ⟨?_, hf⟩
  simp only [World.cell?, h1]
  simpa using hj
theorem InT.spot (h : InT W G ts) (j : Nat) (x : Int × Int) (hx : ts[j]? = some x) : W.cell? ⟨G, j * 2, none⟩ = some (.int .i64 x.1) ∧ W.cell? ⟨G, j * 2 + 1, none⟩ = some (.int .i64 x.2) ∧ W.frozen? ⟨G, j * 2, none⟩ = false ∧ W.frozen? ⟨G, j * 2 + 1, none⟩ = false := by
  have := h.2.cells j x hx
  exact ⟨this.1, this.2, h.2.free _, h.2.free _⟩
theorem InT.things (h : InT W G ts) : ThS W (some ⟨G, 0, none⟩) G 0 ts := h.2.things
theorem InT.stay (h : InT W G ts) (hs : Stay W W') : InT W' G ts := ⟨Nat.lt_of_lt_of_le h.1 hs.size, h.2.stay hs⟩
theorem InT.put (h : InT W G ts) (t : Nat) (x : Int × Int) (ht : t < ts.length) : InT (putT W G t x) G (ts.set t x) := by
  refine ⟨by simpa [putT, World.setCell] using h.1, ?_⟩
  have := h.2.store t x ht
  rwa [List.length_set]
theorem InT.holds (h : InT W G ts) : HoldsK encT 2 W G 0 ts.toArray := by
  intro j hj
  have hj2 : j < ts.length * 2 := by simpa using hj
  have := h.cell j _ (flat_cells ts j hj2)
  rw [Nat.zero_add]
  exact this
theorem InT.sorted (h : InT W G ts) (D : Array (Int × Int)) (hs : D.size = ts.length) (m : Nat) (os : Array Obj) : InT (sortWorldK encT 2 W G 0 m D os) G D.toList := by
  have hH := holdsK_sortWorldK encT 2 W G 0 m ts.toArray D os h.1 h.holds (by simpa using hs)
  have hlt := lt_sortWorldK encT 2 W G 0 m D os h.1
  obtain ⟨cur, h1, h2, h3, h4, h5⟩ := h.2
  have hh : (sortWorldK encT 2 W G 0 m D os).heap[G]? = some (.cells (putCells id 0 (flatK encT 2 D) cur) 26 (0, 0)) := by
    unfold sortWorldK
    rw [heap_grow_old _ _ (by simpa [putRowK, putRow, mapBlock, Sort.ahead] using h.1)]
    simp only [putRowK, putRow, mapBlock, Array.getElem?_modify, if_true]
    show Option.map (onCells _) W.heap[G]? = _
    rw [h1]
    rfl
  have hsz : (putCells id 0 (flatK encT 2 D) cur).size = D.size * 2 := by unfold putCells; rw [Array.size_mapIdx, h4, hs]
  refine ⟨hlt, _, hh, Nat.le_refl _, by rw [Array.length_toList, hs]; exact h3, by rw [hsz, Array.length_toList], ?_⟩
  rw [List.take_of_length_le (by rw [Array.length_toList, hsz, Array.length_toList]; exact Nat.le_refl _)]
  apply List.ext_getElem?
  intro j
  by_cases hj : j < D.size * 2
  · have e := (hH j (by simpa using hj)).1
    rw [Nat.zero_add] at e
    simp only [World.cell?, hh] at e
    rw [flat_cells D.toList j (by simpa using hj)]
    simpa using e
  · rw [List.getElem?_eq_none (by rw [Array.length_toList, hsz]; omega), List.getElem?_eq_none (by rw [cellsT_len, Array.length_toList]; omega)]
end
theorem sortK_turn {W : World} {G m : Nat} {d : Array (Int × Int)} {os : Array Obj} : Turn (fun k => k = G) W (sortWorldK encT 2 W G 0 m d os) := by
  refine ⟨rfl, rfl, rfl, ?_, fun k hk hn => ?_⟩
  · simp [sortWorldK, grow, putRowK, putRow, mapBlock, Sort.ahead]
  · unfold sortWorldK
    rw [heap_grow_old _ _ (by simpa [putRowK, putRow, mapBlock, Sort.ahead] using hk)]
    simp only [putRowK, putRow, mapBlock, Array.getElem?_modify]
    rw [if_neg (fun e => hn e.symm)]
    rfl

/-- A function that compares by a key. -/
structure Ord (g : Nat) (κ : Int × Int → Int) (cf : Int × Int → Int × Int → Int) : Prop where
  eg : ∀ args w, (callFunc g args).run Try.prog w = .ok (.enter g args) w
  call : ∀ x y W, Calls Try.prog g #[.agg #[.int .i64 x.1, .int .i64 x.2], .agg #[.int .i64 y.1, .int .i64 y.2]] W fun e w' => e = .returned (.int .i64 (cf x y)) ∧ ∃ q os', w' = grow (W.drewN q) os'
  key : ∀ x y, cf x y < 0 ↔ κ x < κ y
theorem ordBy : Ord 9 (fun x => x.1) byC := ⟨enters_of Try.func9 (by kernel_rfl) rfl, byG, fun x y => by
  unfold byC
  split
  · simp; assumption
  · split <;> simp <;> omega⟩
theorem ordNo : Ord 39 (fun _ => 0) noC := ⟨enters_of Try.func39 (by kernel_rfl) rfl, noG, fun x y => by simp [noC]⟩
section
variable {g : Nat} {κ : Int × Int → Int} {cf : Int × Int → Int × Int → Int}
theorem Ord.lt (h : Ord g κ cf) (x y : Int × Int) : ltOf cf x y = decide (κ x < κ y) := by
  unfold ltOf
  rw [Bool.eq_iff_iff, decide_eq_true_iff, decide_eq_true_iff]
  exact h.key x y
theorem Ord.swo (h : Ord g κ cf) : SWO (ltOf cf) where
  irrefl x := by rw [h.lt]; simp
  trans x y z h1 h2 := by rw [h.lt] at *; simp at *; omega
  ntrans x y z h1 h2 := by rw [h.lt] at *; simp at *; omega

theorem two_swap (A B : List (Int × Int)) (x y : Int × Int) : ((A ++ x :: y :: B).set (A.length + 1) x).set A.length y = A ++ y :: x :: B := by
  rw [List.set_append, if_neg (by omega), Nat.add_sub_cancel_left, List.set_append, if_neg (by omega), Nat.sub_self]
  rfl
theorem swp_eqv (d : Array (Int × Int)) (j : Nat) (hj : j + 1 < d.size) (h : κ d[j + 1]! < κ d[j]!) : Eqv κ d.toList (swp d (j + 1) j).toList := by
  obtain ⟨L, hL⟩ : ∃ L, L = d.toList := ⟨_, rfl⟩
  have hlen : L.length = d.size := by rw [hL]; simp
  have e1 : d[j + 1]! = L[j + 1]'(by omega) := by rw [getElem!_pos d (j + 1) hj]; simp [hL]
  have e0 : d[j]! = L[j]'(by omega) := by rw [getElem!_pos d j (by omega)]; simp [hL]
  have es : (swp d (j + 1) j).toList = (L.set (j + 1) (L[j]'(by omega))).set j (L[j + 1]'(by omega)) := by
    unfold swp
    rw [e1, e0, Array.toList_setIfInBounds, Array.toList_setIfInBounds, ← hL]
  rw [e1, e0] at h
  rw [es, ← hL]
  have hsplit : L = L.take j ++ ([L[j]'(by omega)] ++ [L[j + 1]'(by omega)]) ++ L.drop (j + 2) := by
    conv => lhs; rw [← List.take_append_drop j L, List.drop_eq_getElem_cons (show j < L.length by omega), List.drop_eq_getElem_cons (show j + 1 < L.length by omega)]
    simp
  have hset : (L.set (j + 1) (L[j]'(by omega))).set j (L[j + 1]'(by omega)) = L.take j ++ ([L[j + 1]'(by omega)] ++ [L[j]'(by omega)]) ++ L.drop (j + 2) := by
    have hA : (L.take j).length = j := by rw [List.length_take]; omega
    generalize L[j]'(by omega) = x at hsplit ⊢
    generalize L[j + 1]'(by omega) = y at hsplit ⊢
    generalize L.take j = A at hsplit hA ⊢
    generalize L.drop (j + 2) = B at hsplit ⊢
    rw [hsplit]
    have h9 := two_swap A B x y
    rw [hA] at h9
    simpa using h9
  rw [hset]
  conv => lhs; rw [hsplit]
  exact ((Eqv.refl _).append (Eqv.swap (fun x hx y hy => by simp only [List.mem_singleton] at hx hy; subst hx hy; exact h))).append (Eqv.refl _)
theorem insInner_eqv (h : Ord g κ cf) (a : Nat) : ∀ (j : Nat) (d : Array (Int × Int)), j < d.size → Eqv κ d.toList (insInner (ltOf cf) a j d).toList ∧ (insInner (ltOf cf) a j d).size = d.size
  | 0, d, _ => ⟨Eqv.refl _, rfl⟩
  | j + 1, d, hj => by
    rw [insInner]
    by_cases hc : j + 1 > a ∧ ltOf cf d[j + 1]! d[j]! = true
    · rw [if_pos (by simpa using hc)]
      have ih := insInner_eqv h a j (swp d (j + 1) j) (by rw [size_swp]; omega)
      have hk : κ d[j + 1]! < κ d[j]! := by have := hc.2; rw [h.lt] at this; simpa using this
      exact ⟨(swp_eqv d j hj hk).trans ih.1, ih.2.trans (size_swp _ _ _)⟩
    · rw [if_neg (by simpa using hc)]
      exact ⟨Eqv.refl _, rfl⟩
theorem insOuter_eqv (h : Ord g κ cf) (a b : Nat) : ∀ (f i : Nat) (d : Array (Int × Int)), b - i ≤ f → b ≤ d.size → Eqv κ d.toList (insOuter (ltOf cf) a b i d).toList
  | f, i, d, hf, hb => by
    by_cases hi : i < b
    · rw [insOuter_go _ _ _ _ _ hi]
      have h1 := insInner_eqv h a i d (by omega)
      cases f with
      | zero => omega
      | succ f => exact h1.1.trans (insOuter_eqv h a b f (i + 1) _ (by omega) (by rw [h1.2]; exact hb))
    · rw [insOuter_stop _ _ _ _ _ hi]
      exact Eqv.refl _
theorem Eqv.cancel {P S Z Q : List (Int × Int)} (h : Eqv κ (P ++ S ++ Q) (P ++ Z ++ Q)) : Eqv κ S Z := fun r => by
  have := h r
  simp only [List.filter_append, List.append_assoc] at this
  exact List.append_cancel_right (List.append_cancel_left this)
/-- The library's insertion sort of a stretch. -/
theorem ins_part (h : Ord g κ cf) (P S Q : List (Int × Int)) : ∃ Z, (Sort.insertionSort (ltOf cf) (P ++ S ++ Q).toArray P.length (P.length + S.length)).toList = P ++ Z ++ Q ∧ RisK κ Z ∧ Eqv κ S Z ∧ Z.length = S.length := by
  have hsz : (P ++ S ++ Q).toArray.size = P.length + S.length + Q.length := by simp; omega
  obtain ⟨⟨hs, hout, _⟩, hsort⟩ := insertionSort_holds (lt := ltOf cf) h.swo (P ++ S ++ Q).toArray P.length (P.length + S.length) (by omega) (by omega)
  have heq : Eqv κ (P ++ S ++ Q) (Sort.insertionSort (ltOf cf) (P ++ S ++ Q).toArray P.length (P.length + S.length)).toList := by
    have := insOuter_eqv h P.length (P.length + S.length) _ (P.length + 1) (P ++ S ++ Q).toArray (Nat.le_refl _) (by omega)
    simpa [Sort.insertionSort] using this
  generalize Sort.insertionSort (ltOf cf) (P ++ S ++ Q).toArray P.length (P.length + S.length) = D at hs hout hsort heq
  have hDl : D.toList.length = P.length + S.length + Q.length := by rw [Array.length_toList, hs, hsz]
  have hat : ∀ i (hi : i < D.toList.length), D[i]! = D.toList[i] := fun i hi => by rw [getElem!_pos D i (by simpa using hi)]; simp
  have hat0 : ∀ i (hi : i < (P ++ S ++ Q).length), (P ++ S ++ Q).toArray[i]! = (P ++ S ++ Q)[i] := fun i hi => by rw [getElem!_pos _ i (by simpa using hi)]; simp
  have hlen : (P ++ S ++ Q).length = P.length + S.length + Q.length := by rw [List.length_append, List.length_append]
  have hP : D.toList.take P.length = P := by
    apply List.ext_getElem
    · rw [List.length_take, hDl]; omega
    · intro i h1 h2
      rw [List.getElem_take, ← hat i (by omega), hout i (.inl h2), hat0 i (by omega), List.getElem_append_left (by rw [List.length_append]; omega), List.getElem_append_left h2]
  have hQ : D.toList.drop (P.length + S.length) = Q := by
    apply List.ext_getElem
    · rw [List.length_drop, hDl]; omega
    · intro i h1 h2
      rw [List.getElem_drop, ← hat _ (by omega), hout _ (.inr (by omega)), hat0 _ (by omega), List.getElem_append_right (by rw [List.length_append]; omega)]
      congr 1
      rw [List.length_append]; omega
  have e : D.toList = P ++ (D.toList.drop P.length).take S.length ++ Q := by
    conv => lhs; rw [← List.take_append_drop P.length D.toList, hP, ← List.take_append_drop S.length (D.toList.drop P.length), List.drop_drop, hQ, ← List.append_assoc]
  refine ⟨(D.toList.drop P.length).take S.length, e, ?_, ?_, by rw [List.length_take, List.length_drop, hDl]; omega⟩
  · unfold RisK
    rw [List.pairwise_iff_getElem]
    intro i j hi hj hij
    simp only [List.length_take, List.length_drop, hDl] at hi hj
    have := hsort (P.length + i) (P.length + j) (by omega) (by omega) (by omega)
    rw [hat _ (by rw [hDl]; omega), hat _ (by rw [hDl]; omega), h.lt] at this
    rw [List.getElem_take, List.getElem_drop, List.getElem_take, List.getElem_drop]
    have h9 := of_decide_eq_false this
    omega
  · rw [e] at heq
    exact heq.cancel
theorem insert_part (h : Ord g κ cf) (W : World) (G cap : Nat) (P S Q : List (Int × Int)) (n : Nat) (hn : n = P.length + S.length + Q.length) (hI : InT W G (P ++ S ++ Q)) (hsz : n < 4611686018427387904) :
    Calls Try.prog 58 #[.slice (some ⟨G, 0, none⟩) n cap, .int .i64 (P.length : Int), .int .i64 ((P.length + S.length : Nat) : Int), .func (.func g) #[] #[]] W fun e w' => e = .returned (.tuple #[]) ∧ ∃ Z, InT w' G (P ++ Z ++ Q) ∧ RisK κ Z ∧ Eqv κ S Z ∧ Z.length = S.length ∧ Turn (fun k => k = G) W w' := by
  have hds : (P ++ S ++ Q).toArray.size = n := by rw [hn]; simp; omega
  have hc := AnyQ.insertionSortCmpFunc insT 2 (fun w => by kernel_rfl) (fun w => by kernel_rfl) encT (fun _ => rfl) (fun x v hv => by simp [encT] at hv; rcases hv with rfl | rfl <;> rfl) cf g #[] G 0 cap P.length (P.length + S.length) (P ++ S ++ Q).toArray W h.eg (fun m os dk _ x y => h.call x y _) hI.holds hI.1 (by omega) (by omega) (by omega)
  rw [hds] at hc
  refine Calls.mono hc ?_
  rintro e w' ⟨he, m, os, hw⟩
  obtain ⟨Z, hZ, hr, hq, hl⟩ := ins_part h P S Q
  refine ⟨he, Z, ?_, hr, hq, hl, by rw [hw]; exact sortK_turn⟩
  have hsz2 : (Sort.insertionSort (ltOf cf) (P ++ S ++ Q).toArray P.length (P.length + S.length)).size = (P ++ S ++ Q).toArray.size := by
    rw [← Array.length_toList, hZ, hds, hn]; simp [hl]; omega
  have := hI.sorted _ (by rw [hsz2]; simp) m os
  rw [hZ] at this
  rw [hw]
  exact this
end
end Go.Proofs.Ytnmaldgmlkcliaa
