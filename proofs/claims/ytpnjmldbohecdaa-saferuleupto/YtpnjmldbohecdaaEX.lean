/- Are all these variables among those: namesIn, have. -/
import Derived.Test.YtpnjmldbohecdaaQJ
import Derived.Test.YtpnjmldbohecdaaED
namespace Go.Proofs.Ytpnjmldbohecdaa
open Go.RowKit Go.Maps Go.Shelf
attribute [local go_sem] Oper.semAt_some

theorem stay_of_grown {w A B : World} {bm : Nat} (h : Below w.heap.size w A) (hg : A.grownBy B (some bm)) (hb : w.heap.size ≤ bm) : Below w.heap.size w B :=
  h.trans ⟨hg.os, hg.tape, hg.output, hg.size, fun k hk => hg.block k (by have := h.size; omega) (fun e => by have := Option.some.inj e; omega)⟩
set_option maxRecDepth 100000 in
set_option maxHeartbeats 1000000 in
theorem namesIn_any (w : World) (a : Option Addr) (b off c : Nat) (xs : List ByteArray) (h : RecS 1 encSt w a b off xs) (hs : ∀ s ∈ xs, s.size ≤ 1048576) (hn : xs.length ≤ 4398046511104) :
    Calls Try.prog 33 #[.slice a xs.length c] w fun e w' => ∃ bm, e = .returned (.map (some bm)) ∧ SetM w' bm xs ∧ w.heap.size ≤ bm ∧ Stay w w' := by
  have hmk := run_mapS
  have HR : Hid (RecS 1 encSt w a b off xs ∧ ∀ s ∈ xs, s.size ≤ 1048576) := ⟨h, hs⟩
  have HN : Hid (SetM (w.alloc (.map #[] 0)) w.heap.size (xs.take 0)) := setM_new w
  obtain ⟨V, hV⟩ : ∃ V, V = w.alloc (.map #[] 0) := ⟨_, rfl⟩
  have sV : Stay w V := by rw [hV]; exact Stay.new _ _
  have hlt0 : b < w.heap.size ∨ xs.length = 0 := by
    by_cases h0 : 0 < xs.length
    · exact .inl (World.block_lt_of_cell? w _ (h.2 0 h0 0 _ rfl))
    · exact .inr (by omega)
  have HB : Hid (b < w.heap.size ∨ xs.length = 0) := hlt0
  clear h hs hlt0
  go_enter Try.func33, Try.ntmps33
  go_wp2
  rw [← hV] at HN ⊢
  clear hV hmk
  go_loopw [9] (fun u wr => ∃ j : Nat, j ≤ xs.length ∧ u = .int .i64 (j : Int) ∧ SetM wr w.heap.size (xs.take j) ∧ Below w.heap.size w wr) (fun u _ => xs.length - (intOf u).toNat)
  case atStart => exact ⟨0, Nat.zero_le _, rfl, HN.out, sV⟩
  case round =>
    obtain ⟨j, hj, rfl, hS, hW⟩ := hrel
    by_cases hlt : j < xs.length
    · have hki : (j : Int) < (xs.length : Int) := by omega
      obtain rfl := HR.out.1.1 (by omega)
      have c0 := below_cell hW (by rcases HB.out with h | h; · exact h
                                   · omega) (HR.out.1.2 j hlt 0 _ rfl)
      rw [Nat.mul_one, Nat.add_zero] at c0
      have hput := put_any wr w.heap.size (xs.take j) xs[j] hS (HR.out.2 _ (List.getElem_mem hlt)) (by rw [List.length_take]; omega)
      have HT : Hid (xs.take (j + 1) = xs.take j ++ [xs[j]]) := by show _ = _; rw [List.take_add_one, List.getElem?_eq_getElem hlt]; rfl
      have HW : Hid (Below w.heap.size w wr) := hW
      clear hS hW HN
      generalize xs[j] = x at *
      go_wp2_with (go_at_call 41; refine hput.mono ?_; rintro e w1 ⟨rfl, hS1, hg1⟩)
      go_roundw
      case rel => exact ⟨j + 1, by omega, by simp, by rw [HT.out]; exact hS1, stay_of_grown HW.out hg1 (Nat.le_refl _)⟩
      case measure => simp [intOf]; omega
    · obtain rfl : j = xs.length := by omega
      rw [List.take_of_length_le (Nat.le_refl _)] at hS
      have HS : Hid (SetM wr w.heap.size xs ∧ Below w.heap.size w wr) := ⟨hS, hW⟩
      clear hS hW HN
      go_wp2
      go_ret
      exact ⟨w.heap.size, rfl, HS.out.1, Nat.le_refl _, HS.out.2⟩

/-- Are these all among those. -/
def allS (us ss : List ByteArray) : Bool := ss.all fun s => inB us s
theorem allS_take {us ss : List ByteArray} {k : Nat} (h : k < ss.length) : allS us (ss.take (k + 1)) = (allS us (ss.take k) && inB us ss[k]) := by
  unfold allS
  rw [List.take_add_one, List.getElem?_eq_getElem h, Option.toList_some, List.all_append]
  simp
theorem allS_no {us ss : List ByteArray} {k : Nat} (h : k < ss.length) (hc : inB us ss[k] = false) : allS us ss = false := by
  unfold allS
  rw [List.all_eq_false]
  exact ⟨_, List.getElem_mem h, by simp [hc]⟩
theorem zeroU (w : World) : (zeroValue 93).run Try.prog w = .ok (.agg #[]) w := by kernel_rfl

set_option maxRecDepth 100000 in
set_option maxHeartbeats 4000000 in
theorem have_any (xs : List ByteArray) (gf : Nat) (lb : Array Value) (eg : ∀ args w, (callFunc gf args).run Try.prog w = .ok (.enter gf args) w) (Hs : Nat → Prop) (w : World) (hseq : SeqL (fun _ => False) Try.prog gf lb encS Hs xs w) (hHs : ∀ i, Hs i → i < w.heap.size) (hsh : ∀ s ∈ xs, s.size ≤ 1048576) (bm : Nat) (us : List ByteArray) (hS : SetM w bm us) :
    Calls Try.prog 34 #[.map (some bm), .func (.func gf) #[] lb] w fun e w' => e = .returned (.bool (allS us xs)) ∧ Stay w w' := by
  have hbl := hS.lt
  obtain ⟨V, hV⟩ : ∃ V, V = (w.alloc (.cells #[.map (some bm)] 78)).alloc (.cells #[.bool false] 4) := ⟨_, rfl⟩
  have sV : V.heap.size = w.heap.size + 2 := by rw [hV]; simp
  have stV : Stay w V := by rw [hV]; exact (Stay.new _ _).alloc _
  have v0 : V.heap[w.heap.size]? = some (.cells #[.map (some bm)] 78 (0, 0)) := by
    rw [hV]; exact (Below.heap_alloc _ _ _ (by simp)).trans (heap_new _ _)
  have v1 : V.heap[w.heap.size + 1]? = some (.cells #[.bool false] 4 (0, 0)) := by
    have := heap_new (w.alloc (.cells #[.map (some bm)] 78)) (.cells #[.bool false] 4)
    rw [World.size_alloc] at this
    rw [hV]; exact this
  have hSV : SetM V bm us := hS.keep (stV.block _ hbl)
  have hHV : ∀ i, Hs i → i < V.heap.size := fun i hi => by have := hHs i hi; omega
  refine (callsIn_wide (n := 8)).1 (callsIn_of_wp_marks Try.func34 rfl trivial ?_ rfl)
  simp only [Try.ntmps34, List.size_toArray, List.length_cons, List.length_nil, Nat.reduceAdd, Nat.reduceSub, Array.replicate_succ, Array.replicate_zero, List.push_toArray, List.append_toArray, List.nil_append, List.cons_append]
  gi_wp2
  rw [← hV]
  clear hV hS
  refine' range_list (α := ByteArray) (T := fun _ => False) (by decide) (gf := gf) (lb := lb) rfl eg (hseq.stay stV) hHV (fun _ => rfl)
    (fun k A => allS us (xs.take k) = true ∧ A.heap[w.heap.size]? = V.heap[w.heap.size]? ∧ A.heap[w.heap.size + 1]? = V.heap[w.heap.size + 1]? ∧ Below w.heap.size w A ∧ V.heap.size ≤ A.heap.size) (fun c k A => c = .ret ∧ allS us xs = false ∧ A.cell? ⟨w.heap.size + 1, 0, none⟩ = some (.bool false) ∧ Below w.heap.size w A ∧ V.heap.size ≤ A.heap.size) (fun k A A' hA hb => ?hI) (fun c k A A' hA hb => ?hIx) ⟨rfl, rfl, rfl, stV, Nat.le_refl _⟩ (fun _ W => W) (fun _ W => Stay.refl W) _ ?assign ?body ?done ?stop
  case hI => exact ⟨hA.1, (hb.block _ (by omega)).trans hA.2.1, (hb.block _ (by omega)).trans hA.2.2.1, hA.2.2.2.1.trans (Below.mono hb.1 (by omega)), Nat.le_trans hA.2.2.2.2 hb.size⟩
  case hIx =>
    obtain ⟨h1, h2, h3, h4, h5⟩ := hA
    exact ⟨h1, h2, below_cell hb.1 (by show w.heap.size + 1 < _; omega) h3, h4.trans (Below.mono hb.1 (by omega)), Nat.le_trans h5 hb.size⟩
  case assign =>
    intro l' y W' K hK
    dsimp only [encS]
    gi_wp2
    exact hK
  case stop =>
    rintro c k A hk ⟨rfl, h2, h3, h4, h5⟩ hdd
    have H4 : Hid (Below w.heap.size w A ∧ allS us xs = false) := ⟨h4, h2⟩
    clear hseq h4 v0 v1 h2
    gi_wp2
    refine leaves_marks (T := fun _ => False) ((Marks.nil (w.heap.size + 2) V.heap.size A).cons (T := V.heap.size + 1) V.heap.size (Nat.le_refl _) (by omega) (by omega) hdd) fun w' hw' => ⟨.bool false, ?_, by rw [H4.out.2], H4.out.1.trans (Below.mono hw'.1 (by omega))⟩
    have e1 := below_cell hw'.1 (by show w.heap.size + 1 < _; omega) h3
    simp [results, Try.results34, go_sem, e1]
  case done =>
    rintro A ⟨hA1, hA0, hA2, hA3, hA4⟩ hdd
    rw [List.take_of_length_le (Nat.le_refl _)] at hA1
    have c1 : A.cell? ⟨w.heap.size + 1, 0, none⟩ = some (.bool false) := by
      have := hA2.trans v1
      simp [World.cell?, this]
    have f1 : A.frozen? ⟨w.heap.size + 1, 0, none⟩ = false := by
      have := hA2.trans v1
      simp [World.frozen?, this]
    have HA : Hid (Below w.heap.size w A ∧ A.heap[V.heap.size]? = some (.deferred (some [])) ∧ allS us xs = true) := ⟨hA3, hdd, hA1⟩
    clear hA1 hA0 hA2 hA3 hseq v0 v1 hdd
    gi_wp2
    have hne : ∀ j, j ≠ w.heap.size + 1 → (A.setCell ⟨w.heap.size + 1, 0, none⟩ (.bool true)).heap[j]? = A.heap[j]? := fun j hj => Below.heap_setCell _ _ _ _ (fun e => hj e)
    have t1 : (A.setCell ⟨w.heap.size + 1, 0, none⟩ (.bool true)).cell? ⟨w.heap.size + 1, 0, none⟩ = some (.bool true) := World.cell?_setCell_same' A _ _ (by rw [c1]; rfl)
    refine leaves_marks (T := fun _ => False) ((Marks.nil (w.heap.size + 2) V.heap.size _).cons (T := V.heap.size + 1) V.heap.size (Nat.le_refl _) (by omega) (by omega) ((hne _ (by omega)).trans HA.out.2.1)) fun w' hw' => ⟨.bool true, ?_, by rw [HA.out.2.2], Below.trans (Below.setCell HA.out.1 (p := ⟨w.heap.size + 1, 0, none⟩) (by show w.heap.size ≤ w.heap.size + 1; omega) _) (Below.mono hw'.1 (by omega))⟩
    have e1 := below_cell hw'.1 (by show w.heap.size + 1 < _; omega) t1
    simp [results, Try.results34, go_sem, e1]
  case body =>
    intro l' k hk W' X hX ho hWs hl' hXs
    obtain ⟨hX1, hX0, hX2, hX3, hX4⟩ := hX
    have cM : X.cell? ⟨w.heap.size, 0, none⟩ = some (.map (some bm)) := by
      have := hX0.trans v0
      simp [World.cell?, this]
    have hbox : ∀ A, Stay X A → A.cell? ⟨w.heap.size + 1, 0, none⟩ = some (.bool false) ∧ A.frozen? ⟨w.heap.size + 1, 0, none⟩ = false := fun A hA => by
      have := (hA.block _ (by omega)).trans (hX2.trans v1)
      simp [World.cell?, World.frozen?, this]
    obtain ⟨c1, f1⟩ := hbox _ (Stay.new X (.cells #[] 93))
    obtain ⟨D, hD, h2⟩ := hSV.keep (w' := X) ((hX3.block _ hbl).trans (stV.block _ hbl).symm)
    have hkey := keyS (hsh _ (List.getElem_mem hk))
    have hh := h2 xs[k]
    have HT := allS_take (us := us) hk
    have HN : Hid (inB us xs[k] = false → allS us xs = false) := allS_no hk
    rw [hX1, Bool.true_and] at HT
    have HT' : Hid (allS us (xs.take (k + 1)) = inB us xs[k]) := HT
    have HX : Hid (X.heap[w.heap.size]? = V.heap[w.heap.size]? ∧ X.heap[w.heap.size + 1]? = V.heap[w.heap.size + 1]? ∧ Below w.heap.size w X ∧ V.heap.size ≤ X.heap.size) := ⟨hX0, hX2, hX3, hX4⟩
    clear hX1 hX0 hX2 hX3 hX4 ho hseq h2 HT hbox
    cases hc : inB us xs[k]
    · rw [hc] at hh
      have HC : Hid (inB us xs[k] = false) := hc
      generalize hp : xs[k] = ps at *
      try dsimp only [encS] at *
      clear hc hp
      gi_wp2_with (first | (gi_at_lookup; refine wpListIn_lookup_own_unit _ rfl _ _ _ rfl 9 93 lawS Try.underlying78 (zeroU _) bm _ D rfl hD _ _ rfl hkey ?_; rw [hh]))
      obtain ⟨hX0, hX2, hX3, hX4⟩ := HX.out
      have sN : Stay X (X.alloc (.cells #[] 93)) := Stay.new _ _
      have hne : ∀ j, j ≠ w.heap.size + 1 → ((X.alloc (.cells #[] 93)).setCell ⟨w.heap.size + 1, 0, none⟩ (.bool false)).heap[j]? = (X.alloc (.cells #[] 93)).heap[j]? := fun j hj => Below.heap_setCell _ _ _ _ (fun e => hj e)
      have hzs : X.heap.size ≤ ((X.alloc (.cells #[] 93)).setCell ⟨w.heap.size + 1, 0, none⟩ (.bool false)).heap.size := by simp [World.setCell]
      refine ⟨fun i hi => ?_, hzs, rfl, HN.out HC.out, World.cell?_setCell_same' _ _ _ (by rw [c1]; rfl), Below.setCell (hX3.trans (Below.mono sN (by have := hX3.size; omega))) (p := ⟨w.heap.size + 1, 0, none⟩) (by show w.heap.size ≤ w.heap.size + 1; omega) _, by omega⟩
      have hi' : i < X.heap.size ∧ i ≠ w.heap.size + 1 := hi.elim (fun hi => by have := hHs i hi; omega) (fun hi => by have g1 := hi.1; have g2 := hi.2.1; omega)
      exact (hne i hi'.2).trans (sN.block i hi'.1)
    · rw [hc] at hh
      have HC : Hid (inB us xs[k] = true) := hc
      generalize hp : xs[k] = ps at *
      try dsimp only [encS] at *
      clear hc hp
      gi_wp2_with (first | (gi_at_lookup; refine wpListIn_lookup_own_unit _ rfl _ _ _ rfl 9 93 lawS Try.underlying78 (zeroU _) bm _ D rfl hD _ _ rfl hkey ?_; rw [hh]))
      obtain ⟨hX0, hX2, hX3, hX4⟩ := HX.out
      have sN : Stay X (X.alloc (.cells #[] 93)) := Stay.new _ _
      refine ⟨fun i hi => sN.block i (hi.elim (fun hi => by have := hHs i hi; omega) (fun hi => hi.2.1)), sN.size, by rw [HT'.out, HC.out], (sN.block _ (by omega)).trans hX0, (sN.block _ (by omega)).trans hX2, hX3.trans (Below.mono sN (by have := hX3.size; omega)), by have := sN.size; omega⟩
end Go.Proofs.Ytpnjmldbohecdaa
