/- Are all variables of a body bound: all. -/
import Derived.Test.YtpnjmldbohecdaaES
namespace Go.Proofs.Ytpnjmldbohecdaa
open Go.RowKit Go.Maps Go.Shelf
attribute [local go_sem] Oper.semAt_some

/-- Are these names all among those. -/
def allIn (bs : List (Int × ByteArray)) (ps : List (Int × ByteArray)) : Bool := ps.all fun p => inB (namesP bs) p.2
theorem allIn_take {bs ps : List (Int × ByteArray)} {k : Nat} (h : k < ps.length) : allIn bs (ps.take (k + 1)) = (allIn bs (ps.take k) && inB (namesP bs) ps[k].2) := by
  unfold allIn
  rw [List.take_add_one, List.getElem?_eq_getElem h, Option.toList_some, List.all_append]
  simp
theorem allIn_no {bs ps : List (Int × ByteArray)} {k : Nat} (h : k < ps.length) (hc : inB (namesP bs) ps[k].2 = false) : allIn bs ps = false := by
  unfold allIn
  rw [List.all_eq_false]
  exact ⟨_, List.getElem_mem h, by simp [hc]⟩

set_option maxRecDepth 100000 in
set_option maxHeartbeats 4000000 in
theorem all_any (ls : List Li) (a : Option Addr) (b off cap : Nat) (w : World) (hM : LisS w a b off ls) (hs : (bodyRu a b off cap ls).small) (hr : (bodyRu a b off cap ls).reads (fun i => i < w.heap.size)) (hsh : ∀ p ∈ placesB 0 ls, p.2.size ≤ 1048576) (bm : Nat) (bs : List (Int × ByteArray)) (hB : BndM w bm bs) :
    Calls Try.prog 26 #[.map (some bm), .slice a ls.length cap] w fun e w' => e = .returned (.bool (allIn bs (placesB 0 ls))) ∧ Stay w w' := by
  obtain ⟨xs, hxs⟩ : ∃ xs, xs = placesB 0 ls := ⟨_, rfl⟩
  have hst := fun w => standing_any (bodyRu a b off cap ls) w
  dsimp only [Ru.v, bodyRu, At.sl, List.length_nil] at hst
  have hbl := hB.lt
  obtain ⟨V, hV⟩ : ∃ V, V = ((w.alloc (.cells #[.map (some bm)] 66)).alloc (.cells #[.bool false] 4)).alloc (.cells #[.string ⟨#[]⟩, .slice none 0 0, .slice a ls.length cap] 27) := ⟨_, rfl⟩
  have sV : V.heap.size = w.heap.size + 3 := by rw [hV]; simp
  have stV : Stay w V := by rw [hV]; exact ((Stay.new _ _).alloc _).alloc _
  have v0 : V.heap[w.heap.size]? = some (.cells #[.map (some bm)] 66 (0, 0)) := by
    rw [hV]; exact (Below.heap_alloc _ _ _ (by simp only [World.size_alloc]; omega)).trans ((Below.heap_alloc _ _ _ (by simp)).trans (heap_new _ _))
  have v1 : V.heap[w.heap.size + 1]? = some (.cells #[.bool false] 4 (0, 0)) := by
    have := heap_new (w.alloc (.cells #[.map (some bm)] 66)) (.cells #[.bool false] 4)
    rw [World.size_alloc] at this
    rw [hV]; exact (Below.heap_alloc _ _ _ (by simp)).trans this
  have v2 : V.heap[w.heap.size + 1 + 1]? = some (.cells #[.string ⟨#[]⟩, .slice none 0 0, .slice a ls.length cap] 27 (0, 0)) := by
    have := heap_new ((w.alloc (.cells #[.map (some bm)] 66)).alloc (.cells #[.bool false] 4)) (.cells #[.string ⟨#[]⟩, .slice none 0 0, .slice a ls.length cap] 27)
    rw [World.size_alloc, World.size_alloc] at this
    rw [hV]; exact this
  have hHV : ∀ i, (i < w.heap.size ∨ i = w.heap.size + 1 + 1) → i < V.heap.size := fun i hi => by omega
  have hseq := stand_seq (fun _ => False) ⟨id, id, id⟩ (bodyRu a b off cap ls) (w.heap.size + 1 + 1) (fun i => i < w.heap.size ∨ i = w.heap.size + 1 + 1) V ⟨TmsS.nil _ _ _ _, hM.stay stV⟩ v2 hs (hr.mono fun i h => .inl h) (.inr rfl) hHV
  rw [bodyRu_places, ← hxs] at hseq
  rw [← hxs] at hsh ⊢
  have hBV := hB.stay stV
  refine (callsIn_wide (n := 8)).1 (callsIn_of_wp_marks Try.func26 rfl trivial ?_ rfl)
  simp only [Try.ntmps26, List.size_toArray, List.length_cons, List.length_nil, Nat.reduceAdd, Nat.reduceSub, Array.replicate_succ, Array.replicate_zero, List.push_toArray, List.append_toArray, List.nil_append, List.cons_append]
  gi_wp2_with (first | (refine ⟨trivial, ?_⟩; gi_at_call 23; refine CallsIn.mono (callsIn_wide.2 (hst _)) ?_; rintro e w' ⟨rfl, rfl⟩))
  rw [← hV]
  clear hV hxs hst v2 hB hM
  refine' range_list (α := Int × ByteArray) (T := fun _ => False) (by decide) (gf := 42) (lb := #[.pointer (some ⟨w.heap.size + 1 + 1, 0, none⟩)]) rfl (enters_of Try.func42 (by kernel_rfl) rfl) hseq hHV (fun _ => rfl)
    (fun k A => allIn bs (xs.take k) = true ∧ A.heap[w.heap.size]? = V.heap[w.heap.size]? ∧ A.heap[w.heap.size + 1]? = V.heap[w.heap.size + 1]? ∧ Below w.heap.size w A ∧ V.heap.size ≤ A.heap.size) (fun c k A => c = .ret ∧ allIn bs xs = false ∧ A.cell? ⟨w.heap.size + 1, 0, none⟩ = some (.bool false) ∧ Below w.heap.size w A ∧ V.heap.size ≤ A.heap.size) (fun k A A' hA hb => ?hI) (fun c k A A' hA hb => ?hIx) ⟨rfl, rfl, rfl, stV, Nat.le_refl _⟩ (fun _ W => W) (fun _ W => Stay.refl W) _ ?assign ?body ?done ?stop
  case hI => exact ⟨hA.1, (hb.block _ (by omega)).trans hA.2.1, (hb.block _ (by omega)).trans hA.2.2.1, hA.2.2.2.1.trans (Below.mono hb.1 (by omega)), Nat.le_trans hA.2.2.2.2 hb.size⟩
  case hIx =>
    obtain ⟨h1, h2, h3, h4, h5⟩ := hA
    exact ⟨h1, h2, below_cell hb.1 (by show w.heap.size + 1 < _; omega) h3, h4.trans (Below.mono hb.1 (by omega)), Nat.le_trans h5 hb.size⟩
  case assign =>
    intro l' y W' K hK
    dsimp only [encIS]
    gi_wp2
    exact hK
  case stop =>
    rintro c k A hk ⟨rfl, h2, h3, h4, h5⟩ hdd
    have H4 : Hid (Below w.heap.size w A ∧ allIn bs xs = false) := ⟨h4, h2⟩
    clear hseq h4 v0 v1 h2
    gi_wp2
    refine leaves_marks (T := fun _ => False) ((Marks.nil (w.heap.size + 3) V.heap.size A).cons (T := V.heap.size + 1) V.heap.size (Nat.le_refl _) (by omega) (by omega) hdd) fun w' hw' => ⟨.bool false, ?_, by rw [H4.out.2], H4.out.1.trans (Below.mono hw'.1 (by omega))⟩
    have e1 := below_cell hw'.1 (by show w.heap.size + 1 < _; omega) h3
    simp [results, Try.results26, go_sem, e1]
  case done =>
    rintro A ⟨hA1, hA0, hA2, hA3, hA4⟩ hdd
    rw [List.take_of_length_le (Nat.le_refl _)] at hA1
    have c1 : A.cell? ⟨w.heap.size + 1, 0, none⟩ = some (.bool false) := by
      have := hA2.trans v1
      simp [World.cell?, this]
    have f1 : A.frozen? ⟨w.heap.size + 1, 0, none⟩ = false := by
      have := hA2.trans v1
      simp [World.frozen?, this]
    have HA : Hid (Below w.heap.size w A ∧ A.heap[V.heap.size]? = some (.deferred (some [])) ∧ allIn bs xs = true ∧ A.heap[w.heap.size + 1]? = some (.cells #[.bool false] 4 (0, 0))) := ⟨hA3, hdd, hA1, hA2.trans v1⟩
    clear hA1 hA0 hA2 hA3 hseq v0 v1 hdd
    gi_wp2
    have hne : ∀ j, j ≠ w.heap.size + 1 → (A.setCell ⟨w.heap.size + 1, 0, none⟩ (.bool true)).heap[j]? = A.heap[j]? := fun j hj => Below.heap_setCell _ _ _ _ (fun e => hj e)
    have t1 : (A.setCell ⟨w.heap.size + 1, 0, none⟩ (.bool true)).cell? ⟨w.heap.size + 1, 0, none⟩ = some (.bool true) := World.cell?_setCell_same' A _ _ (by rw [c1]; rfl)
    refine leaves_marks (T := fun _ => False) ((Marks.nil (w.heap.size + 3) V.heap.size _).cons (T := V.heap.size + 1) V.heap.size (Nat.le_refl _) (by omega) (by omega) ((hne _ (by omega)).trans HA.out.2.1)) fun w' hw' => ⟨.bool true, ?_, by rw [HA.out.2.2.1], Below.trans (Below.setCell HA.out.1 (p := ⟨w.heap.size + 1, 0, none⟩) (by show w.heap.size ≤ w.heap.size + 1; omega) _) (Below.mono hw'.1 (by omega))⟩
    have e1 := below_cell hw'.1 (by show w.heap.size + 1 < _; omega) t1
    simp [results, Try.results26, go_sem, e1]
  case body =>
    intro l' k hk W' X hX ho hWs hl' hXs
    obtain ⟨hX1, hX0, hX2, hX3, hX4⟩ := hX
    have cM : X.cell? ⟨w.heap.size, 0, none⟩ = some (.map (some bm)) := by
      have := hX0.trans v0
      simp [World.cell?, this]
    have c1 : X.cell? ⟨w.heap.size + 1, 0, none⟩ = some (.bool false) := by
      have := hX2.trans v1
      simp [World.cell?, this]
    have f1 : X.frozen? ⟨w.heap.size + 1, 0, none⟩ = false := by
      have := hX2.trans v1
      simp [World.frozen?, this]
    obtain ⟨D, hD, h2, h3⟩ := hBV.keep (w' := X) ((hX3.block _ hbl).trans (stV.block _ hbl).symm)
    have hkey := keyS (hsh _ (List.getElem_mem hk))
    have hh := h2 xs[k].2
    have HT := allIn_take (bs := bs) hk
    have HN : Hid (inB (namesP bs) xs[k].2 = false → allIn bs xs = false) := allIn_no hk
    rw [hX1, Bool.true_and] at HT
    have HT' : Hid (allIn bs (xs.take (k + 1)) = inB (namesP bs) xs[k].2) := HT
    have HX : Hid (X.heap[w.heap.size]? = V.heap[w.heap.size]? ∧ X.heap[w.heap.size + 1]? = V.heap[w.heap.size + 1]? ∧ Below w.heap.size w X ∧ V.heap.size ≤ X.heap.size) := ⟨hX0, hX2, hX3, hX4⟩
    clear hX1 hX0 hX2 hX3 hX4 ho hseq h2 h3 HT
    cases hc : inB (namesP bs) xs[k].2
    · rw [hc] at hh
      have HC : Hid (inB (namesP bs) xs[k].2 = false) := hc
      generalize hp : xs[k] = p at *
      obtain ⟨pi, ps⟩ := p
      dsimp only [encIS] at *
      clear hc
      gi_wp2_with (first | (gi_at_lookup; refine wpListIn_lookup_own_ok_int _ rfl _ _ _ rfl 9 3 .i64 lawS Try.underlying66 Try.underlying3 (zeroI _) bm _ D rfl hD _ _ rfl hkey ?_; intro c hat hwc; rw [hh]))
      obtain ⟨hX0, hX2, hX3, hX4⟩ := HX.out
      have hne : ∀ j, j ≠ w.heap.size + 1 → (X.setCell ⟨w.heap.size + 1, 0, none⟩ (.bool false)).heap[j]? = X.heap[j]? := fun j hj => Below.heap_setCell _ _ _ _ (fun e => hj e)
      have hzs : X.heap.size ≤ (X.setCell ⟨w.heap.size + 1, 0, none⟩ (.bool false)).heap.size := by simp [World.setCell]
      refine ⟨fun i hi => hne i (hi.elim (fun hi => by omega) (fun hi => by have g1 := hi.1; omega)), hzs, rfl, HN.out HC.out, World.cell?_setCell_same' X _ _ (by rw [c1]; rfl), Below.setCell hX3 (p := ⟨w.heap.size + 1, 0, none⟩) (by show w.heap.size ≤ w.heap.size + 1; omega) _, by omega⟩
    · rw [hc] at hh
      have HC : Hid (inB (namesP bs) xs[k].2 = true) := hc
      generalize hp : xs[k] = p at *
      obtain ⟨pi, ps⟩ := p
      dsimp only [encIS] at *
      clear hc
      gi_wp2_with (first | (gi_at_lookup; refine wpListIn_lookup_own_ok_int _ rfl _ _ _ rfl 9 3 .i64 lawS Try.underlying66 Try.underlying3 (zeroI _) bm _ D rfl hD _ _ rfl hkey ?_; intro c hat hwc; rw [hh]))
      obtain ⟨hX0, hX2, hX3, hX4⟩ := HX.out
      exact ⟨Holds.refl _ _, Nat.le_refl _, by rw [HT'.out, HC.out], hX0, hX2, hX3, hX4⟩
end Go.Proofs.Ytpnjmldbohecdaa
