/- Places whose variable has not stood ahead: once. -/
import Derived.Test.YtnmeljenldadfaaQE
import Derived.Laws.EntriesVeiled
namespace Go.Proofs.Ytnmeljenldadfaa
open Go.RowKit Go.Maps Go.Shelf
attribute [local go_sem] Oper.semAt_some

theorem once_any (gf : Nat) (lb : Array Value) (w : World) : Calls Try.prog 33 #[.func (.func gf) #[] lb] w fun e w' => e = .returned (.func (.func 53) #[] #[.pointer (some ⟨w.heap.size, 0, none⟩)]) ∧ w' = w.alloc (.cells #[.func (.func gf) #[] lb] 74) := by
  go_enter Try.func33, Try.ntmps33
  go_wp2
  go_ret
  exact ⟨rfl, rfl⟩

theorem grown_holds {A B : World} {r : Nat} (h : A.grownBy B (some r)) {S : Nat → Prop} (hs : ∀ i, S i → i < A.heap.size ∧ i ≠ r) : Holds S A B := fun i hi => h.block i (hs i hi).1 (by have := (hs i hi).2; simp [this])

theorem grown_below {A B : World} {r n : Nat} (h : A.grownBy B (some r)) (hn : n ≤ A.heap.size) (hr : n ≤ r) : Below n A B :=
  ⟨h.os, h.tape, h.output, h.size, fun k hk => h.block k (by omega) (fun e => by have := Option.some.inj e; omega)⟩
set_option maxRecDepth 100000 in
set_option maxHeartbeats 4000000 in
theorem once_seq (Ow : TypeId → Prop) (hOw : ¬ Ow 104 ∧ ¬ Ow 90) (xs : List (Int × ByteArray)) (gf : Nat) (lb : Array Value) (eg : ∀ args w, (callFunc gf args).run Try.prog w = .ok (.enter gf args) w) (Bp : Nat) (Hs : Nat → Prop) (w : World) (hseq : SeqL Ow Try.prog gf lb encIS Hs xs w) (hB : w.heap[Bp]? = some (.cells #[.func (.func gf) #[] lb] 74 (0, 0))) (hs : ∀ p ∈ xs, p.2.size ≤ 1048576) (hn : xs.length < 1099511627776000) (hBp : Hs Bp) (hHs : ∀ i, Hs i → i < w.heap.size) :
    SeqL Ow Try.prog 53 #[.pointer (some ⟨Bp, 0, none⟩)] encIS Hs (sel newC xs) w := by
  intro l J Jx W hW hJ hJx hY h0
  have hBW : W.heap[Bp]? = some (.cells #[.func (.func gf) #[] lb] 74 (0, 0)) := (hW.block Bp (Array.getElem?_eq_some_iff.1 hB).1).trans hB
  have hHW : ∀ i, Hs i → i < W.heap.size := fun i hi => Nat.lt_of_lt_of_le (hHs i hi) hW.size
  have hqW := hseq.stay hW
  clear hB hHs hW hseq
  have cB : W.cell? ⟨Bp, 0, none⟩ = some (.func (.func gf) #[] lb) := by simp [World.cell?, hBW]
  have hBl : Bp < W.heap.size := hHW _ hBp
  have hmk := run_mapS
  refine (callsIn_wide (n := 8)).1 (callsIn_of_wp_marks Try.func53 rfl trivial ?_ rfl)
  simp only [Try.ntmps53, List.size_toArray, List.length_cons, List.length_nil, Nat.reduceAdd, Nat.reduceSub, Array.replicate_succ, Array.replicate_zero, List.push_toArray, List.append_toArray, List.nil_append, List.cons_append]
  obtain ⟨V, hV⟩ : ∃ V, V = ((W.alloc (.cells #[.func (.yield l) #[] #[]] 104)).alloc (.map #[] 0)).alloc (.cells #[.map (some (W.heap.size + 1))] 90) := ⟨_, rfl⟩
  have stV : Stay W V := by rw [hV]; exact ((Stay.new _ _).alloc _).alloc _
  have cV := stV.cell cB
  rw [hV] at cV
  gi_wp2
  rw [← hV]
  have sV : V.heap.size = W.heap.size + 3 := by rw [hV]; simp
  have v0 : V.heap[W.heap.size]? = some (.cells #[.func (.yield l) #[] #[]] 104 (0, 0)) := by
    rw [hV]; exact (Below.heap_alloc _ _ _ (by simp only [World.size_alloc]; omega)).trans ((Below.heap_alloc _ _ _ (by simp)).trans (heap_new _ _))
  have v1 : SetM V (W.heap.size + 1) [] := by
    have := setM_new (W.alloc (.cells #[.func (.yield l) #[] #[]] 104))
    rw [World.size_alloc] at this
    rw [hV]
    exact this.keep (Below.heap_alloc _ _ _ (by simp))
  have v2 : V.heap[W.heap.size + 1 + 1]? = some (.cells #[.map (some (W.heap.size + 1))] 90 (0, 0)) := by
    rw [hV]
    have := heap_new ((W.alloc (.cells #[.func (.yield l) #[] #[]] 104)).alloc (.map #[] 0)) (.cells #[.map (some (W.heap.size + 1))] 90)
    rwa [World.size_alloc, World.size_alloc] at this
  have hJV : J 0 V := hJ _ _ _ h0 (Bel.of_stay stV (Nat.le_refl _))
  have hHV : ∀ i, Hs i → i < V.heap.size := fun i hi => by have := hHW i hi; omega
  clear hV h0 hBW cB cV hmk
  refine' range_list (α := Int × ByteArray) (by decide) (gf := gf) (lb := lb) rfl eg (hqW.stay stV) hHV (fun _ => rfl)
    (fun k A => J (sel newC (xs.take k)).length A ∧ SetM A (W.heap.size + 1) ((xs.take k).map (·.2)) ∧ A.heap[W.heap.size]? = V.heap[W.heap.size]? ∧ A.heap[W.heap.size + 1 + 1]? = V.heap[W.heap.size + 1 + 1]? ∧ V.heap.size ≤ A.heap.size) (fun c k A => c = .ret ∧ (∃ j, j < (sel newC xs).length ∧ Jx (j + 1) A) ∧ V.heap.size ≤ A.heap.size) (fun k A A' hA hb => ?hI) (fun c k A A' hA hb => ?hIx) ⟨by simpa [sel, selF] using hJV, by simpa using v1, rfl, rfl, Nat.le_refl _⟩ (fun _ W => W) (fun _ W => Stay.refl W) _ ?assign ?body ?done ?stop
  case hI => exact ⟨hJ _ _ _ hA.1 (hb.mono (by omega)), hA.2.1.keep (hb.block _ (by omega)), (hb.block _ (by omega)).trans hA.2.2.1, (hb.block _ (by omega)).trans hA.2.2.2.1, Nat.le_trans hA.2.2.2.2 hb.size⟩
  case hIx =>
    obtain ⟨h1, ⟨j, hj, h2⟩, h3⟩ := hA
    exact ⟨h1, ⟨j, hj, hJx _ _ _ h2 (hb.mono (by omega))⟩, Nat.le_trans h3 hb.size⟩
  case assign =>
    intro l' y W' K hK
    dsimp only [encIS]
    gi_wp2
    exact hK
  case stop =>
    rintro c k A hk ⟨rfl, ⟨j, hj, hI⟩, hz⟩ hdd
    gi_wp2
    exact leaves_marks ((Marks.nil W.heap.size V.heap.size A).cons (T := V.heap.size + 1) V.heap.size (Nat.le_refl _) (by omega) (by omega) hdd) fun w' hw' => ⟨_, results_none rfl _ _ _, ⟨_, rfl⟩, .inr ⟨j, hj, hJx _ _ _ hI hw'⟩⟩
  case done =>
    rintro A ⟨hJA, -⟩ hdd
    rw [List.take_of_length_le (Nat.le_refl _)] at hJA
    have HJ : Hid (J (sel newC xs).length A) := hJA
    clear hJA hY hqW
    gi_wp2
    exact leaves_marks ((Marks.nil W.heap.size V.heap.size A).cons (T := V.heap.size + 1) V.heap.size (Nat.le_refl _) (by omega) (by omega) hdd) fun w' hw' => ⟨_, results_none rfl _ _ _, ⟨_, rfl⟩, .inl (hJ _ _ _ HJ.out hw')⟩
  case body =>
    intro l' k hk W' X hX ho hWs hl' hXs
    obtain ⟨hJX, hSX, hX0, hX2, hXz⟩ := hX
    have cY : X.cell? ⟨W.heap.size, 0, none⟩ = some (.func (.yield l) #[] #[]) := by
      have := hX0.trans v0
      simp [World.cell?, this]
    have cM : X.cell? ⟨W.heap.size + 1 + 1, 0, none⟩ = some (.map (some (W.heap.size + 1))) := by
      have := hX2.trans v2
      simp [World.cell?, this]
    obtain ⟨om, hom, hoc⟩ := hSX.obj
    have hlk : (xs.take k).length < 1099511627776000 := by rw [List.length_take]; omega
    have hput := put_any X (W.heap.size + 1) ((xs.take k).map (·.2)) xs[k].2 hSX (hs _ (List.getElem_mem hk)) (by simpa using hlk)
    have hst := sel_take newC hk
    have hnw : newC (xs.take k) xs[k] = !inB ((xs.take k).map (·.2)) xs[k].2 := rfl
    have hmp : (xs.take (k + 1)).map (·.2) = (xs.take k).map (·.2) ++ [xs[k].2] := by rw [List.take_add_one, List.getElem?_eq_getElem hk, Option.toList_some, List.map_append]; rfl
    rw [← hnw, ← hmp] at hput
    have HX : Hid (J (sel newC (xs.take k)).length X ∧ X.heap[W.heap.size]? = V.heap[W.heap.size]? ∧ X.heap[W.heap.size + 1 + 1]? = V.heap[W.heap.size + 1 + 1]? ∧ V.heap.size ≤ X.heap.size) := ⟨hJX, hX0, hX2, hXz⟩
    clear hJX hSX hX0 hX2 hXz ho hnw hqW hlk hJV v1
    cases hc : newC (xs.take k) xs[k]
    · rw [hc] at hput hst
      have HS : Hid (sel newC (xs.take (k + 1)) = sel newC (xs.take k)) := by show _ = _; simpa using hst
      generalize xs[k] = p at *
      obtain ⟨pi, ps⟩ := p
      clear hst hc hY
      dsimp only [encIS] at *
      gi_wp2_with (refine ⟨trivial, ?_⟩; gi_at_call 54; refine CallsIn.mono (CallsIn.inRound l' (callsIn_wide.2 hput)) ?_; rintro e w1 ⟨rfl, hS1, hg1⟩)
      refine ⟨fun _ h => (by cases h), ?_⟩
      gi_wp2
      obtain ⟨hJX, hX0, hX2, hXz⟩ := HX.out
      refine ⟨grown_holds hg1 fun i hi => ?_, hg1.size, by rw [HS.out]; exact hJ _ _ _ hJX (Bel.grown hg1 hom hoc (by omega) (by omega)), hS1, (hg1.block _ (by omega) (by simp)).trans hX0, (hg1.block _ (by omega) (by simp)).trans hX2, Nat.le_trans hXz hg1.size⟩
      rcases hi with hi | hi
      · have := hHW i hi; omega
      · have g1 := hi.1; have g2 := hi.2.1; omega
    · obtain ⟨hkk, hat⟩ := sel_at newC hk hc
      rw [hc] at hput hst
      have HS : Hid ((sel newC (xs.take (k + 1))).length = (sel newC (xs.take k)).length + 1) := by show _ = _; rw [hst]; simp
      have hYk := fun A h1 h2 => yield_any (l' := l') (m' := 8 - 1 - 1 - 1) (hY _ hkk A h1 h2)
      rw [hat] at hYk
      generalize xs[k] = p at *
      obtain ⟨pi, ps⟩ := p
      clear hst hc hY hat
      dsimp only [encIS] at *
      gi_wp2_with (refine ⟨trivial, ?_⟩; gi_at_call 54; refine CallsIn.mono (CallsIn.inRound l' (callsIn_wide.2 hput)) ?_; rintro e w1 ⟨rfl, hS1, hg1⟩; have cY1 : w1.cell? ⟨W.heap.size, 0, none⟩ = some (.func (.yield l) #[] #[]) := (World.cell?_of_block (hg1.block W.heap.size (by omega) (by simp))).trans cY; have hJ1 := hJ _ _ _ HX.out.1 (Bel.grown hg1 hom hoc (by omega) (by omega)); have hz1 := hg1.size; obtain ⟨fn, tmps, assign, body, hy, hR⟩ := hYk w1 hJ1 (by omega); have HG : Hid (SetM w1 (W.heap.size + 1) ((xs.take (k + 1)).map (·.2)) ∧ X.grownBy w1 (some (W.heap.size + 1))) := ⟨hS1, hg1⟩; clear hS1 hg1 hYk hput hJ1)
      refine hR.mono ?_
      rintro e9 W3 ⟨hh, hz, (⟨rfl, hJ3⟩ | ⟨rfl, hJx3⟩)⟩
      · have HH : Hid (Kep Ow Hs W.heap.size w1 W3 ∧ J ((sel newC (xs.take k)).length + 1) W3) := ⟨⟨hh, hz⟩, hJ3⟩
        clear hR hh hz hJ3
        gi_wp2
        obtain ⟨hJX, hX0, hX2, hXz⟩ := HX.out
        obtain ⟨hS1, hg1⟩ := HG.out
        obtain ⟨hK3, hJ3⟩ := HH.out
        obtain ⟨om1, hom1, hoc1⟩ := hS1.obj
        have k0 := hK3.get (i := W.heap.size) (.inr ⟨by omega, by omega, not_tyd ((hg1.block _ (by omega) (by simp)).trans (hX0.trans v0)) hOw.1⟩)
        have k1 := hK3.get (i := W.heap.size + 1) (.inr ⟨by omega, by omega, not_tyd_o hom1 hoc1⟩)
        have k2 := hK3.get (i := W.heap.size + 1 + 1) (.inr ⟨by omega, by omega, not_tyd ((hg1.block _ (by omega) (by simp)).trans (hX2.trans v2)) hOw.2⟩)
        refine ⟨(grown_holds hg1 fun i hi => ?_).trans (hK3.1.mono fun i hi => ?_), Nat.le_trans hg1.size hK3.2, by rw [HS.out]; exact hJ3, hS1.keep k1, k0.trans ((hg1.block _ (by omega) (by simp)).trans hX0), k2.trans ((hg1.block _ (by omega) (by simp)).trans hX2), by have := hK3.2; omega⟩
        · rcases hi with hi | hi
          · have := hHW i hi; omega
          · have g1 := hi.1; have g2 := hi.2.1; omega
        · rcases hi with hi | hi
          · exact .inl hi
          · have g1 := hi.1
            have g2 := hi.2.1
            exact .inr ⟨by omega, by omega, fun hT => hi.2.2 ((Tyd.same (hg1.block i g2 (by simp; omega))).1 hT)⟩
      · have HH : Hid (Kep Ow Hs W.heap.size w1 W3 ∧ Jx ((sel newC (xs.take k)).length + 1) W3) := ⟨⟨hh, hz⟩, hJx3⟩
        clear hR hh hz hJx3
        gi_wp2
        obtain ⟨hJX, hX0, hX2, hXz⟩ := HX.out
        obtain ⟨hS1, hg1⟩ := HG.out
        obtain ⟨hK3, hJ3⟩ := HH.out
        refine ⟨(grown_holds hg1 fun i hi => ?_).trans (hK3.1.mono fun i hi => ?_), Nat.le_trans hg1.size hK3.2, rfl, ⟨_, hkk, hJ3⟩, by have := hK3.2; omega⟩
        · rcases hi with hi | hi
          · have := hHW i hi; omega
          · have g1 := hi.1; have g2 := hi.2.1; omega
        · rcases hi with hi | hi
          · exact .inl hi
          · have g1 := hi.1
            have g2 := hi.2.1
            exact .inr ⟨by omega, by omega, fun hT => hi.2.2 ((Tyd.same (hg1.block i g2 (by simp; omega))).1 hT)⟩
end Go.Proofs.Ytnmeljenldadfaa
