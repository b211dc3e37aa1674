/- goes, where there are no tables. -/
import Derived.Test.YtdmopioiaaecfaaGoes
import Derived.Test.YtdmopioiaaecfaaRefNo
namespace Go.Proofs.Ytdmopioiaaecfaa
open Go.RowKit Go.Maps Go.Shelf
attribute [local go_sem] Oper.semAt_some

/-- The boxes of 'goes', behind some rounds. -/
def GN (w : World) (Bl Bq Ba Bn : Nat) (leave n : Int) (q : Bool) (W : World) : Prop :=
  ((Boxed W Bn 3 (.int .i64 n) ∧ Boxed W Bq 4 (.bool q)) ∧ (Boxed W w.heap.size 26 (.pointer none) ∧ (Boxed W Bl 3 (.int .i64 leave) ∧ Boxed W Ba 23 (.pointer none)))) ∧ Below w.heap.size w W

theorem gn_own (w : World) (Bl Bq Ba Bn : Nat) (leave : Int) (f : List (Nat × ByteArray) → Int) (q : Bool) (D : Nat) (hD : w.heap.size ≤ D) : OwnFrom D (fun pre W => GN w Bl Bq Ba Bn leave (f pre) q W) :=
  OwnFrom.and (OwnFrom.and (OwnFrom.and (Own.from (boxed_own Bn 3 (fun pre => Value.int .i64 (f pre))) _) (Own.from (boxed_own Bq 4 (fun _ => Value.bool q)) _)) (OwnFrom.and (Own.from (boxed_own w.heap.size 26 (fun _ => Value.pointer none)) _) (OwnFrom.and (Own.from (boxed_own Bl 3 (fun _ => Value.int .i64 leave)) _) (Own.from (boxed_own Ba 23 (fun _ => Value.pointer none)) _)))) (ownFrom_below (Nat.le_refl _) hD)

theorem ownP_block (B D : Nat) (o : Obj) (hD : D < B) : OwnFrom B (fun (_ : List (Nat × ByteArray)) W => W.heap[D]? = some o) := fun _ W _ _ hs hg hr =>
  (hg.block D (Array.getElem?_eq_some_iff.1 hs).1 (fun e => by have := (hr D e.symm).1; omega)).trans hs

theorem GN.set {w : World} {Bl Bq Ba Bn : Nat} {leave n : Int} {q : Bool} {W : World} (h : GN w Bl Bq Ba Bn leave n q W) (h0 : Ba ≠ Bn) (h1 : Bl ≠ Bn) (h2 : Bq ≠ Bn) (h3 : w.heap.size ≠ Bn) (h4 : w.heap.size ≤ Bn) (nq : Nat) (n' : Int) :
    GN w Bl Bq Ba Bn leave n' q ((W.drewN nq).setCell ⟨Bn, 0, none⟩ (.int .i64 n')) := by
  obtain ⟨⟨⟨a1, a2⟩, a3, a4, a5⟩, hB⟩ := h
  have d5 : Boxed (W.drewN nq) Ba 23 (.pointer none) := a5
  have d1 : Boxed (W.drewN nq) Bn 3 (.int .i64 n) := a1
  have d2 : Boxed (W.drewN nq) Bq 4 (.bool q) := a2
  have d3 : Boxed (W.drewN nq) w.heap.size 26 (.pointer none) := a3
  have d4 : Boxed (W.drewN nq) Bl 3 (.int .i64 leave) := a4
  have hB2 : Below w.heap.size w (W.drewN nq) := ⟨hB.os, hB.tape, hB.output, hB.size, hB.block⟩
  exact ⟨⟨⟨d1.set _, d2.other h2 _⟩, d3.other h3 _, d4.other h1 _, d5.other h0 _⟩, hB2.setCell (p := ⟨Bn, 0, none⟩) h4 _⟩


set_option maxRecDepth 100000 in
set_option maxHeartbeats 2000000 in
theorem goes_no (w : World) (leave : Int) (hl1 : -9223372036854775808 ≤ leave) (hl2 : leave ≤ 9223372036854775807) :
    CallsIn Fence.wide 5 Try.prog 15 #[.pointer none, .pointer none, .int .i64 leave] w fun e w' => e = .returned (.bool true) ∧ Below w.heap.size w w' := by
  have hfn := eql_func
  refine callsIn_of_wp_marks Try.func15 rfl trivial ?_ rfl
  simp only [Try.ntmps15, List.size_toArray, List.length_cons, List.length_nil, Nat.reduceAdd, Nat.reduceSub, Array.replicate_succ, Array.replicate_zero, List.push_toArray, List.append_toArray, List.nil_append, List.cons_append]
  gi_wp2_with (refine ⟨trivial, ?_⟩; gi_at_call 21; refine CallsIn.mono (callsIn_wide.2 (all_any _ _)) ?_; rintro e w' ⟨rfl, rfl⟩)
  clear hfn
  obtain ⟨W0, hW0⟩ : ∃ W0, (((((w.alloc (.cells #[.pointer none] 26)).alloc (.cells #[.int .i64 leave] 3)).alloc (.cells #[.bool false] 4)).alloc (.cells #[.pointer none] 23)).alloc (.cells #[.int .i64 0] 3)) = W0 := ⟨_, rfl⟩
  have hsz : W0.heap.size = w.heap.size + 5 := by rw [← hW0]; simp
  have hB0 : Below w.heap.size w W0 := by
    rw [← hW0]; exact (((((Below.refl _ w).alloc (Nat.le_refl _) _).alloc (by simp) _).alloc (by simp; omega) _).alloc (by simp; omega) _).alloc (by simp; omega) _
  have b0 : Boxed W0 w.heap.size 26 (.pointer none) := by rw [← hW0]; exact ((((Boxed.new w 26 _).alloc _).alloc _).alloc _).alloc _
  have b1 : Boxed W0 (w.heap.size + 1) 3 (.int .i64 leave) := by
    rw [← hW0]; have := (((Boxed.new (w.alloc (.cells #[.pointer none] 26)) 3 (.int .i64 leave)).alloc (.cells #[.bool false] 4)).alloc (.cells #[.pointer none] 23)).alloc (.cells #[.int .i64 0] 3)
    simpa only [World.size_alloc] using this
  have b2 : Boxed W0 (w.heap.size + 1 + 1) 4 (.bool false) := by
    rw [← hW0]; have := ((Boxed.new ((w.alloc (.cells #[.pointer none] 26)).alloc (.cells #[.int .i64 leave] 3)) 4 (.bool false)).alloc (.cells #[.pointer none] 23)).alloc (.cells #[.int .i64 0] 3)
    simpa only [World.size_alloc] using this
  have b3 : Boxed W0 (w.heap.size + 1 + 1 + 1) 23 (.pointer none) := by
    rw [← hW0]; have := (Boxed.new (((w.alloc (.cells #[.pointer none] 26)).alloc (.cells #[.int .i64 leave] 3)).alloc (.cells #[.bool false] 4)) 23 (.pointer none)).alloc (.cells #[.int .i64 0] 3)
    simpa only [World.size_alloc] using this
  have b4 : Boxed W0 (w.heap.size + 1 + 1 + 1 + 1) 3 (.int .i64 0) := by
    rw [← hW0]; have := Boxed.new ((((w.alloc (.cells #[.pointer none] 26)).alloc (.cells #[.int .i64 leave] 3)).alloc (.cells #[.bool false] 4)).alloc (.cells #[.pointer none] 23)) 3 (.int .i64 0)
    simpa only [World.size_alloc] using this
  rw [hW0]
  clear hW0
  obtain ⟨Bn, hBn⟩ : ∃ Bn, w.heap.size + 1 + 1 + 1 + 1 = Bn := ⟨_, rfl⟩
  rw [hBn] at b4 ⊢
  obtain ⟨Ba, hBa⟩ : ∃ Ba, w.heap.size + 1 + 1 + 1 = Ba := ⟨_, rfl⟩
  rw [hBa] at b3 ⊢
  obtain ⟨Bq, hBq⟩ : ∃ Bq, w.heap.size + 1 + 1 = Bq := ⟨_, rfl⟩
  rw [hBq] at b2 ⊢
  obtain ⟨Bl, hBl⟩ : ∃ Bl, w.heap.size + 1 = Bl := ⟨_, rfl⟩
  rw [hBl] at b1 ⊢
  have hBs : Hid (Bl = w.heap.size + 1 ∧ Bq = w.heap.size + 2 ∧ Ba = w.heap.size + 3 ∧ Bn = w.heap.size + 4) := ⟨by omega, by omega, by omega, by omega⟩
  clear hBn hBa hBq hBl
  refine wpIn_rangeFunc_ownH (α := Nat × ByteArray) rfl (by decide) (gf := 45) (lb := #[.pointer (some ⟨Ba, 0, none⟩)]) rfl trivial (enters_of Try.func45 (by kernel_rfl) rfl)
    (none_stops (5 - 1) Ba (by decide) none W0 b3.cell (fun W _ => made_nil W)) belowK_t (belowK_b (Nat.zero_le _)) (Below.refl _ _) (fun _ => rfl)
    (fun _ W => GN w Bl Bq Ba Bn leave 0 false W) (fun _ _ _ => False)
    (gn_own w Bl Bq Ba Bn leave (fun _ => 0) false _ (by omega)) (fun _ _ _ _ _ hs _ _ => hs)
    ⟨⟨⟨b4, b2⟩, b0, b1, b3⟩, hB0⟩ (fun _ _ _ => True) (fun _ _ _ _ _ _ _ _ _ => trivial) ?assign ?body ?done ?stop
  case assign =>
    intro l pre x W K hI hK
    gi_wp2
    exact hK _ _ (KeepsFrom.refl _ _) (Below.refl _ _) hI trivial
  case body =>
    intro l pre x a' W _ _ _ _ hlt
    exact absurd hlt (Nat.not_lt_zero _)
  case stop =>
    rintro D c pre W _ _ h _
    exact h.elim
  case done =>
    rintro D ys W hD rfl hG hK
    have hrlen : ∀ q, Calls Try.prog 14 #[.pointer none] (W.drewN q) fun e w' => e = .returned (.int .i64 0) ∧ w' = W.drewN q := fun q => rlen_no _
    have cn := hG.1.1.1.cell
    have fn := hG.1.1.1.frozen
    have cr := hG.1.2.1.cell
    have cl := hG.1.2.2.1.cell
    have HG : Hid (GN w Bl Bq Ba Bn leave 0 false W ∧ W.heap[D]? = some (.deferred (some []))) := ⟨hG, hK⟩
    have hfw : ∀ f, Fence.wide.fn f := fun _ => trivial
    clear hG hK b0 b1 b2 b3 b4 hB0
    by_cases hc1 : 0 < leave
    · have g1 : decide (0 < leave) = true := by simpa using hc1
      have g2 : ((0 : Int) != min leave 0) = false := by simp; omega
      have g3 : decide (leave ≤ 0) = false := by simp; omega
      gi_wp2
      gi_big_quiet_th (first | (gi_at_call 14; refine CallsIn.quiet_of_same (callsIn_wide.2 (hrlen _))))
      clear cr cl hrlen g1 g2 g3 hc1
      gi_wp2
      obtain ⟨W1, hW1⟩ : ∃ W1, (W.drewN nq).setCell ⟨Bn, 0, none⟩ (.int .i64 0) = W1 := ⟨_, rfl⟩
      have hG1 : GN w Bl Bq Ba Bn leave 0 false W1 := by
        obtain ⟨e1, e2, e3, e4⟩ := hBs.out
        rw [← hW1]; exact HG.out.1.set (by omega) (by omega) (by omega) (by omega) (by omega) nq 0
      have hK1 : W1.heap[D]? = some (.deferred (some [])) := by
        rw [← hW1]; exact (KeepsOthers.setCell (W.drewN nq) ⟨Bn, 0, none⟩ (.int .i64 0)).same D _ HG.out.2 rfl
      rw [hW1]
      clear hW1 HG cn fn
      have hDl : D < W1.heap.size := (Array.getElem?_eq_some_iff.1 hK1).1
      have hs1 := hG1.2.size
      refine wpIn_rangeFunc_ownH (α := Nat × ByteArray) rfl (by decide) (gf := 45) (lb := #[.pointer (some ⟨Ba, 0, none⟩)]) rfl trivial (enters_of Try.func45 (by kernel_rfl) rfl)
        (none_stops (5 - 1) Ba (by decide) none W1 hG1.1.2.2.2.cell (fun W _ => made_nil W)) belowK_t (belowK_b (Nat.zero_le _)) (Below.refl _ _) (fun _ => rfl)
        (fun _ W => GN w Bl Bq Ba Bn leave 0 false W ∧ W.heap[D]? = some (.deferred (some []))) (fun _ _ _ => False)
        (OwnFrom.and (gn_own w Bl Bq Ba Bn leave (fun _ => 0) false _ (by omega)) (ownP_block _ D _ hDl))
        (fun _ _ _ _ _ hs _ _ => hs)
        ⟨hG1, hK1⟩ (fun _ _ _ => True) (fun _ _ _ _ _ _ _ _ _ => trivial) ?assign2 ?body2 ?done2 ?stop2
      case assign2 =>
        intro l pre x W K hI hK
        gi_wp2
        exact hK _ _ (KeepsFrom.refl _ _) (Below.refl _ _) hI trivial
      case body2 =>
        intro l pre x a' W _ _ _ _ hlt
        exact absurd hlt (Nat.not_lt_zero _)
      case stop2 =>
        rintro _ _ _ _ _ _ h _
        exact h.elim
      case done2 =>
        rintro D2 ys W2 hD2 rfl ⟨hG2, hK2⟩ hK3
        have hrlen : Calls Try.prog 14 #[.pointer none] W2.drew fun e w' => e = .returned (.int .i64 0) ∧ w' = W2.drew := rlen_no _
        have cn := hG2.1.1.1.cell
        have cq := hG2.1.1.2.cell
        have fq := hG2.1.1.2.frozen
        have cr := hG2.1.2.1.cell
        have HG2 : Hid (GN w Bl Bq Ba Bn leave 0 false W2 ∧ W2.heap[D]? = some (.deferred (some [])) ∧ W2.heap[D2]? = some (.deferred (some []))) := ⟨hG2, hK2, hK3⟩
        clear hG2 hK2 hK3 hG1 hK1
        gi_wp2
        refine wp_plainly ?_
        gi_region_with (gi_at_call 14; refine CallsIn.mono (callsIn_wide.2 hrlen) ?_; rintro e w' ⟨rfl, rfl⟩)
        all_goals dsimp only [plainly]
        all_goals gi_wp2
        all_goals
          have hfin := gi_end (W2.setCell ⟨Bq, 0, none⟩ (.bool true)).drew D D2 Bq w ((KeepsOthers.setCell W2 ⟨Bq, 0, none⟩ (.bool true)).same D _ HG2.out.2.1 rfl) ((KeepsOthers.setCell W2 ⟨Bq, 0, none⟩ (.bool true)).same D2 _ HG2.out.2.2 rfl) (by omega) (World.cell?_setCell_same' W2 ⟨Bq, 0, none⟩ (.bool true) (by rw [cq]; rfl)) ((HG2.out.1.2.setCell (p := ⟨Bq, 0, none⟩) (by have h9 := hBs.out; show w.heap.size ≤ Bq; omega) _).drew) (by omega) (by omega)
          obtain ⟨h1, h2, h3, h4⟩ := hfin
          refine ⟨by simp, .inl ⟨_, _, rfl, run_takeDeferred h1, ⟨by simp, .inl ⟨_, _, rfl, run_takeDeferred h2, ?_⟩⟩⟩⟩
          refine ⟨.bool true, ?_, rfl, h4⟩
          simp [results, Try.results15, go_sem, h3]
    · have g1 : decide (0 < leave) = false := by simpa using hc1
      have g3 : decide (leave ≤ 0) = true := by simp; omega
      gi_wp2
      gi_big_quiet_th (first | (gi_at_call 14; refine CallsIn.quiet_of_same (callsIn_wide.2 (hrlen _))))
      clear cr cl hrlen g1 g3 hc1
      gi_wp2
      obtain ⟨W1, hW1⟩ : ∃ W1, (W.drewN nq).setCell ⟨Bn, 0, none⟩ (.int .i64 0) = W1 := ⟨_, rfl⟩
      have hG1 : GN w Bl Bq Ba Bn leave 0 false W1 := by
        obtain ⟨e1, e2, e3, e4⟩ := hBs.out
        rw [← hW1]; exact HG.out.1.set (by omega) (by omega) (by omega) (by omega) (by omega) nq 0
      have hK1 : W1.heap[D]? = some (.deferred (some [])) := by
        rw [← hW1]; exact (KeepsOthers.setCell (W.drewN nq) ⟨Bn, 0, none⟩ (.int .i64 0)).same D _ HG.out.2 rfl
      rw [hW1]
      clear hW1 HG cn fn
      have hDl : D < W1.heap.size := (Array.getElem?_eq_some_iff.1 hK1).1
      have hs1 := hG1.2.size
      refine wpIn_rangeFunc_ownH (α := Nat × ByteArray) rfl (by decide) (gf := 45) (lb := #[.pointer (some ⟨Ba, 0, none⟩)]) rfl trivial (enters_of Try.func45 (by kernel_rfl) rfl)
        (none_stops (5 - 1) Ba (by decide) none W1 hG1.1.2.2.2.cell (fun W _ => made_nil W)) belowK_t (belowK_b (Nat.zero_le _)) (Below.refl _ _) (fun _ => rfl)
        (fun _ W => GN w Bl Bq Ba Bn leave 0 false W ∧ W.heap[D]? = some (.deferred (some []))) (fun _ _ _ => False)
        (OwnFrom.and (gn_own w Bl Bq Ba Bn leave (fun _ => 0) false _ (by omega)) (ownP_block _ D _ hDl))
        (fun _ _ _ _ _ hs _ _ => hs)
        ⟨hG1, hK1⟩ (fun _ _ _ => True) (fun _ _ _ _ _ _ _ _ _ => trivial) ?assign2 ?body2 ?done2 ?stop2
      case assign2 =>
        intro l pre x W K hI hK
        gi_wp2
        exact hK _ _ (KeepsFrom.refl _ _) (Below.refl _ _) hI trivial
      case body2 =>
        intro l pre x a' W _ _ _ _ hlt
        exact absurd hlt (Nat.not_lt_zero _)
      case stop2 =>
        rintro _ _ _ _ _ _ h _
        exact h.elim
      case done2 =>
        rintro D2 ys W2 hD2 rfl ⟨hG2, hK2⟩ hK3
        have hrlen : Calls Try.prog 14 #[.pointer none] W2.drew fun e w' => e = .returned (.int .i64 0) ∧ w' = W2.drew := rlen_no _
        have cn := hG2.1.1.1.cell
        have cq := hG2.1.1.2.cell
        have fq := hG2.1.1.2.frozen
        have cr := hG2.1.2.1.cell
        have HG2 : Hid (GN w Bl Bq Ba Bn leave 0 false W2 ∧ W2.heap[D]? = some (.deferred (some [])) ∧ W2.heap[D2]? = some (.deferred (some []))) := ⟨hG2, hK2, hK3⟩
        clear hG2 hK2 hK3 hG1 hK1
        gi_wp2
        refine wp_plainly ?_
        gi_region_with (gi_at_call 14; refine CallsIn.mono (callsIn_wide.2 hrlen) ?_; rintro e w' ⟨rfl, rfl⟩)
        all_goals dsimp only [plainly]
        all_goals gi_wp2
        all_goals
          have hfin := gi_end (W2.setCell ⟨Bq, 0, none⟩ (.bool true)).drew D D2 Bq w ((KeepsOthers.setCell W2 ⟨Bq, 0, none⟩ (.bool true)).same D _ HG2.out.2.1 rfl) ((KeepsOthers.setCell W2 ⟨Bq, 0, none⟩ (.bool true)).same D2 _ HG2.out.2.2 rfl) (by omega) (World.cell?_setCell_same' W2 ⟨Bq, 0, none⟩ (.bool true) (by rw [cq]; rfl)) ((HG2.out.1.2.setCell (p := ⟨Bq, 0, none⟩) (by have h9 := hBs.out; show w.heap.size ≤ Bq; omega) _).drew) (by omega) (by omega)
          obtain ⟨h1, h2, h3, h4⟩ := hfin
          refine ⟨by simp, .inl ⟨_, _, rfl, run_takeDeferred h1, ⟨by simp, .inl ⟨_, _, rfl, run_takeDeferred h2, ?_⟩⟩⟩⟩
          refine ⟨.bool true, ?_, rfl, h4⟩
          simp [results, Try.results15, go_sem, h3]

end Go.Proofs.Ytdmopioiaaecfaa
