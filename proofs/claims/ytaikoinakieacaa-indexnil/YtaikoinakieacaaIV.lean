/- nothing, walked. -/
import Derived.Test.YtaikoinakieacaaIU
namespace Go.Proofs.Ytaikoinakieacaa.I
open Go.RowKit Go.Maps Go.Shelf Go.Proofs.Ytaikoinakieacaa
attribute [local go_sem] Oper.semAt_some

theorem eql_seq (g : Nat) (lb : Array Value) (w : World) : (binOp .eql 45 (.func (.func g) #[] lb) .nilFunc).run Try.prog w = .ok (.bool false) w := by kernel_rfl

theorem own_block (B D : Nat) (o : Obj) (hD : D < B) : OwnFrom B (fun (_ : List (Int × Int)) W => W.heap[D]? = some o) := fun _ W _ _ hs hg hr =>
  (hg.block D (Array.getElem?_eq_some_iff.1 hs).1 (fun e => by have := (hr D e.symm).1; omega)).trans hs

theorem Turn.putObj (W : World) (D : Nat) (o : Obj) : Turn (fun k => k = D) W (W.putObj D o) := by
  have h := grownBy_putObj' W D o
  exact ⟨h.os, h.tape, h.output, h.size, fun k hk hn => h.block k hk (fun e => hn (by cases e; rfl))⟩

/-- The end of a function with two loops over functions. -/
theorem gi_end (W : World) (D D2 Bq : Nat) (w : World) (h1 : W.heap[D]? = some (.deferred (some []))) (h2 : W.heap[D2]? = some (.deferred (some []))) (hne : D ≠ D2) {v : Value} (hc : W.cell? ⟨Bq, 0, none⟩ = some v) (hB : Stay w W) (hd : w.heap.size ≤ D) (hd2 : w.heap.size ≤ D2) :
    W.heap[D2]? = some (.deferred (some [])) ∧ (W.putObj D2 (.deferred none)).heap[D]? = some (.deferred (some [])) ∧ ((W.putObj D2 (.deferred none)).putObj D (.deferred none)).cell? ⟨Bq, 0, none⟩ = some v ∧ Stay w ((W.putObj D2 (.deferred none)).putObj D (.deferred none)) := by
  have t1 := Turn.putObj W D2 (.deferred none)
  have t2 := Turn.putObj (W.putObj D2 (.deferred none)) D (.deferred none)
  have k1 : (W.putObj D2 (.deferred none)).heap[D]? = some (.deferred (some [])) := (t1.block D (Array.getElem?_eq_some_iff.1 h1).1 hne).trans h1
  have hb1 : Bq ≠ D2 := fun e => by subst e; simp [World.cell?, h2] at hc
  have hb2 : Bq ≠ D := fun e => by subst e; simp [World.cell?, h1] at hc
  refine ⟨h2, k1, t2.cell (t1.cell hc hb1) hb2, ?_⟩
  exact t2.stay (t1.stay hB (fun k hk e => by omega)) (fun k hk e => by omega)

set_option maxRecDepth 100000 in
set_option maxHeartbeats 4000000 in
theorem nothing_any (w : World) (p : Option Addr) (k v : Int) (h : ∀ W, Stay w W → NoTab (.pointer p) W) :
    CallsIn Fence.wide 5 Try.prog 35 #[.pointer p, .int .i64 k, .int .i64 v] w fun e w' => e = .returned (.bool true) ∧ Stay w w' := by
  have hB1 : Stay w (w.alloc (.cells #[.bool false] 4)) := Stay.new w _
  have h1 := put_not k v (h _ hB1)
  have h2 := get_not k (h _ hB1)
  have h3 := take_not k (h _ hB1)
  have h4 := place_not k (h _ hB1)
  have hfn := eql_seq
  have H : Hid (∀ W, Stay w W → NoTab (.pointer p) W) := h
  clear h hB1
  refine callsIn_of_wp_marks Try.func35 rfl trivial ?_ rfl
  simp only [Try.ntmps35, List.size_toArray, List.length_cons, List.length_nil, Nat.reduceAdd, Nat.reduceSub, Array.replicate_succ, Array.replicate_zero, List.push_toArray, List.append_toArray, List.nil_append, List.cons_append]
  gi_wp2_with (first | (refine ⟨trivial, ?_⟩; gi_at_call 22; refine CallsIn.mono (callsIn_wide.2 h1) ?_; rintro e w' ⟨rfl, rfl⟩) | (refine ⟨trivial, ?_⟩; gi_at_call 34; refine CallsIn.mono (callsIn_wide.2 h2) ?_; rintro e w' ⟨rfl, rfl⟩) | (refine ⟨trivial, ?_⟩; gi_at_call 31; refine CallsIn.mono (callsIn_wide.2 h3) ?_; rintro e w' ⟨rfl, rfl⟩) | (refine ⟨trivial, ?_⟩; gi_at_call 32; refine CallsIn.mono (callsIn_wide.2 h4) ?_; rintro e w' ⟨rfl, rfl⟩) | (refine ⟨trivial, ?_⟩; gi_at_call 15; refine CallsIn.mono (callsIn_wide.2 (all_any _ _)) ?_; rintro e w' ⟨rfl, rfl⟩) | (refine ⟨trivial, ?_⟩; gi_at_call 17; refine CallsIn.mono (callsIn_wide.2 (layout_any _ _)) ?_; rintro e w' ⟨rfl, rfl⟩))
  clear h1 h2 h3 h4 hfn
  have b1 : Boxed (((w.alloc (.cells #[.bool false] 4)).alloc (.cells #[.pointer p] 24)).alloc (.cells #[.pointer p] 24)) w.heap.size 4 (.bool false) := ((Boxed.new w 4 (.bool false)).alloc _).alloc _
  have b2 := (Boxed.new (w.alloc (.cells #[.bool false] 4)) 24 (.pointer p)).alloc (.cells #[.pointer p] 24)
  have b3 := Boxed.new ((w.alloc (.cells #[.bool false] 4)).alloc (.cells #[.pointer p] 24)) 24 (.pointer p)
  rw [World.size_alloc] at b2
  rw [World.size_alloc, World.size_alloc] at b3
  have hB0 : Stay w (((w.alloc (.cells #[.bool false] 4)).alloc (.cells #[.pointer p] 24)).alloc (.cells #[.pointer p] 24)) := ((Stay.new w _).alloc _).alloc _
  have hsz : (((w.alloc (.cells #[.bool false] 4)).alloc (.cells #[.pointer p] 24)).alloc (.cells #[.pointer p] 24)).heap.size = w.heap.size + 3 := by simp
  generalize (((w.alloc (.cells #[.bool false] 4)).alloc (.cells #[.pointer p] 24)).alloc (.cells #[.pointer p] 24)) = W0 at b1 b2 b3 hB0 hsz ⊢
  refine wpIn_rangeFunc_ownH (α := Int × Int) rfl (by decide) (gf := 47) (lb := #[.pointer (some ⟨w.heap.size + 1, 0, none⟩)]) rfl trivial (enters_of Try.func47 (by kernel_rfl) rfl)
    (all_none_stops (5 - 1) (w.heap.size + 1) (by decide) p W0 b2.cell (fun W hW => H.out W (hB0.trans hW))) belowK_t (belowK_b (Nat.zero_le _)) (Below.refl _ _) (fun _ => rfl)
    (fun _ W => (Boxed W w.heap.size 4 (.bool false) ∧ Boxed W (w.heap.size + 1 + 1) 24 (.pointer p)) ∧ Below w.heap.size w W) (fun _ _ _ => False)
    (OwnFrom.and (OwnFrom.and (Own.from (boxed_own w.heap.size 4 (fun _ => Value.bool false)) _) (Own.from (boxed_own (w.heap.size + 1 + 1) 24 (fun _ => Value.pointer p)) _)) (ownFrom_below (Nat.le_refl _) (by omega)))
    (fun _ _ _ _ _ hs _ _ => hs)
    ⟨⟨b1, b3⟩, hB0⟩ (fun _ _ _ => True) (fun _ _ _ _ _ _ _ _ _ => trivial) ?assign ?body ?done ?stop
  case assign =>
    intro l pre x W K hI hK
    gi_wp2
    exact hK _ _ (KeepsFrom.refl _ _) (Below.refl _ _) hI trivial
  case body =>
    intro l pre x a' W _ _ _ _ hlt
    exact absurd hlt (Nat.not_lt_zero _)
  case stop =>
    rintro D c pre W _ _ h _
    exact h.elim
  case done =>
    rintro D ys W hD rfl ⟨⟨c1, c3⟩, hB⟩ hK
    clear b1 b2 b3 hB0
    have hDl : D < W.heap.size := (Array.getElem?_eq_some_iff.1 hK).1
    have hws := hB.size
    gi_wp2
    refine wpIn_rangeFunc_ownH (α := Int × Int) rfl (by decide) (gf := 49) (lb := #[.pointer (some ⟨w.heap.size + 1 + 1, 0, none⟩)]) rfl trivial (enters_of Try.func49 (by kernel_rfl) rfl)
      (lay_none_stops (5 - 1) (w.heap.size + 1 + 1) (by decide) p W c3.cell (fun W' hW => H.out W' (Stay.trans hB hW))) belowK_t (belowK_b (Nat.zero_le _)) (Below.refl _ _) (fun _ => rfl)
      (fun _ W' => (Boxed W' w.heap.size 4 (.bool false) ∧ W'.heap[D]? = some (.deferred (some []))) ∧ Below w.heap.size w W') (fun _ _ _ => False)
      (OwnFrom.and (OwnFrom.and (Own.from (boxed_own w.heap.size 4 (fun _ => Value.bool false)) _) (own_block _ D _ hDl)) (ownFrom_below (Nat.le_refl _) (by omega)))
      (fun _ _ _ _ _ hs _ _ => hs)
      ⟨⟨c1, hK⟩, hB⟩ (fun _ _ _ => True) (fun _ _ _ _ _ _ _ _ _ => trivial) ?assign2 ?body2 ?done2 ?stop2
    case assign2 =>
      intro l pre x W K hI hK
      gi_wp2
      exact hK _ _ (KeepsFrom.refl _ _) (Below.refl _ _) hI trivial
    case body2 =>
      intro l pre x a' W _ _ _ _ hlt
      exact absurd hlt (Nat.not_lt_zero _)
    case stop2 =>
      rintro D c pre W _ _ h _
      exact h.elim
    case done2 =>
      rintro D2 ys W2 hD2 rfl ⟨⟨d1, hK1⟩, hB2⟩ hK2
      have hn := H.out W2 hB2
      have hl := len_not hn
      have hz := size_not hn
      have hpr := probes_not k hn
      have hcl := clone_not hn
      have cq := d1.cell
      have fq := d1.frozen
      have HK : Hid (Stay w W2 ∧ W2.heap[D]? = some (.deferred (some [])) ∧ W2.heap[D2]? = some (.deferred (some []))) := ⟨hB2, hK1, hK2⟩
      clear hB2 hK1 hK2 hn d1 c1 c3 hB hK
      gi_wp2_with (first | (refine ⟨trivial, ?_⟩; gi_at_call 19; refine CallsIn.mono (callsIn_wide.2 hl) ?_; rintro e w9 ⟨rfl, hw⟩; have hw' := hw.symm; subst hw') | (refine ⟨trivial, ?_⟩; gi_at_call 20; refine CallsIn.mono (callsIn_wide.2 hz) ?_; rintro e w9 ⟨rfl, hw⟩; have hw' := hw.symm; subst hw') | (refine ⟨trivial, ?_⟩; gi_at_call 33; refine CallsIn.mono (callsIn_wide.2 hpr) ?_; rintro e w9 ⟨rfl, hw⟩; have hw' := hw.symm; subst hw') | (refine ⟨trivial, ?_⟩; gi_at_call 46; refine CallsIn.mono (callsIn_wide.2 hcl) ?_; rintro e w9 ⟨rfl, hw⟩; have hw' := hw.symm; subst hw'))
      have hfin := gi_end (W2.setCell ⟨w.heap.size, 0, none⟩ (.bool true)) D D2 w.heap.size w ((KeepsOthers.setCell W2 ⟨w.heap.size, 0, none⟩ (.bool true)).same D _ HK.out.2.1 rfl) ((KeepsOthers.setCell W2 ⟨w.heap.size, 0, none⟩ (.bool true)).same D2 _ HK.out.2.2 rfl) (by omega) (World.cell?_setCell_same' W2 ⟨w.heap.size, 0, none⟩ (.bool true) (by rw [cq]; rfl)) (Below.setCell HK.out.1 (p := ⟨w.heap.size, 0, none⟩) (Nat.le_refl _) _) (by omega) (by omega)
      obtain ⟨h1, h2, h3, h4⟩ := hfin
      refine ⟨by simp, .inl ⟨_, _, rfl, run_takeDeferred h1, ⟨by simp, .inl ⟨_, _, rfl, run_takeDeferred h2, ?_⟩⟩⟩⟩
      refine ⟨.bool true, ?_, rfl, h4⟩
      simp [results, Try.results35, go_sem, h3]
end Go.Proofs.Ytaikoinakieacaa.I
