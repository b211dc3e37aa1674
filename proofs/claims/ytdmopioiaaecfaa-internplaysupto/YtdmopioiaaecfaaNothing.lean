/- nothing: a table that is not there answers as the document says. -/
import Derived.Test.YtdmopioiaaecfaaKnown
namespace Go.Proofs.Ytdmopioiaaecfaa
open Go.RowKit Go.Maps Go.Shelf
attribute [local go_sem] Oper.semAt_some

theorem eql_func (lb : Array Value) (w : World) : (binOp .eql 49 (.func (.func 45) #[] lb) .nilFunc).run Try.prog w = .ok (.bool false) w := by kernel_rfl

theorem notab_nil (W : World) : NoTab (.pointer none) W := made_nil W

set_option maxRecDepth 100000 in
set_option maxHeartbeats 2000000 in
theorem nothing_any (w : World) (p : Option Addr) (h : ∀ W, Below w.heap.size w W → NoTab (.pointer p) W) :
    CallsIn Fence.wide 5 Try.prog 32 #[.pointer p] w fun e w' => e = .returned (.bool true) ∧ Below w.heap.size w w' := by
  have hB1 : Below w.heap.size w (w.alloc (.cells #[.bool false] 4)) := (Below.refl _ _).alloc (Nat.le_refl _) _
  have hB2 : Below w.heap.size w ((w.alloc (.cells #[.bool false] 4)).alloc (.cells #[.string ⟨#[97]⟩, .string ⟨#[98]⟩] 9)) := hB1.alloc (by simp) _
  have h1 := put_no _ _ ⟨#[97]⟩ (h _ hB1)
  have h2 := fun l => putAll_no _ _ l (h _ hB2)
  have h3 := find_no _ _ ⟨#[97]⟩ (h _ hB2)
  have h4 := text_no _ _ 0 (h _ hB2)
  have h5 := fun l => texts_no _ _ l (h _ hB2)
  have h6 := fun a b => compare_no _ _ a b (h _ hB2)
  have hfn := eql_func
  have H : Hid (∀ W, Below w.heap.size w W → NoTab (.pointer p) W) := h
  clear h hB1 hB2
  refine callsIn_of_wp_marks Try.func32 rfl trivial ?_ rfl
  simp only [Try.ntmps32, List.size_toArray, List.length_cons, List.length_nil, Nat.reduceAdd, Nat.reduceSub, Array.replicate_succ, Array.replicate_zero, List.push_toArray, List.append_toArray, List.nil_append, List.cons_append]
  gi_wp2_with (first | (refine ⟨trivial, ?_⟩; gi_at_call 22; refine CallsIn.mono (callsIn_wide.2 h1) ?_; rintro e w' ⟨rfl, rfl⟩) | (refine ⟨trivial, ?_⟩; gi_at_call 18; refine CallsIn.mono (callsIn_wide.2 (h2 _)) ?_; rintro e w' ⟨rfl, rfl⟩) | (refine ⟨trivial, ?_⟩; gi_at_call 31; refine CallsIn.mono (callsIn_wide.2 h3) ?_; rintro e w' ⟨rfl, rfl⟩) | (refine ⟨trivial, ?_⟩; gi_at_call 30; refine CallsIn.mono (callsIn_wide.2 h4) ?_; rintro e w' ⟨rfl, rfl⟩) | (refine ⟨trivial, ?_⟩; gi_at_call 25; refine CallsIn.mono (callsIn_wide.2 (h5 _)) ?_; rintro e w' ⟨rfl, rfl⟩) | (refine ⟨trivial, ?_⟩; gi_at_call 40; refine CallsIn.mono (callsIn_wide.2 (h6 _ _)) ?_; rintro e w' ⟨rfl, rfl⟩) | (refine ⟨trivial, ?_⟩; gi_at_call 21; refine CallsIn.mono (callsIn_wide.2 (all_any _ _)) ?_; rintro e w' ⟨rfl, rfl⟩))
  clear h1 h2 h3 h4 h5 h6 hfn
  have b1 : Boxed (((w.alloc (.cells #[.bool false] 4)).alloc (.cells #[.string ⟨#[97]⟩, .string ⟨#[98]⟩] 9)).alloc (.cells #[.pointer p] 23)) w.heap.size 4 (.bool false) := ((Boxed.new w 4 (.bool false)).alloc _).alloc _
  have b3 := Boxed.new ((w.alloc (.cells #[.bool false] 4)).alloc (.cells #[.string ⟨#[97]⟩, .string ⟨#[98]⟩] 9)) 23 (.pointer p)
  rw [World.size_alloc, World.size_alloc] at b3
  have hB0 : Below w.heap.size w (((w.alloc (.cells #[.bool false] 4)).alloc (.cells #[.string ⟨#[97]⟩, .string ⟨#[98]⟩] 9)).alloc (.cells #[.pointer p] 23)) := (((Below.refl _ w).alloc (Nat.le_refl _) _).alloc (by simp) _).alloc (by simp; omega) _
  have hsz : (((w.alloc (.cells #[.bool false] 4)).alloc (.cells #[.string ⟨#[97]⟩, .string ⟨#[98]⟩] 9)).alloc (.cells #[.pointer p] 23)).heap.size = w.heap.size + 3 := by simp
  generalize (((w.alloc (.cells #[.bool false] 4)).alloc (.cells #[.string ⟨#[97]⟩, .string ⟨#[98]⟩] 9)).alloc (.cells #[.pointer p] 23)) = W0 at b1 b3 hB0 hsz ⊢
  refine wpIn_rangeFunc_ownH (α := Nat × ByteArray) rfl (by decide) (gf := 45) (lb := #[.pointer (some ⟨w.heap.size + 1 + 1, 0, none⟩)]) rfl trivial (enters_of Try.func45 (by kernel_rfl) rfl)
    (none_stops (5 - 1) (w.heap.size + 1 + 1) (by decide) p W0 b3.cell (fun W hW => H.out W (hB0.trans (hW.mono hB0.size)))) belowK_t (belowK_b (Nat.zero_le _)) (Below.refl _ _) (fun _ => rfl)
    (fun _ W => Boxed W w.heap.size 4 (.bool false) ∧ Below w.heap.size w W) (fun _ _ _ => False)
    (OwnFrom.and (Own.from (boxed_own w.heap.size 4 (fun _ => Value.bool false)) _) (ownFrom_below (Nat.le_refl _) (by omega)))
    (fun _ _ _ _ _ hs _ _ => hs)
    ⟨b1, hB0⟩ (fun _ _ _ => True) (fun _ _ _ _ _ _ _ _ _ => trivial) ?assign ?body ?done ?stop
  case assign =>
    intro l pre x W K hI hK
    gi_wp2
    exact hK _ _ (KeepsFrom.refl _ _) (Below.refl _ _) hI trivial
  case body =>
    intro l pre x a' W _ _ _ _ hlt
    exact absurd hlt (Nat.not_lt_zero _)
  case done =>
    rintro D ys W hD rfl ⟨hb1, hB⟩ hK
    have hn := H.out W hB
    have hl := len_no W _ hn
    have hr := ranks_no W _ hn
    have hs := rising_no W p (fun W' h' => H.out W' (hB.trans (h'.mono hB.size)))
    have HK : Hid (Below w.heap.size w W ∧ W.heap[D]? = some (.deferred (some [])) ∧ Boxed W w.heap.size 4 (.bool false)) := ⟨hB, hK, hb1⟩
    clear hB hK hb1 b1 b3 hB0 hn
    gi_wp2_with (first | (refine ⟨trivial, ?_⟩; gi_at_call 24; refine CallsIn.mono (callsIn_wide.2 (num_any _ _)) ?_; rintro e w' ⟨rfl, rfl⟩) | (refine ⟨trivial, ?_⟩; gi_at_call 13; refine CallsIn.mono (callsIn_wide.2 hl) ?_; rintro e w' ⟨rfl, rfl⟩) | (refine ⟨trivial, ?_⟩; gi_at_call 29; refine CallsIn.mono (callsIn_wide.2 hr) ?_; rintro e w' ⟨rfl, rfl⟩) | (refine ⟨trivial, ?_⟩; gi_at_call 28; refine CallsIn.mono (callsIn_wide.2 hs) ?_; rintro e W2 ⟨rfl, hbw⟩; have hcp := copy_no W2 _ (H.out W2 (HK.out.1.trans (hbw.mono HK.out.1.size))); have hbx : Boxed W2 w.heap.size 4 (.bool false) := (hbw.block _ (HK.out.2.2.lt)).trans HK.out.2.2; have hc2 := hbx.cell; have hf2 := hbx.frozen; have HW : Hid _ := hbw; have HX : Hid (Boxed W2 w.heap.size 4 (.bool false)) := hbx; clear hbw hbx hl hr hs) | (refine ⟨trivial, ?_⟩; gi_at_call 10; refine CallsIn.mono (callsIn_wide.2 hcp) ?_; rintro e w9 ⟨rfl, hw⟩; have hw' := hw.symm; subst hw'))
    have hKd : W2.heap[D]? = some (.deferred (some [])) := (HW.out.block D (Array.getElem?_eq_some_iff.1 HK.out.2.1).1).trans HK.out.2.1
    have hK' := (KeepsOthers.setCell W2 ⟨w.heap.size, 0, none⟩ (.bool true)).same D _ hKd rfl
    refine ⟨by simp, .inl ⟨_, _, rfl, run_takeDeferred hK', ?_⟩⟩
    have hc5 := cell_kept (World.cell?_setCell_same' W2 ⟨w.heap.size, 0, none⟩ (.bool true) (by rw [hc2]; rfl)) (grownBy_putObj' _ D (.deferred none)) (fun r e => by cases e; exact ⟨_, hK', rfl⟩)
    refine ⟨.bool true, ?_, rfl, ((HK.out.1.trans (HW.out.mono HK.out.1.size)).setCell (p := ⟨w.heap.size, 0, none⟩) (Nat.le_refl _) _).trans (belowK_b (w := w) (Nat.le_refl _) _ D _ _ (by omega) hK' rfl rfl)⟩
    simp [results, Try.results32, go_sem, hc5]
  case stop =>
    rintro D c pre W _ _ h _
    exact h.elim
end Go.Proofs.Ytdmopioiaaecfaa
