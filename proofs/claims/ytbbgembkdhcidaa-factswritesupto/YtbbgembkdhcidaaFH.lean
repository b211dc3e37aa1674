/- What is done with each constant of a line; cut. -/
import Derived.Test.YtbbgembkdhcidaaFW
namespace Go.Proofs.Ytbbgembkdhcidaa
open Go.RowKit Go.Maps

/-- Box bx holds the list of what was taken; else nothing but the room has turned since w. -/
def CutJ (w : World) (rb bx : Nat) (cs : List (List UInt8)) (A : World) : Prop :=
  ∃ v, Boxed A bx 39 v ∧ OwnS w.heap.size A v (cs.map toB) ∧ Turn (fun k => k = rb) w A
theorem CutJ.turn {w A A' : World} {rb bx : Nat} {cs : List (List UInt8)} (hrb : rb < w.heap.size) (hbx : w.heap.size ≤ bx) (h : CutJ w rb bx cs A) (ht : Turn (fun k => k = rb) A A') : CutJ w rb bx cs A' := by
  obtain ⟨v, hb, ho, hw⟩ := h
  exact ⟨v, ht.heap hb (by omega), ho.turn ht (fun k hk e => by have := (ho.lt k hk).1; omega), hw.trans ht⟩

set_option maxRecDepth 100000 in
set_option maxHeartbeats 2000000 in
theorem tup1_any {w A : World} {rb cap bx : Nat} {c : List UInt8} {cs : List (List UInt8)} (hrb : rb < w.heap.size) (hbx : w.heap.size ≤ bx) (hlen : (cs.length + 1) * 16 ≤ 140737488355328) (hj : CutJ w rb bx cs A) (hR : Rm A rb cap c) :
    Calls Try.prog 62 #[.slice (some ⟨rb, 0, none⟩) c.length cap, .pointer (some ⟨bx, 0, none⟩)] A fun e A' => e = .returned (.tuple #[]) ∧ CutJ w rb bx (cs ++ [c]) A' ∧ Rm A' rb cap c := by
  obtain ⟨v, hb, ho, ht⟩ := hj
  have hcell := hb.cell
  have hblt := hb.lt
  have hcv := hR.str
  have hsz := ht.size
  have hne := hb.not_row (by decide) ho
  obtain ⟨v', A', hap, ho', hg, hv1, hv2⟩ := (ho.stay (Stay.new A (.cells #[.string (toB c)] 9))).add 39 (strs_new A [toB c] 9) (c := 1) (fun e => by simp at e) (by rw [List.length_map, List.length_singleton]; exact hlen) (by simp; omega)
  rw [List.length_singleton] at hap
  have hbA : Boxed A' bx 39 v := (hb.alloc _).kept hg hne
  have hcA := hbA.cell
  have hfA := hbA.frozen
  obtain ⟨a1, n1, c1, rfl⟩ : ∃ a1 n1 c1, v' = .slice a1 n1 c1 := by
    rcases ho'.2 with ⟨e, _⟩ | ⟨g, cap, cur, e, _⟩ <;> exact ⟨_, _, _, e⟩
  have HT : Hid (Turn (fun k => k = bx ∨ v.ownBlock = some k) A (A'.setCell ⟨bx, 0, none⟩ (.slice a1 n1 c1))) :=
    Turn.set (((Turn.of_stay (Stay.new A _)).trans ((Turn.of_grown hg).mono (fun k _ e => .inr e)))) (.inl rfl) 0 _
  have hown : OwnS w.heap.size (A'.setCell ⟨bx, 0, none⟩ (.slice a1 n1 c1)) (.slice a1 n1 c1) ((cs ++ [c]).map toB) := by
    rw [List.map_append]
    refine ho'.turn (Turn.set (S := fun k => k = bx) (Turn.refl _ _) rfl 0 _) (fun k hk e => ?_)
    subst e
    rcases hv2 with e | e
    · exact hne (by rw [← e, hk])
    · rw [hk] at e
      have := Option.some.inj e
      simp at this
      omega
  have HJ : Hid (CutJ w rb bx (cs ++ [c]) (A'.setCell ⟨bx, 0, none⟩ (.slice a1 n1 c1)) ∧ Rm (A'.setCell ⟨bx, 0, none⟩ (.slice a1 n1 c1)) rb cap c) := by
    refine ⟨⟨_, hbA.set _, hown, ht.then HT.out (fun k hk h => ?_)⟩, hR.turn HT.out ?_⟩
    · rcases h with h | h
      · omega
      · have := (ho.lt k h).1; omega
    · rintro (h | h)
      · omega
      · have := (ho.lt rb h).1; omega
  clear ho' hown hv1 hv2 hg HT hR ho ht
  go_enter Try.func62, Try.ntmps62
  go_wp2_with (at_builtin; refine wpList_append_run rfl _ _ 39 39 rfl _ _ rfl rfl hap ?_)
  go_end0
  exact ⟨rfl, HJ.out⟩

end Go.Proofs.Ytbbgembkdhcidaa
