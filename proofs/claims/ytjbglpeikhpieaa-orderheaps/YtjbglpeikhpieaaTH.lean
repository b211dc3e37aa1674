/- The document's heap: a list in the order of putting in. -/
import Derived.Test.YtjbglpeikhpieaaTB
import Derived.Deep.RegionLaw
namespace Go.Proofs.Ytjbglpeikhpieaa
open Go.RowKit Go.Maps Go.Sort

/-- At block rb lies the document's heap of L. -/
structure RHp (w : World) (rb : Nat) (v : Value) (L : List (Int × Int)) : Prop where
  box : w.heap[rb]? = some (.cells #[v] 56 (0, 0))
  row : OwnT 0 w v L
  two : v.ownBlock ≠ some rb
/-- Its blocks. -/
def rfoot (rb : Nat) (v : Value) (k : Nat) : Prop := k = rb ∨ v.ownBlock = some k
section
variable {w w' : World} {rb : Nat} {v : Value} {L : List (Int × Int)}
theorem RHp.c0 (h : RHp w rb v L) : w.cell? ⟨rb, 0, none⟩ = some v := by simp [World.cell?, h.box]
theorem RHp.free (h : RHp w rb v L) (k : Nat) : w.frozen? ⟨rb, k, none⟩ = false := by simp [World.frozen?, h.box]
theorem RHp.lt (h : RHp w rb v L) (k : Nat) (hk : rfoot rb v k) : k < w.heap.size := by
  rcases hk with rfl | hk
  · exact (Array.getElem?_eq_some_iff.1 h.box).1
  · exact (h.row.lt k hk).2
theorem RHp.turn {S : Nat → Prop} (h : RHp w rb v L) (ht : Turn S w w') (hn : ∀ k, rfoot rb v k → ¬ S k) : RHp w' rb v L :=
  ⟨ht.heap h.box (hn rb (.inl rfl)), h.row.turn ht (fun k hk => hn k (.inr hk)), h.two⟩
theorem RHp.stay (h : RHp w rb v L) (hs : Stay w w') : RHp w' rb v L := h.turn (S := fun _ => False) (Turn.of_stay hs) (fun _ _ => id)

/-- b is the place of the first least one of the first k. -/
def Best (L : List (Int × Int)) (k b : Nat) : Prop := b < k ∧ b < L.length ∧ (∀ j (h : j < L.length) (hb : b < L.length), j < k → L[b].1 ≤ L[j].1) ∧ (∀ j (h : j < L.length) (hb : b < L.length), j < b → L[b].1 < L[j].1)
theorem best_one {L : List (Int × Int)} (h : 0 < L.length) : Best L 1 0 := by
  refine ⟨by omega, h, fun j hj _ h1 => ?_, fun j _ _ h1 => by omega⟩
  obtain rfl : j = 0 := by omega
  exact Int.le_refl _
theorem best_keep {L : List (Int × Int)} {k b : Nat} (h : Best L k b) (hk : k < L.length) (hn : ¬ L[k].1 < (L[b]'h.2.1).1) : Best L (k + 1) b := by
  refine ⟨by have := h.1; omega, h.2.1, fun j hj hb hjk => ?_, h.2.2.2⟩
  by_cases e : j = k
  · subst e; omega
  · exact h.2.2.1 j hj hb (by omega)
theorem best_new {L : List (Int × Int)} {k b : Nat} (h : Best L k b) (hk : k < L.length) (hn : L[k].1 < (L[b]'h.2.1).1) : Best L (k + 1) k := by
  refine ⟨by omega, hk, fun j hj _ hjk => ?_, fun j hj _ hjk => ?_⟩
  · by_cases e : j = k
    · subst e; exact Int.le_refl _
    · have := h.2.2.1 j hj h.2.1 (by omega); omega
  · have := h.2.2.1 j hj h.2.1 (by omega); omega

theorem first_none (h : RHp w rb v []) : Calls Try.prog 83 #[.pointer (some ⟨rb, 0, none⟩)] w fun e w' => e = .returned (.int .i64 (-1)) ∧ w' = w := by
  have c0 := h.c0
  obtain ⟨a, b, c, rfl, _, _, _, _⟩ := h.row.form
  clear h
  go_enter Try.func83, Try.ntmps83
  go_wp2
  refine wp_loop_rounds 1 ?_
  rw [rounds_succ]
  go_wp2
  go_ret
  exact ⟨rfl, rfl⟩

set_option maxRecDepth 100000 in
set_option maxHeartbeats 2000000 in
theorem first_some (h : RHp w rb v L) (hl : 0 < L.length) (hl2 : L.length ≤ 1152921504606846976) : Calls Try.prog 83 #[.pointer (some ⟨rb, 0, none⟩)] w fun e w' => ∃ b : Nat, e = .returned (.int .i64 (b : Int)) ∧ Best L L.length b ∧ Stay w w' := by
  obtain ⟨a, b0, c, rfl, hT, _, _, _⟩ := h.row.form
  obtain rfl := hT.1 hl
  have HH : Hid (RHp w rb (.slice (some ⟨b0, 0, none⟩) L.length c) L ∧ ThS w (some ⟨b0, 0, none⟩) b0 0 L) := ⟨h, hT⟩
  clear h hT
  go_enter Try.func83, Try.ntmps83
  go_wp2
  go_loopw [3, 4] (fun vb vi wr => ∃ k : Nat, k ≤ L.length ∧ vi = .int .i64 k ∧ (k = 0 ∧ vb = .int .i64 (-1) ∨ ∃ b : Nat, vb = .int .i64 (b : Int) ∧ Best L k b) ∧ Stay w wr) (fun _ vi _ => L.length - (intOf vi).toNat)
  case atStart => exact ⟨0, Nat.zero_le _, rfl, .inl ⟨rfl, rfl⟩, Stay.refl _⟩
  case round =>
    obtain ⟨k, hk, rfl, hb, hst⟩ := hrel
    have c0 := (HH.out.1.stay hst).c0
    have HW : Hid (Stay w wr) := hst
    by_cases hlt : k < L.length
    · have hi1 : (k : Int) < (L.length : Int) := by omega
      have hck := ((HH.out.2.stay hst).2 k hlt).1
      rw [Nat.zero_add] at hck
      rcases hb with ⟨rfl, rfl⟩ | ⟨b, rfl, hB⟩
      · clear hst hck
        go_wp2_with fail
        go_quiet (fail)
        go_wp2
        go_roundw
        case rel => exact ⟨1, by omega, rfl, .inr ⟨0, rfl, best_one hl⟩, HW.out.trans (Stay.drewN _ _)⟩
        case measure => simp [intOf]; omega
      · have hcb := ((HH.out.2.stay hst).2 b hB.2.1).1
        rw [Nat.zero_add] at hcb
        have lb : (b : Int) < (L.length : Int) := by have := hB.2.1; omega
        have nb : ¬ (b : Int) < 0 := by omega
        have HB : Hid (∀ x y, x = L[k].1 → y = (L[b]'hB.2.1).1 → (x < y → Best L (k + 1) k) ∧ (¬ x < y → Best L (k + 1) b)) := by
          rintro x y rfl rfl
          exact ⟨fun h => best_new hB hlt h, fun h => best_keep hB hlt h⟩
        obtain ⟨x, hx⟩ : ∃ x, x = L[k].1 := ⟨_, rfl⟩
        obtain ⟨y, hy⟩ : ∃ y, y = (L[b]'hB.2.1).1 := ⟨_, rfl⟩
        rw [← hx] at hck
        rw [← hy] at hcb
        have HB2 : Hid ((x < y → Best L (k + 1) k) ∧ (¬ x < y → Best L (k + 1) b)) := HB.out x y hx hy
        clear hst hx hy HB hB
        by_cases e : x < y
        · go_wp2_with fail
          go_quiet (fail)
          go_wp2
          go_roundw
          case rel => exact ⟨k + 1, by omega, by go_num, .inr ⟨k, rfl, HB2.out.1 e⟩, HW.out.trans (Stay.drewN _ _)⟩
          case measure => simp [intOf]; omega
        · go_wp2_with fail
          go_quiet (fail)
          go_wp2
          go_roundw
          case rel => exact ⟨k + 1, by omega, by go_num, .inr ⟨b, rfl, HB2.out.2 (by omega)⟩, HW.out.trans (Stay.drewN _ _)⟩
          case measure => simp [intOf]; omega
    · have hi1 : ¬ (k : Int) < (L.length : Int) := by omega
      obtain rfl : k = L.length := by omega
      rcases hb with ⟨h0, _⟩ | ⟨b, rfl, hB⟩
      · omega
      · have HB : Hid (Best L L.length b) := hB
        clear hst hB
        go_wp2
        go_ret
        exact ⟨b, rfl, HB.out, HW.out⟩
end
end Go.Proofs.Ytjbglpeikhpieaa
