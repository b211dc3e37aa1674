/- The table of the document: its calls that read. -/
import Derived.Test.YtdmopioiaaecfaaLent
namespace Go.Proofs.Ytdmopioiaaecfaa
open Go.RowKit Go.Maps

/-- At block br lies the document's table with the texts ls. -/
structure RTab (w : World) (br : Nat) (sv : Value) (ls : List ByteArray) : Prop where
  box : w.heap[br]? = some (.cells #[sv] 29 (0, 0))
  row : w.ownsRow 0 9 1 sv ls.length (ls.map Value.string)
  nodup : ls.Nodup

def rfoot (br : Nat) (sv : Value) (k : Nat) : Prop := k = br ∨ sv.ownBlock = some k

section
variable {w w' : World} {br : Nat} {sv : Value} {ls : List ByteArray}

theorem RTab.lt (h : RTab w br sv ls) : ∀ k, rfoot br sv k → k < w.heap.size := by
  rintro k (rfl | e)
  · exact (Array.getElem?_eq_some_iff.1 h.box).1
  · exact (h.row.lt k e).2

theorem RTab.c0 (h : RTab w br sv ls) : w.cell? ⟨br, 0, none⟩ = some sv := by simp [World.cell?, h.box]
theorem RTab.f0 (h : RTab w br sv ls) : w.frozen? ⟨br, 0, none⟩ = false := by simp [World.frozen?, h.box]

theorem RTab.kept {S : Nat → Prop} (h : RTab w br sv ls) (ht : Turn S w w') (hn : ∀ k, rfoot br sv k → ¬ S k) : RTab w' br sv ls :=
  ⟨(ht.block br (h.lt br (.inl rfl)) (hn _ (.inl rfl))).trans h.box, ht.row h.row (fun k hk => hn k (.inr hk)), h.nodup⟩

theorem RTab.below (h : RTab w br sv ls) (hb : Below w.heap.size w w') : RTab w' br sv ls :=
  h.kept (Turn.of_below hb) (fun k hk => by have := h.lt k hk; omega)

/-- The slice's form, and its texts. -/
theorem RTab.slice (h : RTab w br sv ls) : ∃ a cap, sv = .slice a ls.length cap ∧ ls.length ≤ 9223372036854775807 ∧ ∃ b, (0 < ls.length → a = some ⟨b, 0, none⟩) ∧ ∀ j (hj : j < ls.length), w.cell? ⟨b, j, none⟩ = some (.string ls[j]) := by
  have hl := h.row.1
  rcases h.row.2 with ⟨hx, hn⟩ | ⟨g, cap, cur, hv, _, hh, h1, h2, h3, h4⟩
  · refine ⟨none, 0, by rw [hx, hn], by omega, 0, fun h => by omega, fun j hj => by omega⟩
  · refine ⟨some ⟨g, 0, none⟩, cap, hv, by unfold maxLen at h2; omega, g, fun _ => rfl, fun j hj => ?_⟩
    have e : (cur.toList.take (ls.length * 1))[j]? = (ls.map Value.string)[j]? := by rw [h4]
    rw [List.getElem?_take_of_lt (by omega)] at e
    have e2 : cur[j]? = some (.string ls[j]) := by simpa [hj] using e
    simp [World.cell?, hh, e2]

theorem rlen_yes (h : RTab w br sv ls) : Calls Try.prog 14 #[.pointer (some ⟨br, 0, none⟩)] w fun e w' => e = .returned (.int .i64 ls.length) ∧ w' = w := by
  have c0 := h.c0
  obtain ⟨a, cap, rfl, _⟩ := h.slice
  clear h
  go_enter Try.func14, Try.ntmps14
  go_wp2
  go_ret
  exact ⟨rfl, rfl⟩

theorem rlen_no (w : World) : Calls Try.prog 14 #[.pointer none] w fun e w' => e = .returned (.int .i64 0) ∧ w' = w := by
  go_enter Try.func14, Try.ntmps14
  go_wp2
  go_ret
  exact ⟨rfl, rfl⟩

theorem tl_ne {a b : ByteArray} (h : a ≠ b) : (a.toList == b.toList) = false := by
  rw [beq_eq_false_iff_ne, ByteArray.toList_eq, ByteArray.toList_eq]
  intro e
  exact h (ByteArray.ext (Array.ext' e))

theorem found_first {ls : List ByteArray} (hd : ls.Nodup) {s : ByteArray} {k : Nat} (hk : k < ls.length) (h2 : ls[k] = s) : found ls s = k ∧ ls.contains s = true := by
  haveI := lawful
  have hm : s ∈ ls := by rw [← h2]; exact List.getElem_mem hk
  have hc := (contains_iff ls s).2 hm
  refine ⟨?_, hc⟩
  unfold found
  rw [if_pos hc]
  have hi : ls.idxOf s < ls.length := List.idxOf_lt_length_iff.2 hm
  exact nodup_inj hd hi hk ((List.getElem_idxOf hi).trans h2.symm)

theorem found_none {ls : List ByteArray} {s : ByteArray} (h1 : ∀ j (hj : j < ls.length), ls[j] ≠ s) : found ls s = 0 ∧ ls.contains s = false := by
  have hc : ls.contains s = false := by
    rw [contains_no]
    intro hm
    obtain ⟨j, hj, e⟩ := List.mem_iff_getElem.1 hm
    exact h1 j hj e
  refine ⟨?_, hc⟩
  unfold found
  rw [if_neg (by rw [hc]; decide)]

set_option maxRecDepth 100000 in
set_option maxHeartbeats 400000 in
theorem rfind_yes (h : RTab w br sv ls) (s : ByteArray) :
    Calls Try.prog 47 #[.pointer (some ⟨br, 0, none⟩), .string s] w fun e w' => e = .returned (.tuple #[.int .i64 (found ls s), .bool (ls.contains s)]) ∧ w' = w := by
  have c0 := h.c0
  obtain ⟨a, cap, rfl, hmax, b, ha, hcell⟩ := h.slice
  have hnd := h.nodup
  have HC : Hid ((0 < ls.length → a = some ⟨b, 0, none⟩) ∧ (∀ j (hj : j < ls.length), w.cell? ⟨b, j, none⟩ = some (.string ls[j])) ∧ ls.Nodup) := ⟨ha, hcell, hnd⟩
  clear h ha hcell hnd
  go_enter Try.func47, Try.ntmps47
  go_wp2
  go_loop [6] (fun i => ∃ k : Nat, k ≤ ls.length ∧ i = .int .i64 k ∧ ∀ j (hj : j < ls.length), j < k → ls[j] ≠ s) (fun i => ls.length - (intOf i).toNat)
  case atStart => exact ⟨0, Nat.zero_le _, rfl, fun j _ h => absurd h (Nat.not_lt_zero _)⟩
  case round =>
    obtain ⟨k, hk, rfl, hno⟩ := hrel
    have HNo : Hid (∀ j (hj : j < ls.length), j < k → ls[j] ≠ s) := hno
    clear hno
    by_cases hlt : k < ls.length
    · obtain rfl := HC.out.1 (by omega)
      have hck := HC.out.2.1 k hlt
      have hkb : (k : Int) < (ls.length : Int) := by omega
      by_cases he : ls[k] = s
      · have HF : Hid (found ls s = k ∧ ls.contains s = true) := found_first HC.out.2.2 hlt he
        rw [he] at hck
        clear he
        go_wp2
        go_ret2
        rw [HF.out.1, HF.out.2]
        exact ⟨rfl, rfl⟩
      · have hbe : (ls[k].toList == s.toList) = false := tl_ne he
        have HNe : Hid (∀ j (hj : j < ls.length), j < k + 1 → ls[j] ≠ s) := fun j hj hj2 => by
          by_cases e : j = k
          · subst e; exact he
          · exact HNo.out j hj (by omega)
        generalize ls[k] = t at hck hbe
        clear he
        go_wp2
        go_round
        case rel => exact ⟨k + 1, by omega, by go_num, HNe.out⟩
        case measure => simp [intOf]; omega
    · have HF : Hid (found ls s = 0 ∧ ls.contains s = false) := found_none (s := s) (fun j hj => HNo.out j hj (by omega))
      go_wp2
      go_ret2
      rw [HF.out.1, HF.out.2]
      exact ⟨rfl, rfl⟩
end
end Go.Proofs.Ytdmopioiaaecfaa
