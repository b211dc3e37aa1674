/- The book: Ints puts lists in, Apart tells whether each is its own. -/
import Derived.Test.YtihkdaaghobckaaDoorQ
namespace Go.Proofs.YtihkdaaghobckaaDoor
open Go.RowKit Go.Maps

set_option maxRecDepth 100000 in
set_option maxHeartbeats 1000000 in
theorem btexts_none (w : World) (bb : Nat) (h : w.cell? ⟨bb, 0, none⟩ = some (.slice none 0 0)) : Calls Tryd.prog 31 #[.pointer (some ⟨bb, 0, none⟩)] w fun e w' => e = .returned (.bool true) ∧ w' = w := by
  go_enter Tryd.func31, Tryd.ntmps31
  go_wp2
  go_loopw [3] (fun i wr => i = .int .i64 0 ∧ w = wr) (fun i _ => 0)
  case atStart => exact ⟨rfl, rfl⟩
  case round =>
    obtain ⟨rfl, rfl⟩ := hrel
    go_wp2
    go_loopw [6] (fun i wr => i = .int .i64 0 ∧ w = wr) (fun i _ => 0)
    case atStart => exact ⟨rfl, rfl⟩
    case round =>
      obtain ⟨rfl, rfl⟩ := hrel
      go_wp2
      go_loopw [9] (fun i wr => i = .int .i64 0 ∧ w = wr) (fun i _ => 0)
      case atStart => exact ⟨rfl, rfl⟩
      case round =>
        obtain ⟨rfl, rfl⟩ := hrel
        go_wp2
        go_ret
        exact ⟨rfl, rfl⟩

set_option maxRecDepth 100000 in
set_option maxHeartbeats 1000000 in
theorem blists_none (w : World) (bb : Nat) (h : w.cell? ⟨bb, 2, none⟩ = some (.slice none 0 0)) : Calls Tryd.prog 33 #[.pointer (some ⟨bb, 0, none⟩)] w fun e w' => e = .returned (.bool true) ∧ w' = w := by
  go_enter Tryd.func33, Tryd.ntmps33
  go_wp2
  go_loopw [3] (fun i wr => i = .int .i64 0 ∧ w = wr) (fun i _ => 0)
  case atStart => exact ⟨rfl, rfl⟩
  case round =>
    obtain ⟨rfl, rfl⟩ := hrel
    go_wp2
    go_loopw [6] (fun i wr => i = .int .i64 0 ∧ w = wr) (fun i _ => 0)
    case atStart => exact ⟨rfl, rfl⟩
    case round =>
      obtain ⟨rfl, rfl⟩ := hrel
      go_wp2
      go_loopw [9] (fun i wr => i = .int .i64 0 ∧ w = wr) (fun i _ => 0)
      case atStart => exact ⟨rfl, rfl⟩
      case round =>
        obtain ⟨rfl, rfl⟩ := hrel
        go_wp2
        go_ret
        exact ⟨rfl, rfl⟩

theorem apart_any (w : World) (bb bn capN : Nat) (As : List Ans) (hB : BookAt w bb bn capN As) (hF : Fit w As bb bn) (hG : ∀ A ∈ As, A.a ≠ none → Room w A.g A.cap) (hm : As.length * 24 ≤ 140737488355328) :
    Calls Tryd.prog 16 #[.pointer (some ⟨bb, 0, none⟩)] w fun e w' => e = .returned (.bool true) ∧ Turn (Own As) w w' := by
  have H1 := btexts_none w bb (by simp [World.cell?, hB.box])
  have H2 := bints_any w bb bn capN As hB hF hG hm
  have H3 : Hid (∀ W, Turn (Own As) w W → Calls Tryd.prog 33 #[.pointer (some ⟨bb, 0, none⟩)] W fun e w' => e = .returned (.bool true) ∧ w' = W) := fun W hW => blists_none W bb (by simp [World.cell?, hW.heap hB.box hF.notOwn.1])
  clear hB hF hG
  go_enter Tryd.func16, Tryd.ntmps16
  go_wp2_with fail
  refine H1.mono ?_
  rintro e w9 ⟨rfl, hw9⟩
  subst w9
  go_wp2_with fail
  refine H2.mono ?_
  rintro e w2 ⟨rfl, ht⟩
  have HT : Hid (Turn (Own As) w w2) := ht
  clear ht H1 H2
  go_wp2_with fail
  refine (H3.out w2 HT.out).mono ?_
  rintro e w9 ⟨rfl, hw9⟩
  subst w9
  go_wp2_with fail
  go_ret
  exact ⟨rfl, HT.out⟩

set_option maxRecDepth 100000 in
set_option maxHeartbeats 1000000 in
/-- Ints of an empty book. -/
theorem bookInts_any (w : World) (bb bl c n : Nat) (As : List Ans) (hbox : w.heap[bb]? = some (.cells #[.slice none 0 0, .slice none 0 0, .slice none 0 0] 39 (0, 0))) (hn : n = As.length) (h0 : 0 < n)
    (hsrc : ∀ i (h : i < As.length), w.cell? ⟨bl, i, none⟩ = some As[i].v) (hm : As.length * 24 ≤ 140737488355328) :
    Calls Tryd.prog 15 #[.pointer (some ⟨bb, 0, none⟩), .slice (some ⟨bl, 0, none⟩) n c] w fun e w' => e = .returned (.tuple #[]) ∧ ∃ bn capN, BookAt w' bb bn capN As ∧ w.heap.size ≤ bn ∧ bn < w'.heap.size ∧ Turn (fun x => x = bb) w w' := by
  obtain ⟨i1, ki, kz0, kz1, kz2⟩ := info_parts infoInts
  obtain ⟨m, rfl⟩ : ∃ m, n = m + 1 := ⟨n - 1, by omega⟩
  obtain ⟨X, hX⟩ : ∃ X, X = As.map Ans.v := ⟨_, rfl⟩
  have HX : Hid ((∀ j u, X[j]? = some u → w.cell? ((⟨bl, 0, none⟩ : Addr).add j) = some u) ∧ (∀ u ∈ X, u.oneCell' = true) ∧ X.length = m + 1 ∧ (∀ i (h : i < As.length), X[i]? = some As[i].v)) := by
    refine ⟨fun j u h => ?_, ?_, by rw [hX, List.length_map, hn], fun i h => by simp [hX, h]⟩
    · rw [hX, List.getElem?_map, Option.map_eq_some_iff] at h
      obtain ⟨A, h1, rfl⟩ := h
      obtain ⟨hj, rfl⟩ := List.getElem?_eq_some_iff.1 h1
      rw [add_at, Nat.zero_add]
      exact hsrc j hj
    · simp [hX, Ans.v, Value.oneCell']
  have hc1 : w.cell? ⟨bb, 1, none⟩ = some (.slice none 0 0) := by simp [World.cell?, hbox]
  have hb : bb < w.heap.size := (Array.getElem?_eq_some_iff.1 hbox).1
  have HB : Hid (w.heap[bb]? = some (.cells #[.slice none 0 0, .slice none 0 0, .slice none 0 0] 39 (0, 0)) ∧ m + 1 = As.length) := ⟨hbox, hn⟩
  have hm2 : (m + 1) * 24 ≤ 140737488355328 := by omega
  clear hX hsrc hbox hn
  go_enter Tryd.func15, Tryd.ntmps15
  go_wp2_with (at_builtin; refine wpList_append_own _ rfl _ _ 36 rfl w.heap.size 22 i1 _ 1 24 Tryd.underlying36 ki kz0 kz1 kz2 rfl (by decide) (.slice none 0 0) 0 [] rfl (World.ownsRow_nil _ _ _ _) ⟨bl, 0, none⟩ (m + 1) c X rfl (by rw [HX.out.2.2.1]; simp) HX.out.1 HX.out.2.1 (by unfold maxLen; omega) (by omega) (Nat.le_refl _) ?_; intro v1 w1 hown1 hg1 hn1; rw [Nat.zero_add, List.nil_append] at hown1; obtain ⟨bn, cN, rfl⟩ := own_form hown1; have ht1 : Turn (fun _ => False) w w1 := (⟨hg1.os, hg1.tape, hg1.output, hg1.size, fun k hk _ => hg1.block k hk (by simp [Value.ownBlock])⟩); have HR : Hid (w1.ownsRow w.heap.size 22 1 (.slice (some ⟨bn, 0, none⟩) (m + 1) cN) (m + 1) X ∧ Turn (fun _ => False) w w1) := ⟨hown1, ht1⟩; have hbx := ht1.heap HB.out.1 (fun h => h); have hcc : w1.cell? ⟨bb, 1, none⟩ = some (.slice none 0 0) := (by simp [World.cell?, hbx]); have hfz : w1.frozen? ⟨bb, 1, none⟩ = false := (by simp [World.frozen?, hbx]); have HBX : Hid (w1.heap[bb]? = some (.cells #[.slice none 0 0, .slice none 0 0, .slice none 0 0] 39 (0, 0))) := hbx; clear hown1 hg1 hn1 ht1 hbx)
  go_end0
  have hrb := rowBound HR.out.1 rfl
  have hrl := (HR.out.1.lt bn rfl).2
  refine ⟨rfl, bn, cN, ⟨?_, fun i h => ?_, by rw [← HB.out.2]; exact ⟨hrb.2.1, hrb.2.2⟩⟩, hrb.1, by simpa [World.setCell] using hrl, ?_⟩
  · rw [heap_setCell_same w1 bb 1 _ _ _ HBX.out, ← HB.out.2]
    rfl
  · refine (World.cell?_of_block (a := ⟨bn, i, none⟩) (Below.heap_setCell w1 _ _ _ (by show bn ≠ bb; omega))).trans ?_
    exact row_cell HR.out.1 i _ (HX.out.2.2.2 i h)
  · exact Turn.set (S := fun x => x = bb) (HR.out.2.mono (fun _ _ h => h.elim)) rfl 1 _
end Go.Proofs.YtihkdaaghobckaaDoor
