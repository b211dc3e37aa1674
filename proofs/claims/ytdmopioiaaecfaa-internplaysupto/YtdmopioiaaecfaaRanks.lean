/- Ranks: the place of each number by rising texts. -/
import Derived.Test.YtdmopioiaaecfaaRising
namespace Go.Proofs.Ytdmopioiaaecfaa
open Go.RowKit Go.Maps

/-- The ranks, of numbers that rise. -/
def rks (zs : List Nat) : List Nat := (List.range zs.length).map fun m => zs.idxOf m

theorem rising_calls {w : World} {bt bm g cap : Nat} {ts : List ByteArray} (h : Tab w bt bm g cap ts) (hlen : ts.length * 16 ≤ 140737488355328) :
    Calls Try.prog 28 #[.pointer (some ⟨bt, 0, none⟩)] w fun e w' =>
      ∃ b c zs, e = .returned (.slice (some ⟨b, 0, none⟩) ts.length c) ∧ w.heap.size ≤ b ∧ Rises ts zs ∧ IntsAt w' b c (zs.map Int.ofNat) ∧ Below w.heap.size w w' :=
  callsIn_wide.1 (rising_yes h hlen)

/-- The ranks of the first k numbers of zs are stored. -/
def RksAt (w : World) (b n : Nat) (zs : List Nat) (k : Nat) : Prop :=
  ∃ cur, w.heap[b]? = some (.cells cur 3 (0, 0)) ∧ cur.size = n ∧ ∀ j, j < k → cur[zs[j]?.getD 0]? = some (.int .i64 (j : Int))

theorem RksAt.kept {S : Nat → Prop} {w w' : World} {b n k : Nat} {zs : List Nat} (h : RksAt w b n zs k) (ht : Turn S w w') (hn : ¬ S b) : RksAt w' b n zs k := by
  obtain ⟨cur, h1, h2⟩ := h
  exact ⟨cur, (ht.block b (Array.getElem?_eq_some_iff.1 h1).1 hn).trans h1, h2⟩

theorem RksAt.spot {w : World} {b n k : Nat} {zs : List Nat} (h : RksAt w b n zs k) (j : Nat) (hj : j < n) : (∃ v, w.cell? ⟨b, j, none⟩ = some v) ∧ w.frozen? ⟨b, j, none⟩ = false := by
  obtain ⟨cur, h1, h2, h3⟩ := h
  exact ⟨⟨cur[j]'(by omega), by simp [World.cell?, h1, h2, hj]⟩, by simp [World.frozen?, h1]⟩

theorem RksAt.step {w : World} {b n k : Nat} {zs : List Nat} (h : RksAt w b n zs k) (hnd : zs.Nodup) (hk : k < zs.length) (hz : zs[k]?.getD 0 < n) :
    RksAt (w.setCell ⟨b, zs[k]?.getD 0, none⟩ (.int .i64 (k : Int))) b n zs (k + 1) := by
  obtain ⟨cur, h1, h2, h3⟩ := h
  refine ⟨cur.setIfInBounds (zs[k]?.getD 0) (.int .i64 (k : Int)), ?_, by simpa using h2, fun j hj => ?_⟩
  · simp only [World.setCell, Array.getElem?_modify, h1]
    simp
  · rw [Array.getElem?_setIfInBounds]
    by_cases e : j = k
    · subst e
      rw [if_pos rfl, if_pos (by omega)]
    · have hj' : j < k := by omega
      rw [if_neg, h3 j hj']
      intro e2
      rw [List.getElem?_eq_getElem hk, List.getElem?_eq_getElem (Nat.lt_trans hj' hk)] at e2
      have := nodup_inj hnd _ _ e2
      omega

theorem Rises.nodup {ts : List ByteArray} {zs : List Nat} (h : Rises ts zs) : zs.Nodup := h.perm.nodup_iff.2 List.nodup_range
theorem Rises.length {ts : List ByteArray} {zs : List Nat} (h : Rises ts zs) : zs.length = ts.length := by simpa using h.perm.length_eq
theorem Rises.lt {ts : List ByteArray} {zs : List Nat} (h : Rises ts zs) {z : Nat} (hz : z ∈ zs) : z < ts.length := by simpa using h.perm.mem_iff.1 hz
theorem Rises.at_lt {ts : List ByteArray} {zs : List Nat} (h : Rises ts zs) {k : Nat} (hk : k < ts.length) : zs[k]?.getD 0 < ts.length := by
  have hk' : k < zs.length := by rw [h.length]; exact hk
  rw [List.getElem?_eq_getElem hk']
  exact h.lt (List.getElem_mem hk')

theorem RksAt.done {w : World} {b : Nat} {ts : List ByteArray} {zs : List Nat} (hR : Rises ts zs) (h : RksAt w b ts.length zs ts.length) : IntsAt w b ts.length ((rks zs).map Int.ofNat) := by
  obtain ⟨cur, h1, h2, h3⟩ := h
  have hl := hR.length
  refine ⟨cur, h1, h2, by simp [rks, hl], fun j hj => ?_⟩
  simp only [rks, List.length_map, List.length_range] at hj
  have hmem : j ∈ zs := hR.perm.mem_iff.2 (by simpa [hl] using hj)
  have hi : zs.idxOf j < zs.length := List.idxOf_lt_length_iff.2 hmem
  have := h3 (zs.idxOf j) (by omega)
  rw [List.getElem?_eq_getElem hi, List.getElem_idxOf hi] at this
  simpa [rks] using this

set_option maxRecDepth 100000 in
set_option maxHeartbeats 1000000 in
theorem ranks_yes {w : World} {bt bm g cap : Nat} {ts : List ByteArray} (h : Tab w bt bm g cap ts) (hlen : ts.length * 16 ≤ 140737488355328) :
    Calls Try.prog 29 #[.pointer (some ⟨bt, 0, none⟩)] w fun e w' =>
      ∃ b zs, e = .returned (.slice (some ⟨b, 0, none⟩) ts.length ts.length) ∧ w.heap.size ≤ b ∧ Rises ts zs ∧ IntsAt w' b ts.length ((rks zs).map Int.ofNat) ∧ Below w.heap.size w w' := by
  obtain ⟨i0, hi, hz0, hz1, hz2⟩ := info_parts info3
  have hm := made_yes _ bt bm h.c1
  have hl := len_yes h
  have H : Hid (Tab w bt bm g cap ts) := h
  clear h
  go_enter Try.func29, Try.ntmps29
  go_wp2_with (first | (go_at_call 34; refine Calls.mono hm ?_; rintro e w' ⟨rfl, rfl⟩) | (go_at_call 13; refine Calls.mono hl ?_; rintro e w' ⟨rfl, rfl⟩) | (at_make; refine wpList_make_full _ rfl _ _ 31 rfl 0 3 i0 (.int .i64 0) 1 Try.underlying31 hi hz0 hz1 _ _ _ _ ts.length rfl rfl rfl rfl (by rw [hz2]; omega) (by unfold maxLen; omega) (Nat.zero_le _) ?_; intro w1 hown hgrow) | (go_at_call 28; refine Calls.mono (rising_calls (H.out.kept (Turn.of_grown hgrow) (fun _ _ e => by simp at e)) hlen) ?_; rintro e w2 ⟨b, c, zs, rfl, hb, hR, hI, hB⟩))
  have hT1 : Turn (fun _ => False) w' w1 := (Turn.of_grown hgrow).mono (fun _ _ e => by simp at e)
  have hlt1 : w'.heap.size < w1.heap.size := (hown.lt _ rfl).2
  have hsz := hR.length
  have HN : Hid (RksAt w2 w'.heap.size ts.length zs 0 ∧ Rises ts zs ∧ IntsAt w2 b c (zs.map Int.ofNat) ∧ Turn (fun _ => False) w' w2) := by
    obtain ⟨cur, h1, h2, _⟩ := ints_of_row hown
    exact ⟨⟨cur, (hB.block _ hlt1).trans h1, h2, fun j hj => by omega⟩, hR, hI, hT1.trans (Turn.of_below hB) (fun i hi e => by have := hT1.size; omega)⟩
  have hbne : b ≠ w'.heap.size := by omega
  clear hown hgrow hT1 hR hI hB
  go_loopw [15] (fun i wr => ∃ k : Nat, k ≤ ts.length ∧ i = .int .i64 k ∧ RksAt wr w'.heap.size ts.length zs k ∧ Turn (fun k => k = w'.heap.size) w2 wr) (fun i _ => ts.length - (intOf i).toNat)
  case atStart => exact ⟨0, Nat.zero_le _, rfl, HN.out.1, Turn.refl _ _⟩
  case round =>
    obtain ⟨k, hk, rfl, hX, ht⟩ := hrel
    by_cases hlt : k < ts.length
    · have hz := HN.out.2.1.at_lt hlt
      have hcell : wr.cell? ⟨b, k, none⟩ = some (.int .i64 ((zs[k]?.getD 0 : Nat) : Int)) := by
        rw [ht.cell (HN.out.2.2.1.cell k (by simpa [hsz] using hlt)) hbne]
        simp [hsz, hlt]
      have hst := hX.step HN.out.2.1.nodup (by omega) hz
      have hsp := hX.spot _ hz
      generalize zs[k]?.getD 0 = z at hz hcell hst hsp
      obtain ⟨⟨v, hv⟩, hf⟩ := hsp
      have HS : Hid (RksAt (wr.setCell ⟨w'.heap.size, z, none⟩ (.int .i64 k)) w'.heap.size ts.length zs (k + 1) ∧ Turn (fun k => k = w'.heap.size) w2 wr) := ⟨hst, ht⟩
      clear hst hX ht
      go_wp2
      go_roundw
      case rel => exact ⟨k + 1, by omega, by go_num, HS.out.1, HS.out.2.trans (Turn.setCell (fun k => k = w'.heap.size) _ _ _ rfl) (fun _ _ e => e)⟩
      case measure => simp [intOf]; omega
    · obtain rfl : k = ts.length := by omega
      go_wp2
      go_ret
      obtain ⟨_, hR, _, hT⟩ := HN.out
      exact ⟨_, zs, rfl, Nat.le_refl _, hR, hX.done hR, ((hT.mono (S' := fun k => k = w'.heap.size) (fun _ _ e => e.elim)).trans ht (fun _ _ e => e)).below (Nat.le_refl _) (fun k e => by omega)⟩
end Go.Proofs.Ytdmopioiaaecfaa
