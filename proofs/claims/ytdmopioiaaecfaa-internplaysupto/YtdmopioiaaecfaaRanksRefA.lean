/- The plain part on ranks as the document counts them. -/
import Derived.Test.YtdmopioiaaecfaaRanksPlain
namespace Go.Proofs.Ytdmopioiaaecfaa

def tx (ts : List ByteArray) (j : Nat) : ByteArray := ts[j]?.getD ⟨#[]⟩
def below (ts : List ByteArray) (i j : Nat) : Bool := decide (cmpT (tx ts j) (tx ts i) < 0)
/-- How many of the first k texts come ahead of the text of number i. -/
def cnt (ts : List ByteArray) (i k : Nat) : Nat := ((List.range k).filter (below ts i)).length
def cnts (ts : List ByteArray) (k : Nat) : List Nat := (List.range k).map fun i => cnt ts i ts.length

theorem cnt_zero (ts : List ByteArray) (i : Nat) : cnt ts i 0 = 0 := rfl
theorem cnt_succ (ts : List ByteArray) (i k : Nat) : cnt ts i (k + 1) = cnt ts i k + if below ts i k then 1 else 0 := by
  unfold cnt
  rw [List.range_succ, List.filter_append, List.length_append]
  congr 1
  by_cases h : below ts i k <;> simp [h]
theorem cnt_le (ts : List ByteArray) (i k : Nat) : cnt ts i k ≤ k := by
  unfold cnt
  have := List.length_filter_le (below ts i) (List.range k)
  simpa using this
theorem cnts_succ (ts : List ByteArray) (k : Nat) : cnts ts (k + 1) = cnts ts k ++ [cnt ts k ts.length] := by simp [cnts, List.range_succ]

theorem cnt_rank {ts : List ByteArray} {zs : List Nat} (h : Rises ts zs) {i : Nat} (hi : i < ts.length) : cnt ts i ts.length = zs.idxOf i := by
  have hm : i ∈ zs := h.perm.mem_iff.2 (by simpa using hi)
  have hlt : zs.idxOf i < zs.length := List.idxOf_lt_length_iff.2 hm
  have hat : zs[zs.idxOf i] = i := List.getElem_idxOf hlt
  have hp := List.pairwise_iff_getElem.1 h.rise
  unfold cnt
  rw [← (h.perm.filter (below ts i)).length_eq]
  generalize hmm : zs.idxOf i = m at hlt hat
  have e : zs.filter (below ts i) = zs.take m := by
    conv => lhs; rw [← List.take_append_drop m zs]
    rw [List.filter_append]
    have e1 : (zs.take m).filter (below ts i) = zs.take m := by
      rw [List.filter_eq_self]
      intro x hx
      obtain ⟨j, hj, rfl⟩ := List.mem_iff_getElem.1 hx
      have hj2 : j < m := by simp at hj; omega
      rw [List.getElem_take]
      have := hp j m (by omega) hlt hj2
      rw [hat] at this
      exact decide_eq_true this
    have e2 : (zs.drop m).filter (below ts i) = [] := by
      rw [List.filter_eq_nil_iff]
      intro x hx
      obtain ⟨j, hj, rfl⟩ := List.mem_iff_getElem.1 hx
      rw [List.getElem_drop]
      have hj' : m + j < zs.length := by simp at hj; omega
      unfold below tx
      rw [decide_eq_true_eq, Int.not_lt]
      by_cases hj0 : j = 0
      · subst hj0
        simp only [Nat.add_zero, hat]
        rw [cmpT_self]
        exact Int.le_refl _
      · have := hp m (m + j) hlt hj' (by omega)
        rw [hat] at this
        rw [cmpT_swap]
        omega
    rw [e1, e2, List.append_nil]
  rw [e, List.length_take]
  omega

theorem cnts_rks {ts : List ByteArray} {zs : List Nat} (h : Rises ts zs) : cnts ts ts.length = rks zs := by
  unfold cnts rks
  rw [h.length]
  apply List.map_congr_left
  intro i hi
  exact cnt_rank h (by simpa using hi)

theorem below_bytes (a b : ByteArray) : Op.bytesLess a.toList b.toList = decide (cmpT a b < 0) := by
  rw [ByteArray.toList_eq, ByteArray.toList_eq, bl_eq]
  rfl
end Go.Proofs.Ytdmopioiaaecfaa
