/- Rows of columns as arrays of booleans: rowOf, wholeRow, columns. -/
import Derived.Test.YtnhmjheipfopoaaH
import Derived.Test.YtnhmjheipfopoaaE
namespace Go.Proofs.Ytnhmjheipfopoaa
open Go.RowKit Go.Maps

/-- The array of a set of columns. -/
def rowB (c : Nat) : List Value := (List.range 16).map fun k => Value.bool (c.testBit k)
def rowV (c : Nat) : Array Value := (rowB c).toArray
theorem rowB_len (c : Nat) : (rowB c).length = 16 := by simp [rowB]
theorem rowV_size (c : Nat) : (rowV c).size = 16 := by simp [rowV, rowB]
theorem rowV_one (c : Nat) : (rowV c).all (·.oneCell') = true := by simp [rowV, rowB, Value.oneCell']
theorem rowV_at (c k : Nat) (hk : k < 16) : (rowV c)[k]? = some (.bool (c.testBit k)) := by simp [rowV, rowB, hk]
theorem rowV_set (c k : Nat) (hk : k < 16) : (rowV c).setIfInBounds k (.bool true) = rowV (c ||| 2 ^ k) := by
  apply Array.ext_getElem?
  intro i
  by_cases hi : i < 16
  · rw [rowV_at _ i hi, Array.getElem?_setIfInBounds, Nat.testBit_or, Nat.testBit_two_pow]
    by_cases e : k = i
    · subst e; simp [rowV_size, hk]
    · rw [if_neg e, rowV_at _ i hi]; simp [e]
  · rw [Array.getElem?_eq_none (by simp [rowV_size]; omega), Array.getElem?_eq_none (by simp [rowV_size]; omega)]
theorem rowV_zero : rowV 0 = (List.replicate 16 (Value.bool false)).toArray := by kernel_rfl
theorem rowV_inj {c d : Nat} (hc : c < 65536) (hd : d < 65536) (h : rowV c = rowV d) : c = d := by
  apply Nat.eq_of_testBit_eq
  intro i
  by_cases hi : i < 16
  · have := congrArg (·[i]?) h
    simpa [rowV_at _ i hi] using this
  · rw [Nat.testBit_lt_two_pow (Nat.lt_of_lt_of_le hc (show 65536 ≤ 2 ^ i from by have := Nat.pow_le_pow_right (show 0 < 2 by decide) (show 16 ≤ i by omega); simpa using this)),
      Nat.testBit_lt_two_pow (Nat.lt_of_lt_of_le hd (show 65536 ≤ 2 ^ i from by have := Nat.pow_le_pow_right (show 0 < 2 by decide) (show 16 ≤ i by omega); simpa using this))]

theorem infoRow : (Try.prog.info? 64).map (fun i => (i.zero, i.size)) = some (some (.agg (List.replicate 16 (Value.bool false)).toArray), 16) := by kernel_rfl
theorem zeroRow (w : World) : (zeroValue 64).run Try.prog w = .ok (.agg (rowV 0)) w := by rw [rowV_zero]; exact (zero_of_info infoRow).1 w
theorem sizeRow : (Try.prog.info? 64).map (·.size) = some 16 := by kernel_rfl
theorem sizeRow' (c : Nat) : (Try.prog.info? 64).map (·.size) = some (rowV c).size := by rw [rowV_size]; exact sizeRow

/-- An array of columns lies in block b. -/
def RowAt (w : World) (b c : Nat) : Prop := w.heap[b]? = some (.cells (rowV c) 64 (0, 0))
theorem RowAt.set {w : World} {b c : Nat} (h : RowAt w b c) (k : Nat) (hk : k < 16) : RowAt (w.setCell ⟨b, k, none⟩ (.bool true)) b (c ||| 2 ^ k) := by
  unfold RowAt at *
  rw [heap_setCell_same w b k _ _ _ h, rowV_set c k hk]
theorem RowAt.cell {w : World} {b c : Nat} (h : RowAt w b c) (k : Nat) (hk : k < 16) : w.cell? ⟨b, k, none⟩ = some (.bool (c.testBit k)) := by
  unfold RowAt at h
  simp only [World.cell?, h]
  exact rowV_at c k hk
theorem RowAt.free {w : World} {b c : Nat} (h : RowAt w b c) (k : Nat) : w.frozen? ⟨b, k, none⟩ = false := by
  unfold RowAt at h
  simp [World.frozen?, h]

theorem results_cell {P : Program} {fn : Func} {p : Tmp} {ty : TypeId} (h : fn.results = #[.cell p ty]) (tmps : Array Value) (w : World) (g : Nat) (t' : TypeId) (cs : Array Value) (fr : Nat × Nat) (d : TypeDesc)
    (hp : tmps.getD p undef = .pointer (some ⟨g, 0, none⟩)) (hg : w.heap[g]? = some (.cells cs t' fr))
    (hu : P.underlying ty = some d) (hd : (match d with | .struct _ | .array _ _ => true | _ => false) = true) (hi : (P.info? ty).map (·.size) = some cs.size) :
    (results fn tmps).run P w = .ok (.agg cs) w := by
  have hp' : tmps[p]?.getD undef = .pointer (some ⟨g, 0, none⟩) := by simpa using hp
  simp [results, h, hp', asAddr, run_loadVar_row w g t' ty cs fr d hg hu hd hi]

theorem ones_succ (k : Nat) : (2 ^ k - 1) ||| 2 ^ k = 2 ^ (k + 1) - 1 := by
  apply Nat.eq_of_testBit_eq
  intro i
  rw [Nat.testBit_or, Nat.testBit_two_pow_sub_one, Nat.testBit_two_pow, Nat.testBit_two_pow_sub_one]
  by_cases h1 : i < k
  · simp [h1]; omega
  · by_cases h2 : k = i
    · simp [h2]
    · simp [h1, h2]; omega

set_option maxRecDepth 100000 in
set_option maxHeartbeats 1000000 in
theorem whole_any (w : World) (n : Nat) (hn : n ≤ 16) :
    Calls Try.prog 59 #[.int .i64 n] w fun e w' => e = .returned (.agg (rowV (2 ^ n - 1))) ∧ Stay w w' := by
  have hz := zeroRow
  obtain ⟨Z, hZ⟩ : ∃ Z, Z = rowV 0 := ⟨_, rfl⟩
  rw [← hZ] at hz
  have H0 : Hid (Z = rowV 0) := hZ
  clear hZ
  go_enter Try.func59, Try.ntmps59
  go_wp2
  have HS0 : Hid (RowAt ((w.alloc (.cells Z 64)).alloc (.cells Z 64)) (w.heap.size + 1) (2 ^ 0 - 1) ∧ ((w.alloc (.cells Z 64)).alloc (.cells Z 64)).heap[w.heap.size]? = some (.cells Z 64 (0, 0)) ∧ Stay w ((w.alloc (.cells Z 64)).alloc (.cells Z 64))) :=
    ⟨by rw [H0.out]; exact heap_alloc2_new _ _ _, heap_alloc2_old _ _ _, (Stay.new w _).alloc _⟩
  go_loopw [6] (fun i wr => ∃ k : Nat, k ≤ n ∧ i = .int .i64 k ∧ RowAt wr (w.heap.size + 1) (2 ^ k - 1) ∧ wr.heap[w.heap.size]? = some (.cells Z 64 (0, 0)) ∧ Stay w wr) (fun i _ => n - (intOf i).toNat)
  case atStart => exact ⟨0, Nat.zero_le _, rfl, HS0.out⟩
  case round =>
    obtain ⟨k, hk, rfl, hR, hO, hst⟩ := hrel
    clear hz
    by_cases hlt : k < n
    · have hi1 : (k : Int) < (n : Int) := by omega
      have c1 := hR.cell k (by omega)
      have f1 := hR.free k
      have hk16 : (k : Int) < 16 := by omega
      have HN : Hid (RowAt (wr.setCell ⟨w.heap.size + 1, k, none⟩ (.bool true)) (w.heap.size + 1) (2 ^ (k + 1) - 1) ∧ (wr.setCell ⟨w.heap.size + 1, k, none⟩ (.bool true)).heap[w.heap.size]? = some (.cells Z 64 (0, 0)) ∧ Stay w (wr.setCell ⟨w.heap.size + 1, k, none⟩ (.bool true))) := by
        refine ⟨?_, (Below.heap_setCell _ _ _ _ (by show w.heap.size ≠ w.heap.size + 1; omega)).trans hO, stay_set hst (by omega) _⟩
        have := hR.set k (by omega)
        rw [ones_succ] at this
        exact this
      clear hR hO hst HS0
      go_wp2
      go_roundw
      case rel => exact ⟨k + 1, by omega, by go_num, HN.out⟩
      case measure => simp [intOf]; omega
    · obtain rfl : n = k := by omega
      have HR : Hid (wr.heap[w.heap.size]? = some (.cells Z 64 (0, 0)) ∧ RowAt wr (w.heap.size + 1) (2 ^ n - 1) ∧ Stay w wr) := ⟨hO, hR, hst⟩
      clear hR hO hst HS0
      go_wp2_with (first | (refine wpList_load_row rfl 64 (.tmp 3) rfl (w.heap.size + 1) rfl 64 (rowV (2 ^ n - 1)) (0, 0) (.array 16 4) HR.out.2.1 Try.underlying64 rfl (sizeRow' _) ?_) | (refine wpList_store_row rfl 64 (.tmp 2) (.tmp 12) rfl w.heap.size (rowV (2 ^ n - 1)) rfl rfl 64 Z HR.out.1 (sizeRow' _) (by rw [H0.out, rowV_size, rowV_size]) (rowV_one _) ?_))
      try simp only [Exit.inBlock, Exit.then]
      refine bodyPost_ret (results_cell rfl _ _ w.heap.size 64 (rowV (2 ^ n - 1)) (0, 0) (.array 16 4) rfl (setRow_heap _ _ _ _ _ _ HR.out.1) Try.underlying64 rfl (sizeRow' _)) rfl ?_
      exact ⟨rfl, stay_setRow HR.out.2.2 (Nat.le_refl _) _⟩
end Go.Proofs.Ytnhmjheipfopoaa
