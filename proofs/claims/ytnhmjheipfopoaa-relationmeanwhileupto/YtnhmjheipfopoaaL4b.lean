/- Rows of columns as arrays of booleans: rowOf, wholeRow, columns. rowOf, columns. -/
import Derived.Test.YtnhmjheipfopoaaH
import Derived.Test.YtnhmjheipfopoaaE
namespace Go.Proofs.Ytnhmjheipfopoaa
open Go.RowKit Go.Maps

/-- The array of a set of columns. -/
def rowB (c : Nat) : List Value := (List.range 16).map fun k => Value.bool (c.testBit k)
def rowV (c : Nat) : Array Value := (rowB c).toArray
theorem rowB_len (c : Nat) : (rowB c).length = 16 := by simp [rowB]
theorem rowV_size (c : Nat) : (rowV c).size = 16 := by simp [rowV, rowB]
theorem rowV_one (c : Nat) : (rowV c).all (·.oneCell') = true := by simp [rowV, rowB, Value.oneCell']
theorem rowV_at (c k : Nat) (hk : k < 16) : (rowV c)[k]? = some (.bool (c.testBit k)) := by simp [rowV, rowB, hk]
theorem rowV_set (c k : Nat) (hk : k < 16) : (rowV c).setIfInBounds k (.bool true) = rowV (c ||| 2 ^ k) := by
  apply Array.ext_getElem?
  intro i
  by_cases hi : i < 16
  · rw [rowV_at _ i hi, Array.getElem?_setIfInBounds, Nat.testBit_or, Nat.testBit_two_pow]
    by_cases e : k = i
    · subst e; simp [rowV_size, hk]
    · rw [if_neg e, rowV_at _ i hi]; simp [e]
  · rw [Array.getElem?_eq_none (by simp [rowV_size]; omega), Array.getElem?_eq_none (by simp [rowV_size]; omega)]
theorem rowV_zero : rowV 0 = (List.replicate 16 (Value.bool false)).toArray := by kernel_rfl
theorem rowV_inj {c d : Nat} (hc : c < 65536) (hd : d < 65536) (h : rowV c = rowV d) : c = d := by
  apply Nat.eq_of_testBit_eq
  intro i
  by_cases hi : i < 16
  · have := congrArg (·[i]?) h
    simpa [rowV_at _ i hi] using this
  · rw [Nat.testBit_lt_two_pow (Nat.lt_of_lt_of_le hc (show 65536 ≤ 2 ^ i from by have := Nat.pow_le_pow_right (show 0 < 2 by decide) (show 16 ≤ i by omega); simpa using this)),
      Nat.testBit_lt_two_pow (Nat.lt_of_lt_of_le hd (show 65536 ≤ 2 ^ i from by have := Nat.pow_le_pow_right (show 0 < 2 by decide) (show 16 ≤ i by omega); simpa using this))]

theorem infoRow : (Try.prog.info? 64).map (fun i => (i.zero, i.size)) = some (some (.agg (List.replicate 16 (Value.bool false)).toArray), 16) := by kernel_rfl
theorem zeroRow (w : World) : (zeroValue 64).run Try.prog w = .ok (.agg (rowV 0)) w := by rw [rowV_zero]; exact (zero_of_info infoRow).1 w
theorem sizeRow : (Try.prog.info? 64).map (·.size) = some 16 := by kernel_rfl
theorem sizeRow' (c : Nat) : (Try.prog.info? 64).map (·.size) = some (rowV c).size := by rw [rowV_size]; exact sizeRow

/-- An array of columns lies in block b. -/
def RowAt (w : World) (b c : Nat) : Prop := w.heap[b]? = some (.cells (rowV c) 64 (0, 0))
theorem RowAt.set {w : World} {b c : Nat} (h : RowAt w b c) (k : Nat) (hk : k < 16) : RowAt (w.setCell ⟨b, k, none⟩ (.bool true)) b (c ||| 2 ^ k) := by
  unfold RowAt at *
  rw [heap_setCell_same w b k _ _ _ h, rowV_set c k hk]
theorem RowAt.cell {w : World} {b c : Nat} (h : RowAt w b c) (k : Nat) (hk : k < 16) : w.cell? ⟨b, k, none⟩ = some (.bool (c.testBit k)) := by
  unfold RowAt at h
  simp only [World.cell?, h]
  exact rowV_at c k hk
theorem RowAt.free {w : World} {b c : Nat} (h : RowAt w b c) (k : Nat) : w.frozen? ⟨b, k, none⟩ = false := by
  unfold RowAt at h
  simp [World.frozen?, h]

theorem results_cell {P : Program} {fn : Func} {p : Tmp} {ty : TypeId} (h : fn.results = #[.cell p ty]) (tmps : Array Value) (w : World) (g : Nat) (t' : TypeId) (cs : Array Value) (fr : Nat × Nat) (d : TypeDesc)
    (hp : tmps.getD p undef = .pointer (some ⟨g, 0, none⟩)) (hg : w.heap[g]? = some (.cells cs t' fr))
    (hu : P.underlying ty = some d) (hd : (match d with | .struct _ | .array _ _ => true | _ => false) = true) (hi : (P.info? ty).map (·.size) = some cs.size) :
    (results fn tmps).run P w = .ok (.agg cs) w := by
  have hp' : tmps[p]?.getD undef = .pointer (some ⟨g, 0, none⟩) := by simpa using hp
  simp [results, h, hp', asAddr, run_loadVar_row w g t' ty cs fr d hg hu hd hi]

theorem ones_succ (k : Nat) : (2 ^ k - 1) ||| 2 ^ k = 2 ^ (k + 1) - 1 := by
  apply Nat.eq_of_testBit_eq
  intro i
  rw [Nat.testBit_or, Nat.testBit_two_pow_sub_one, Nat.testBit_two_pow, Nat.testBit_two_pow_sub_one]
  by_cases h1 : i < k
  · simp [h1]; omega
  · by_cases h2 : k = i
    · simp [h2]
    · simp [h1, h2]; omega

set_option maxRecDepth 100000 in
set_option maxHeartbeats 1000000 in
theorem whole_any (w : World) (n : Nat) (hn : n ≤ 16) :
    Calls Try.prog 59 #[.int .i64 n] w fun e w' => e = .returned (.agg (rowV (2 ^ n - 1))) ∧ Stay w w' := by
  have hz := zeroRow
  obtain ⟨Z, hZ⟩ : ∃ Z, Z = rowV 0 := ⟨_, rfl⟩
  rw [← hZ] at hz
  have H0 : Hid (Z = rowV 0) := hZ
  clear hZ
  go_enter Try.func59, Try.ntmps59
  go_wp2
  have HS0 : Hid (RowAt ((w.alloc (.cells Z 64)).alloc (.cells Z 64)) (w.heap.size + 1) (2 ^ 0 - 1) ∧ ((w.alloc (.cells Z 64)).alloc (.cells Z 64)).heap[w.heap.size]? = some (.cells Z 64 (0, 0)) ∧ Stay w ((w.alloc (.cells Z 64)).alloc (.cells Z 64))) :=
    ⟨by rw [H0.out]; exact heap_alloc2_new _ _ _, heap_alloc2_old _ _ _, (Stay.new w _).alloc _⟩
  go_loopw [6] (fun i wr => ∃ k : Nat, k ≤ n ∧ i = .int .i64 k ∧ RowAt wr (w.heap.size + 1) (2 ^ k - 1) ∧ wr.heap[w.heap.size]? = some (.cells Z 64 (0, 0)) ∧ Stay w wr) (fun i _ => n - (intOf i).toNat)
  case atStart => exact ⟨0, Nat.zero_le _, rfl, HS0.out⟩
  case round =>
    obtain ⟨k, hk, rfl, hR, hO, hst⟩ := hrel
    clear hz
    by_cases hlt : k < n
    · have hi1 : (k : Int) < (n : Int) := by omega
      have c1 := hR.cell k (by omega)
      have f1 := hR.free k
      have hk16 : (k : Int) < 16 := by omega
      have HN : Hid (RowAt (wr.setCell ⟨w.heap.size + 1, k, none⟩ (.bool true)) (w.heap.size + 1) (2 ^ (k + 1) - 1) ∧ (wr.setCell ⟨w.heap.size + 1, k, none⟩ (.bool true)).heap[w.heap.size]? = some (.cells Z 64 (0, 0)) ∧ Stay w (wr.setCell ⟨w.heap.size + 1, k, none⟩ (.bool true))) := by
        refine ⟨?_, (Below.heap_setCell _ _ _ _ (by show w.heap.size ≠ w.heap.size + 1; omega)).trans hO, stay_set hst (by omega) _⟩
        have := hR.set k (by omega)
        rw [ones_succ] at this
        exact this
      clear hR hO hst HS0
      go_wp2
      go_roundw
      case rel => exact ⟨k + 1, by omega, by go_num, HN.out⟩
      case measure => simp [intOf]; omega
    · obtain rfl : n = k := by omega
      have HR : Hid (wr.heap[w.heap.size]? = some (.cells Z 64 (0, 0)) ∧ RowAt wr (w.heap.size + 1) (2 ^ n - 1) ∧ Stay w wr) := ⟨hO, hR, hst⟩
      clear hR hO hst HS0
      go_wp2_with (first | (refine wpList_load_row rfl 64 (.tmp 3) rfl (w.heap.size + 1) rfl 64 (rowV (2 ^ n - 1)) (0, 0) (.array 16 4) HR.out.2.1 Try.underlying64 rfl (sizeRow' _) ?_) | (refine wpList_store_row rfl 64 (.tmp 2) (.tmp 12) rfl w.heap.size (rowV (2 ^ n - 1)) rfl rfl 64 Z HR.out.1 (sizeRow' _) (by rw [H0.out, rowV_size, rowV_size]) (rowV_one _) ?_))
      try simp only [Exit.inBlock, Exit.then]
      refine bodyPost_ret (results_cell rfl _ _ w.heap.size 64 (rowV (2 ^ n - 1)) (0, 0) (.array 16 4) rfl (setRow_heap _ _ _ _ _ _ HR.out.1) Try.underlying64 rfl (sizeRow' _)) rfl ?_
      exact ⟨rfl, stay_setRow HR.out.2.2 (Nat.le_refl _) _⟩
end Go.Proofs.Ytnhmjheipfopoaa
namespace Go.Proofs.Ytnhmjheipfopoaa
open Go.RowKit Go.Maps

/-- The set of columns that rise and are below the arity; none if they don't. -/
def rowL (ar : Nat) : List Int → Int → Nat → Option Nat
  | [], _, acc => some acc
  | x :: xs, last, acc => if x ≤ last ∨ (ar : Int) ≤ x then none else rowL ar xs x (acc ||| 2 ^ x.toNat)
theorem rowL_step {ar : Nat} {xs : List Int} {k : Nat} (h : k < xs.length) (last : Int) (acc : Nat) : rowL ar (xs.drop k) last acc = if xs[k] ≤ last ∨ (ar : Int) ≤ xs[k] then none else rowL ar (xs.drop (k + 1)) xs[k] (acc ||| 2 ^ xs[k].toNat) := by
  rw [List.drop_eq_getElem_cons h]; rfl
/-- What rowOf answers. -/
def rowR : Option Nat → Array Value
  | none => #[.agg (rowV 0), .bool false]
  | some c => #[.agg (rowV c), .bool true]

set_option maxRecDepth 100000 in
set_option maxHeartbeats 1000000 in
theorem rowOf_any (w : World) (a1 : Option Addr) (b1 o1 c1 : Nat) (xs : List Int) (hx : IntsS w a1 b1 o1 xs) (hlx : xs.length ≤ maxLen) (ar : Nat) (har : ar ≤ 16) :
    Calls Try.prog 44 #[.slice a1 xs.length c1, .int .i64 ar] w fun e w' => e = .returned (.tuple (rowR (rowL ar xs (-1) 0))) ∧ Stay w w' := by
  unfold maxLen at hlx
  have hz := zeroRow
  obtain ⟨Z, hZ⟩ : ∃ Z, Z = rowV 0 := ⟨_, rfl⟩
  rw [← hZ] at hz
  have H0 : Hid (Z = rowV 0) := hZ
  have HX : Hid (IntsS w a1 b1 o1 xs) := hx
  clear hZ hx
  go_enter Try.func44, Try.ntmps44
  go_wp2
  have HS0 : Hid (RowAt ((w.alloc (.cells Z 64)).alloc (.cells Z 64)) (w.heap.size + 1) 0 ∧ ((w.alloc (.cells Z 64)).alloc (.cells Z 64)).heap[w.heap.size]? = some (.cells Z 64 (0, 0)) ∧ Stay w ((w.alloc (.cells Z 64)).alloc (.cells Z 64))) :=
    ⟨by rw [H0.out]; exact heap_alloc2_new _ _ _, heap_alloc2_old _ _ _, (Stay.new w _).alloc _⟩
  go_loopw [7, 12] (fun l i wr => ∃ (k : Nat) (last : Int) (acc : Nat), k ≤ xs.length ∧ i = .int .i64 k ∧ l = .int .i64 last ∧ -1 ≤ last ∧ rowL ar (xs.drop k) last acc = rowL ar xs (-1) 0 ∧ RowAt wr (w.heap.size + 1) acc ∧ wr.heap[w.heap.size]? = some (.cells Z 64 (0, 0)) ∧ Stay w wr) (fun _l i _ => xs.length - (intOf i).toNat)
  case atStart => exact ⟨0, -1, 0, Nat.zero_le _, rfl, rfl, by omega, rfl, HS0.out⟩
  case round =>
    obtain ⟨k, last, acc, hk, rfl, rfl, hl, hh, hR, hO, hst⟩ := hrel
    by_cases hlt : k < xs.length
    · obtain rfl := HX.out.1 (by omega)
      have hc1 := hst.cell (HX.out.2 k hlt)
      have hi1 : (k : Int) < (xs.length : Int) := by omega
      rw [rowL_step hlt] at hh
      by_cases hbad : xs[k] ≤ last ∨ (ar : Int) ≤ xs[k]
      · rw [if_pos hbad] at hh
        have HH : Hid (rowR (rowL ar xs (-1) 0) = #[.agg (rowV 0), .bool false]) := by rw [← hh]; rfl
        have HR : Hid (wr.heap[w.heap.size]? = some (.cells Z 64 (0, 0)) ∧ Stay w wr) := ⟨hO, hst⟩
        clear hh hR hO hst HS0
        generalize xs[k] = x at hc1 hbad
        by_cases h1 : x ≤ last
        · go_wp2_with (first | (refine wpList_store_row rfl 64 (.tmp 4) (.tmp 24) rfl w.heap.size Z rfl rfl 64 Z HR.out.1 (by rw [H0.out]; exact sizeRow' _) rfl (by rw [H0.out]; exact rowV_one _) ?_))
          try simp only [Exit.inBlock, Exit.then]
          refine bodyPost_ret (results_cell_tmp rfl _ _ w.heap.size 64 Z (0, 0) (.array 16 4) rfl (setRow_heap _ _ _ _ _ _ HR.out.1) Try.underlying64 rfl (by rw [H0.out]; exact sizeRow' _)) rfl ?_
          exact ⟨by rw [HH.out, H0.out]; rfl, stay_setRow HR.out.2 (Nat.le_refl _) _⟩
        · have h2 : (ar : Int) ≤ x := by omega
          go_wp2_with (first | (refine wpList_store_row rfl 64 (.tmp 4) (.tmp 24) rfl w.heap.size Z rfl rfl 64 Z HR.out.1 (by rw [H0.out]; exact sizeRow' _) rfl (by rw [H0.out]; exact rowV_one _) ?_))
          try simp only [Exit.inBlock, Exit.then]
          refine bodyPost_ret (results_cell_tmp rfl _ _ w.heap.size 64 Z (0, 0) (.array 16 4) rfl (setRow_heap _ _ _ _ _ _ HR.out.1) Try.underlying64 rfl (by rw [H0.out]; exact sizeRow' _)) rfl ?_
          exact ⟨by rw [HH.out, H0.out]; rfl, stay_setRow HR.out.2 (Nat.le_refl _) _⟩
      · rw [if_neg hbad] at hh
        have hlo : last < xs[k] := by omega
        have hhi : xs[k] < (ar : Int) := by omega
        clear hbad
        obtain ⟨m, hm⟩ : ∃ m : Nat, xs[k] = (m : Int) := ⟨xs[k].toNat, by omega⟩
        rw [hm] at hc1 hh hlo hhi
        have hm16 : (m : Int) < 16 := by omega
        have c1 := hR.cell m (by omega)
        have f1 := hR.free m
        have HN : Hid (rowL ar (xs.drop (k + 1)) m (acc ||| 2 ^ m) = rowL ar xs (-1) 0 ∧ RowAt (wr.setCell ⟨w.heap.size + 1, m, none⟩ (.bool true)) (w.heap.size + 1) (acc ||| 2 ^ m) ∧ (wr.setCell ⟨w.heap.size + 1, m, none⟩ (.bool true)).heap[w.heap.size]? = some (.cells Z 64 (0, 0)) ∧ Stay w (wr.setCell ⟨w.heap.size + 1, m, none⟩ (.bool true))) := by
          refine ⟨by simpa using hh, hR.set m (by omega), (Below.heap_setCell _ _ _ _ (by show w.heap.size ≠ w.heap.size + 1; omega)).trans hO, stay_set hst (by omega) _⟩
        clear hR hO hst HS0 hh hm
        go_wp2
        go_roundw
        case rel => exact ⟨k + 1, m, _, by omega, by go_num, rfl, by omega, HN.out⟩
        case measure => simp [intOf]; omega
    · obtain rfl : k = xs.length := by omega
      have HR : Hid (rowR (rowL ar xs (-1) 0) = #[.agg (rowV acc), .bool true] ∧ wr.heap[w.heap.size]? = some (.cells Z 64 (0, 0)) ∧ RowAt wr (w.heap.size + 1) acc ∧ Stay w wr) := ⟨by rw [← hh, List.drop_length]; rfl, hO, hR, hst⟩
      clear hR hO hst HS0 hh
      go_wp2_with (first | (refine wpList_load_row rfl 64 (.tmp 6) rfl (w.heap.size + 1) rfl 64 (rowV acc) (0, 0) (.array 16 4) HR.out.2.2.1 Try.underlying64 rfl (sizeRow' _) ?_) | (refine wpList_store_row rfl 64 (.tmp 4) (.tmp 29) rfl w.heap.size (rowV acc) rfl rfl 64 Z HR.out.2.1 (sizeRow' _) (by rw [H0.out, rowV_size, rowV_size]) (rowV_one _) ?_))
      try simp only [Exit.inBlock, Exit.then]
      refine bodyPost_ret (results_cell_tmp rfl _ _ w.heap.size 64 (rowV acc) (0, 0) (.array 16 4) rfl (setRow_heap _ _ _ _ _ _ HR.out.2.1) Try.underlying64 rfl (sizeRow' _)) rfl ?_
      exact ⟨by rw [HR.out.1]; rfl, stay_setRow HR.out.2.2.2 (Nat.le_refl _) _⟩

/-- The columns of a set, taken together, are the set. -/
theorem cols_lt (c k : Nat) : ∀ x ∈ cols c k, 0 ≤ x ∧ x < (k : Int) := by
  intro x hx
  obtain ⟨q, rfl, h1, _⟩ := cols_mem hx
  omega
theorem ofL_cols (c : Nat) (hc : c < 65536) : ofL (cols c 16) 0 = some c := by
  have key : ∀ (L : List Nat) (acc : Nat), (∀ x ∈ L, x < 16) → ∃ d, ofL (L.map Int.ofNat) acc = some d ∧ ∀ i, d.testBit i = (acc.testBit i || decide (i ∈ L)) := by
    intro L
    induction L with
    | nil => intro acc _; exact ⟨acc, rfl, fun i => by simp⟩
    | cons x L ih =>
      intro acc h
      obtain ⟨d, h1, h2⟩ := ih (acc ||| 2 ^ x) (fun y hy => h y (by simp [hy]))
      have hx := h x (by simp)
      refine ⟨d, ?_, fun i => ?_⟩
      · rw [List.map_cons]
        show (if 0 ≤ Int.ofNat x ∧ Int.ofNat x < 16 then _ else none) = _
        rw [if_pos ⟨by simp, by simp; omega⟩]
        exact h1
      · rw [h2 i, Nat.testBit_or, Nat.testBit_two_pow, Bool.eq_iff_iff]
        simp only [Bool.or_eq_true, decide_eq_true_eq, List.mem_cons]
        constructor
        · rintro ((h | h) | h)
          · exact .inl h
          · exact .inr (.inl h.symm)
          · exact .inr (.inr h)
        · rintro (h | rfl | h)
          · exact .inl (.inl h)
          · exact .inl (.inr rfl)
          · exact .inr h
  obtain ⟨d, h1, h2⟩ := key ((List.range 16).filter c.testBit) 0 (fun x hx => by rw [List.mem_filter, List.mem_range] at hx; exact hx.1)
  have e : d = c := by
    apply Nat.eq_of_testBit_eq
    intro i
    rw [h2 i, Nat.zero_testBit, Bool.false_or]
    by_cases hi : i < 16
    · cases hb : c.testBit i <;> simp [hi, hb]
    · have hlo : c.testBit i = false := Nat.testBit_lt_two_pow (Nat.lt_of_lt_of_le hc (show 65536 ≤ 2 ^ i from by have := Nat.pow_le_pow_right (show 0 < 2 by decide) (show 16 ≤ i by omega); simpa using this))
      rw [hlo]; simp; omega
  rw [← e]
  exact e ▸ h1

theorem run_index_row (c k : Nat) (hk : k < 16) (W : World) : (Instr.index 64 (.agg (rowV c)) (.int .i64 (k : Int))).run Try.prog W = .ok (.bool (c.testBit k)) W := by
  have hn : (0 ≤ (k : Int) ∧ (k : Int) < ((16 : Nat) : Int)) := by omega
  simp [Instr.index, run_underlying Try.underlying64, asIntOf, hn, go_sem, rowV_at c k hk, hk]

set_option maxRecDepth 100000 in
set_option maxHeartbeats 1000000 in
theorem columns_any (w : World) (c : Nat) (hc : c < 65536) : Calls Try.prog 69 #[.agg (rowV c)] w fun e w' => e = .returned (.int .u16 c) ∧ Stay w w' := by
  obtain ⟨i0, hi, hz0, hz1, hz2⟩ := info_parts infoInt
  have HOf : Hid (∀ (W : World) (a : Option Addr) (b o c9 : Nat), IntsS W a b o (cols c 16) → Calls Try.prog 86 #[.slice a (cols c 16).length c9] W fun e w' => e = .returned (.tuple #[.int .u16 c, .int .i64 0]) ∧ w' = W) := fun W a b o c9 hI => by
    have h := of_any W a b o c9 _ hI (by have := cols_len c 16; unfold maxLen; omega)
    rw [ofL_cols c hc] at h; exact h
  obtain ⟨V, hV⟩ : ∃ V, V = rowV c := ⟨_, rfl⟩
  have HV : Hid (V = rowV c) := hV
  rw [← hV]
  clear hV
  have hs16 : V.size = 16 := by rw [HV.out]; exact rowV_size c
  have HS0 : Hid (Stay w (w.alloc (.cells V 64))) := Stay.new w _
  go_enter Try.func69, Try.ntmps69
  go_wp2_with (first | (refine wpList_load_row rfl 64 (.tmp 1) rfl w.heap.size rfl 64 V (0, 0) (.array 16 4) (heap_alloc_new _ _) Try.underlying64 rfl (by rw [HV.out]; exact sizeRow' _) ?_))
  go_loopw [3, 9] (fun v i wr => ∃ k : Nat, k ≤ 16 ∧ i = .int .i64 k ∧ OwnI w.heap.size wr v (cols c k) ∧ Stay w wr) (fun v i _ => 16 - (intOf i).toNat)
  case atStart => exact ⟨0, Nat.zero_le _, rfl, ⟨rfl, .inl ⟨rfl, rfl⟩⟩, HS0.out⟩
  case round =>
    obtain ⟨k, hk, rfl, hown, hst⟩ := hrel
    by_cases hlt : k < 16
    · have hi1 : (k : Int) < 16 := by omega
      have hV1 : (Instr.index 64 (.agg V) (.int .i64 (k : Int))).run Try.prog wr = .ok (.bool (c.testBit k)) wr := by rw [HV.out]; exact run_index_row c k hlt wr
      have HO2 : Hid (OwnI w.heap.size wr u3 (cols c k) ∧ Stay w wr) := ⟨hown, hst⟩
      have hl2 := cols_len c k
      have HN := cols_succ c k
      clear hown hst HS0
      by_cases ht : c.testBit k = true
      · rw [ht] at hV1
        rw [if_pos ht] at HN
        have HN2 : Hid (cols c (k + 1) = cols c k ++ [(k : Int)]) := HN
        clear HN ht
        go_wp2_with (first | (at_builtin; refine wpList_append_own _ rfl _ _ 23 rfl w.heap.size 3 i0 _ 1 8 Try.underlying23 hi hz0 hz1 hz2 rfl (by decide) u3 (cols c k).length ((cols c k).map (Value.int .i64)) rfl (HO2.out.1.alloc _) ⟨wr.heap.size, 0, none⟩ 1 1 [.int .i64 k] rfl rfl (new_cells wr [.int .i64 k] 3) (by simp [Value.oneCell']) (by unfold maxLen; omega) (by omega) (by rw [World.size_alloc]; have := HO2.out.2.size; omega) ?_; intro v2 w2 hown2 hg2 hn2; have HR : Hid (OwnI w.heap.size w2 v2 (cols c (k + 1)) ∧ Stay w w2) := ⟨by rw [HN2.out]; unfold OwnI; rw [List.length_append, List.map_append]; exact hown2, (HO2.out.2.alloc _).grown hg2 (by rw [World.size_alloc]; have := HO2.out.2.size; omega) (fun k e => (HO2.out.1.lt k e).1)⟩; clear hown2 hg2 hn2))
        go_roundw
        case rel => exact ⟨k + 1, by omega, by go_num, HR.out.1, HR.out.2⟩
        case measure => simp [intOf]; omega
      · have ht2 : c.testBit k = false := by simpa using ht
        rw [ht2] at hV1
        rw [if_neg ht, List.append_nil] at HN
        have HR : Hid (OwnI w.heap.size wr u3 (cols c (k + 1)) ∧ Stay w wr) := by rw [HN]; exact HO2.out
        clear HN ht ht2
        go_wp2
        go_roundw
        case rel => exact ⟨k + 1, by omega, by go_num, HR.out.1, HR.out.2⟩
        case measure => simp [intOf]; omega
    · obtain rfl : 16 = k := by omega
      obtain ⟨a, b, c9, rfl, hI⟩ := hown.ints
      have HI := HOf.out wr a b 0 c9 hI
      have HR : Hid (Stay w wr) := hst
      clear hown hst HS0 hI
      go_wp2_with (go_at_call 86; refine Calls.mono HI ?_; rintro e w9 ⟨rfl, hw⟩; have hw' := hw.symm; subst hw')
      go_ret
      exact ⟨rfl, HR.out⟩
end Go.Proofs.Ytnhmjheipfopoaa
