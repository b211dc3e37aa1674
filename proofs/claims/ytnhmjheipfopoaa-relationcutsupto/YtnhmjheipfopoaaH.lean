/- copied, Cut: lists that are made and filled. -/
import Derived.Test.YtnhmjheipfopoaaG
import Derived.Laws.OwnMore
namespace Go.Proofs.Ytnhmjheipfopoaa
open Go.RowKit Go.Maps

theorem splice_all {Z X : List Value} (h : X.length = Z.length) : splice Z 0 X = X := by
  simp [splice, h]

theorem own_block {w : World} {base b : Nat} {zs : List Int} (hb : base ≤ b) (hh : w.heap[b]? = some (.cells (zs.map (Value.int .i64)).toArray 3 (0, 0))) (hl : zs.length ≤ maxLen) :
    OwnI base w (.slice (some ⟨b, 0, none⟩) zs.length zs.length) zs :=
  ⟨by simp, .inr ⟨b, zs.length, _, rfl, hb, hh, Nat.le_refl _, hl, by simp, by rw [Nat.mul_one]; exact List.take_of_length_le (by simp)⟩⟩

theorem src_of {w : World} {a : Option Addr} {b o : Nat} {xs : List Int} (hx : IntsS w a b o xs) (h : 0 < (xs.map (Value.int .i64)).length) : ∃ ad, a = some ad ∧ ∀ j v, (xs.map (Value.int .i64))[j]? = some v → w.cell? (ad.add j) = some v := by
  refine ⟨_, hx.1 (by simpa using h), fun j v hv => ?_⟩
  rw [List.getElem?_map, Option.map_eq_some_iff] at hv
  obtain ⟨z, h1, rfl⟩ := hv
  obtain ⟨hj, rfl⟩ := List.getElem?_eq_some_iff.1 h1
  rw [add_at]
  exact hx.2 j hj


theorem cols_mem {c m : Nat} {x : Int} (h : x ∈ cols c m) : ∃ q : Nat, x = q ∧ q < m ∧ c.testBit q = true := by
  unfold cols at h
  rw [List.mem_map] at h
  obtain ⟨q, hq, rfl⟩ := h
  rw [List.mem_filter, List.mem_range] at hq
  exact ⟨q, rfl, hq.1, hq.2⟩

theorem col_lt {c q : Nat} (hc : c < 65536) (h : c.testBit q = true) : q < Lib.bitLen c := by
  have h1 := Nat.ge_two_pow_of_testBit h
  have h2 := (bitLen_bound c hc).1
  exact (Nat.pow_lt_pow_iff_right (a := 2) (by omega)).1 (Nat.lt_of_le_of_lt h1 h2)

/-- A tuple's numbers at the columns of c. -/
def cutL (xs : List Int) (c : Nat) : List Int := (cols c 16).map fun k => xs.getD k.toNat 0

def fillL (M : List Int) (k : Nat) : List Int := M.take k ++ List.replicate (M.length - k) 0
theorem fillL_len (M : List Int) (k : Nat) (h : k ≤ M.length) : (fillL M k).length = M.length := by simp [fillL]; omega
theorem fillL_set (M : List Int) (k : Nat) (h : k < M.length) : (fillL M k).set k M[k] = fillL M (k + 1) := by
  unfold fillL
  rw [List.set_append_right _ _ (by simp; omega), List.take_succ_eq_append_getElem h, show M.length - k = (M.length - (k + 1)) + 1 by omega, List.replicate_succ]
  rw [show k - (M.take k).length = 0 by simp; omega, List.set_cons_zero, List.append_assoc]
  rfl
theorem fillL_all (M : List Int) : fillL M M.length = M := by simp [fillL]
theorem fillL_none (M : List Int) : fillL M 0 = List.replicate M.length 0 := by simp [fillL]

def rowI (w : World) (g : Nat) (zs : List Int) : Prop := w.heap[g]? = some (.cells (zs.map (Value.int .i64)).toArray 3 (0, 0))

theorem rowI.set {w : World} {g : Nat} {zs : List Int} (h : rowI w g zs) (k : Nat) (z : Int) : rowI (w.setCell ⟨g, k, none⟩ (.int .i64 z)) g (zs.set k z) := by
  unfold rowI at *
  rw [heap_setCell_same w g k _ _ _ h]
  simp
theorem rowI.cell {w : World} {g : Nat} {zs : List Int} (h : rowI w g zs) (k : Nat) (hk : k < zs.length) : w.cell? ⟨g, k, none⟩ = some (.int .i64 zs[k]) := by
  unfold rowI at h
  simp [World.cell?, h, hk]
theorem rowI.free {w : World} {g : Nat} {zs : List Int} (h : rowI w g zs) (k : Nat) : w.frozen? ⟨g, k, none⟩ = false := by
  unfold rowI at h
  simp [World.frozen?, h]

theorem stay_set {w w' : World} {g k : Nat} (h : Stay w w') (hg : w.heap.size ≤ g) (v : Value) : Stay w (w'.setCell ⟨g, k, none⟩ v) :=
  Below.trans h ⟨rfl, rfl, rfl, by simp [World.setCell], fun j hj => Below.heap_setCell _ _ _ _ (by show j ≠ g; omega)⟩

theorem cut_short (w : World) (a1 : Option Addr) (c1 n c : Nat) (hc : c < 65536) (h : n < Lib.bitLen c) :
    Calls Try.prog 61 #[.slice a1 n c1, .int .u16 c] w fun e w' => e = .returned (.tuple #[.slice none 0 0, .int .i64 2]) ∧ w' = w := by
  have HW := width_any c hc w
  generalize Lib.bitLen c = m at HW h
  go_enter Try.func61, Try.ntmps61
  go_wp2_with (go_at_call 73; refine Calls.mono HW ?_; rintro e w9 ⟨rfl, hw9⟩; subst w9)
  go_ret2
  exact ⟨rfl, rfl⟩

set_option maxRecDepth 100000 in
set_option maxHeartbeats 1000000 in
theorem cut_any (w : World) (a1 : Option Addr) (b1 o1 c1 c : Nat) (xs : List Int) (hx : IntsS w a1 b1 o1 xs) (hlx : xs.length ≤ maxLen) (hc : c < 65536) (h : Lib.bitLen c ≤ xs.length) :
    Calls Try.prog 61 #[.slice a1 xs.length c1, .int .u16 c] w fun e w' => ∃ v, e = .returned (.tuple #[v, .int .i64 0]) ∧ OwnI w.heap.size w' v (cutL xs c) ∧ Stay w w' := by
  unfold maxLen at hlx
  have HW := width_any c hc w
  have HL := list_any w c hc
  have hlen := cols_len c 16
  have HQ : Hid (∀ k (hk : k < (cols c 16).length), ∃ q : Nat, (cols c 16)[k] = (q : Int) ∧ q < xs.length ∧ (cutL xs c)[k]? = xs[q]?) := fun k hk => by
    obtain ⟨q, h1, h2, h3⟩ := cols_mem (List.getElem_mem hk)
    have h4 := col_lt hc h3
    refine ⟨q, h1, by omega, ?_⟩
    unfold cutL
    rw [List.getElem?_map, List.getElem?_eq_getElem hk, Option.map_some, h1]
    have h5 : q < xs.length := by omega
    simp [h5]
  have HM : Hid ((cutL xs c).length = (cols c 16).length) := List.length_map ..
  obtain ⟨L, hL⟩ : ∃ L, L = cols c 16 := ⟨_, rfl⟩
  obtain ⟨M, hM⟩ : ∃ M, M = cutL xs c := ⟨_, rfl⟩
  rw [← hL] at HL hlen
  rw [← hL, ← hM] at HQ HM
  rw [← hM]
  have HX : Hid (IntsS w a1 b1 o1 xs) := hx
  clear hx hL hM
  have h2 : (Lib.bitLen c : Int) ≤ (xs.length : Int) := by omega
  generalize Lib.bitLen c = m at HW h h2
  go_enter Try.func61, Try.ntmps61
  go_wp2_with (first | (go_at_call 73; refine Calls.mono HW ?_; rintro e w9 ⟨rfl, hw9⟩; subst w9) | (go_at_call 74; refine Calls.mono HL ?_; rintro e w1 ⟨v, rfl, hown, hst⟩; obtain ⟨a6, b6, c6, rfl, hI6⟩ := hown.ints; have HB1 : Hid (Stay w w1 ∧ IntsS w1 a6 b6 0 L) := ⟨hst, hI6⟩; have hmk := run_makeInts L.length L.length (Nat.le_refl _) (by omega) w1; rw [show madeCells #[.int .i64 0] L.length = ((fillL M 0).map (Value.int .i64)).toArray by rw [fillL_none, HM.out, List.map_replicate, ← toList_madeCells_one]] at hmk; clear hown hst hI6 HL HW))
  have HR : Hid (rowI (w1.alloc (.cells ((fillL M 0).map (Value.int .i64)).toArray 3)) w1.heap.size (fillL M 0) ∧ Stay w1 (w1.alloc (.cells ((fillL M 0).map (Value.int .i64)).toArray 3))) := ⟨heap_alloc_new _ _, Stay.new _ _⟩
  generalize w1.alloc (.cells ((fillL M 0).map (Value.int .i64)).toArray 3) = W0 at HR ⊢
  clear hmk
  go_loopw [22] (fun i wr => ∃ k : Nat, k ≤ L.length ∧ i = .int .i64 k ∧ rowI wr w1.heap.size (fillL M k) ∧ Stay w1 wr) (fun i _ => L.length - (intOf i).toNat)
  case atStart => exact ⟨0, Nat.zero_le _, rfl, HR.out.1, HR.out.2⟩
  case round =>
    obtain ⟨k, hk, rfl, hrow, hst⟩ := hrel
    by_cases hlt : k < L.length
    · have hi1 : (k : Int) < (L.length : Int) := by omega
      obtain ⟨q, hq1, hq2, hq3⟩ := HQ.out k hlt
      have hkM : k < M.length := by rw [HM.out]; exact hlt
      obtain rfl := HB1.out.2.1 (by omega)
      obtain rfl := HX.out.1 (by omega)
      have hc6 := hst.cell (HB1.out.2.2 k hlt)
      rw [hq1, Nat.zero_add] at hc6
      have hcx := hst.cell (HB1.out.1.cell (HX.out.2 q hq2))
      have hcg := hrow.cell k (by rw [fillL_len _ _ (by omega)]; exact hkM)
      have hfg := hrow.free k
      have e3 : M[k] = xs[q] := by
        rw [List.getElem?_eq_getElem hkM, List.getElem?_eq_getElem hq2] at hq3
        exact Option.some.inj hq3
      have HN : Hid (rowI (wr.setCell ⟨w1.heap.size, k, none⟩ (.int .i64 xs[q])) w1.heap.size (fillL M (k + 1)) ∧ Stay w1 (wr.setCell ⟨w1.heap.size, k, none⟩ (.int .i64 xs[q]))) := by
        have h1 := hrow.set k xs[q]
        rw [← e3, fillL_set M k hkM, e3] at h1
        exact ⟨h1, stay_set hst (Nat.le_refl _) _⟩
      have hq4 : (q : Int) < (xs.length : Int) := by omega
      clear hrow hst hq3 e3 hq1 HR
      generalize xs[q] = x at hcx HN
      generalize (fillL M k)[k]'_ = y at hcg
      go_wp2
      go_roundw
      case rel => exact ⟨k + 1, by omega, by go_num, HN.out.1, HN.out.2⟩
      case measure => simp [intOf]; omega
    · have hi1 : ¬ (k : Int) < (L.length : Int) := by omega
      obtain rfl : k = L.length := by omega
      rw [← HM.out, fillL_all] at hrow
      have HN : Hid (OwnI w.heap.size wr (.slice (some ⟨w1.heap.size, 0, none⟩) L.length L.length) M ∧ Stay w wr) := by
        rw [← HM.out]
        exact ⟨own_block HB1.out.1.size hrow (by rw [HM.out]; unfold maxLen; omega), HB1.out.1.trans hst⟩
      clear hrow hst
      go_wp2
      go_ret2
      exact ⟨_, rfl, HN.out.1, HN.out.2⟩
end Go.Proofs.Ytnhmjheipfopoaa
