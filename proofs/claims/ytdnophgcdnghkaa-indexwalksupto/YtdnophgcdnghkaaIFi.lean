/- The functions of a table of numbers: what hashes and what compares. -/
import Derived.Test.YtdnophgcdnghkaaIDi
namespace Go.Proofs.Ytdnophgcdnghkaa.I
open Go.RowKit Go.Maps Go.Proofs.Ytdnophgcdnghkaa

/-- A number of the kind int. -/
def KeyOk (k : Int) : Prop := -9223372036854775808 ≤ k ∧ k ≤ 9223372036854775807

def hashOf (way key : Int) : Nat :=
  if way % 6 = 0 then (key % 18446744073709551616).toNat else if way % 6 = 1 then 0 else if way % 6 = 2 then (key % 3).toNat else if way % 6 = 3 then (key * 11400714819323198485 % 18446744073709551616).toNat
  else if way % 6 = 4 then (18446744073709551615 - key % 5).toNat else (key % 7).toNat
def sameOf (way a b : Int) : Bool := if way % 6 = 5 then a % 7 == b % 7 else a == b

theorem ret_int {k : IntKind} {a b : Int} (h : a = b) : Ending.returned (.int k a) = .returned (.int k b) := by rw [h]

theorem wrapu (n : Int) : IntKind.u64.wrap n = n % 18446744073709551616 := by simp [IntKind.wrap, IntKind.bits, IntKind.signed]

theorem rnd_eq (k n : Int) (h0 : 0 < n) (hn : n ≤ 1000) : (wrap64 (k.tmod n + n)).tmod n = k % n := by
  have h1 : k.tmod n < n := Int.tmod_lt_of_pos k h0
  have h2 : -n < k.tmod n := by
    have := Int.tmod_lt_of_pos (-k) h0
    rw [Int.neg_tmod] at this; omega
  have hw : wrap64 (k.tmod n + n) = k.tmod n + n := by unfold wrap64; omega
  rw [hw, Int.tmod_eq_emod_of_nonneg (by omega), Int.add_emod_right]
  have h3 := Int.mul_tdiv_add_tmod k n
  have h4 : k % n = (k.tmod n + n * k.tdiv n) % n := by rw [Int.add_comm, h3]
  rw [h4, Int.add_mul_emod_self_left]

theorem round_any (w : World) (k n : Int) (hk : KeyOk k) (h0 : 0 < n) (hn : n ≤ 1000) : Calls Try.prog 46 #[.int .i64 k, .int .i64 n] w fun e w' => e = .returned (.int .i64 (k % n)) ∧ w' = w := by
  obtain ⟨hk1, hk2⟩ := hk
  have hr := rnd_eq k n h0 hn
  go_enter Try.func46, Try.ntmps46
  go_wp2
  go_ret
  exact ⟨rfl, rfl⟩

theorem hash_0 (way k : Int) (c : way % 6 = 0) : ((hashOf way k : Nat) : Int) = k % 18446744073709551616 := by
  unfold hashOf; rw [if_pos c]; omega
theorem hash_1 (way k : Int) (c : way % 6 = 1) : ((hashOf way k : Nat) : Int) = 0 := by
  unfold hashOf; rw [if_neg (by omega), if_pos c]; rfl
theorem hash_2 (way k : Int) (c : way % 6 = 2) : ((hashOf way k : Nat) : Int) = k % 3 := by
  unfold hashOf; rw [if_neg (by omega), if_neg (by omega), if_pos c]; omega
theorem hash_3 (way k : Int) (c : way % 6 = 3) : ((hashOf way k : Nat) : Int) = k * 11400714819323198485 % 18446744073709551616 := by
  unfold hashOf; rw [if_neg (by omega), if_neg (by omega), if_neg (by omega), if_pos c]; exact Int.toNat_of_nonneg (Int.emod_nonneg _ (by decide))
theorem hash_4 (way k : Int) (c : way % 6 = 4) : ((hashOf way k : Nat) : Int) = 18446744073709551615 - k % 5 := by
  unfold hashOf; rw [if_neg (by omega), if_neg (by omega), if_neg (by omega), if_neg (by omega), if_pos c]; omega
theorem hash_5 (way k : Int) (c : way % 6 = 5) : ((hashOf way k : Nat) : Int) = k % 7 := by
  unfold hashOf; rw [if_neg (by omega), if_neg (by omega), if_neg (by omega), if_neg (by omega), if_neg (by omega)]; omega
theorem hash_lt (way k : Int) : hashOf way k < 18446744073709551616 := by
  unfold hashOf; repeat' split
  all_goals omega
theorem rhash_any (w : World) (way k : Int) (hw : KeyOk way) (hk : KeyOk k) : Calls Try.prog 21 #[.int .i64 way, .int .i64 k] w fun e w' => e = .returned (.int .u64 (hashOf way k : Nat)) ∧ w' = w := by
  have h6 := round_any w way 6 hw (by decide) (by decide)
  have h3 := round_any w k 3 hk (by decide) (by decide)
  have h5 := round_any w k 5 hk (by decide) (by decide)
  have h7 := round_any w k 7 hk (by decide) (by decide)
  have hl : 0 ≤ way % 6 ∧ way % 6 < 6 := by omega
  obtain ⟨hk1, hk2⟩ := hk
  have b3 : 0 ≤ k % 3 ∧ k % 3 < 3 := by omega
  have b5 : 0 ≤ k % 5 ∧ k % 5 < 5 := by omega
  have b7 : 0 ≤ k % 7 ∧ k % 7 < 7 := by omega
  have c : way % 6 = 0 ∨ way % 6 = 1 ∨ way % 6 = 2 ∨ way % 6 = 3 ∨ way % 6 = 4 ∨ way % 6 = 5 := by omega
  rcases c with c | c | c | c | c | c
  · rw [hash_0 way k c]
    have hw0 := wrapu k
    rw [c] at h6
    clear c hl
    go_enter Try.func21, Try.ntmps21
    go_wp2_with fail
    refine h6.mono ?_
    rintro e w9 ⟨rfl, hw⟩
    have hw' := hw.symm; subst hw'
    go_wp2_with fail
    go_ret
    exact ⟨rfl, rfl⟩
  · rw [hash_1 way k c]
    rw [c] at h6
    clear c hl
    go_enter Try.func21, Try.ntmps21
    go_wp2_with fail
    refine h6.mono ?_
    rintro e w9 ⟨rfl, hw⟩
    have hw' := hw.symm; subst hw'
    go_wp2_with fail
    go_ret
    exact ⟨rfl, rfl⟩
  · rw [hash_2 way k c]
    rw [c] at h6
    clear c hl
    go_enter Try.func21, Try.ntmps21
    go_wp2_with fail
    refine h6.mono ?_
    rintro e w9 ⟨rfl, hw⟩
    have hw' := hw.symm; subst hw'
    go_wp2_with fail
    refine h3.mono ?_
    rintro e w9 ⟨rfl, hw⟩
    have hw' := hw.symm; subst hw'
    go_wp2_with fail
    go_ret
    exact ⟨rfl, rfl⟩
  · rw [hash_3 way k c]
    rw [c] at h6
    clear c hl
    have HW : Hid (IntKind.u64.wrap (IntKind.u64.wrap k * 11400714819323198485) = k * 11400714819323198485 % 18446744073709551616) := by
      show IntKind.u64.wrap (IntKind.u64.wrap k * 11400714819323198485) = k * 11400714819323198485 % 18446744073709551616
      generalize (11400714819323198485 : Int) = C
      rw [wrapu, wrapu, Int.mul_emod, Int.emod_emod, ← Int.mul_emod]
    go_enter Try.func21, Try.ntmps21
    go_wp2_with fail
    refine h6.mono ?_
    rintro e w9 ⟨rfl, hw⟩
    have hw' := hw.symm; subst hw'
    go_wp2_with fail
    go_ret
    exact ⟨ret_int HW.out, rfl⟩
  · rw [hash_4 way k c]
    rw [c] at h6
    clear c hl
    go_enter Try.func21, Try.ntmps21
    go_wp2_with fail
    refine h6.mono ?_
    rintro e w9 ⟨rfl, hw⟩
    have hw' := hw.symm; subst hw'
    go_wp2_with fail
    refine h5.mono ?_
    rintro e w9 ⟨rfl, hw⟩
    have hw' := hw.symm; subst hw'
    go_wp2_with fail
    go_ret
    exact ⟨rfl, rfl⟩
  · rw [hash_5 way k c]
    rw [c] at h6
    clear c hl
    go_enter Try.func21, Try.ntmps21
    go_wp2_with fail
    refine h6.mono ?_
    rintro e w9 ⟨rfl, hw⟩
    have hw' := hw.symm; subst hw'
    go_wp2_with fail
    refine h7.mono ?_
    rintro e w9 ⟨rfl, hw⟩
    have hw' := hw.symm; subst hw'
    go_wp2_with fail
    go_ret
    exact ⟨rfl, rfl⟩

theorem rsame_any (w : World) (way a b : Int) (hw : KeyOk way) (ha : KeyOk a) (hb : KeyOk b) : Calls Try.prog 23 #[.int .i64 way, .int .i64 a, .int .i64 b] w fun e w' => e = .returned (.bool (sameOf way a b)) ∧ w' = w := by
  have h6 := round_any w way 6 hw (by decide) (by decide)
  have h7 := round_any w a 7 ha (by decide) (by decide)
  have h8 := round_any w b 7 hb (by decide) (by decide)
  unfold sameOf
  generalize way % 6 = r at h6 ⊢
  by_cases hr : r = 5
  · subst hr
    rw [if_pos rfl]
    go_enter Try.func23, Try.ntmps23
    go_wp2_with fail
    refine h6.mono ?_
    rintro e w9 ⟨rfl, hw⟩
    have hw' := hw.symm; subst hw'
    go_wp2_with fail
    refine h7.mono ?_
    rintro e w9 ⟨rfl, hw⟩
    have hw' := hw.symm; subst hw'
    go_wp2_with fail
    refine h8.mono ?_
    rintro e w9 ⟨rfl, hw⟩
    have hw' := hw.symm; subst hw'
    go_wp2
    go_ret
    exact ⟨rfl, rfl⟩
  · have hr5 : (r == 5) = false := by simpa using hr
    rw [if_neg hr]
    go_enter Try.func23, Try.ntmps23
    go_wp2_with fail
    refine h6.mono ?_
    rintro e w9 ⟨rfl, hw⟩
    have hw' := hw.symm; subst hw'
    go_wp2
    go_ret
    exact ⟨rfl, rfl⟩

/-- The functions of a table: their captured number lies in its two boxes. -/
def Fns (w : World) (fp : Nat × Nat × Int) : Prop := w.cell? ⟨fp.1, 0, none⟩ = some (.int .i64 fp.2.2) ∧ w.cell? ⟨fp.2.1, 0, none⟩ = some (.int .i64 fp.2.2) ∧ KeyOk fp.2.2
/-- The blocks of the functions. -/
def fnfoot (fp : Nat × Nat × Int) (k : Nat) : Prop := k = fp.1 ∨ k = fp.2.1
def hf (fp : Nat × Nat × Int) (k : Int) : Nat := hashOf fp.2.2 k
def sm (fp : Nat × Nat × Int) (a b : Int) : Bool := sameOf fp.2.2 a b

section
variable {w w' : World} {fp : Nat × Nat × Int}
theorem Fns.turn {S : Nat → Prop} (h : Fns w fp) (ht : Turn S w w') (hn : ∀ k, fnfoot fp k → ¬ S k) : Fns w' fp :=
  ⟨ht.cell h.1 (hn _ (.inl rfl)), ht.cell h.2.1 (hn _ (.inr rfl)), h.2.2⟩
theorem Fns.lt (h : Fns w fp) (k : Nat) (hk : fnfoot fp k) : k < w.heap.size := by
  rcases hk with rfl | rfl
  · exact World.block_lt_of_cell? w _ h.1
  · exact World.block_lt_of_cell? w _ h.2.1
theorem hf_lt (fp : Nat × Nat × Int) (k : Int) : hf fp k < 18446744073709551616 := hash_lt _ _
theorem sm_refl (fp : Nat × Nat × Int) (a : Int) : sm fp a a = true := by unfold sm sameOf; split <;> simp
theorem sm_symm {fp : Nat × Nat × Int} {a b : Int} (h : sm fp a b = true) : sm fp b a = true := by
  unfold sm sameOf at *; split at h <;> simp_all
theorem sm_trans {fp : Nat × Nat × Int} {a b c : Int} (h : sm fp a b = true) (k : sm fp b c = true) : sm fp a c = true := by
  unfold sm sameOf at *; split at h <;> simp_all
theorem sm_hash {fp : Nat × Nat × Int} {a b : Int} (h : sm fp a b = true) : hf fp a = hf fp b := by
  unfold sm sameOf at h; unfold hf hashOf
  split at h
  · rename_i c
    have e : a % 7 = b % 7 := by simpa using h
    rw [e]; simp [c]
  · have e : a = b := by simpa using h
    rw [e]

theorem hash_any (h : Fns w fp) (k : Int) (hk : KeyOk k) : Calls Try.prog 20 #[.int .i64 k, .pointer (some ⟨fp.1, 0, none⟩)] w fun e w' => e = .returned (.int .u64 (hf fp k : Nat)) ∧ w' = w := by
  have h1 := rhash_any w fp.2.2 k h.2.2 hk
  have c := h.1
  unfold hf
  clear h
  go_enter Try.func20, Try.ntmps20
  go_wp2_with fail
  refine h1.mono ?_
  rintro e w9 ⟨rfl, hw⟩
  have hw' := hw.symm; subst hw'
  go_wp2
  go_ret
  exact ⟨rfl, rfl⟩

theorem same_any (h : Fns w fp) (a b : Int) (ha : KeyOk a) (hb : KeyOk b) : Calls Try.prog 22 #[.int .i64 a, .int .i64 b, .pointer (some ⟨fp.2.1, 0, none⟩)] w fun e w' => e = .returned (.bool (sm fp a b)) ∧ w' = w := by
  have h1 := rsame_any w fp.2.2 a b h.2.2 ha hb
  have c := h.2.1
  unfold sm
  clear h
  go_enter Try.func22, Try.ntmps22
  go_wp2_with fail
  refine h1.mono ?_
  rintro e w9 ⟨rfl, hw⟩
  have hw' := hw.symm; subst hw'
  go_wp2
  go_ret
  exact ⟨rfl, rfl⟩

/-- hashes and sames make a function each, with a box of its own. -/
theorem hashes_any (w : World) (way : Int) : Calls Try.prog 6 #[.int .i64 way] w fun e w' => e = .returned (.func (.func 20) #[] #[.pointer (some ⟨w.heap.size, 0, none⟩)]) ∧ w' = w.alloc (.cells #[.int .i64 way] 3) := by
  go_enter Try.func6, Try.ntmps6
  go_wp2
  go_ret
  exact ⟨rfl, rfl⟩
theorem sames_any (w : World) (way : Int) : Calls Try.prog 7 #[.int .i64 way] w fun e w' => e = .returned (.func (.func 22) #[] #[.pointer (some ⟨w.heap.size, 0, none⟩)]) ∧ w' = w.alloc (.cells #[.int .i64 way] 3) := by
  go_enter Try.func7, Try.ntmps7
  go_wp2
  go_ret
  exact ⟨rfl, rfl⟩
end
end Go.Proofs.Ytdnophgcdnghkaa.I
