/- Find, of things. -/
import Derived.Test.YtdbilngkokkggaaHBT
import Derived.ScopeJumps
namespace Go.Proofs.Ytdbilngkokkggaa.HT
open Go.RowKit Go.Maps Go.Shelf Go.Sort Go.Proofs.Ytdbilngkokkggaa

theorem wp_scope_first {P : Program} {a : Act} {w : World} {Q : Exit → Act → World → Prop} {c rest : Code} (l : Nat) (J : Act → World → Prop) (μ : Act → World → Nat) (hf : findLabel c l = some (Code.skip.seq rest))
    (first : (∀ a w, J a w → rest.wp P (Exit.jump l J Q) a w) → c.wp P (Exit.jump l J Q) a w)
    (pass : ∀ a w, J a w → rest.wp P (Exit.jump l (fun a' w' => J a' w' ∧ μ a' w' < μ a w) Q) a w) : (Code.scope c).wp P Q a w :=
  wp_scope_jumps l J μ hf (first fun a w hJ => wp_mono (pass a w hJ) fun e a' w' h => by
    cases e with
    | goto l' => exact ⟨h.1, h.2.1⟩
    | _ => exact h) fun a w hJ => wp_seq (wp_skip (pass a w hJ))

/-- What holds at each jump. -/
def findByJ (w : World) (a : Option Addr) (c : Nat) (l : List (Int × Int)) (x1 x2 : Int) (B : Nat) (a' : Act) (w' : World) : Prop := Stay w w' ∧ w'.cell? ⟨B, 0, none⟩ = some (.int .i64 x1) ∧ w'.cell? ⟨B, 1, none⟩ = some (.int .i64 x2) ∧ ∃ (lo hi : Nat), lo ≤ hi ∧ hi ≤ l.length ∧ (∀ k (h : k < l.length), k < lo → byC l[k] (x1, x2) < 0) ∧ (∀ k (h : k < l.length), hi ≤ k → 0 ≤ byC l[k] (x1, x2)) ∧ ∃ (u10 u11 u12 u13 u14 u15 u16 u17 u18 u19 u20 u21 u22 u23 u24 u25 u26 u27 u28 u29 u30 u31 u32 u33 u34 u35 u36 u37 u38 u39 u40 u41 u42 u43 u44 u45 u46 u47 u48 u49 : Value),
    a' = { tmps := #[.slice a l.length c, .agg #[.int .i64 x1, .int .i64 x2], .func (.func 18) #[] #[], undef, .pointer (some ⟨B, 0, none⟩), undef, .int .i64 0, .bool false, .int .i64 (lo : Int), .int .i64 (hi : Int), u10, u11, u12, u13, u14, u15, u16, u17, u18, u19, u20, u21, u22, u23, u24, u25, u26, u27, u28, u29, u30, u31, u32, u33, u34, u35, u36, u37, u38, u39, u40, u41, u42, u43, u44, u45, u46, u47, u48, u49], defers := [] }
def findByM (a' : Act) (_ : World) : Nat := ((intOf (a'.tmps.getD 9 undef)) - (intOf (a'.tmps.getD 8 undef))).toNat

set_option maxRecDepth 100000 in
set_option maxHeartbeats 4000000 in
theorem findBy (w : World) (a : Option Addr) (b off c : Nat) (l : List (Int × Int)) (hS : ThS w a b off l) (x1 x2 : Int) (hl : l.length ≤ 1152921504606846976) (hmono : ∀ i j, (hij : i ≤ j) → (hj : j < l.length) → byC l[j] (x1, x2) < 0 → byC (l[i]'(Nat.lt_of_le_of_lt hij hj)) (x1, x2) < 0) :
    Calls Try.prog 27 #[.slice a l.length c, .agg #[.int .i64 x1, .int .i64 x2], .func (.func 18) #[] #[]] w fun e w' => ∃ (n : Nat) (q : Bool), e = .returned (.tuple #[.int .i64 (n : Int), .bool q]) ∧ n ≤ l.length ∧ (∀ k (h : k < l.length), k < n ↔ byC l[k] (x1, x2) < 0) ∧ (q = true ↔ ∃ h : n < l.length, byC l[n] (x1, x2) = 0) ∧ Stay w w' := by
  have HX : Hid (ThS w a b off l) := hS
  have hof := orderOf_yes
  have HC : Hid (∀ (y : Int × Int) (W : World), Calls Try.prog 18 #[.agg #[.int .i64 y.1, .int .i64 y.2], .agg #[.int .i64 x1, .int .i64 x2]] W fun e w' => e = .returned (.int .i64 (byC y (x1, x2))) ∧ ∃ q os', w' = grow (W.drewN q) os') := fun y W => byG y (x1, x2) W
  have HM : Hid (∀ i j, (hij : i ≤ j) → (hj : j < l.length) → byC l[j] (x1, x2) < 0 → byC (l[i]'(Nat.lt_of_le_of_lt hij hj)) (x1, x2) < 0) := hmono
  have mixed : Try.prog.follows .mixedOrders = true := by kernel_rfl
  have HB0 : Hid ((w.alloc (.cells #[.int .i64 x1, .int .i64 x2] 33)).cell? ⟨w.heap.size, 0, none⟩ = some (.int .i64 x1) ∧ (w.alloc (.cells #[.int .i64 x1, .int .i64 x2] 33)).cell? ⟨w.heap.size, 1, none⟩ = some (.int .i64 x2)) := ⟨by simp, by simp⟩
  clear hS hmono
  go_enter Try.func27, Try.ntmps27
  go_wp2
  refine wp_scope_first 0 (findByJ w a c l x1 x2 w.heap.size) findByM rfl ?_ ?_
  · intro hkey
    go_wp2_with fail
    refine (hof _).mono ?_
    rintro e9 w9 ⟨rfl, hw⟩
    have hw' := hw.symm; subst hw'
    clear hof
    go_wp2_with fail
    go_step3
    (try simp only [Exit.then])
    exact (by assumption : ∀ _ _, _ → _) _ _ (hkey _ _ ⟨Stay.new _ _, HB0.out.1, HB0.out.2, 0, l.length, Nat.zero_le _, Nat.le_refl _, fun k _ h => absurd h (Nat.not_lt_zero _), fun k h h2 => absurd h (Nat.not_lt.2 h2), _, _, _, _, _, _, _, _, _, _, _, _, _, _, _, _, _, _, _, _, _, _, _, _, _, _, _, _, _, _, _, _, _, _, _, _, _, _, _, _, rfl⟩)
  · rintro a9 w1 ⟨hs, hb0, hb1, lo, hi, hle, hhl, hlo, hhi, u10, u11, u12, u13, u14, u15, u16, u17, u18, u19, u20, u21, u22, u23, u24, u25, u26, u27, u28, u29, u30, u31, u32, u33, u34, u35, u36, u37, u38, u39, u40, u41, u42, u43, u44, u45, u46, u47, u48, u49, rfl⟩
    have HSX : Hid (Stay w w1) := hs
    have HLO : Hid (∀ k (h : k < l.length), k < lo → byC l[k] (x1, x2) < 0) := hlo
    have HHI : Hid (∀ k (h : k < l.length), hi ≤ k → 0 ≤ byC l[k] (x1, x2)) := hhi
    have HB : Hid (w1.cell? ⟨w.heap.size, 0, none⟩ = some (.int .i64 x1) ∧ w1.cell? ⟨w.heap.size, 1, none⟩ = some (.int .i64 x2)) := ⟨hb0, hb1⟩
    clear hb0 hb1
    clear hs hlo hhi hof
    obtain ⟨B, hB⟩ : ∃ B, B = w.heap.size := ⟨_, rfl⟩
    rw [← hB] at HB ⊢
    have HBB : Hid (B = w.heap.size) := hB
    clear hB
    by_cases hlh : lo < hi
    · have hlhi : (lo : Int) < (hi : Int) := by omega
      obtain ⟨m, hm⟩ : ∃ m, m = lo + (hi - lo) / 2 := ⟨_, rfl⟩
      have hmi : (lo : Int) + ((hi : Int) - (lo : Int)) / 2 = (m : Int) := by omega
      have hml : m < l.length := by omega
      have hml2 : (m : Int) < (l.length : Int) := by omega
      have hmb : lo ≤ m ∧ m < hi := by omega
      clear hm
      obtain rfl := HX.out.1 (by omega)
      obtain ⟨y, hy⟩ : ∃ y, y = l[m] := ⟨_, rfl⟩
      have hcm := ((HX.out.stay HSX.out).2 m hml)
      rw [← hy] at hcm
      have HY : Hid (y = l[m]) := hy
      clear hy
      obtain ⟨y1, y2⟩ := y
      have hbl : b < w1.heap.size := World.block_lt_of_cell? w1 _ hcm.1
      have hBl : B < w1.heap.size := World.block_lt_of_cell? w1 _ HB.out.1
      have c0 : ∀ n os, (grow (w1.drewN n) os).cell? ⟨b, off + m * 2, none⟩ = some (.int .i64 y1) := fun n os => cell_grown hbl hcm.1 n os
      have c1 : ∀ n os, (grow (w1.drewN n) os).cell? ⟨b, off + m * 2 + 1, none⟩ = some (.int .i64 y2) := fun n os => cell_grown hbl hcm.2 n os
      have b0 : ∀ n os, (grow (w1.drewN n) os).cell? ⟨B, 0, none⟩ = some (.int .i64 x1) := fun n os => cell_grown hBl HB.out.1 n os
      have b1 : ∀ n os, (grow (w1.drewN n) os).cell? ⟨B, 1, none⟩ = some (.int .i64 x2) := fun n os => cell_grown hBl HB.out.2 n os
      have hcl : ∀ n os, Calls Try.prog 18 #[.agg #[.int .i64 y1, .int .i64 y2], .agg #[.int .i64 x1, .int .i64 x2]] (grow (w1.drewN n) os) fun e w' => e = .returned (.int .i64 (byC (y1, y2) (x1, x2))) ∧ ∃ q os', w' = grow ((grow (w1.drewN n) os).drewN q) os' := fun n os => HC.out (y1, y2) _
      obtain ⟨r, hr⟩ : ∃ r, r = byC (y1, y2) (x1, x2) := ⟨_, rfl⟩
      rw [← hr] at hcl
      have HR : Hid (r = byC (y1, y2) (x1, x2)) := hr
      clear hr hcm
      by_cases hrn : r < 0
      all_goals
        go_wp2_with fail
        go_quiet_grown (first | (go_at_call 18; refine Calls.grown_of (hcl _ _)))
        have HS9 : Hid (Stay w (grow (w1.drewN nq) osq)) := HSX.out.trans (stay_grow w1 nq osq)
        have HB9 : Hid ((grow (w1.drewN nq) osq).cell? ⟨B, 0, none⟩ = some (.int .i64 x1) ∧ (grow (w1.drewN nq) osq).cell? ⟨B, 1, none⟩ = some (.int .i64 x2)) := ⟨b0 _ _, b1 _ _⟩
        clear hcl
        go_wp2_with fail
        go_step3
        first | exact ⟨rfl, ⟨HS9.out, HB9.out.1, HB9.out.2, m + 1, hi, by omega, by omega, fun k hk hkm => HM.out k m (by omega) hml (by have h1 := HY.out; have h2 := HR.out; rw [h1] at h2; rw [← h2]; exact hrn), HHI.out, _, _, _, _, _, _, _, _, _, _, _, _, _, _, _, _, _, _, _, _, _, _, _, _, _, _, _, _, _, _, _, _, _, _, _, _, _, _, _, _, rfl⟩, by simp [findByM, intOf]; omega⟩ | exact ⟨rfl, ⟨HS9.out, HB9.out.1, HB9.out.2, lo, m, by omega, by omega, HLO.out, fun k hk hmk => Int.not_lt.1 (fun hlt => by have h1 := HY.out; have h2 := HR.out; have h3 := HM.out m k hmk hk hlt; rw [h1] at h2; rw [← h2] at h3; omega), _, _, _, _, _, _, _, _, _, _, _, _, _, _, _, _, _, _, _, _, _, _, _, _, _, _, _, _, _, _, _, _, _, _, _, _, _, _, _, _, rfl⟩, by simp [findByM, intOf]; omega⟩
    · have hlhi : ¬ (lo : Int) < (hi : Int) := by omega
      obtain rfl : lo = hi := by omega
      by_cases hll : lo < l.length
      · have hll2 : (lo : Int) < (l.length : Int) := by omega
        have hllb : decide ((lo : Int) < (l.length : Int)) = true := decide_eq_true hll2
        obtain rfl := HX.out.1 (by omega)
        obtain ⟨y, hy⟩ : ∃ y, y = l[lo] := ⟨_, rfl⟩
        have hcm := ((HX.out.stay HSX.out).2 lo hll)
        rw [← hy] at hcm
        have HY : Hid (y = l[lo]) := hy
        clear hy
        obtain ⟨y1, y2⟩ := y
        have hbl : b < w1.heap.size := World.block_lt_of_cell? w1 _ hcm.1
        have hBl : B < w1.heap.size := World.block_lt_of_cell? w1 _ HB.out.1
        have c0 : ∀ n os, (grow (w1.drewN n) os).cell? ⟨b, off + lo * 2, none⟩ = some (.int .i64 y1) := fun n os => cell_grown hbl hcm.1 n os
        have c1 : ∀ n os, (grow (w1.drewN n) os).cell? ⟨b, off + lo * 2 + 1, none⟩ = some (.int .i64 y2) := fun n os => cell_grown hbl hcm.2 n os
        have b0 : ∀ n os, (grow (w1.drewN n) os).cell? ⟨B, 0, none⟩ = some (.int .i64 x1) := fun n os => cell_grown hBl HB.out.1 n os
        have b1 : ∀ n os, (grow (w1.drewN n) os).cell? ⟨B, 1, none⟩ = some (.int .i64 x2) := fun n os => cell_grown hBl HB.out.2 n os
        have hcl : ∀ n os, Calls Try.prog 18 #[.agg #[.int .i64 y1, .int .i64 y2], .agg #[.int .i64 x1, .int .i64 x2]] (grow (w1.drewN n) os) fun e w' => e = .returned (.int .i64 (byC (y1, y2) (x1, x2))) ∧ ∃ q os', w' = grow ((grow (w1.drewN n) os).drewN q) os' := fun n os => HC.out (y1, y2) _
        obtain ⟨r, hr⟩ : ∃ r, r = byC (y1, y2) (x1, x2) := ⟨_, rfl⟩
        rw [← hr] at hcl
        have HR : Hid (r = byC (y1, y2) (x1, x2)) := hr
        clear hr hcm
        go_wp2_with fail
        go_quiet_grown (first | (go_at_call 18; refine Calls.grown_of (hcl _ _)))
        have HS9 : Hid (Stay w (grow (w1.drewN nq) osq)) := HSX.out.trans (stay_grow w1 nq osq)
        clear hcl c0 c1 b0 b1
        go_wp2
        simp only [Exit.jump]
        go_ret2
        exact ⟨lo, r == 0, by simp, by omega, fun k hk => ⟨HLO.out k hk, fun h => Nat.lt_of_not_le (fun hle => by have := HHI.out k hk hle; omega)⟩, by rw [beq_iff_eq, HR.out, HY.out]; exact ⟨fun h => ⟨hll, h⟩, fun ⟨_, h⟩ => h⟩, HS9.out⟩
      · have hll2 : ¬ (lo : Int) < (l.length : Int) := by omega
        have hllb : decide ((lo : Int) < (l.length : Int)) = false := decide_eq_false hll2
        go_wp2_with fail
        go_quiet (fail)
        go_wp2
        simp only [Exit.jump]
        go_ret2
        exact ⟨lo, false, by simp, by omega, fun k hk => ⟨HLO.out k hk, fun h => Nat.lt_of_not_le (fun hle => by have := HHI.out k hk hle; omega)⟩, ⟨fun h => (by cases h), fun ⟨h, _⟩ => absurd h hll⟩, HSX.out.trans (Stay.drewN _ _)⟩
/-- What holds at each jump. -/
def findNoJ (w : World) (a : Option Addr) (c : Nat) (l : List (Int × Int)) (x1 x2 : Int) (B : Nat) (a' : Act) (w' : World) : Prop := Stay w w' ∧ w'.cell? ⟨B, 0, none⟩ = some (.int .i64 x1) ∧ w'.cell? ⟨B, 1, none⟩ = some (.int .i64 x2) ∧ ∃ (lo hi : Nat), lo ≤ hi ∧ hi ≤ l.length ∧ (∀ k (h : k < l.length), k < lo → noC l[k] (x1, x2) < 0) ∧ (∀ k (h : k < l.length), hi ≤ k → 0 ≤ noC l[k] (x1, x2)) ∧ ∃ (u10 u11 u12 u13 u14 u15 u16 u17 u18 u19 u20 u21 u22 u23 u24 u25 u26 u27 u28 u29 u30 u31 u32 u33 u34 u35 u36 u37 u38 u39 u40 u41 u42 u43 u44 u45 u46 u47 u48 u49 : Value),
    a' = { tmps := #[.slice a l.length c, .agg #[.int .i64 x1, .int .i64 x2], .func (.func 78) #[] #[], undef, .pointer (some ⟨B, 0, none⟩), undef, .int .i64 0, .bool false, .int .i64 (lo : Int), .int .i64 (hi : Int), u10, u11, u12, u13, u14, u15, u16, u17, u18, u19, u20, u21, u22, u23, u24, u25, u26, u27, u28, u29, u30, u31, u32, u33, u34, u35, u36, u37, u38, u39, u40, u41, u42, u43, u44, u45, u46, u47, u48, u49], defers := [] }
def findNoM (a' : Act) (_ : World) : Nat := ((intOf (a'.tmps.getD 9 undef)) - (intOf (a'.tmps.getD 8 undef))).toNat

set_option maxRecDepth 100000 in
set_option maxHeartbeats 4000000 in
theorem findNo (w : World) (a : Option Addr) (b off c : Nat) (l : List (Int × Int)) (hS : ThS w a b off l) (x1 x2 : Int) (hl : l.length ≤ 1152921504606846976) (hmono : ∀ i j, (hij : i ≤ j) → (hj : j < l.length) → noC l[j] (x1, x2) < 0 → noC (l[i]'(Nat.lt_of_le_of_lt hij hj)) (x1, x2) < 0) :
    Calls Try.prog 27 #[.slice a l.length c, .agg #[.int .i64 x1, .int .i64 x2], .nilFunc] w fun e w' => ∃ (n : Nat) (q : Bool), e = .returned (.tuple #[.int .i64 (n : Int), .bool q]) ∧ n ≤ l.length ∧ (∀ k (h : k < l.length), k < n ↔ noC l[k] (x1, x2) < 0) ∧ (q = true ↔ ∃ h : n < l.length, noC l[n] (x1, x2) = 0) ∧ Stay w w' := by
  have HX : Hid (ThS w a b off l) := hS
  have hof := orderOf_nil
  have HC : Hid (∀ (y : Int × Int) (W : World), Calls Try.prog 78 #[.agg #[.int .i64 y.1, .int .i64 y.2], .agg #[.int .i64 x1, .int .i64 x2]] W fun e w' => e = .returned (.int .i64 (noC y (x1, x2))) ∧ ∃ q os', w' = grow (W.drewN q) os') := fun y W => noG y (x1, x2) W
  have HM : Hid (∀ i j, (hij : i ≤ j) → (hj : j < l.length) → noC l[j] (x1, x2) < 0 → noC (l[i]'(Nat.lt_of_le_of_lt hij hj)) (x1, x2) < 0) := hmono
  have mixed : Try.prog.follows .mixedOrders = true := by kernel_rfl
  have HB0 : Hid ((w.alloc (.cells #[.int .i64 x1, .int .i64 x2] 33)).cell? ⟨w.heap.size, 0, none⟩ = some (.int .i64 x1) ∧ (w.alloc (.cells #[.int .i64 x1, .int .i64 x2] 33)).cell? ⟨w.heap.size, 1, none⟩ = some (.int .i64 x2)) := ⟨by simp, by simp⟩
  clear hS hmono
  go_enter Try.func27, Try.ntmps27
  go_wp2
  refine wp_scope_first 0 (findNoJ w a c l x1 x2 w.heap.size) findNoM rfl ?_ ?_
  · intro hkey
    go_wp2_with fail
    refine (hof _).mono ?_
    rintro e9 w9 ⟨rfl, hw⟩
    have hw' := hw.symm; subst hw'
    clear hof
    go_wp2_with fail
    go_step3
    (try simp only [Exit.then])
    exact (by assumption : ∀ _ _, _ → _) _ _ (hkey _ _ ⟨Stay.new _ _, HB0.out.1, HB0.out.2, 0, l.length, Nat.zero_le _, Nat.le_refl _, fun k _ h => absurd h (Nat.not_lt_zero _), fun k h h2 => absurd h (Nat.not_lt.2 h2), _, _, _, _, _, _, _, _, _, _, _, _, _, _, _, _, _, _, _, _, _, _, _, _, _, _, _, _, _, _, _, _, _, _, _, _, _, _, _, _, rfl⟩)
  · rintro a9 w1 ⟨hs, hb0, hb1, lo, hi, hle, hhl, hlo, hhi, u10, u11, u12, u13, u14, u15, u16, u17, u18, u19, u20, u21, u22, u23, u24, u25, u26, u27, u28, u29, u30, u31, u32, u33, u34, u35, u36, u37, u38, u39, u40, u41, u42, u43, u44, u45, u46, u47, u48, u49, rfl⟩
    have HSX : Hid (Stay w w1) := hs
    have HLO : Hid (∀ k (h : k < l.length), k < lo → noC l[k] (x1, x2) < 0) := hlo
    have HHI : Hid (∀ k (h : k < l.length), hi ≤ k → 0 ≤ noC l[k] (x1, x2)) := hhi
    have HB : Hid (w1.cell? ⟨w.heap.size, 0, none⟩ = some (.int .i64 x1) ∧ w1.cell? ⟨w.heap.size, 1, none⟩ = some (.int .i64 x2)) := ⟨hb0, hb1⟩
    clear hb0 hb1
    clear hs hlo hhi hof
    obtain ⟨B, hB⟩ : ∃ B, B = w.heap.size := ⟨_, rfl⟩
    rw [← hB] at HB ⊢
    have HBB : Hid (B = w.heap.size) := hB
    clear hB
    by_cases hlh : lo < hi
    · have hlhi : (lo : Int) < (hi : Int) := by omega
      obtain ⟨m, hm⟩ : ∃ m, m = lo + (hi - lo) / 2 := ⟨_, rfl⟩
      have hmi : (lo : Int) + ((hi : Int) - (lo : Int)) / 2 = (m : Int) := by omega
      have hml : m < l.length := by omega
      have hml2 : (m : Int) < (l.length : Int) := by omega
      have hmb : lo ≤ m ∧ m < hi := by omega
      clear hm
      obtain rfl := HX.out.1 (by omega)
      obtain ⟨y, hy⟩ : ∃ y, y = l[m] := ⟨_, rfl⟩
      have hcm := ((HX.out.stay HSX.out).2 m hml)
      rw [← hy] at hcm
      have HY : Hid (y = l[m]) := hy
      clear hy
      obtain ⟨y1, y2⟩ := y
      have hbl : b < w1.heap.size := World.block_lt_of_cell? w1 _ hcm.1
      have hBl : B < w1.heap.size := World.block_lt_of_cell? w1 _ HB.out.1
      have c0 : ∀ n os, (grow (w1.drewN n) os).cell? ⟨b, off + m * 2, none⟩ = some (.int .i64 y1) := fun n os => cell_grown hbl hcm.1 n os
      have c1 : ∀ n os, (grow (w1.drewN n) os).cell? ⟨b, off + m * 2 + 1, none⟩ = some (.int .i64 y2) := fun n os => cell_grown hbl hcm.2 n os
      have b0 : ∀ n os, (grow (w1.drewN n) os).cell? ⟨B, 0, none⟩ = some (.int .i64 x1) := fun n os => cell_grown hBl HB.out.1 n os
      have b1 : ∀ n os, (grow (w1.drewN n) os).cell? ⟨B, 1, none⟩ = some (.int .i64 x2) := fun n os => cell_grown hBl HB.out.2 n os
      have hcl : ∀ n os, Calls Try.prog 78 #[.agg #[.int .i64 y1, .int .i64 y2], .agg #[.int .i64 x1, .int .i64 x2]] (grow (w1.drewN n) os) fun e w' => e = .returned (.int .i64 (noC (y1, y2) (x1, x2))) ∧ ∃ q os', w' = grow ((grow (w1.drewN n) os).drewN q) os' := fun n os => HC.out (y1, y2) _
      obtain ⟨r, hr⟩ : ∃ r, r = noC (y1, y2) (x1, x2) := ⟨_, rfl⟩
      rw [← hr] at hcl
      have HR : Hid (r = noC (y1, y2) (x1, x2)) := hr
      clear hr hcm
      by_cases hrn : r < 0
      all_goals
        go_wp2_with fail
        go_quiet_grown (first | (go_at_call 78; refine Calls.grown_of (hcl _ _)))
        have HS9 : Hid (Stay w (grow (w1.drewN nq) osq)) := HSX.out.trans (stay_grow w1 nq osq)
        have HB9 : Hid ((grow (w1.drewN nq) osq).cell? ⟨B, 0, none⟩ = some (.int .i64 x1) ∧ (grow (w1.drewN nq) osq).cell? ⟨B, 1, none⟩ = some (.int .i64 x2)) := ⟨b0 _ _, b1 _ _⟩
        clear hcl
        go_wp2_with fail
        go_step3
        first | exact ⟨rfl, ⟨HS9.out, HB9.out.1, HB9.out.2, m + 1, hi, by omega, by omega, fun k hk hkm => HM.out k m (by omega) hml (by have h1 := HY.out; have h2 := HR.out; rw [h1] at h2; rw [← h2]; exact hrn), HHI.out, _, _, _, _, _, _, _, _, _, _, _, _, _, _, _, _, _, _, _, _, _, _, _, _, _, _, _, _, _, _, _, _, _, _, _, _, _, _, _, _, rfl⟩, by simp [findNoM, intOf]; omega⟩ | exact ⟨rfl, ⟨HS9.out, HB9.out.1, HB9.out.2, lo, m, by omega, by omega, HLO.out, fun k hk hmk => Int.not_lt.1 (fun hlt => by have h1 := HY.out; have h2 := HR.out; have h3 := HM.out m k hmk hk hlt; rw [h1] at h2; rw [← h2] at h3; omega), _, _, _, _, _, _, _, _, _, _, _, _, _, _, _, _, _, _, _, _, _, _, _, _, _, _, _, _, _, _, _, _, _, _, _, _, _, _, _, _, rfl⟩, by simp [findNoM, intOf]; omega⟩
    · have hlhi : ¬ (lo : Int) < (hi : Int) := by omega
      obtain rfl : lo = hi := by omega
      by_cases hll : lo < l.length
      · have hll2 : (lo : Int) < (l.length : Int) := by omega
        have hllb : decide ((lo : Int) < (l.length : Int)) = true := decide_eq_true hll2
        obtain rfl := HX.out.1 (by omega)
        obtain ⟨y, hy⟩ : ∃ y, y = l[lo] := ⟨_, rfl⟩
        have hcm := ((HX.out.stay HSX.out).2 lo hll)
        rw [← hy] at hcm
        have HY : Hid (y = l[lo]) := hy
        clear hy
        obtain ⟨y1, y2⟩ := y
        have hbl : b < w1.heap.size := World.block_lt_of_cell? w1 _ hcm.1
        have hBl : B < w1.heap.size := World.block_lt_of_cell? w1 _ HB.out.1
        have c0 : ∀ n os, (grow (w1.drewN n) os).cell? ⟨b, off + lo * 2, none⟩ = some (.int .i64 y1) := fun n os => cell_grown hbl hcm.1 n os
        have c1 : ∀ n os, (grow (w1.drewN n) os).cell? ⟨b, off + lo * 2 + 1, none⟩ = some (.int .i64 y2) := fun n os => cell_grown hbl hcm.2 n os
        have b0 : ∀ n os, (grow (w1.drewN n) os).cell? ⟨B, 0, none⟩ = some (.int .i64 x1) := fun n os => cell_grown hBl HB.out.1 n os
        have b1 : ∀ n os, (grow (w1.drewN n) os).cell? ⟨B, 1, none⟩ = some (.int .i64 x2) := fun n os => cell_grown hBl HB.out.2 n os
        have hcl : ∀ n os, Calls Try.prog 78 #[.agg #[.int .i64 y1, .int .i64 y2], .agg #[.int .i64 x1, .int .i64 x2]] (grow (w1.drewN n) os) fun e w' => e = .returned (.int .i64 (noC (y1, y2) (x1, x2))) ∧ ∃ q os', w' = grow ((grow (w1.drewN n) os).drewN q) os' := fun n os => HC.out (y1, y2) _
        obtain ⟨r, hr⟩ : ∃ r, r = noC (y1, y2) (x1, x2) := ⟨_, rfl⟩
        rw [← hr] at hcl
        have HR : Hid (r = noC (y1, y2) (x1, x2)) := hr
        clear hr hcm
        go_wp2_with fail
        go_quiet_grown (first | (go_at_call 78; refine Calls.grown_of (hcl _ _)))
        have HS9 : Hid (Stay w (grow (w1.drewN nq) osq)) := HSX.out.trans (stay_grow w1 nq osq)
        clear hcl c0 c1 b0 b1
        go_wp2
        simp only [Exit.jump]
        go_ret2
        exact ⟨lo, r == 0, by simp, by omega, fun k hk => ⟨HLO.out k hk, fun h => Nat.lt_of_not_le (fun hle => by have := HHI.out k hk hle; omega)⟩, by rw [beq_iff_eq, HR.out, HY.out]; exact ⟨fun h => ⟨hll, h⟩, fun ⟨_, h⟩ => h⟩, HS9.out⟩
      · have hll2 : ¬ (lo : Int) < (l.length : Int) := by omega
        have hllb : decide ((lo : Int) < (l.length : Int)) = false := decide_eq_false hll2
        go_wp2_with fail
        go_quiet (fail)
        go_wp2
        simp only [Exit.jump]
        go_ret2
        exact ⟨lo, false, by simp, by omega, fun k hk => ⟨HLO.out k hk, fun h => Nat.lt_of_not_le (fun hle => by have := HHI.out k hk hle; omega)⟩, ⟨fun h => (by cases h), fun ⟨h, _⟩ => absurd h hll⟩, HSX.out.trans (Stay.drewN _ _)⟩
end Go.Proofs.Ytdbilngkokkggaa.HT
