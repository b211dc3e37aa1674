/- Find, of ints. -/
import Derived.Test.YtnmaldgmlkcliaaHGI
import Derived.ScopeJumps
namespace Go.Proofs.Ytnmaldgmlkcliaa.HI
open Go.RowKit Go.Maps Go.Shelf Go.Sort Go.Proofs.Ytnmaldgmlkcliaa

theorem wp_scope_first {P : Program} {a : Act} {w : World} {Q : Exit → Act → World → Prop} {c rest : Code} (l : Nat) (J : Act → World → Prop) (μ : Act → World → Nat) (hf : findLabel c l = some (Code.skip.seq rest))
    (first : (∀ a w, J a w → rest.wp P (Exit.jump l J Q) a w) → c.wp P (Exit.jump l J Q) a w)
    (pass : ∀ a w, J a w → rest.wp P (Exit.jump l (fun a' w' => J a' w' ∧ μ a' w' < μ a w) Q) a w) : (Code.scope c).wp P Q a w :=
  wp_scope_jumps l J μ hf (first fun a w hJ => wp_mono (pass a w hJ) fun e a' w' h => by
    cases e with
    | goto l' => exact ⟨h.1, h.2.1⟩
    | _ => exact h) fun a w hJ => wp_seq (wp_skip (pass a w hJ))

/-- What holds at each jump. -/
def findJ (w : World) (a : Option Addr) (c : Nat) (l : List (Int)) (x : Int) (a' : Act) (w' : World) : Prop := Stay w w' ∧ ∃ (lo hi : Nat), lo ≤ hi ∧ hi ≤ l.length ∧ (∀ k (h : k < l.length), k < lo → cfN l[k] x < 0) ∧ (∀ k (h : k < l.length), hi ≤ k → 0 ≤ cfN l[k] x) ∧ ∃ (u10 u11 u12 u13 u14 u15 u16 u17 u18 u19 u20 u21 u22 u23 u24 u25 u26 u27 u28 u29 u30 u31 u32 u33 u34 u35 u36 u37 u38 u39 u40 u41 u42 u43 u44 u45 u46 u47 u48 u49 : Value),
    a' = { tmps := #[.slice a l.length c, .int .i64 x, .func (.func 29) #[] #[], undef, undef, undef, .int .i64 0, .bool false, .int .i64 (lo : Int), .int .i64 (hi : Int), u10, u11, u12, u13, u14, u15, u16, u17, u18, u19, u20, u21, u22, u23, u24, u25, u26, u27, u28, u29, u30, u31, u32, u33, u34, u35, u36, u37, u38, u39, u40, u41, u42, u43, u44, u45, u46, u47, u48, u49], defers := [] }
def findM (a' : Act) (_ : World) : Nat := ((intOf (a'.tmps.getD 9 undef)) - (intOf (a'.tmps.getD 8 undef))).toNat

set_option maxRecDepth 100000 in
set_option maxHeartbeats 4000000 in
theorem find (w : World) (a : Option Addr) (b off c : Nat) (l : List (Int)) (hS : IntsS w a b off l) (x : Int) (hl : l.length ≤ 1152921504606846976) (hmono : ∀ i j, (hij : i ≤ j) → (hj : j < l.length) → cfN l[j] x < 0 → cfN (l[i]'(Nat.lt_of_le_of_lt hij hj)) x < 0) :
    Calls Try.prog 28 #[.slice a l.length c, .int .i64 x, .func (.func 29) #[] #[]] w fun e w' => ∃ (n : Nat) (q : Bool), e = .returned (.tuple #[.int .i64 (n : Int), .bool q]) ∧ n ≤ l.length ∧ (∀ k (h : k < l.length), k < n ↔ cfN l[k] x < 0) ∧ (q = true ↔ ∃ h : n < l.length, cfN l[n] x = 0) ∧ Stay w w' := by
  have HX : Hid (IntsS w a b off l) := hS
  have hof := orderOf_yes
  have HC : Hid (∀ y, ∀ W, Calls Try.prog 29 #[.int .i64 y, .int .i64 x] W fun e w' => e = .returned (.int .i64 (cfN y x)) ∧ w' = W) := fun y W => numbers_any y x W
  have HM : Hid (∀ i j, (hij : i ≤ j) → (hj : j < l.length) → cfN l[j] x < 0 → cfN (l[i]'(Nat.lt_of_le_of_lt hij hj)) x < 0) := hmono
  clear hS hmono
  go_enter Try.func28, Try.ntmps28
  go_wp2
  refine wp_scope_first 0 (findJ w a c l x) findM rfl ?_ ?_
  · intro hkey
    go_wp2_with fail
    refine (hof _).mono ?_
    rintro e9 w9 ⟨rfl, hw⟩
    have hw' := hw.symm; subst hw'
    clear hof
    go_wp2_with fail
    go_step3
    (try simp only [Exit.then])
    exact (by assumption : ∀ _ _, _ → _) _ _ (hkey _ _ ⟨Stay.refl _, 0, l.length, Nat.zero_le _, Nat.le_refl _, fun k _ h => absurd h (Nat.not_lt_zero _), fun k h h2 => absurd h (Nat.not_lt.2 h2), _, _, _, _, _, _, _, _, _, _, _, _, _, _, _, _, _, _, _, _, _, _, _, _, _, _, _, _, _, _, _, _, _, _, _, _, _, _, _, _, rfl⟩)
  · rintro a9 w1 ⟨hs, lo, hi, hle, hhl, hlo, hhi, u10, u11, u12, u13, u14, u15, u16, u17, u18, u19, u20, u21, u22, u23, u24, u25, u26, u27, u28, u29, u30, u31, u32, u33, u34, u35, u36, u37, u38, u39, u40, u41, u42, u43, u44, u45, u46, u47, u48, u49, rfl⟩
    have HSX : Hid (Stay w w1) := hs
    have HLO : Hid (∀ k (h : k < l.length), k < lo → cfN l[k] x < 0) := hlo
    have HHI : Hid (∀ k (h : k < l.length), hi ≤ k → 0 ≤ cfN l[k] x) := hhi
    clear hs hlo hhi hof
    by_cases hlh : lo < hi
    · have hlhi : (lo : Int) < (hi : Int) := by omega
      obtain ⟨m, hm⟩ : ∃ m, m = lo + (hi - lo) / 2 := ⟨_, rfl⟩
      have hmi : (lo : Int) + ((hi : Int) - (lo : Int)) / 2 = (m : Int) := by omega
      have hml : m < l.length := by omega
      have hml2 : (m : Int) < (l.length : Int) := by omega
      have hmb : lo ≤ m ∧ m < hi := by omega
      clear hm
      obtain rfl := HX.out.1 (by omega)
      have hcm := HSX.out.cell (HX.out.2 m hml)
      obtain ⟨y, hy⟩ : ∃ y, y = l[m] := ⟨_, rfl⟩
      rw [← hy] at hcm
      have HY : Hid (y = l[m]) := hy
      clear hy
      have hcl := HC.out y
      obtain ⟨r, hr⟩ : ∃ r, r = cfN y x := ⟨_, rfl⟩
      rw [← hr] at hcl
      have HR : Hid (r = cfN y x) := hr
      clear hr
      by_cases hrn : r < 0
      all_goals
        go_wp2_with fail
        refine (hcl _).mono ?_
        rintro e9 w9 ⟨rfl, hw⟩
        have hw' := hw.symm; subst hw'
        have HS9 : Hid (Stay w w1) := HSX.out
        clear hcl
        go_wp2_with fail
        go_step3
        first | exact ⟨rfl, ⟨HS9.out, m + 1, hi, by omega, by omega, fun k hk hkm => HM.out k m (by omega) hml (by have h1 := HY.out; have h2 := HR.out; rw [h1] at h2; rw [← h2]; exact hrn), HHI.out, _, _, _, _, _, _, _, _, _, _, _, _, _, _, _, _, _, _, _, _, _, _, _, _, _, _, _, _, _, _, _, _, _, _, _, _, _, _, _, _, rfl⟩, by simp [findM, intOf]; omega⟩ | exact ⟨rfl, ⟨HS9.out, lo, m, by omega, by omega, HLO.out, fun k hk hmk => Int.not_lt.1 (fun hlt => by have h1 := HY.out; have h2 := HR.out; have h3 := HM.out m k hmk hk hlt; rw [h1] at h2; rw [← h2] at h3; omega), _, _, _, _, _, _, _, _, _, _, _, _, _, _, _, _, _, _, _, _, _, _, _, _, _, _, _, _, _, _, _, _, _, _, _, _, _, _, _, _, rfl⟩, by simp [findM, intOf]; omega⟩
    · have hlhi : ¬ (lo : Int) < (hi : Int) := by omega
      obtain rfl : lo = hi := by omega
      by_cases hll : lo < l.length
      · have hll2 : (lo : Int) < (l.length : Int) := by omega
        have hllb : decide ((lo : Int) < (l.length : Int)) = true := decide_eq_true hll2
        obtain rfl := HX.out.1 (by omega)
        have hcm := HSX.out.cell (HX.out.2 lo hll)
        obtain ⟨y, hy⟩ : ∃ y, y = l[lo] := ⟨_, rfl⟩
        rw [← hy] at hcm
        have HY : Hid (y = l[lo]) := hy
        clear hy
        have hcl := HC.out y
        obtain ⟨r, hr⟩ : ∃ r, r = cfN y x := ⟨_, rfl⟩
        rw [← hr] at hcl
        have HR : Hid (r = cfN y x) := hr
        clear hr
        go_wp2_with fail
        refine (hcl _).mono ?_
        rintro e9 w9 ⟨rfl, hw⟩
        have hw' := hw.symm; subst hw'
        clear hcl
        go_wp2
        simp only [Exit.jump]
        go_ret2
        exact ⟨lo, r == 0, by simp, by omega, fun k hk => ⟨HLO.out k hk, fun h => Nat.lt_of_not_le (fun hle => by have := HHI.out k hk hle; omega)⟩, by rw [beq_iff_eq, HR.out, HY.out]; exact ⟨fun h => ⟨hll, h⟩, fun ⟨_, h⟩ => h⟩, HSX.out⟩
      · have hll2 : ¬ (lo : Int) < (l.length : Int) := by omega
        have hllb : decide ((lo : Int) < (l.length : Int)) = false := decide_eq_false hll2
        go_wp2
        simp only [Exit.jump]
        go_ret2
        exact ⟨lo, false, by simp, by omega, fun k hk => ⟨HLO.out k hk, fun h => Nat.lt_of_not_le (fun hle => by have := HHI.out k hk hle; omega)⟩, ⟨fun h => (by cases h), fun ⟨h, _⟩ => absurd h hll⟩, HSX.out⟩
end Go.Proofs.Ytnmaldgmlkcliaa.HI
