/- does, whatever is asked. -/
import Derived.Test.YtjbglpeikhpieaaTM
namespace Go.Proofs.Ytjbglpeikhpieaa
open Go.RowKit Go.Maps Go.Sort
open Go.Proofs.Ytjbglpeikhpieaa.HT (E Hp foot ahd byC Fv)

section
variable {w : World} {hb rb turns : Nat} {v rv : Value} {L : List (Int × Int)}
set_option maxRecDepth 100000 in
set_option maxHeartbeats 4000000 in
theorem does_rest (h : Pair w hb v turns rb rv L) (kind on t1 t2 : Int) (h0 : ¬ (0 ≤ kind ∧ kind ≤ 5)) :
    Calls Try.prog 39 #[.pointer (some ⟨hb, 0, none⟩), .pointer (some ⟨rb, 0, none⟩), .agg #[.int .i64 kind, .int .i64 on, .int .i64 t1, .int .i64 t2]] w fun e w' => e = .returned (.bool true) ∧ Left w hb v turns rb rv L L w' := by
  obtain ⟨W0, hW0⟩ : ∃ W0, W0 = w.alloc (.cells #[.int .i64 kind, .int .i64 on, .int .i64 t1, .int .i64 t2] 59) := ⟨_, rfl⟩
  have hS0 : Stay w W0 := by rw [hW0]; exact Stay.new _ _
  have hP0 := h.stay hS0
  have HS : Hid (Pair w hb v turns rb rv L ∧ Stay w W0) := ⟨h, hS0⟩
  obtain ⟨va, vb, vc, rfl, _, _, _, _⟩ := h.ref.row.form
  have d4 : ¬ kind = 4 := by omega
  have d5 : ¬ kind = 5 := by omega
  have k0 := hP0.ref.c0
  have k1 := hP0.ref.lt rb (.inl rfl)
  have hlen : ∀ n, Calls Try.prog 40 #[.pointer (some ⟨hb, 0, none⟩)] (W0.drewN n) fun e w' => e = .returned (.int .i64 (L.length : Int)) ∧ w' = W0.drewN n := fun n => does_len _ (hP0.stay (Stay.drewN _ _))
  rw [hW0] at k0 k1 hlen HS
  clear h hP0 hS0 hW0
  by_cases hk : 0 ≤ kind
  · have d3 : decide (kind ≤ 3) = false := by simp; omega
    have dg : decide (0 ≤ kind) = true := by simpa using hk
    clear h0
    go_enter Try.func39, Try.ntmps39
    go_wp2_with fail
    go_quiet (exact Calls.quiet_of_same (hlen _))
    go_wp2
    go_ret
    exact ⟨rfl, left_same HS.out.1 (HS.out.2.trans (Stay.drewN _ _))⟩
  · have dg : decide (0 ≤ kind) = false := by simp; omega
    clear h0
    go_enter Try.func39, Try.ntmps39
    go_wp2_with fail
    go_quiet (exact Calls.quiet_of_same (hlen _))
    go_wp2
    go_ret
    exact ⟨rfl, left_same HS.out.1 (HS.out.2.trans (Stay.drewN _ _))⟩

/-- One thing done with both: they answer the same. -/
theorem does_any (h : Pair w hb v turns rb rv L) (kind on t1 t2 : Int) (hsz : (L.length + 1) * 24 ≤ 140737488355328) (htn : turns ≤ 140737488355328) :
    Calls Try.prog 39 #[.pointer (some ⟨hb, 0, none⟩), .pointer (some ⟨rb, 0, none⟩), .agg #[.int .i64 kind, .int .i64 on, .int .i64 t1, .int .i64 t2]] w fun e w' => e = .returned (.bool true) ∧ ∃ L', Left w hb v turns rb rv L L' w' := by
  by_cases h4 : kind = 4
  · subst h4
    exact (does_pop h on t1 t2 hsz).mono fun e w' ⟨h1, L', _, h2⟩ => ⟨h1, L', h2⟩
  by_cases h5 : kind = 5
  · subst h5
    exact (does_peek h on t1 t2 hsz).mono fun e w' ⟨h1, h2⟩ => ⟨h1, L, h2⟩
  by_cases h3 : 0 ≤ kind ∧ kind ≤ 3
  · exact (does_push h kind on t1 t2 h3.1 h3.2 hsz htn).mono fun e w' ⟨h1, h2⟩ => ⟨h1, _, h2⟩
  · exact (does_rest h kind on t1 t2 (by omega)).mono fun e w' ⟨h1, h2⟩ => ⟨h1, L, h2⟩
end
end Go.Proofs.Ytjbglpeikhpieaa
