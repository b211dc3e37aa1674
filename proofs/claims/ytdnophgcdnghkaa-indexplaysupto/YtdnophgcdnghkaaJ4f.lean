/- One step with two tables side by side: Place and Probes. -/
import Derived.Test.YtdnophgcdnghkaaJ4e
namespace Go.Proofs.Ytdnophgcdnghkaa.I
open Go.RowKit Go.Maps Go.Proofs.Ytdnophgcdnghkaa
section
variable {w W0 W1 W2 W3 : World} {fp : Nat × Nat × Int} {bt br n N N' : Nat} {way : Int} {o o1 o2 : Nat → Nat} {ps ps' : List (Int × Int)}
theorem see_keep {Z W W' : World} {b : Nat} {v : Value} (hs : Stay W W') (h : W.cell? ⟨b, 2, none⟩ = some v ∧ b < W.heap.size ∧ Hid (Stay Z W)) : W'.cell? ⟨b, 2, none⟩ = some v ∧ b < W'.heap.size ∧ Hid (Stay Z W') :=
  ⟨hs.cell h.1, Nat.lt_of_lt_of_le h.2.1 hs.size, h.2.2.out.trans hs⟩
theorem see_stay {Z W : World} {b : Nat} {v : Value} (h : W.cell? ⟨b, 2, none⟩ = some v ∧ b < W.heap.size ∧ Hid (Stay Z W)) : Stay Z W := h.2.2.out
set_option maxRecDepth 100000 in
set_option maxHeartbeats 4000000 in
theorem step_place (M : Mt w fp bt br way n o ps N) {wb i : Nat} {on key val leave : Int} (A : Ask w wb i bt br on key val leave) :
    Calls Try.prog 9 #[.pointer (some ⟨wb, 0, none⟩), .agg #[.int .i64 5, .int .i64 on, .int .i64 key, .int .i64 val, .int .i64 leave]] w fun e w' => e = .returned (.bool true) ∧ Done w fp bt br way (n + 1) o w' := by
  have hro := fun W => lround_any W on A.ok.1
  have ct := A.ct
  have cr := A.cr
  have h2 := A.two
  have h2i : (i : Int) < 2 := by omega
  have hwl : wb < w.heap.size := World.block_lt_of_cell? w _ ct
  rw [A.onE] at hro
  go_enter Try.func9, Try.ntmps9
  go_wp2_with fail
  refine (hro _).mono ?_
  rintro e9 w9 ⟨rfl, hw⟩
  have hw' := hw.symm; subst hw'
  clear hro
  go_wp2_with fail
  go_quiet (fail)
  go_wp2_with fail
  obtain ⟨V0, hV0⟩ : ∃ V0, (w.alloc (.cells #[.int .i64 5, .int .i64 on, .int .i64 key, .int .i64 val, .int .i64 leave] 42)).drewN nq = V0 := ⟨_, rfl⟩
  have hB : Beg w V0 5 on key val leave := hV0 ▸ Beg.mk0 w 5 on key val leave nq
  rw [hV0]
  clear hV0 ct cr
  have M0 := M.stay hB.stay
  have hfa := M.t.facts
  obtain ⟨k2, k3, k4, kl⟩ := hB.cells rfl
  obtain ⟨p, ok, hp1, hp2⟩ := place_pair M0.t M0.r M.way key A.ok.2.1 (by have := M.big; omega)
  obtain ⟨q, hq1, hq2⟩ := probes_pair M0.t M0.r M.way key A.ok.2.1 (by have := M.big; omega)
  have HE : Hid (∀ W3, Stay V0 W3 → Done w fp bt br way (n + 1) o W3) := fun W3 hs3 => M.same (hB.stay.trans hs3)
  clear hfa M0 hB M A k3 k4
  refine hp1.mono ?_
  rintro e9 w1 ⟨rfl, hs1⟩
  have hp2' := hp2 w1 hs1
  have HS1 : Hid (Stay V0 w1) := hs1
  have k2' := hs1.cell k2
  have kl' : w.heap.size < w1.heap.size := by have := hs1.size; omega
  clear hp2 hs1
  go_wp2_with fail
  refine hp2'.mono ?_
  rintro e9 w2 ⟨rfl, hs2⟩
  have hS0 := see_keep (Stay.drew w2) (see_keep hs2 ⟨k2', kl', HS1⟩)
  have k2'' := hs2.cell k2'
  have kl'' : w.heap.size < w2.heap.size := by have := hs2.size; omega
  have HQ : Hid ((∀ V, Stay V0 V → Calls Try.prog 31 #[.pointer (some ⟨bt, 0, none⟩), .int .i64 key] V (fun e w' => e = .returned (.int .i64 q) ∧ Stay V w')) ∧ ∀ V, Stay V0 V → Calls Try.prog 32 #[.pointer (some ⟨br, 0, none⟩), .int .i64 key] V (fun e w' => e = .returned (.int .i64 q) ∧ Stay V w')) := ⟨hq1, hq2⟩
  clear hp2' hs2 hq1 hq2 k2 kl k2' kl'
  cases ok
  all_goals
    go_wp2_with fail
    go_region_held3 (fun W => W.cell? ⟨w.heap.size, 2, none⟩ = some (.int .i64 key) ∧ w.heap.size < W.heap.size ∧ Hid (Stay V0 W)) (first | assumption | (exact see_keep (by assumption) (by assumption))) (first
      | (go_at_call 31; refine (HQ.out.1 _ (see_stay (by assumption))).mono ?_; rintro e8 w8 ⟨rfl, hs8⟩)
      | (go_at_call 32; refine (HQ.out.2 _ (see_stay (by assumption))).mono ?_; rintro e8 w8 ⟨rfl, hs8⟩))
    have HF : Hid (Stay V0 w8) := see_stay (by assumption)
    go_wp2_with fail
    go_ret
    exact ⟨rfl, HE.out _ HF.out⟩
end
end Go.Proofs.Ytdnophgcdnghkaa.I
