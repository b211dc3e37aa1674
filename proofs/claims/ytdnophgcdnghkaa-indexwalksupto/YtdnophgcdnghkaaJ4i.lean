/- One step with two tables side by side: Layout. One step with two tables side by side: what else is asked. -/
import Derived.Test.YtdnophgcdnghkaaJ4g
import Derived.Test.YtdnophgcdnghkaaJ4e
namespace Go.Proofs.Ytdnophgcdnghkaa.I
open Go.RowKit Go.Maps Go.Shelf Go.Proofs.Ytdnophgcdnghkaa
section
variable {w W0 W1 W2 W3 Z : World} {fp : Nat × Nat × Int} {bt br n N N' : Nat} {way : Int} {o o1 o2 : Nat → Nat} {ps ps' : List (Int × Int)}
set_option maxRecDepth 100000 in
set_option maxHeartbeats 4000000 in
theorem step_lay (M : Mt w fp bt br way n o ps N) {wb i : Nat} {on key val leave : Int} (A : Ask w wb i bt br on key val leave) :
    Calls Try.prog 9 #[.pointer (some ⟨wb, 0, none⟩), .agg #[.int .i64 7, .int .i64 on, .int .i64 key, .int .i64 val, .int .i64 leave]] w fun e w' => e = .returned (.bool true) ∧ Done w fp bt br way (n + 1) o w' := by
  have hro := fun W => lround_any W on A.ok.1
  have ct := A.ct
  have cr := A.cr
  have h2 := A.two
  have h2i : (i : Int) < 2 := by omega
  have hwl : wb < w.heap.size := World.block_lt_of_cell? w _ ct
  rw [A.onE] at hro
  go_enter Try.func9, Try.ntmps9
  go_wp2_with fail
  refine (hro _).mono ?_
  rintro e9 w9 ⟨rfl, hw⟩
  have hw' := hw.symm; subst hw'
  clear hro
  go_wp2_with fail
  go_quiet (fail)
  go_wp2_with fail
  obtain ⟨V0, hV0⟩ : ∃ V0, (w.alloc (.cells #[.int .i64 7, .int .i64 on, .int .i64 key, .int .i64 val, .int .i64 leave] 42)).drewN nq = V0 := ⟨_, rfl⟩
  have hB : Beg w V0 7 on key val leave := hV0 ▸ Beg.mk0 w 7 on key val leave nq
  rw [hV0]
  clear hV0 ct cr
  have M0 := M.stay hB.stay
  have hfa := M.t.facts
  obtain ⟨k2, k3, k4, kl⟩ := hB.cells rfl
  refine (layout_any V0 _).mono ?_
  rintro e9 w1 ⟨rfl, rfl⟩
  obtain ⟨Z, hZ⟩ : ∃ Z, V0.alloc (.cells #[.pointer (some ⟨bt, 0, none⟩)] 24) = Z := ⟨_, rfl⟩
  have sZ : Stay V0 Z := by rw [← hZ]; exact Stay.new _ _
  have cZ : Z.cell? ⟨V0.heap.size, 0, none⟩ = some (.pointer (some ⟨bt, 0, none⟩)) := by rw [← hZ]; simp
  have hT := lay_told (M0.t.stay sZ) (M0.r.stay sZ) M.way M.big cZ
  have HE : Hid (∀ W3, Stay Z W3 → Done w fp bt br way (n + 1) o W3) := fun W3 hs3 => M.same ((hB.stay.trans sZ).trans hs3)
  have k4' := sZ.cell k4
  have kl' : w.heap.size < Z.heap.size := by have := sZ.size; omega
  rw [hZ]
  obtain ⟨ks, vs, ht1, ht2⟩ := hT
  have HQ : Hid (_ ∧ _) := ⟨ht1, ht2⟩
  have hS0 := see4_keep (Stay.drew Z) ⟨k4', kl', (Stay.refl Z : Hid (Stay Z Z))⟩
  clear hfa M0 hB M A k2 k3 k4 kl sZ cZ hZ ht1 ht2
  go_wp2_with fail
  go_region_held3 (fun W => W.cell? ⟨w.heap.size, 4, none⟩ = some (.int .i64 leave) ∧ w.heap.size < W.heap.size ∧ Hid (Stay Z W)) (first | assumption | (exact see4_keep (by assumption) (by assumption))) (first
    | (go_at_call 14; refine (HQ.out.1 _ (see4_stay (by assumption))).mono ?_; rintro e8 w8 ⟨a1, b1, c1, a2, b2, c2, rfl, hR1, hR2, hs8⟩)
    | (go_at_call 10; refine (HQ.out.2 _ (see4_stay (by assumption)) _ _ _ _ _ _ _ hR1 hR2).mono ?_; rintro e8 w8 ⟨rfl, hs8⟩))
  have HF : Hid (Stay Z w8) := see4_stay (by assumption)
  go_wp2_with fail
  go_ret
  exact ⟨rfl, HE.out _ HF.out⟩
end
end Go.Proofs.Ytdnophgcdnghkaa.I
namespace Go.Proofs.Ytdnophgcdnghkaa.I
open Go.RowKit Go.Maps Go.Shelf Go.Proofs.Ytdnophgcdnghkaa
section
variable {w W0 W1 W2 W3 Z : World} {fp : Nat × Nat × Int} {bt br n N N' : Nat} {way : Int} {o o1 o2 : Nat → Nat} {ps ps' : List (Int × Int)}
set_option maxRecDepth 100000 in
set_option maxHeartbeats 4000000 in
theorem step_rest (M : Mt w fp bt br way n o ps N) {wb i : Nat} {kind on key val leave : Int} (A : Ask w wb i bt br on key val leave) (hk : kind < 1 ∨ 8 < kind) :
    Calls Try.prog 9 #[.pointer (some ⟨wb, 0, none⟩), .agg #[.int .i64 kind, .int .i64 on, .int .i64 key, .int .i64 val, .int .i64 leave]] w fun e w' => e = .returned (.bool true) ∧ Done w fp bt br way (n + 1) o w' := by
  have d1 : ¬ kind = 1 := by omega
  have d2 : ¬ kind = 2 := by omega
  have d3 : ¬ kind = 3 := by omega
  have d4 : ¬ kind = 4 := by omega
  have d5 : ¬ kind = 5 := by omega
  have d6 : ¬ kind = 6 := by omega
  have d7 : ¬ kind = 7 := by omega
  have d8 : ¬ kind = 8 := by omega
  clear hk
  have hro := fun W => lround_any W on A.ok.1
  have ct := A.ct
  have cr := A.cr
  have h2 := A.two
  have h2i : (i : Int) < 2 := by omega
  have hwl : wb < w.heap.size := World.block_lt_of_cell? w _ ct
  rw [A.onE] at hro
  go_enter Try.func9, Try.ntmps9
  go_wp2_with fail
  refine (hro _).mono ?_
  rintro e9 w9 ⟨rfl, hw⟩
  have hw' := hw.symm; subst hw'
  clear hro
  go_wp2_with fail
  go_quiet (fail)
  obtain ⟨V0, hV0⟩ : ∃ V0, (w.alloc (.cells #[.int .i64 kind, .int .i64 on, .int .i64 key, .int .i64 val, .int .i64 leave] 42)).drewN nq = V0 := ⟨_, rfl⟩
  have hB : Beg w V0 kind on key val leave := hV0 ▸ Beg.mk0 w kind on key val leave nq
  have HE : Hid (Done w fp bt br way (n + 1) o ((w.alloc (.cells #[.int .i64 kind, .int .i64 on, .int .i64 key, .int .i64 val, .int .i64 leave] 42)).drewN nq)) := by
    rw [hV0]
    exact M.same hB.stay
  clear M A ct cr hB hV0
  go_wp2_with fail
  go_ret
  exact ⟨rfl, HE.out⟩
end
end Go.Proofs.Ytdnophgcdnghkaa.I
