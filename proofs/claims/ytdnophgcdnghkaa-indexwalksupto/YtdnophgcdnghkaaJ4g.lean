/- One step with two tables side by side: Place and Probes. One step with two tables side by side: All and Layout. -/
import Derived.Test.YtdnophgcdnghkaaJ4e
import Derived.Test.YtdnophgcdnghkaaJ4c
namespace Go.Proofs.Ytdnophgcdnghkaa.I
open Go.RowKit Go.Maps Go.Proofs.Ytdnophgcdnghkaa
section
variable {w W0 W1 W2 W3 : World} {fp : Nat × Nat × Int} {bt br n N N' : Nat} {way : Int} {o o1 o2 : Nat → Nat} {ps ps' : List (Int × Int)}
theorem see_keep {Z W W' : World} {b : Nat} {v : Value} (hs : Stay W W') (h : W.cell? ⟨b, 2, none⟩ = some v ∧ b < W.heap.size ∧ Hid (Stay Z W)) : W'.cell? ⟨b, 2, none⟩ = some v ∧ b < W'.heap.size ∧ Hid (Stay Z W') :=
  ⟨hs.cell h.1, Nat.lt_of_lt_of_le h.2.1 hs.size, h.2.2.out.trans hs⟩
theorem see_stay {Z W : World} {b : Nat} {v : Value} (h : W.cell? ⟨b, 2, none⟩ = some v ∧ b < W.heap.size ∧ Hid (Stay Z W)) : Stay Z W := h.2.2.out
set_option maxRecDepth 100000 in
set_option maxHeartbeats 4000000 in
theorem step_place (M : Mt w fp bt br way n o ps N) {wb i : Nat} {on key val leave : Int} (A : Ask w wb i bt br on key val leave) :
    Calls Try.prog 9 #[.pointer (some ⟨wb, 0, none⟩), .agg #[.int .i64 5, .int .i64 on, .int .i64 key, .int .i64 val, .int .i64 leave]] w fun e w' => e = .returned (.bool true) ∧ Done w fp bt br way (n + 1) o w' := by
  have hro := fun W => lround_any W on A.ok.1
  have ct := A.ct
  have cr := A.cr
  have h2 := A.two
  have h2i : (i : Int) < 2 := by omega
  have hwl : wb < w.heap.size := World.block_lt_of_cell? w _ ct
  rw [A.onE] at hro
  go_enter Try.func9, Try.ntmps9
  go_wp2_with fail
  refine (hro _).mono ?_
  rintro e9 w9 ⟨rfl, hw⟩
  have hw' := hw.symm; subst hw'
  clear hro
  go_wp2_with fail
  go_quiet (fail)
  go_wp2_with fail
  obtain ⟨V0, hV0⟩ : ∃ V0, (w.alloc (.cells #[.int .i64 5, .int .i64 on, .int .i64 key, .int .i64 val, .int .i64 leave] 42)).drewN nq = V0 := ⟨_, rfl⟩
  have hB : Beg w V0 5 on key val leave := hV0 ▸ Beg.mk0 w 5 on key val leave nq
  rw [hV0]
  clear hV0 ct cr
  have M0 := M.stay hB.stay
  have hfa := M.t.facts
  obtain ⟨k2, k3, k4, kl⟩ := hB.cells rfl
  obtain ⟨p, ok, hp1, hp2⟩ := place_pair M0.t M0.r M.way key A.ok.2.1 (by have := M.big; omega)
  obtain ⟨q, hq1, hq2⟩ := probes_pair M0.t M0.r M.way key A.ok.2.1 (by have := M.big; omega)
  have HE : Hid (∀ W3, Stay V0 W3 → Done w fp bt br way (n + 1) o W3) := fun W3 hs3 => M.same (hB.stay.trans hs3)
  clear hfa M0 hB M A k3 k4
  refine hp1.mono ?_
  rintro e9 w1 ⟨rfl, hs1⟩
  have hp2' := hp2 w1 hs1
  have HS1 : Hid (Stay V0 w1) := hs1
  have k2' := hs1.cell k2
  have kl' : w.heap.size < w1.heap.size := by have := hs1.size; omega
  clear hp2 hs1
  go_wp2_with fail
  refine hp2'.mono ?_
  rintro e9 w2 ⟨rfl, hs2⟩
  have hS0 := see_keep (Stay.drew w2) (see_keep hs2 ⟨k2', kl', HS1⟩)
  have k2'' := hs2.cell k2'
  have kl'' : w.heap.size < w2.heap.size := by have := hs2.size; omega
  have HQ : Hid ((∀ V, Stay V0 V → Calls Try.prog 31 #[.pointer (some ⟨bt, 0, none⟩), .int .i64 key] V (fun e w' => e = .returned (.int .i64 q) ∧ Stay V w')) ∧ ∀ V, Stay V0 V → Calls Try.prog 32 #[.pointer (some ⟨br, 0, none⟩), .int .i64 key] V (fun e w' => e = .returned (.int .i64 q) ∧ Stay V w')) := ⟨hq1, hq2⟩
  clear hp2' hs2 hq1 hq2 k2 kl k2' kl'
  cases ok
  all_goals
    go_wp2_with fail
    go_region_held3 (fun W => W.cell? ⟨w.heap.size, 2, none⟩ = some (.int .i64 key) ∧ w.heap.size < W.heap.size ∧ Hid (Stay V0 W)) (first | assumption | (exact see_keep (by assumption) (by assumption))) (first
      | (go_at_call 31; refine (HQ.out.1 _ (see_stay (by assumption))).mono ?_; rintro e8 w8 ⟨rfl, hs8⟩)
      | (go_at_call 32; refine (HQ.out.2 _ (see_stay (by assumption))).mono ?_; rintro e8 w8 ⟨rfl, hs8⟩))
    have HF : Hid (Stay V0 w8) := see_stay (by assumption)
    go_wp2_with fail
    go_ret
    exact ⟨rfl, HE.out _ HF.out⟩
end
end Go.Proofs.Ytdnophgcdnghkaa.I
namespace Go.Proofs.Ytdnophgcdnghkaa.I
open Go.RowKit Go.Maps Go.Shelf Go.Proofs.Ytdnophgcdnghkaa
section
variable {w W0 W1 W2 W3 Z : World} {fp : Nat × Nat × Int} {bt br n N N' : Nat} {way : Int} {o o1 o2 : Nat → Nat} {ps ps' : List (Int × Int)}
/-- What must be told, and that it is told. -/
def Told (Z : World) (br Bn pf gf : Nat) : Prop := ∃ ks vs : List Int, (∀ V, Stay Z V → Calls Try.prog pf #[.pointer (some ⟨br, 0, none⟩)] V (TellR V ks vs)) ∧
  ∀ V, Stay Z V → ∀ (a1 a2 : Option Addr) (b1 b2 c1 c2 : Nat) (leave : Int), RecS 1 encN V a1 b1 0 ks → RecS 1 encN V a2 b2 0 vs →
    Calls Try.prog 10 #[.func (.func gf) #[] #[.pointer (some ⟨Bn, 0, none⟩)], .agg #[.slice a1 ks.length c1, .slice a2 vs.length c2], .int .i64 leave] V fun e w' => e = .returned (.bool true) ∧ Stay V w'
theorem all_told (h : TS Z fp bt ps N n o) (hR : RS Z br way ps N o) (hn : n ≤ 1073741824) {Bn : Nat} (hc : Z.cell? ⟨Bn, 0, none⟩ = some (.pointer (some ⟨bt, 0, none⟩))) : Told Z br Bn 12 35 := by
  have hfa := h.facts
  obtain ⟨cv, pb, len, reach, came, places, hT, h1, h2, h3, h4⟩ := h
  obtain ⟨a, b, c, hR, h5⟩ := hR
  have hll : (live came).length = ps.length := by rw [← h1, List.length_map]
  refine ⟨ps.map (·.1), ps.map (·.2), fun V hV => pairs_any (hR.stay hV) (by omega), fun V hV a1 a2 b1 b2 c1 c2 leave hk hv => ?_⟩
  refine walks_any V (enters_of Try.func35 (by kernel_rfl) rfl) (f := fun x => ((live came)[x]?.getD gap).key) (g := fun x => ((live came)[x]?.getD gap).val) (n := (live came).length) (fun X hX => ?_) hk hv (by rw [List.length_map, hll]) (by rw [List.length_map, hll]) (fun i hi => ?_) (fun i hi => ?_) leave (by omega)
  · exact all_stops 8 (by decide) Bn (fun _ _ => False) X ((Stay.trans hV hX).cell hc) (hT.turn (S := fun _ => False) (Turn.of_stay (Stay.trans hV hX)) (fun _ _ e => e) (fun _ _ e => e)) (by omega) (fun _ _ _ hm => hm.elim) (fun _ _ _ _ hm => hm)
  · have hi2 : i < (live came).length := by rw [List.length_map] at hi; omega
    simp only [List.getElem?_eq_getElem hi2, Option.getD_some, List.getElem_map]
    simp only [← h1, List.getElem_map]
    rfl
  · have hi2 : i < (live came).length := by rw [List.length_map] at hi; omega
    simp only [List.getElem?_eq_getElem hi2, Option.getD_some, List.getElem_map]
    simp only [← h1, List.getElem_map]
    rfl
theorem lay_told (h : TS Z fp bt ps N n o) (hR : RS Z br way ps N o) (hw : fp.2.2 = way) (hn : n ≤ 1073741824) {Bn : Nat} (hc : Z.cell? ⟨Bn, 0, none⟩ = some (.pointer (some ⟨bt, 0, none⟩))) : Told Z br Bn 14 37 := by
  have hfa := h.facts
  obtain ⟨cv, pb, len, reach, came, places, hT, h1, h2, h3, h4⟩ := h
  obtain ⟨a, b, c, hR, h5⟩ := hR
  have hll : (byPl (live came)).length = ps.length := by rw [byPl_len, ← h1, List.length_map]
  refine ⟨((byPl (live came)).map pk2).map (·.1), ((byPl (live came)).map pk2).map (·.2), fun V hV => ?_, fun V hV a1 a2 b1 b2 c1 c2 leave hk hv => ?_⟩
  · refine (laid_any (hR.stay hV) (by omega) (by omega)).mono ?_
    rintro e w' ⟨came2, places2, hL, -, ht⟩
    rw [← hT.laid h1 hw hL] at ht
    exact ht
  refine walks_any V (enters_of Try.func37 (by kernel_rfl) rfl) (f := fun x => (((byPl (live came))[x]?.getD gap).place : Int)) (g := fun x => ((byPl (live came))[x]?.getD gap).key) (n := (byPl (live came)).length) (fun X hX => ?_) hk hv (by simp) (by simp) (fun i hi => ?_) (fun i hi => ?_) leave (by omega)
  · exact lay_stops 8 (by decide) Bn (fun _ _ => False) X ((Stay.trans hV hX).cell hc) (hT.turn (S := fun _ => False) (Turn.of_stay (Stay.trans hV hX)) (fun _ _ e => e) (fun _ _ e => e)) (by omega) (fun _ _ _ hm => hm.elim) (fun _ _ _ _ hm => hm)
  · have hi2 : i < (byPl (live came)).length := by simpa using hi
    simp only [List.getElem?_eq_getElem hi2, Option.getD_some, List.getElem_map]
    rfl
  · have hi2 : i < (byPl (live came)).length := by simpa using hi
    simp only [List.getElem?_eq_getElem hi2, Option.getD_some, List.getElem_map]
    rfl
theorem see4_keep {Z W W' : World} {b : Nat} {v : Value} (hs : Stay W W') (h : W.cell? ⟨b, 4, none⟩ = some v ∧ b < W.heap.size ∧ Hid (Stay Z W)) : W'.cell? ⟨b, 4, none⟩ = some v ∧ b < W'.heap.size ∧ Hid (Stay Z W') :=
  ⟨hs.cell h.1, Nat.lt_of_lt_of_le h.2.1 hs.size, h.2.2.out.trans hs⟩
theorem see4_stay {Z W : World} {b : Nat} {v : Value} (h : W.cell? ⟨b, 4, none⟩ = some v ∧ b < W.heap.size ∧ Hid (Stay Z W)) : Stay Z W := h.2.2.out
set_option maxRecDepth 100000 in
set_option maxHeartbeats 4000000 in
theorem step_all (M : Mt w fp bt br way n o ps N) {wb i : Nat} {on key val leave : Int} (A : Ask w wb i bt br on key val leave) :
    Calls Try.prog 9 #[.pointer (some ⟨wb, 0, none⟩), .agg #[.int .i64 6, .int .i64 on, .int .i64 key, .int .i64 val, .int .i64 leave]] w fun e w' => e = .returned (.bool true) ∧ Done w fp bt br way (n + 1) o w' := by
  have hro := fun W => lround_any W on A.ok.1
  have ct := A.ct
  have cr := A.cr
  have h2 := A.two
  have h2i : (i : Int) < 2 := by omega
  have hwl : wb < w.heap.size := World.block_lt_of_cell? w _ ct
  rw [A.onE] at hro
  go_enter Try.func9, Try.ntmps9
  go_wp2_with fail
  refine (hro _).mono ?_
  rintro e9 w9 ⟨rfl, hw⟩
  have hw' := hw.symm; subst hw'
  clear hro
  go_wp2_with fail
  go_quiet (fail)
  go_wp2_with fail
  obtain ⟨V0, hV0⟩ : ∃ V0, (w.alloc (.cells #[.int .i64 6, .int .i64 on, .int .i64 key, .int .i64 val, .int .i64 leave] 42)).drewN nq = V0 := ⟨_, rfl⟩
  have hB : Beg w V0 6 on key val leave := hV0 ▸ Beg.mk0 w 6 on key val leave nq
  rw [hV0]
  clear hV0 ct cr
  have M0 := M.stay hB.stay
  have hfa := M.t.facts
  obtain ⟨k2, k3, k4, kl⟩ := hB.cells rfl
  refine (all_any V0 _).mono ?_
  rintro e9 w1 ⟨rfl, rfl⟩
  obtain ⟨Z, hZ⟩ : ∃ Z, V0.alloc (.cells #[.pointer (some ⟨bt, 0, none⟩)] 24) = Z := ⟨_, rfl⟩
  have sZ : Stay V0 Z := by rw [← hZ]; exact Stay.new _ _
  have cZ : Z.cell? ⟨V0.heap.size, 0, none⟩ = some (.pointer (some ⟨bt, 0, none⟩)) := by rw [← hZ]; simp
  have hT := all_told (M0.t.stay sZ) (M0.r.stay sZ) M.big cZ
  have HE : Hid (∀ W3, Stay Z W3 → Done w fp bt br way (n + 1) o W3) := fun W3 hs3 => M.same ((hB.stay.trans sZ).trans hs3)
  have k4' := sZ.cell k4
  have kl' : w.heap.size < Z.heap.size := by have := sZ.size; omega
  rw [hZ]
  obtain ⟨ks, vs, ht1, ht2⟩ := hT
  have HQ : Hid (_ ∧ _) := ⟨ht1, ht2⟩
  have hS0 := see4_keep (Stay.drew Z) ⟨k4', kl', (Stay.refl Z : Hid (Stay Z Z))⟩
  clear hfa M0 hB M A k2 k3 k4 kl sZ cZ hZ ht1 ht2
  go_wp2_with fail
  go_region_held3 (fun W => W.cell? ⟨w.heap.size, 4, none⟩ = some (.int .i64 leave) ∧ w.heap.size < W.heap.size ∧ Hid (Stay Z W)) (first | assumption | (exact see4_keep (by assumption) (by assumption))) (first
    | (go_at_call 12; refine (HQ.out.1 _ (see4_stay (by assumption))).mono ?_; rintro e8 w8 ⟨a1, b1, c1, a2, b2, c2, rfl, hR1, hR2, hs8⟩)
    | (go_at_call 10; refine (HQ.out.2 _ (see4_stay (by assumption)) _ _ _ _ _ _ _ hR1 hR2).mono ?_; rintro e8 w8 ⟨rfl, hs8⟩))
  have HF : Hid (Stay Z w8) := see4_stay (by assumption)
  go_wp2_with fail
  go_ret
  exact ⟨rfl, HE.out _ HF.out⟩
end
end Go.Proofs.Ytdnophgcdnghkaa.I
