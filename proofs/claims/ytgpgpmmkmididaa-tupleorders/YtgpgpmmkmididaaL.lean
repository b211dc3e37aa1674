/- TupleOrders: its walk. -/
import Derived.Test.YtgpgpmmkmididaaJ
import Derived.Deep.DeepCutAuto
namespace Go.Proofs.Ytgpgpmmkmididaa
open Go.RowKit Go.Maps

set_option maxRecDepth 100000 in
set_option maxHeartbeats 4000000 in
theorem orders_walk (w : World) (a1 a2 a3 : Option Addr) (b1 o1 b2 o2 b3 o3 c1 c2 c3 : Nat) (xs ys zs : List Int) (hx : IntsS w a1 b1 o1 xs) (hy : IntsS w a2 b2 o2 ys) (hz : IntsS w a3 b3 o3 zs)
    (hlx : xs.length ≤ maxLen) (hly : ys.length ≤ maxLen) (hlz : zs.length ≤ maxLen) :
    Calls Try.prog 4 #[.slice a1 xs.length c1, .slice a2 ys.length c2, .slice a3 zs.length c3] w fun e w' => e = .returned (.bool true) ∧ Stay w w' := by
  have H1 := compare_any w a1 a2 b1 o1 b2 o2 c1 c2 xs ys hx hy hlx hly
  have H2 := compare_any w a2 a3 b2 o2 b3 o3 c2 c3 ys zs hy hz hly hlz
  have H3 := compare_any w a1 a3 b1 o1 b3 o3 c1 c3 xs zs hx hz hlx hlz
  have H4 := compare_any w a2 a1 b2 o2 b1 o1 c2 c1 ys xs hy hx hly hlx
  have HI := ints_any w a1 a2 b1 o1 b2 o2 c1 c2 xs ys hx hy hlx hly
  have HE : Hid (∀ W, Stay w W → Calls Try.prog 10 #[.slice a1 xs.length c1, .slice a2 ys.length c2] W fun e w' => e = .returned (.bool (decide (xs = ys))) ∧ Stay W w') := fun W hW => equal_any W a1 a2 b1 o1 b2 o2 c1 c2 xs ys (hx.stay hW) (hy.stay hW) hlx hly
  have HX : Hid (IntsS w a1 b1 o1 xs ∧ IntsS w a2 b2 o2 ys) := ⟨hx, hy⟩
  have hr := cmpL_range xs ys
  have hr2 := cmpL_range ys zs
  have hanti := cmpL_anti ys xs
  have htr := cmpL_trans xs ys zs
  have he : cmpL xs ys = 0 → cmpL xs zs = cmpL ys zs := fun h => by rw [cmpL_eq h]
  have hd : decide (xs = ys) = (cmpL xs ys == 0) := by rw [Bool.eq_iff_iff, beq_iff_eq, decide_eq_true_iff, cmpL_iff]
  clear hx hy hz
  rw [hanti] at H4
  rw [hd] at HI HE
  obtain ⟨X, hX⟩ : ∃ X, X = cmpL xs ys := ⟨_, rfl⟩
  rw [← hX] at H1 H4 HI HE hr htr he
  have HXX : Hid (X = cmpL xs ys) := hX
  clear hX hanti hd
  generalize cmpL ys zs = Y at H2 hr2 htr he
  generalize cmpL xs zs = Z at H3 htr he
  have HR : Hid ((X = -1 ∨ X = 0 ∨ X = 1) ∧ (Y = -1 ∨ Y = 0 ∨ Y = 1) ∧ (X ≤ 0 → Y ≤ 0 → Z ≤ 0) ∧ (X = 0 → Z = Y)) := ⟨hr, hr2, htr, he⟩
  clear hr hr2 htr he
  unfold maxLen at hlx hly
  go_enter Try.func4, Try.ntmps4
  go_upto_region 4 with (first | (go_at_call 8; first | (refine Calls.mono H1 ?_; rintro e w9 ⟨rfl, hw9⟩; subst w9; clear H1) | (refine Calls.mono H2 ?_; rintro e w9 ⟨rfl, hw9⟩; subst w9; clear H2) | (refine Calls.mono H3 ?_; rintro e w9 ⟨rfl, hw9⟩; subst w9; clear H3)))
  go_cut [68] (fun c wx => c = .bool false ∧ Stay w wx)
  case first =>
    obtain ⟨hX, hY, hT, hE⟩ := HR.out
    clear HR HXX
    rcases hX with rfl | rfl | rfl
    · rcases hY with rfl | rfl | rfl
      · have hZ : Z ≤ 0 := hT (by omega) (by omega)
        clear hT hE
        (go_wp2_with (first | (go_at_call 8; refine Calls.mono H4 ?_; rintro e w9 ⟨rfl, hw9⟩; subst w9) | (go_at_call 9; refine Calls.mono HI ?_; rintro e w8 ⟨rfl, n, rfl⟩) | (go_at_call 10; refine Calls.mono (HE.out _ (Stay.drewN w n)) ?_; rintro e w7 ⟨rfl, hst⟩; have S7 : Hid (Stay w w7) := (Stay.drewN _ _).trans hst; clear hst)); go_meet; exact ⟨by first | rfl | (simp; omega), S7.out⟩)
      · have hZ : Z ≤ 0 := hT (by omega) (by omega)
        clear hT hE
        (go_wp2_with (first | (go_at_call 8; refine Calls.mono H4 ?_; rintro e w9 ⟨rfl, hw9⟩; subst w9) | (go_at_call 9; refine Calls.mono HI ?_; rintro e w8 ⟨rfl, n, rfl⟩) | (go_at_call 10; refine Calls.mono (HE.out _ (Stay.drewN w n)) ?_; rintro e w7 ⟨rfl, hst⟩; have S7 : Hid (Stay w w7) := (Stay.drewN _ _).trans hst; clear hst)); go_meet; exact ⟨by first | rfl | (simp; omega), S7.out⟩)
      · clear hT hE
        (go_wp2_with (first | (go_at_call 8; refine Calls.mono H4 ?_; rintro e w9 ⟨rfl, hw9⟩; subst w9) | (go_at_call 9; refine Calls.mono HI ?_; rintro e w8 ⟨rfl, n, rfl⟩) | (go_at_call 10; refine Calls.mono (HE.out _ (Stay.drewN w n)) ?_; rintro e w7 ⟨rfl, hst⟩; have S7 : Hid (Stay w w7) := (Stay.drewN _ _).trans hst; clear hst)); go_meet; exact ⟨by first | rfl | (simp; omega), S7.out⟩)
    · obtain rfl := hE rfl
      clear hT hE
      rcases hY with rfl | rfl | rfl
      · (go_wp2_with (first | (go_at_call 8; refine Calls.mono H4 ?_; rintro e w9 ⟨rfl, hw9⟩; subst w9) | (go_at_call 9; refine Calls.mono HI ?_; rintro e w8 ⟨rfl, n, rfl⟩) | (go_at_call 10; refine Calls.mono (HE.out _ (Stay.drewN w n)) ?_; rintro e w7 ⟨rfl, hst⟩; have S7 : Hid (Stay w w7) := (Stay.drewN _ _).trans hst; clear hst)); go_meet; exact ⟨by first | rfl | (simp; omega), S7.out⟩)
      · (go_wp2_with (first | (go_at_call 8; refine Calls.mono H4 ?_; rintro e w9 ⟨rfl, hw9⟩; subst w9) | (go_at_call 9; refine Calls.mono HI ?_; rintro e w8 ⟨rfl, n, rfl⟩) | (go_at_call 10; refine Calls.mono (HE.out _ (Stay.drewN w n)) ?_; rintro e w7 ⟨rfl, hst⟩; have S7 : Hid (Stay w w7) := (Stay.drewN _ _).trans hst; clear hst)); go_meet; exact ⟨by first | rfl | (simp; omega), S7.out⟩)
      · (go_wp2_with (first | (go_at_call 8; refine Calls.mono H4 ?_; rintro e w9 ⟨rfl, hw9⟩; subst w9) | (go_at_call 9; refine Calls.mono HI ?_; rintro e w8 ⟨rfl, n, rfl⟩) | (go_at_call 10; refine Calls.mono (HE.out _ (Stay.drewN w n)) ?_; rintro e w7 ⟨rfl, hst⟩; have S7 : Hid (Stay w w7) := (Stay.drewN _ _).trans hst; clear hst)); go_meet; exact ⟨by first | rfl | (simp; omega), S7.out⟩)
    · clear hT hE hY
      (go_wp2_with (first | (go_at_call 8; refine Calls.mono H4 ?_; rintro e w9 ⟨rfl, hw9⟩; subst w9) | (go_at_call 9; refine Calls.mono HI ?_; rintro e w8 ⟨rfl, n, rfl⟩) | (go_at_call 10; refine Calls.mono (HE.out _ (Stay.drewN w n)) ?_; rintro e w7 ⟨rfl, hst⟩; have S7 : Hid (Stay w w7) := (Stay.drewN _ _).trans hst; clear hst)); go_meet; exact ⟨by first | rfl | (simp; omega), S7.out⟩)
  case rest =>
    obtain ⟨rfl, hst⟩ := hcut
    have HS : Hid (Stay w wc) := hst
    clear hst H4 HI HE
    by_cases h0 : X = 0
    · subst h0
      obtain rfl := cmpL_eq HXX.out.symm
      have HH1 := hash_any wc a1 b1 o1 c1 xs (HX.out.1.stay HS.out) (by unfold maxLen; omega)
      have HH2 := hash_any wc a2 b2 o2 c2 xs (HX.out.2.stay HS.out) (by unfold maxLen; omega)
      generalize hashOf xs = hh at HH1 HH2
      clear HR HXX
      go_upto_region 8 with (first | (go_at_call 11; first | (refine Calls.mono HH1 ?_; rintro e w9 ⟨rfl, hw9⟩; subst w9; clear HH1) | (refine Calls.mono HH2 ?_; rintro e w9 ⟨rfl, hw9⟩; subst w9; clear HH2)))
      by_cases h16 : 16 < xs.length
      · have h17 : (16 : Int) < (xs.length : Int) := by omega
        (go_wp2_with (go_at_call 7; refine Calls.mono (works_any wc) ?_; rintro e w6 ⟨rfl, h1⟩; have S6 : Hid (Stay w w6) := HS.out.trans h1; clear h1); go_ret; exact ⟨rfl, S6.out⟩)
      · have h17 : (xs.length : Int) ≤ 16 := by omega
        have hz := (zero_of_info infoArr).1
        obtain ⟨Z', hZ'⟩ : ∃ Z', Z' = List.replicate 16 (Value.int .i64 0) := ⟨_, rfl⟩
        rw [← hZ'] at hz
        have HK1 := key_any wc a1 b1 o1 c1 xs (HX.out.1.stay HS.out) (by omega)
        have HK2 : Hid (∀ W, Stay wc W → Calls Try.prog 12 #[.slice a2 xs.length c2] W fun e w' => e = .returned (.tuple #[.agg (arrV (padI xs)), .int .i64 0]) ∧ Stay W w') := fun W hW => key_any W a2 b2 o2 c2 xs (HX.out.2.stay (HS.out.trans hW)) (by omega)
        have HE : Hid (∀ W, (Op.equalIn 10000 28 (.agg (arrV (padI xs))) (.agg (arrV (padI xs)))).run Try.prog W = .ok true W) := fun W => eqKeys W (by omega) rfl (by simp)
        have HZ : Hid (Z'.toArray.size = 16 ∧ xs.length ≤ 16 ∧ xs.length ≤ 16) := ⟨by simp [hZ'], by omega, by omega⟩
        clear hZ'
        go_wp2_with fail
        refine Calls.mono HK1 ?_
        rintro e w1 ⟨rfl, hb1⟩
        have HB1 : Hid (Stay wc w1) := hb1
        clear hb1 HK1
        go_wp2_with (refine wpList_store_fresh rfl 28 (.tmp 10) (.tmp 92) rfl (arrV (padI xs)) _ rfl rfl 28 (size16 HZ.out.2.1) (by rw [HZ.out.1, arrV_size, padI_len HZ.out.2.1]) (arrV_one _) ?_)
        refine Calls.mono (HK2.out _ (HB1.out.alloc _)) ?_
        rintro e w2 ⟨rfl, hb2⟩
        have HB2 : Hid (Stay wc w2) := (HB1.out.alloc _).trans hb2
        have HG : Hid (w2.heap[w1.heap.size]? = some (.cells (arrV (padI xs)) 28 (0, 0))) := hb2.heap (heap_alloc_new _ _)
        clear hb2 HK2
        have he := HE.out (w2.alloc (.cells (arrV (padI xs)) 28))
        clear HE
        go_wp2_with (first | (refine wpList_store_fresh rfl 28 (.tmp 12) (.tmp 97) rfl (arrV (padI xs)) _ rfl rfl 28 (size16 HZ.out.2.2) (by rw [HZ.out.1, arrV_size, padI_len HZ.out.2.2]) (arrV_one _) ?_) | (go_at_call 13; refine Calls.mono (num_any _ _) ?_; rintro e w9 ⟨rfl, hw9⟩; subst w9) | (refine wpList_load_rowG 28 (.tmp 10) rfl w1.heap.size rfl rfl 28 (arrV (padI xs)) (0, 0) (.array 16 3) ((Stay.new _ _).heap HG.out) Try.underlying28 rfl (size16 HZ.out.2.1) ?_) | (refine wpList_load_rowG 28 (.tmp 12) rfl w2.heap.size rfl rfl 28 (arrV (padI xs)) (0, 0) (.array 16 3) (heap_alloc_new _ _) Try.underlying28 rfl (size16 HZ.out.2.2) ?_))
        refine Calls.mono (works_any _) ?_
        rintro e w6 ⟨rfl, h1⟩
        have S6 : Hid (Stay w w6) := (HS.out.trans (HB2.out.alloc _)).trans h1
        clear h1
        go_wp2_with fail
        go_ret
        exact ⟨rfl, S6.out⟩
    · have h1 : (X == 0) = false := by simpa using h0
      have hne : xs ≠ ys := fun h => h0 (HXX.out.trans ((cmpL_iff xs ys).2 h))
      clear HR HXX
      go_upto_region 8 with fail
      by_cases hl : xs.length = ys.length
      · have hl2 : ((xs.length : Int) != (ys.length : Int)) = false := by simp [hl]
        by_cases h16 : 16 < xs.length
        · have h17 : (16 : Int) < (xs.length : Int) := by omega
          clear hl
          (go_wp2_with (go_at_call 7; refine Calls.mono (works_any wc) ?_; rintro e w6 ⟨rfl, h1⟩; have S6 : Hid (Stay w w6) := HS.out.trans h1; clear h1); go_ret; exact ⟨rfl, S6.out⟩)
        · have h17 : (xs.length : Int) ≤ 16 := by omega
          have hz := (zero_of_info infoArr).1
          obtain ⟨Z', hZ'⟩ : ∃ Z', Z' = List.replicate 16 (Value.int .i64 0) := ⟨_, rfl⟩
          rw [← hZ'] at hz
          have HK1 := key_any wc a1 b1 o1 c1 xs (HX.out.1.stay HS.out) (by omega)
          have HK2 : Hid (∀ W, Stay wc W → Calls Try.prog 12 #[.slice a2 ys.length c2] W fun e w' => e = .returned (.tuple #[.agg (arrV (padI ys)), .int .i64 0]) ∧ Stay W w') := fun W hW => key_any W a2 b2 o2 c2 ys (HX.out.2.stay (HS.out.trans hW)) (by omega)
          have HE : Hid (∀ W, (Op.equalIn 10000 28 (.agg (arrV (padI xs))) (.agg (arrV (padI ys)))).run Try.prog W = .ok false W) := fun W => eqKeys W (by omega) hl (by simp [hne])
          have HZ : Hid (Z'.toArray.size = 16 ∧ xs.length ≤ 16 ∧ ys.length ≤ 16) := ⟨by simp [hZ'], by omega, by omega⟩
          clear hZ' hl h16 hne h0
          go_wp2_with fail
          refine Calls.mono HK1 ?_
          rintro e w1 ⟨rfl, hb1⟩
          have HB1 : Hid (Stay wc w1) := hb1
          clear hb1 HK1
          go_wp2_with (refine wpList_store_fresh rfl 28 (.tmp 10) (.tmp 92) rfl (arrV (padI xs)) _ rfl rfl 28 (size16 HZ.out.2.1) (by rw [HZ.out.1, arrV_size, padI_len HZ.out.2.1]) (arrV_one _) ?_)
          refine Calls.mono (HK2.out _ (HB1.out.alloc _)) ?_
          rintro e w2 ⟨rfl, hb2⟩
          have HB2 : Hid (Stay wc w2) := (HB1.out.alloc _).trans hb2
          have HG : Hid (w2.heap[w1.heap.size]? = some (.cells (arrV (padI xs)) 28 (0, 0))) := hb2.heap (heap_alloc_new _ _)
          clear hb2 HK2
          have he := HE.out (w2.alloc (.cells (arrV (padI ys)) 28))
          clear HE
          go_wp2_with (first | (refine wpList_store_fresh rfl 28 (.tmp 12) (.tmp 97) rfl (arrV (padI ys)) _ rfl rfl 28 (size16 HZ.out.2.2) (by rw [HZ.out.1, arrV_size, padI_len HZ.out.2.2]) (arrV_one _) ?_) | (go_at_call 13; refine Calls.mono (num_any _ _) ?_; rintro e w9 ⟨rfl, hw9⟩; subst w9) | (refine wpList_load_rowG 28 (.tmp 10) rfl w1.heap.size rfl rfl 28 (arrV (padI xs)) (0, 0) (.array 16 3) ((Stay.new _ _).heap HG.out) Try.underlying28 rfl (size16 HZ.out.2.1) ?_) | (refine wpList_load_rowG 28 (.tmp 12) rfl w2.heap.size rfl rfl 28 (arrV (padI ys)) (0, 0) (.array 16 3) (heap_alloc_new _ _) Try.underlying28 rfl (size16 HZ.out.2.2) ?_))
          refine Calls.mono (works_any _) ?_
          rintro e w6 ⟨rfl, h1⟩
          have S6 : Hid (Stay w w6) := (HS.out.trans (HB2.out.alloc _)).trans h1
          clear h1
          go_wp2_with fail
          go_ret
          exact ⟨rfl, S6.out⟩
      · have hl2 : ((xs.length : Int) != (ys.length : Int)) = true := by simp; omega
        (go_wp2_with (go_at_call 7; refine Calls.mono (works_any wc) ?_; rintro e w6 ⟨rfl, h1⟩; have S6 : Hid (Stay w w6) := HS.out.trans h1; clear h1); go_ret; exact ⟨rfl, S6.out⟩)
end Go.Proofs.Ytgpgpmmkmididaa
