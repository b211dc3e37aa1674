/- OrderAgrees: the walk. -/
import Derived.Test.YtnmaldgmlkcliaaOAG
import Derived.Test.YtnmaldgmlkcliaaGJq
import Derived.Test.YtnmaldgmlkcliaaRW
namespace Go.Proofs.Ytnmaldgmlkcliaa
open Go.RowKit Go.Maps Go.Shelf Go.Sort

set_option maxRecDepth 100000 in
set_option maxHeartbeats 8000000 in
theorem agrees_walk (w : World) (a : Option Addr) (b off c : Nat) (ts : List (Int × Int)) (hT : ThS w a b off ts) (ha : a = none → c = 0 ∧ ts = []) (hl : ts.length ≤ 1048576) :
    Calls Try.prog 4 #[.slice a ts.length c] w fun e w' => e = .returned (.bool true) ∧ Stay w w' := by
  have hwk := works_any
  have hso := sort_by w a b off c ts hT ha (by omega)
  have hnew := HT.new_any 9
  obtain ⟨n, hn⟩ : ∃ n, n = ts.length := ⟨_, rfl⟩
  have HX : Hid (ThS w a b off ts ∧ n = ts.length) := ⟨hT, hn⟩
  rw [← hn] at hso hl ⊢
  clear hT ha hn
  go_enter Try.func4, Try.ntmps4
  go_wp2_with fail
  refine hso.mono ?_
  rintro e W1 ⟨v3, rfl, ho, hs1⟩
  obtain ⟨wa, wb, wc, rfl, hW, -, -, -⟩ := ho.form
  rw [sortR_len, ← HX.out.2] at ho ⊢
  have HW : Hid (ThS W1 wa wb 0 (sortR ts) ∧ OwnT w.heap.size W1 (.slice wa n wc) (sortR ts) ∧ Stay w W1 ∧ (sortR ts).length = n) := ⟨hW, ho, hs1, by rw [sortR_len, HX.out.2]⟩
  clear hso ho hW hs1
  go_wp2_with fail
  refine (hnew _).mono ?_
  rintro e W2 ⟨rfl, hw2⟩
  have hA0 : Ag W1 W2 W1.heap.size (.slice none 0 0) 0 [] (.slice none 0 0) [] := by rw [hw2]; exact Ag.first W1
  have HA0 : Hid (Ag W1 W2 W1.heap.size (.slice none 0 0) 0 [] (.slice none 0 0) []) := hA0
  clear hw2 hnew hA0
  generalize hhb : W1.heap.size = hb at HA0 ⊢
  have HHB : Hid (W1.heap.size = hb) := hhb
  clear hhb
  go_wp2_with fail
  go_loopw [5, 6] (fun v5 i wr => ∃ k : Nat, k ≤ n ∧ i = .int .i64 (k : Int) ∧ ∃ v came T X, Ag W1 wr hb v k came v5 X ∧ Srt T came k (sortR (ts.take k)) ∧ X.map Ls.ts = (ts.take k).map (fun x => [x])) (fun _ i _ => n - (intOf i).toNat)
  case atStart => exact ⟨0, Nat.zero_le _, rfl, _, _, [], [], HA0.out, Srt.nil, rfl⟩
  case round =>
    obtain ⟨k, hk, rfl, v, came, T, X, hA, hSr, hXm⟩ := hrel
    have hXl : X.length = k := by
      have := congrArg List.length hXm
      rw [List.length_map, List.length_map, List.length_take, ← HX.out.2] at this
      omega
    have hcl : came.length = k := by
      have h1 := hSr.perm.length_eq
      have h2 := congrArg List.length hSr.things
      rw [List.length_map, sortR_len, List.length_take, ← HX.out.2] at h2
      omega
    by_cases hlt : k < n
    · have hkl : k < ts.length := by rw [← HX.out.2]; exact hlt
      obtain rfl := HX.out.1.1 (by omega)
      obtain ⟨hc1, hc2⟩ := (HX.out.1.stay (HW.out.2.2.1.trans hA.stay)).2 k hkl
      have hki : (k : Int) < (n : Int) := by omega
      have hki0 : (0 : Int) ≤ (k : Int) := by omega
      have HC : Hid (∀ V, Stay W1 V → V.cell? ⟨b, off + k * 2, none⟩ = some (.int .i64 ts[k].1) ∧ V.cell? ⟨b, off + k * 2 + 1, none⟩ = some (.int .i64 ts[k].2)) := fun V hV => (HX.out.1.stay (HW.out.2.2.1.trans hV)).2 k hkl
      have htk : ts.take (k + 1) = ts.take k ++ [ts[k]] := List.take_succ_eq_append_getElem hkl
      have hpu := hA.push ts[k].1 ts[k].2 (by omega) (by omega)
      have HS : Hid (Srt T came k (sortR (ts.take k)) ∧ X.map Ls.ts = (ts.take k).map (fun x => [x]) ∧ ts.take (k + 1) = ts.take k ++ [ts[k]] ∧ X.length = k) := ⟨hSr, hXm, htk, hXl⟩
      clear hA hSr hXm hXl hcl htk
      generalize ts[k] = x at *
      obtain ⟨x1, x2⟩ := x
      dsimp only at *
      go_wp2_with (first
        | (go_at_call 17; refine hpu.mono ?_; rintro e W3 ⟨rfl, v', came', hp, hA3⟩
           obtain ⟨d1, d2⟩ := HC.out W3 hA3.stay
           obtain ⟨v5', V5, hap, L, hL, hA5⟩ := hA3.add x1 x2 (by rw [HS.out.2.2.2]; omega)
           obtain ⟨T', hSr'⟩ := HS.out.1.push (x1, x2) hp
           have HA5 : Hid (Ag W1 V5 hb v' (k + 1) came' v5' (X ++ [L]) ∧ Srt T' came' (k + 1) (sortR (ts.take (k + 1))) ∧ (X ++ [L]).map Ls.ts = (ts.take (k + 1)).map (fun x => [x])) := ⟨hA5, by rw [HS.out.2.2.1]; exact hSr', by rw [HS.out.2.2.1, List.map_append, List.map_append, HS.out.2.1, List.map_singleton, List.map_singleton, hL]⟩
           clear hpu hp hA3 hL hA5 hSr')
        | (at_builtin; refine wpList_append_by rfl _ _ 22 22 rfl _ _ rfl rfl hap ?_; clear hap))
      go_roundw
      case rel => exact ⟨k + 1, by omega, by simp, v', came', T', _, HA5.out.1, HA5.out.2.1, HA5.out.2.2⟩
      case measure => simp [intOf]; omega
    · have hki : ¬ (k : Int) < (n : Int) := by omega
      obtain rfl : k = n := by omega
      rw [List.take_of_length_le (by rw [← HX.out.2]; exact Nat.le_refl _)] at hSr hXm
      have hall : allL X = ts := allL_ones hXm
      obtain ⟨a5, b5, c5, rfl, hLs⟩ := rowL_read hA.row (fun L hL => (hA.each L hL).1)
      have hln := HT.len_any hA.hp
      rw [hcl] at hln
      have hme := HH.merge_any wr a5 b5 0 c5 X hLs (fun L hL => by
        obtain ⟨_, _, h1, _⟩ := hA.each L hL
        match hm : L.ts, h1 with
        | [x], _ => exact List.pairwise_singleton _ _) (fun L hL => by obtain ⟨_, h2, h1, _⟩ := hA.each L hL; omega) (by omega) (by rw [hall, ← HX.out.2]; exact hl)
      rw [hXl, hall] at hme
      rw [hXl]
      have HA : Hid (Ah W1 wr hb v k came ∧ Srt T came k (sortR ts)) := ⟨hA.heapOf, hSr⟩
      have hkk : ((k : Int) == (k : Int)) = true := by simp
      clear hA hSr hXm hXl hcl hall hLs
      go_wp2_with (first
        | (go_at_call 18; refine hln.mono ?_; rintro e w' ⟨rfl, hw'⟩; have hw2 := hw'.symm; subst hw2; clear hln)
        | (go_at_call 8; refine hme.mono ?_; rintro e W5 ⟨v9, rfl, ho9, hs5⟩
           have sm := same_own2 ho9 (HW.out.2.1.stay (HA.out.1.stay.trans hs5))
           have HA5 : Hid (Ah W1 W5 hb v k came ∧ Srt T came k (sortR ts)) := ⟨HA.out.1.go hs5, HA.out.2⟩
           clear hme ho9 hs5)
        | (go_at_call 10; refine sm.mono ?_; rintro e W6 ⟨rfl, hs6⟩
           have HA6 : Hid (Ah W1 W6 hb v k came ∧ Srt T came k (sortR ts)) := ⟨HA5.out.1.go hs6, HA5.out.2⟩
           clear sm hs6))
      go_loopw [7, 8, 9, 10, 11] (fun i _ _ _ _ wr' => ∃ j : Nat, j ≤ k ∧ i = .int .i64 (j : Int) ∧ ∃ v came T, Ah W1 wr' hb v k came ∧ Srt T came k ((sortR ts).drop j)) (fun i _ _ _ _ _ => k - (intOf i).toNat)
      case atStart => exact ⟨0, Nat.zero_le _, rfl, v, came, T, HA6.out.1, by rw [List.drop_zero]; exact HA6.out.2⟩
      case round =>
        rename World => w7
        obtain ⟨j, hj, rfl, v2, came2, T2, hA2, hS2⟩ := hrel
        have hcl2 : came2.length = k - j := by
          have h1 := hS2.perm.length_eq
          have h2 := congrArg List.length hS2.things
          rw [List.length_map, List.length_drop, HW.out.2.2.2] at h2
          omega
        by_cases hlt2 : j < k
        · have hjs : j < (sortR ts).length := by rw [HW.out.2.2.2]; exact hlt2
          have hdr : (sortR ts).drop j = (sortR ts)[j] :: (sortR ts).drop (j + 1) := List.drop_eq_getElem_cons hjs
          rw [hdr] at hS2
          obtain ⟨hpk, hpo⟩ := hA2.out hS2 (by omega)
          obtain rfl := HW.out.1.1 (by omega)
          have HC : Hid (∀ V, Stay W1 V → V.cell? ⟨wb, j * 2, none⟩ = some (.int .i64 (sortR ts)[j].1) ∧ V.cell? ⟨wb, j * 2 + 1, none⟩ = some (.int .i64 (sortR ts)[j].2)) := fun V hV => by
            have := (HW.out.1.stay hV).2 j hjs
            rwa [Nat.zero_add] at this
          have HP : Hid (∀ q, j = q + 1 → ∃ y1 : Int, (∀ V, Stay W1 V → V.cell? ⟨wb, q * 2, none⟩ = some (.int .i64 y1)) ∧ y1 ≤ (sortR ts)[j].1) := fun q hq => by
            have hqs : q < (sortR ts).length := by omega
            refine ⟨(sortR ts)[q].1, fun V hV => ?_, List.pairwise_iff_getElem.1 (sortR_rises ts) q j hqs hjs (by omega)⟩
            have := ((HW.out.1.stay hV).2 q hqs).1
            rwa [Nat.zero_add] at this
          have hfo : ∀ f, HT.foot hb v2 f → f < w7.heap.size := fun f hf => hA2.hp.lt f hf
          have hji : (j : Int) < (k : Int) := by omega
          have hji0 : (0 : Int) ≤ (j : Int) := by omega
          have hg := guardT
          clear hA2 hS2 hdr hcl2 hwk
          generalize (sortR ts)[j] = x at *
          obtain ⟨x1, x2⟩ := x
          dsimp only at *
          have hne : ∀ W, (binOp .neq 26 (.agg #[.int .i64 x1, .int .i64 x2]) (.agg #[.int .i64 x1, .int .i64 x2])).run Try.prog W = .ok (.bool false) W := fun W => by rw [neqT]; simp
          go_wp2_with (first
            | (go_at_call 19; refine hpk.mono ?_; rintro e W8 ⟨rfl, hs8⟩
               have hpo8 := hpo (W8.alloc (.cells #[.int .i64 x1, .int .i64 x2] 26)) (hs8.alloc _)
               have hz8 := hs8.size
               clear hpk hpo hs8)
            | (go_at_call 20; refine hpo8.mono ?_; rintro e W9 ⟨rfl, v9, came9, T9, hA9, hS9, hl9, hT9⟩
               have hnf : ¬ HT.foot hb v2 W8.heap.size := fun hf => (by have := hfo _ hf; omega)
               have e0 := (Stay.new W9 (.cells #[.int .i64 x1, .int .i64 x2] 26)).cell (hT9.cell (p := ⟨W8.heap.size, 0, none⟩) (v := .int .i64 x1) (by simp) hnf)
               have e1 := (Stay.new W9 (.cells #[.int .i64 x1, .int .i64 x2] 26)).cell (hT9.cell (p := ⟨W8.heap.size, 1, none⟩) (v := .int .i64 x2) (by simp) hnf)
               have HA9 : Hid (Ah W1 (W9.alloc (.cells #[.int .i64 x1, .int .i64 x2] 26)) hb v9 k came9 ∧ Srt T9 came9 k ((sortR ts).drop (j + 1))) := ⟨hA9.go (Stay.new _ _), hS9⟩
               obtain ⟨e2, e3⟩ := HC.out (W9.alloc (.cells #[.int .i64 x1, .int .i64 x2] 26)) (hA9.stay.alloc _)
               have e4 : (W9.alloc (.cells #[.int .i64 x1, .int .i64 x2] 26)).cell? ⟨W9.heap.size, 0, none⟩ = some (.int .i64 x1) := by simp
               have e5 : (W9.alloc (.cells #[.int .i64 x1, .int .i64 x2] 26)).cell? ⟨W9.heap.size, 1, none⟩ = some (.int .i64 x2) := by simp
               clear hpo8 hA9 hS9 hl9 hT9 hnf))
          generalize W9.alloc (.cells #[.int .i64 x1, .int .i64 x2] 26) = V at *
          by_cases hj0 : 0 < j
          · obtain ⟨q, hjq⟩ : ∃ q, j = q + 1 := ⟨j - 1, by omega⟩
            obtain ⟨y1, hy, hyx⟩ := HP.out q hjq
            have e6 := hy V HA9.out.1.stay
            have hq1 : (j : Int) - 1 = (q : Int) := by omega
            have hq2 : (q : Int) < (k : Int) := by omega
            have hq3 : (0 : Int) ≤ (q : Int) := by omega
            have hj0i : (0 : Int) < (j : Int) := by omega
            have hj0t : decide (0 < j) = true := decide_eq_true hj0
            have hj0u : decide ((0 : Int) < (j : Int)) = true := decide_eq_true hj0i
            have hyx1 : ¬ x1 < y1 := by omega
            have hyx2 : decide (x1 < y1) = false := decide_eq_false hyx1
            clear hy hjq
            refine wp_region_quiet_lit (by kernel_rfl) (by kernel_rfl) ?_
            repeat (go_big_quiet_step (fail))
            refine wpQuiet_nil ?_
            intro _ hw'
            obtain ⟨nq, hw''⟩ := hw'
            subst hw''
            go_wp2
            go_roundw
            case rel => exact ⟨j + 1, by omega, by first | rfl | go_num | simp, v9, came9, T9, HA9.out.1.go (Stay.drewN _ _), HA9.out.2⟩
            case measure => simp [intOf]; omega
          · have hj0i : ¬ (0 : Int) < (j : Int) := by omega
            have hj0t : decide (0 < j) = false := decide_eq_false hj0
            have hj0u : decide ((0 : Int) < (j : Int)) = false := decide_eq_false hj0i
            refine wp_region_quiet_lit (by kernel_rfl) (by kernel_rfl) ?_
            repeat (go_big_quiet_step (fail))
            refine wpQuiet_nil ?_
            intro _ hw'
            obtain ⟨nq, hw''⟩ := hw'
            subst hw''
            go_wp2
            go_roundw
            case rel => exact ⟨j + 1, by omega, by first | rfl | go_num | simp, v9, came9, T9, HA9.out.1.go (Stay.drewN _ _), HA9.out.2⟩
            case measure => simp [intOf]; omega
        · have hji : ¬ (j : Int) < (k : Int) := by omega
          have hln2 := HT.len_any hA2.hp
          rw [show came2.length = 0 by omega] at hln2
          have HE : Hid (Stay w w7) := HW.out.2.2.1.trans hA2.stay
          clear hA2 hS2 hcl2
          go_wp2_with (first
            | (go_at_call 18; refine hln2.mono ?_; rintro e w' ⟨rfl, hw'⟩; have hw2 := hw'.symm; subst hw2; clear hln2)
            | (go_at_call 14; refine (hwk _).mono ?_; rintro e W9 ⟨rfl, hs9⟩))
          go_ret
          exact ⟨rfl, HE.out.trans hs9⟩
end Go.Proofs.Ytnmaldgmlkcliaa
