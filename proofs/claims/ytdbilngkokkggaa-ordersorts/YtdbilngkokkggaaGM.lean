/- The library's CompactFunc, walked. -/
import Derived.Test.YtdbilngkokkggaaGL
namespace Go.Proofs.Ytdbilngkokkggaa
open Go.RowKit Go.Maps Go.Shelf Go.Sort Go.Proofs.Ytdbilngkokkggaa.HT

set_option maxRecDepth 100000 in
set_option maxHeartbeats 8000000 in
theorem compact_any {g : Nat} {κ : Int × Int → Int} {cf : Int × Int → Int × Int → Int} (h : Ord g κ cf) (hz : ∀ x y, cf x y = 0 ↔ κ x = κ y) (W : World) (G box n : Nat) (Z : List (Int × Int)) (hn : Z.length = n) (hl : n ≤ 8796093022208) (hI : InT W G Z) (hb : W.cell? ⟨box, 0, none⟩ = some (.func (.func g) #[] #[])) (hbG : box ≠ G) :
    Calls Try.prog 56 #[.slice (some ⟨G, 0, none⟩) n n, .func (.func 57) #[] #[.pointer (some ⟨box, 0, none⟩)]] W fun e w' => ∃ k, e = .returned (.slice (some ⟨G, 0, none⟩) k n) ∧ k = (uniqK κ Z n).length ∧ RowT w' G n (uniqK κ Z n) ∧ Turn (fun j => j = G) W w' := by
  have HX : Hid (Ord g κ cf ∧ (∀ x y, cf x y = 0 ↔ κ x = κ y) ∧ InT W G Z ∧ W.cell? ⟨box, 0, none⟩ = some (.func (.func g) #[] #[]) ∧ box ≠ G ∧ Z.length = n) := ⟨h, hz, hI, hb, hbG, hn⟩
  have hlI : (n : Int) ≤ 8796093022208 := by omega
  have mixed : Try.prog.follows .mixedOrders = true := by kernel_rfl
  have eg : ∀ args w, (callFunc 57 args).run Try.prog w = .ok (.enter 57 args) w := enters_of Try.func57 (by kernel_rfl) rfl
  clear h hz hI hb hbG hn
  by_cases hn2 : n < 2
  · have hn3 : (n : Int) < 2 := by omega
    have HE : Hid (uniqK κ Z n = Z) := by
      have := HX.out.2.2.2.2.2
      by_cases e : n = 0
      · subst e; rw [List.eq_nil_of_length_eq_zero this]; rfl
      · obtain rfl : n = 1 := by omega
        show uniqK κ Z 1 = Z
        rw [uniqK_one (by omega), List.take_of_length_le (by omega)]
    go_enter Try.func56, Try.ntmps56
    go_wp2
    go_ret
    refine ⟨n, rfl, ?_, ?_, Turn.refl _ _⟩
    · rw [HE.out]; exact HX.out.2.2.2.2.2.symm
    · have := HX.out.2.2.1.2
      rw [HX.out.2.2.2.2.2] at this
      rw [HE.out]; exact this
  · have hn3 : ¬ (n : Int) < 2 := by omega
    go_enter Try.func56, Try.ntmps56
    go_wp2
    go_loopw [5] (fun vk wr => ∃ r : Nat, vk = .int .i64 ((r : Int) + 1) ∧ r + 1 ≤ n ∧ uniqK κ Z (r + 1) = Z.take (r + 1) ∧ Stay W wr) (fun vk _ => n - (intOf vk).toNat)
    case atStart => exact ⟨0, by first | rfl | simp, by omega, uniqK_one (by have := HX.out.2.2.2.2.2; omega), Stay.refl _⟩
    case round =>
      obtain ⟨r, rfl, hr, hU, hst⟩ := hrel
      by_cases hlt : r + 1 < n
      · have hlt2 : (r : Int) + 1 < (n : Int) := by omega
        have hZl := HX.out.2.2.2.2.2
        obtain ⟨x, hx⟩ : ∃ x, Z[r + 1]? = some x := ⟨_, List.getElem?_eq_getElem (by omega)⟩
        obtain ⟨y, hy⟩ : ∃ y, Z[r]? = some y := ⟨_, List.getElem?_eq_getElem (by omega)⟩
        have hIr := HX.out.2.2.1.stay hst
        obtain ⟨x0, x1, _, _⟩ := hIr.spot _ _ hx
        obtain ⟨y0, y1, _, _⟩ := hIr.spot _ _ hy
        have lG := hIr.1
        obtain ⟨xa, xb⟩ := x
        obtain ⟨ya, yb⟩ := y
        dsimp only at x0 x1 y0 y1
        have hbr := hst.cell HX.out.2.2.2.1
        obtain ⟨q, hq⟩ : ∃ q, q = decide (κ (xa, xb) = κ (ya, yb)) := ⟨_, rfl⟩
        have hcg : ∀ n os, Calls Try.prog 57 #[.agg #[.int .i64 xa, .int .i64 xb], .agg #[.int .i64 ya, .int .i64 yb], .pointer (some ⟨box, 0, none⟩)] (grow (wr.drewN n) os) fun e w' => e = .returned (.bool q) ∧ ∃ q' os', w' = grow ((grow (wr.drewN n) os).drewN q') os' :=
          fun n os => eq_any HX.out.1 HX.out.2.1 box xa xb ya yb _ (cell_grown (World.block_lt_of_cell? wr _ hbr) hbr n os) q hq
        have m0 : ∀ n os, (grow (wr.drewN n) os).cell? ⟨G, (r + 1) * 2, none⟩ = some (.int .i64 xa) := fun n os => cell_grown lG x0 n os
        have m1 : ∀ n os, (grow (wr.drewN n) os).cell? ⟨G, (r + 1) * 2 + 1, none⟩ = some (.int .i64 xb) := fun n os => cell_grown lG x1 n os
        have m2 : ∀ n os, (grow (wr.drewN n) os).cell? ⟨G, r * 2, none⟩ = some (.int .i64 ya) := fun n os => cell_grown lG y0 n os
        have m3 : ∀ n os, (grow (wr.drewN n) os).cell? ⟨G, r * 2 + 1, none⟩ = some (.int .i64 yb) := fun n os => cell_grown lG y1 n os
        have p0 : (0 : Int) ≤ (r : Int) + 1 := by omega
        have e0 : ((r : Int) + 1).toNat = r + 1 := by omega
        have l0 : (r : Int) < (n : Int) := by omega
        have wd : IntKind.i64.wrap ((r : Int) + 1 - 1) = (r : Int) := by rw [IntKind.wrap_i64]; omega
        have wd2 : IntKind.i64.wrap (r : Int) = (r : Int) := by rw [IntKind.wrap_i64]; omega
        have wu : IntKind.i64.wrap ((r : Int) + 1 + 1) = (r : Int) + 1 + 1 := by rw [IntKind.wrap_i64]; omega
        have HS : Hid (Stay W wr ∧ uniqK κ Z (r + 1) = Z.take (r + 1) ∧ Z[r + 1]? = some (xa, xb) ∧ Z[r]? = some (ya, yb) ∧ q = decide (κ (xa, xb) = κ (ya, yb))) := ⟨hst, hU, hx, hy, hq⟩
        clear hst hU hx hy x0 x1 y0 y1 lG hIr hbr hq hZl
        cases q with
        | false =>
          go_wp2_with fail
          refine wp_region_quiet_grown (by assumption) (by kernel_rfl) ?_
          repeat (first | go_big_quiet_step (first | (go_at_fn 57; refine Calls.grown_of (hcg _ _))) | quiet_step (first | (go_at_fn 57; refine Calls.grown_of (hcg _ _))))
          refine wpQuiet_nil ?_
          intro _ hw'
          obtain ⟨⟨nq, osq⟩, hw''⟩ := hw'
          subst hw''
          have HS2 : Hid (Stay W (grow (wr.drewN nq) osq) ∧ uniqK κ Z (r + 2) = Z.take (r + 2)) := by
            refine ⟨stay_grow HS.out.1 _ _, ?_⟩
            have hne : ¬ κ (xa, xb) = κ (ya, yb) := of_decide_eq_false HS.out.2.2.2.2.symm
            rw [uniqK_keep HS.out.2.2.1 HS.out.2.2.2.1 hne, HS.out.2.1]
            obtain ⟨h1, h2⟩ := List.getElem?_eq_some_iff.1 HS.out.2.2.1
            rw [← h2, ← List.take_succ_eq_append_getElem h1]
          clear hcg m0 m1 m2 m3
          go_wp2
          exact ⟨⟨r + 1, by first | rfl | go_num | simp, by omega, HS2.out.2, HS2.out.1⟩, by simp [intOf]; omega⟩
        | true =>
          go_wp2_with fail
          refine wp_region_quiet_grown (by assumption) (by kernel_rfl) ?_
          repeat (first | go_big_quiet_step (first | (go_at_fn 57; refine Calls.grown_of (hcg _ _))) | quiet_step (first | (go_at_fn 57; refine Calls.grown_of (hcg _ _))))
          refine wpQuiet_nil ?_
          intro _ hw'
          obtain ⟨⟨nq, osq⟩, hw''⟩ := hw'
          subst hw''
          obtain ⟨d, hd⟩ : ∃ d, n = r + 1 + d := ⟨n - (r + 1), by omega⟩
          have HS2 : Hid (Turn (fun j => j = G) W (grow (wr.drewN nq) osq) ∧ InT (grow (wr.drewN nq) osq) G (uniqK κ Z (r + 2) ++ Z.drop (r + 1)) ∧ (uniqK κ Z (r + 2)).length = r + 1) := by
            have hst2 := stay_grow HS.out.1 nq osq
            have hne : κ (xa, xb) = κ (ya, yb) := of_decide_eq_true HS.out.2.2.2.2.symm
            rw [uniqK_drop HS.out.2.2.1 HS.out.2.2.2.1 hne, HS.out.2.1, List.take_append_drop]
            exact ⟨Turn.of_stay hst2, HX.out.2.2.1.stay hst2, by rw [List.length_take]; have := HX.out.2.2.2.2.2; omega⟩
          have hcut : ∀ W, (Instr.slice 29 (.slice (some ⟨G, 0, none⟩) n n) (some (.int .i64 ((r : Int) + 1))) none none).run Try.prog W = .ok (.slice (some ⟨G, (r + 1) * 2, none⟩) d d) W := by
            have := cut_at G n (r + 1) (by omega)
            rw [show n - (r + 1) = d by omega, show ((r + 1 : Nat) : Int) = (r : Int) + 1 by simp] at this
            exact this
          have HB : Hid (r + 1 < n ∧ n = r + 1 + d ∧ Z.length = n) := ⟨hlt, hd, HX.out.2.2.2.2.2⟩
          clear hcg m0 m1 m2 m3 hlt hlt2 l0 hr wd wd2 wu hd p0 e0
          have hdI : (d : Int) ≤ 8796093022208 := by have := HB.out; omega
          generalize grow (wr.drewN nq) osq = V at HS2 ⊢
          go_wp2
          go_loopw [5, 7] (fun vk v2 wr => ∃ wk t : Nat, vk = .int .i64 (wk : Int) ∧ v2 = .int .i64 ((t : Int) + 1) ∧ t + 1 ≤ d ∧ (uniqK κ Z (r + t + 2)).length = wk ∧ wk ≤ r + t + 1 ∧ InT wr G (uniqK κ Z (r + t + 2) ++ Z.drop wk) ∧ Turn (fun j => j = G) W wr) (fun _ v2 _ => d - (intOf v2).toNat)
          case atStart => exact ⟨r + 1, 0, by simp, by first | rfl | simp, by have := HB.out; omega, HS2.out.2.2, by omega, HS2.out.2.1, HS2.out.1⟩
          case round =>
            obtain ⟨wk, t, rfl, rfl, ht, hUl, hwk, hI, hT⟩ := hrel
            clear HS2 hcut
            by_cases hlt : t + 1 < d
            · have hlt2 : (t : Int) + 1 < (d : Int) := by omega
              have hb9 := HB.out
              have hget : ∀ j, wk ≤ j → (uniqK κ Z (r + t + 2) ++ Z.drop wk)[j]? = Z[j]? := fun j hj => by rw [List.getElem?_append_right (by omega), hUl, List.getElem?_drop]; congr 1; omega
              obtain ⟨x, hx⟩ : ∃ x, Z[r + t + 2]? = some x := ⟨_, List.getElem?_eq_getElem (by omega)⟩
              obtain ⟨y, hy⟩ : ∃ y, Z[r + t + 1]? = some y := ⟨_, List.getElem?_eq_getElem (by omega)⟩
              obtain ⟨z, hz⟩ : ∃ z, Z[wk]? = some z := ⟨_, List.getElem?_eq_getElem (by omega)⟩
              obtain ⟨x0, x1, _, _⟩ := hI.spot _ _ ((hget (r + t + 2) (by omega)).trans hx)
              obtain ⟨y0, y1, _, _⟩ := hI.spot _ _ ((hget (r + t + 1) (by omega)).trans hy)
              rw [show (r + t + 2) * 2 = (r + 1) * 2 + (t + 1) * 2 by omega] at x0 x1
              rw [show (r + t + 1) * 2 = (r + 1) * 2 + t * 2 by omega] at y0 y1
              have lG := hI.1
              obtain ⟨xc, xd⟩ := x
              obtain ⟨yc, yd⟩ := y
              dsimp only at x0 x1 y0 y1
              have hbr := hT.cell HX.out.2.2.2.1 HX.out.2.2.2.2.1
              obtain ⟨q, hq⟩ : ∃ q, q = decide (κ (xc, xd) = κ (yc, yd)) := ⟨_, rfl⟩
              have hcg : ∀ n os, Calls Try.prog 57 #[.agg #[.int .i64 xc, .int .i64 xd], .agg #[.int .i64 yc, .int .i64 yd], .pointer (some ⟨box, 0, none⟩)] (grow (wr.drewN n) os) fun e w' => e = .returned (.bool q) ∧ ∃ q' os', w' = grow ((grow (wr.drewN n) os).drewN q') os' :=
                fun n os => eq_any HX.out.1 HX.out.2.1 box xc xd yc yd _ (cell_grown (World.block_lt_of_cell? wr _ hbr) hbr n os) q hq
              have m0 : ∀ n os, (grow (wr.drewN n) os).cell? ⟨G, (r + 1) * 2 + (t + 1) * 2, none⟩ = some (.int .i64 xc) := fun n os => cell_grown lG x0 n os
              have m1 : ∀ n os, (grow (wr.drewN n) os).cell? ⟨G, (r + 1) * 2 + (t + 1) * 2 + 1, none⟩ = some (.int .i64 xd) := fun n os => cell_grown lG x1 n os
              have m2 : ∀ n os, (grow (wr.drewN n) os).cell? ⟨G, (r + 1) * 2 + t * 2, none⟩ = some (.int .i64 yc) := fun n os => cell_grown lG y0 n os
              have m3 : ∀ n os, (grow (wr.drewN n) os).cell? ⟨G, (r + 1) * 2 + t * 2 + 1, none⟩ = some (.int .i64 yd) := fun n os => cell_grown lG y1 n os
              have p0 : (0 : Int) ≤ (t : Int) + 1 := by omega
              have e0 : ((t : Int) + 1).toNat = t + 1 := by omega
              have l0 : (t : Int) < (d : Int) := by omega
              have wd : IntKind.i64.wrap ((t : Int) + 1 - 1) = (t : Int) := by rw [IntKind.wrap_i64]; omega
              have wd2 : IntKind.i64.wrap (t : Int) = (t : Int) := by rw [IntKind.wrap_i64]; omega
              have wu : IntKind.i64.wrap ((t : Int) + 1 + 1) = (t : Int) + 1 + 1 := by rw [IntKind.wrap_i64]; omega
              have wkn : (wk : Int) < (n : Int) := by omega
              have HS3 : Hid (InT wr G (uniqK κ Z (r + t + 2) ++ Z.drop wk) ∧ Turn (fun j => j = G) W wr ∧ (uniqK κ Z (r + t + 2)).length = wk ∧ wk ≤ r + t + 1 ∧ Z[r + t + 2]? = some (xc, xd) ∧ Z[r + t + 1]? = some (yc, yd) ∧ Z[wk]? = some z ∧ q = decide (κ (xc, xd) = κ (yc, yd)) ∧ (∀ j, wk ≤ j → (uniqK κ Z (r + t + 2) ++ Z.drop wk)[j]? = Z[j]?)) := ⟨hI, hT, hUl, hwk, hx, hy, hz, hq, hget⟩
              clear hI hT hUl hwk hx hy hz hget x0 x1 y0 y1 lG hbr hq hb9
              cases q with
              | true =>
                go_wp2_with fail
                refine wp_region_quiet_grown (by assumption) (by kernel_rfl) ?_
                repeat (first | go_big_quiet_step (first | (go_at_fn 57; refine Calls.grown_of (hcg _ _))) | quiet_step (first | (go_at_fn 57; refine Calls.grown_of (hcg _ _))))
                refine wpQuiet_nil ?_
                intro _ hw'
                obtain ⟨⟨nq, osq⟩, hw''⟩ := hw'
                subst hw''
                have HS4 : Hid (InT (grow (wr.drewN nq) osq) G (uniqK κ Z (r + (t + 1) + 2) ++ Z.drop wk) ∧ Turn (fun j => j = G) W (grow (wr.drewN nq) osq) ∧ (uniqK κ Z (r + (t + 1) + 2)).length = wk) := by
                  have hst2 := stay_grow (Stay.refl wr) nq osq
                  have hne : κ (xc, xd) = κ (yc, yd) := of_decide_eq_true HS3.out.2.2.2.2.2.2.2.1.symm
                  have hu := uniqK_drop (k := r + t + 1) HS3.out.2.2.2.2.1 HS3.out.2.2.2.2.2.1 hne
                  rw [show r + (t + 1) + 2 = r + t + 1 + 2 by omega, hu]
                  exact ⟨HS3.out.1.stay hst2, HS3.out.2.1.trans (Turn.of_stay hst2), HS3.out.2.2.1⟩
                clear hcg m0 m1 m2 m3
                go_wp2
                exact ⟨⟨wk, t + 1, rfl, by first | rfl | go_num | simp, by omega, HS4.out.2.2, by have := HS3.out.2.2.2.1; omega, HS4.out.1, HS4.out.2.1⟩, by simp [intOf]; omega⟩
              | false =>
                go_wp2_with fail
                refine wp_region_quiet_grown (by assumption) (by kernel_rfl) ?_
                repeat (first | go_big_quiet_step (first | (go_at_fn 57; refine Calls.grown_of (hcg _ _))) | quiet_step (first | (go_at_fn 57; refine Calls.grown_of (hcg _ _))))
                refine wpQuiet_nil ?_
                intro _ hw'
                obtain ⟨⟨nq, osq⟩, hw''⟩ := hw'
                subst hw''
                have hst2 := stay_grow (Stay.refl wr) nq osq
                have hV := HS3.out.1.stay hst2
                have hg9 := HS3.out.2.2.2.2.2.2.2.2
                have hs9 := HS3.out
                obtain ⟨x0, x1, _, _⟩ := hV.spot _ _ ((hg9 (r + t + 2) (by omega)).trans hs9.2.2.2.2.1)
                obtain ⟨z0, z1, z2, z3⟩ := hV.spot _ _ ((hg9 wk (Nat.le_refl _)).trans hs9.2.2.2.2.2.2.1)
                rw [show (r + t + 2) * 2 = (r + 1) * 2 + (t + 1) * 2 by omega] at x0 x1
                dsimp only at x0 x1
                have HS4 : Hid (InT (putT (grow (wr.drewN nq) osq) G wk (xc, xd)) G (uniqK κ Z (r + (t + 1) + 2) ++ Z.drop (wk + 1)) ∧ Turn (fun j => j = G) W (putT (grow (wr.drewN nq) osq) G wk (xc, xd)) ∧ (uniqK κ Z (r + (t + 1) + 2)).length = wk + 1) := by
                  have hne : ¬ κ (xc, xd) = κ (yc, yd) := of_decide_eq_false hs9.2.2.2.2.2.2.2.1.symm
                  have hu := uniqK_keep (k := r + t + 1) hs9.2.2.2.2.1 hs9.2.2.2.2.2.1 hne
                  have hwn : wk < Z.length := (List.getElem?_eq_some_iff.1 hs9.2.2.2.2.2.2.1).1
                  have hp := hV.put wk (xc, xd) (by rw [List.length_append, List.length_drop]; omega)
                  have hset : (uniqK κ Z (r + t + 2) ++ Z.drop wk).set wk (xc, xd) = uniqK κ Z (r + t + 2) ++ [(xc, xd)] ++ Z.drop (wk + 1) := by
                    rw [List.set_append, if_neg (by omega), hs9.2.2.1, Nat.sub_self, List.drop_eq_getElem_cons hwn, List.set_cons_zero, List.append_assoc]
                    rfl
                  rw [hset] at hp
                  rw [show r + (t + 1) + 2 = r + t + 1 + 2 by omega, hu]
                  exact ⟨hp, putT_turn (hs9.2.1.trans (Turn.of_stay hst2)) rfl _ _, by rw [List.length_append]; have := hs9.2.2.1; simp; omega⟩
                clear hcg m0 m1 m2 m3 hst2 hV hg9 hs9
                obtain ⟨za, zb⟩ := z
                generalize grow (wr.drewN nq) osq = V at x0 x1 z0 z1 z2 z3 HS4 ⊢
                go_wp2
                exact ⟨⟨wk + 1, t + 1, by first | rfl | go_num | simp, by first | rfl | go_num | simp, by omega, HS4.out.2.2, by have := HS3.out.2.2.2.1; omega, HS4.out.1, HS4.out.2.1⟩, by simp [intOf]; omega⟩
            · have hlt2 : ¬ (t : Int) + 1 < (d : Int) := by omega
              have hb9 := HB.out
              have hp : r + t + 2 = n := by omega
              rw [hp] at hUl hI
              have hRow := hI.2
              rw [List.length_append, List.length_drop, hUl, show wk + (Z.length - wk) = n by omega] at hRow
              have hLl : (uniqK κ Z n ++ Z.drop wk).length = n := by rw [List.length_append, List.length_drop, hUl]; omega
              have hcut := cut_at G n wk (by omega)
              have HT9 : Hid (Turn (fun j => j = G) W wr ∧ (uniqK κ Z n).length = wk ∧ (uniqK κ Z n ++ Z.drop wk).take wk = uniqK κ Z n) := ⟨hT, hUl, by rw [← hUl]; exact List.take_left⟩
              have hwn : wk < n := by omega
              have hwnI : (wk : Int) ≤ (n : Int) := by omega
              clear hI hT hUl hwk hp hb9
              go_wp2_with (refine wpList_clearT rfl (.tmp 61) rfl hRow hLl hwn _ rfl ?_; intro w3 hC3 hT3; have H3 : Hid _ := And.intro hC3 hT3; clear hC3 hT3 hRow)
              go_ret
              have h9 := H3.out
              rw [HT9.out.2.2] at h9
              exact ⟨wk, rfl, HT9.out.2.1.symm, h9.1, HT9.out.1.trans h9.2⟩
      · have hlt2 : ¬ (r : Int) + 1 < (n : Int) := by omega
        have HE : Hid (uniqK κ Z n = Z) := by
          have e : r + 1 = n := by omega
          show uniqK κ Z n = Z
          rw [← e, hU, List.take_of_length_le (by have := HX.out.2.2.2.2.2; omega)]
        have HR : Hid (RowT wr G n Z ∧ Turn (fun j => j = G) W wr) := by
          have := (HX.out.2.2.1.stay hst).2
          rw [HX.out.2.2.2.2.2] at this
          exact ⟨this, Turn.of_stay hst⟩
        clear hU hst
        go_wp2
        go_ret
        refine ⟨n, rfl, ?_, ?_, HR.out.2⟩
        · rw [HE.out]; exact HX.out.2.2.2.2.2.symm
        · rw [HE.out]; exact HR.out.1
end Go.Proofs.Ytdbilngkokkggaa
