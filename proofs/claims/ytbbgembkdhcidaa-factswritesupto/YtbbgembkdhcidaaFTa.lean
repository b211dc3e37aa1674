/- slices.CompactFunc, walked. -/
import Derived.Test.YtbbgembkdhcidaaFT
namespace Go.Proofs.Ytbbgembkdhcidaa
open Go.RowKit Go.Maps Go.Shelf Go.Sort

/-- The lists can be read at w0. -/
def AllS (w0 : World) (Z : List Tx) : Prop := ∀ t ∈ Z, t.S w0 ∧ t.xs.length ≤ maxLen
theorem AllS.at {w0 : World} {Z : List Tx} (h : AllS w0 Z) {j : Nat} {x : Tx} (hj : Z[j]? = some x) : x.S w0 ∧ x.xs.length ≤ maxLen := h x (List.mem_of_getElem? hj)
theorem equalT {w0 V : World} {x y : Tx} (hx : x.S w0 ∧ x.xs.length ≤ maxLen) (hy : y.S w0 ∧ y.xs.length ≤ maxLen) (hs : Stay w0 V) : Calls Try.prog 40 #[.slice x.a x.xs.length x.c, .slice y.a y.xs.length y.c] V fun e w' => e = .returned (.bool (decide (x.xs = y.xs))) ∧ ∃ q, w' = V.drewN q :=
  equal_any V x.a y.a x.b x.o y.b y.o x.c y.c x.xs y.xs (StrsS.stay hx.1 hs) (StrsS.stay hy.1 hs) hx.2 hy.2

set_option maxRecDepth 100000 in
set_option maxHeartbeats 8000000 in
theorem compactT_any {w0 W : World} {G cap n : Nat} {Z : List Tx} (hs : Stay w0 W) (hG : w0.heap.size ≤ G) (hn : Z.length = n) (hl : n ≤ 8796093022208) (hA : AllS w0 Z) (hI : RowV W G cap Z) :
    Calls Try.prog 39 #[.slice (some ⟨G, 0, none⟩) n cap, .func (.func 40) #[] #[]] W fun e w' => ∃ k, e = .returned (.slice (some ⟨G, 0, none⟩) k cap) ∧ k = (uniqT Z n).length ∧ RowV w' G cap (uniqT Z n) ∧ Stay w0 w' := by
  have hnc : n ≤ cap := by obtain ⟨cur, _, h2, _⟩ := hI; omega
  have HX : Hid (Stay w0 W ∧ w0.heap.size ≤ G ∧ Z.length = n ∧ AllS w0 Z ∧ RowV W G cap Z) := ⟨hs, hG, hn, hA, hI⟩
  have hlI : (n : Int) ≤ 8796093022208 := by omega
  have mixed : Try.prog.follows .mixedOrders = true := by kernel_rfl
  have eg : ∀ args w, (callFunc 40 args).run Try.prog w = .ok (.enter 40 args) w := enters_of Try.func40 (by kernel_rfl) rfl
  clear hs hG hn hA hI
  by_cases hn2 : n < 2
  · have hn3 : (n : Int) < 2 := by omega
    have HE : Hid (uniqT Z n = Z) := by
      have := HX.out.2.2.1
      by_cases e : n = 0
      · subst e; rw [List.eq_nil_of_length_eq_zero this]; rfl
      · obtain rfl : n = 1 := by omega
        show uniqT Z 1 = Z
        rw [uniqT_one (by omega), List.take_of_length_le (by omega)]
    go_enter Try.func39, Try.ntmps39
    go_wp2
    go_ret
    refine ⟨n, rfl, ?_, ?_, HX.out.1⟩
    · rw [HE.out]; exact HX.out.2.2.1.symm
    · rw [HE.out]; exact HX.out.2.2.2.2
  · have hn3 : ¬ (n : Int) < 2 := by omega
    go_enter Try.func39, Try.ntmps39
    go_wp2
    go_loopw [5] (fun vk wr => ∃ r : Nat, vk = .int .i64 ((r : Int) + 1) ∧ r + 1 ≤ n ∧ uniqT Z (r + 1) = Z.take (r + 1) ∧ Stay W wr) (fun vk _ => n - (intOf vk).toNat)
    case atStart => exact ⟨0, by first | rfl | simp, by omega, uniqT_one (by have := HX.out.2.2.1; omega), Stay.refl _⟩
    case round =>
      obtain ⟨r, rfl, hr, hU, hst⟩ := hrel
      by_cases hlt : r + 1 < n
      · have hlt2 : (r : Int) + 1 < (n : Int) := by omega
        have hZl := HX.out.2.2.1
        obtain ⟨x, hx⟩ : ∃ x, Z[r + 1]? = some x := ⟨_, List.getElem?_eq_getElem (by omega)⟩
        obtain ⟨y, hy⟩ : ∃ y, Z[r]? = some y := ⟨_, List.getElem?_eq_getElem (by omega)⟩
        have hIr := HX.out.2.2.2.2.stay hst
        obtain ⟨x0, _⟩ := hIr.cell _ _ hx
        obtain ⟨y0, _⟩ := hIr.cell _ _ hy
        unfold Tx.v at x0 y0
        have hcg := fun V (hV : Stay wr V) => equalT (HX.out.2.2.2.1.at hx) (HX.out.2.2.2.1.at hy) ((HX.out.1.trans hst).trans hV)
        obtain ⟨q, hq⟩ : ∃ q, q = decide (x.xs = y.xs) := ⟨_, rfl⟩
        rw [← hq] at hcg
        have p0 : (0 : Int) ≤ (r : Int) + 1 := by omega
        have e0 : ((r : Int) + 1).toNat = r + 1 := by omega
        have l0 : (r : Int) < (n : Int) := by omega
        have wd : IntKind.i64.wrap ((r : Int) + 1 - 1) = (r : Int) := by rw [IntKind.wrap_i64]; omega
        have wd2 : IntKind.i64.wrap (r : Int) = (r : Int) := by rw [IntKind.wrap_i64]; omega
        have wu : IntKind.i64.wrap ((r : Int) + 1 + 1) = (r : Int) + 1 + 1 := by rw [IntKind.wrap_i64]; omega
        have HS : Hid (Stay W wr ∧ uniqT Z (r + 1) = Z.take (r + 1) ∧ Z[r + 1]? = some x ∧ Z[r]? = some y ∧ q = decide (x.xs = y.xs)) := ⟨hst, hU, hx, hy, hq⟩
        generalize x.xs.length = nx at *
        generalize y.xs.length = ny at *
        generalize x.a = ax at *
        generalize y.a = ay at *
        generalize x.c = cx at *
        generalize y.c = cy at *
        clear hst hU hx hy hIr hq hZl
        cases q with
        | false =>
          go_wp2_with fail
          go_quiet ((first | (go_at_fn 40; exact Calls.quiet_of (hcg _ (Stay.drewN _ _)))))
          have HS2 : Hid (Stay W (wr.drewN nq) ∧ uniqT Z (r + 2) = Z.take (r + 2)) := by
            refine ⟨HS.out.1.trans (Stay.drewN _ _), ?_⟩
            have hne : ¬ x.xs = y.xs := of_decide_eq_false HS.out.2.2.2.2.symm
            rw [uniqT_keep HS.out.2.2.1 HS.out.2.2.2.1 hne, HS.out.2.1]
            obtain ⟨h1, h2⟩ := List.getElem?_eq_some_iff.1 HS.out.2.2.1
            rw [← h2, ← List.take_succ_eq_append_getElem h1]
          clear hcg x0 y0
          go_wp2
          exact ⟨⟨r + 1, by first | rfl | go_num | simp, by omega, HS2.out.2, HS2.out.1⟩, by simp [intOf]; omega⟩
        | true =>
          go_wp2_with fail
          go_quiet ((first | (go_at_fn 40; exact Calls.quiet_of (hcg _ (Stay.drewN _ _)))))
          obtain ⟨d, hd⟩ : ∃ d, n = r + 1 + d := ⟨n - (r + 1), by omega⟩
          have HS2 : Hid (Stay w0 (wr.drewN nq) ∧ RowV (wr.drewN nq) G cap (uniqT Z (r + 2) ++ Z.drop (r + 1)) ∧ (uniqT Z (r + 2)).length = r + 1) := by
            have hst2 := HS.out.1.trans (Stay.drewN wr nq)
            have hne : x.xs = y.xs := of_decide_eq_true HS.out.2.2.2.2.symm
            rw [uniqT_drop HS.out.2.2.1 HS.out.2.2.2.1 hne, HS.out.2.1, List.take_append_drop]
            exact ⟨HX.out.1.trans hst2, HX.out.2.2.2.2.stay hst2, by rw [List.length_take]; have := HX.out.2.2.1; omega⟩
          have hcut : ∀ W, (Instr.slice 22 (.slice (some ⟨G, 0, none⟩) n cap) (some (.int .i64 ((r : Int) + 1))) none none).run Try.prog W = .ok (.slice (some ⟨G, r + 1, none⟩) d (cap - (r + 1))) W := by
            have := cutV_at G n cap (r + 1) (by omega) hnc
            rw [show n - (r + 1) = d by omega, show ((r + 1 : Nat) : Int) = (r : Int) + 1 by simp] at this
            exact this
          have HB : Hid (r + 1 < n ∧ n = r + 1 + d ∧ Z.length = n) := ⟨hlt, hd, HX.out.2.2.1⟩
          clear hcg x0 y0 hlt hlt2 l0 hr wd wd2 wu hd p0 e0
          have hdI : (d : Int) ≤ 8796093022208 := by have := HB.out; omega
          generalize wr.drewN nq = V at HS2 ⊢
          generalize cap - (r + 1) = cap2 at hcut
          go_wp2
          go_loopw [5, 7] (fun vk v2 wr => ∃ wk t : Nat, vk = .int .i64 (wk : Int) ∧ v2 = .int .i64 ((t : Int) + 1) ∧ t + 1 ≤ d ∧ (uniqT Z (r + t + 2)).length = wk ∧ wk ≤ r + t + 1 ∧ RowV wr G cap (uniqT Z (r + t + 2) ++ Z.drop wk) ∧ Stay w0 wr) (fun _ v2 _ => d - (intOf v2).toNat)
          case atStart => exact ⟨r + 1, 0, by simp, by first | rfl | simp, by have := HB.out; omega, HS2.out.2.2, by omega, HS2.out.2.1, HS2.out.1⟩
          case round =>
            obtain ⟨wk, t, rfl, rfl, ht, hUl, hwk, hI, hT⟩ := hrel
            clear HS2 hcut
            by_cases hlt : t + 1 < d
            · have hlt2 : (t : Int) + 1 < (d : Int) := by omega
              have hb9 := HB.out
              have hget : ∀ j, wk ≤ j → (uniqT Z (r + t + 2) ++ Z.drop wk)[j]? = Z[j]? := fun j hj => by rw [List.getElem?_append_right (by omega), hUl, List.getElem?_drop]; congr 1; omega
              obtain ⟨x', hx'⟩ : ∃ x, Z[r + t + 2]? = some x := ⟨_, List.getElem?_eq_getElem (by omega)⟩
              obtain ⟨y', hy'⟩ : ∃ y, Z[r + t + 1]? = some y := ⟨_, List.getElem?_eq_getElem (by omega)⟩
              obtain ⟨z, hz⟩ : ∃ z, Z[wk]? = some z := ⟨_, List.getElem?_eq_getElem (by omega)⟩
              obtain ⟨x0, _⟩ := hI.cell _ _ ((hget (r + t + 2) (by omega)).trans hx')
              obtain ⟨y0, _⟩ := hI.cell _ _ ((hget (r + t + 1) (by omega)).trans hy')
              rw [show r + t + 2 = r + 1 + (t + 1) by omega] at x0
              rw [show r + t + 1 = r + 1 + t by omega] at y0
              have hcg := fun V (hV : Stay wr V) => equalT (HX.out.2.2.2.1.at hx') (HX.out.2.2.2.1.at hy') (hT.trans hV)
              obtain ⟨q, hq⟩ : ∃ q, q = decide (x'.xs = y'.xs) := ⟨_, rfl⟩
              rw [← hq] at hcg
              unfold Tx.v at x0 y0
              have p0 : (0 : Int) ≤ (t : Int) + 1 := by omega
              have e0 : ((t : Int) + 1).toNat = t + 1 := by omega
              have l0 : (t : Int) < (d : Int) := by omega
              have wd : IntKind.i64.wrap ((t : Int) + 1 - 1) = (t : Int) := by rw [IntKind.wrap_i64]; omega
              have wd2 : IntKind.i64.wrap (t : Int) = (t : Int) := by rw [IntKind.wrap_i64]; omega
              have wu : IntKind.i64.wrap ((t : Int) + 1 + 1) = (t : Int) + 1 + 1 := by rw [IntKind.wrap_i64]; omega
              have wkn : (wk : Int) < (n : Int) := by omega
              have HS3 : Hid (RowV wr G cap (uniqT Z (r + t + 2) ++ Z.drop wk) ∧ Stay w0 wr ∧ (uniqT Z (r + t + 2)).length = wk ∧ wk ≤ r + t + 1 ∧ Z[r + t + 2]? = some x' ∧ Z[r + t + 1]? = some y' ∧ Z[wk]? = some z ∧ q = decide (x'.xs = y'.xs) ∧ (∀ j, wk ≤ j → (uniqT Z (r + t + 2) ++ Z.drop wk)[j]? = Z[j]?)) := ⟨hI, hT, hUl, hwk, hx', hy', hz, hq, hget⟩
              have HV : Hid (x'.v = .slice x'.a x'.xs.length x'.c) := rfl
              generalize x'.xs.length = nx at *
              generalize y'.xs.length = ny at *
              generalize x'.a = ax at *
              generalize y'.a = ay at *
              generalize x'.c = cx at *
              generalize y'.c = cy at *
              clear hI hT hUl hwk hx' hy' hz hget hq hb9
              cases q with
              | true =>
                go_wp2_with fail
                go_quiet ((first | (go_at_fn 40; exact Calls.quiet_of (hcg _ (Stay.drewN _ _)))))
                have HS4 : Hid (RowV (wr.drewN nq) G cap (uniqT Z (r + (t + 1) + 2) ++ Z.drop wk) ∧ Stay w0 (wr.drewN nq) ∧ (uniqT Z (r + (t + 1) + 2)).length = wk) := by
                  have hst2 := Stay.drewN wr nq
                  have hne : x'.xs = y'.xs := of_decide_eq_true HS3.out.2.2.2.2.2.2.2.1.symm
                  have hu := uniqT_drop (k := r + t + 1) HS3.out.2.2.2.2.1 HS3.out.2.2.2.2.2.1 hne
                  rw [show r + (t + 1) + 2 = r + t + 1 + 2 by omega, hu]
                  exact ⟨HS3.out.1.stay hst2, HS3.out.2.1.trans hst2, HS3.out.2.2.1⟩
                clear hcg x0 y0
                go_wp2
                exact ⟨⟨wk, t + 1, rfl, by first | rfl | go_num | simp, by omega, HS4.out.2.2, by have := HS3.out.2.2.2.1; omega, HS4.out.1, HS4.out.2.1⟩, by simp [intOf]; omega⟩
              | false =>
                go_wp2_with fail
                go_quiet ((first | (go_at_fn 40; exact Calls.quiet_of (hcg _ (Stay.drewN _ _)))))
                have hst2 := Stay.drewN wr nq
                have hV := HS3.out.1.stay hst2
                have hs9 := HS3.out
                obtain ⟨z0, z1⟩ := hV.cell _ _ ((hs9.2.2.2.2.2.2.2.2 wk (Nat.le_refl _)).trans hs9.2.2.2.2.2.2.1)
                obtain ⟨v0, _⟩ := hV.cell _ _ ((hs9.2.2.2.2.2.2.2.2 (r + t + 2) (by have := hs9.2.2.2.1; omega)).trans hs9.2.2.2.2.1)
                rw [show r + t + 2 = r + 1 + (t + 1) by omega, HV.out] at v0
                have HS4 : Hid (RowV ((wr.drewN nq).setCell ⟨G, wk, none⟩ (.slice ax nx cx)) G cap (uniqT Z (r + (t + 1) + 2) ++ Z.drop (wk + 1)) ∧ Stay w0 ((wr.drewN nq).setCell ⟨G, wk, none⟩ (.slice ax nx cx)) ∧ (uniqT Z (r + (t + 1) + 2)).length = wk + 1) := by
                  have hne : ¬ x'.xs = y'.xs := of_decide_eq_false hs9.2.2.2.2.2.2.2.1.symm
                  have hu := uniqT_keep (k := r + t + 1) hs9.2.2.2.2.1 hs9.2.2.2.2.2.1 hne
                  have hwn : wk < Z.length := (List.getElem?_eq_some_iff.1 hs9.2.2.2.2.2.2.1).1
                  have hp := hV.set wk x'
                  have hset : (uniqT Z (r + t + 2) ++ Z.drop wk).set wk x' = uniqT Z (r + t + 2) ++ [x'] ++ Z.drop (wk + 1) := by
                    rw [List.set_append, if_neg (by omega), hs9.2.2.1, Nat.sub_self, List.drop_eq_getElem_cons hwn, List.set_cons_zero, List.append_assoc]
                    rfl
                  rw [hset, HV.out] at hp
                  rw [show r + (t + 1) + 2 = r + t + 1 + 2 by omega, hu]
                  refine ⟨hp, (Turn.set (S := fun j => j = G) (Turn.refl _ (wr.drewN nq)) rfl wk _).stay (hs9.2.1.trans hst2) (fun k hk e => ?_), by rw [List.length_append]; have := hs9.2.2.1; simp; omega⟩
                  have := HX.out.2.1
                  omega
                clear hcg x0 y0 hst2 hV hs9
                generalize z.v = zv at z0
                generalize wr.drewN nq = V at v0 z0 z1 HS4 ⊢
                go_wp2
                exact ⟨⟨wk + 1, t + 1, by first | rfl | go_num | simp, by first | rfl | go_num | simp, by omega, HS4.out.2.2, by have := HS3.out.2.2.2.1; omega, HS4.out.1, HS4.out.2.1⟩, by simp [intOf]; omega⟩
            · have hlt2 : ¬ (t : Int) + 1 < (d : Int) := by omega
              have hb9 := HB.out
              have hp : r + t + 2 = n := by omega
              rw [hp] at hUl hI
              have hLl : (uniqT Z n ++ Z.drop wk).length = n := by rw [List.length_append, List.length_drop, hUl]; omega
              have hcut := cutV_at G n cap wk (by omega) hnc
              have hcut2 := cutV_to G n cap wk (by omega)
              have HT9 : Hid (Stay w0 wr ∧ (uniqT Z n).length = wk ∧ (uniqT Z n ++ Z.drop wk).take wk = uniqT Z n) := ⟨hT, hUl, by rw [← hUl]; exact List.take_left⟩
              have hwn : wk < n := by omega
              have hwnI : (wk : Int) ≤ (n : Int) := by omega
              clear hT hUl hwk hp hb9
              go_wp2_with (refine wpList_clearV rfl (.tmp 61) rfl hI hLl hwn _ rfl ?_; intro w3 hC3 hT3; have H3 : Hid _ := And.intro hC3 hT3; clear hC3 hT3 hI)
              go_ret
              have h9 := H3.out
              rw [HT9.out.2.2] at h9
              exact ⟨wk, rfl, HT9.out.2.1.symm, h9.1, h9.2.stay HT9.out.1 (fun k hk e => by have := HX.out.2.1; omega)⟩
      · have hlt2 : ¬ (r : Int) + 1 < (n : Int) := by omega
        have HE : Hid (uniqT Z n = Z) := by
          have e : r + 1 = n := by omega
          show uniqT Z n = Z
          rw [← e, hU, List.take_of_length_le (by have := HX.out.2.2.1; omega)]
        have HR : Hid (RowV wr G cap Z ∧ Stay w0 wr) := ⟨HX.out.2.2.2.2.stay hst, HX.out.1.trans hst⟩
        clear hU hst
        go_wp2
        go_ret
        refine ⟨n, rfl, ?_, ?_, HR.out.2⟩
        · rw [HE.out]; exact HX.out.2.2.1.symm
        · rw [HE.out]; exact HR.out.1
end Go.Proofs.Ytbbgembkdhcidaa
