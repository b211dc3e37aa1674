/- The library's symMerge where the first stretch is one thing. -/
import Derived.Test.YtnmaldgmlkcliaaGD
namespace Go.Proofs.Ytnmaldgmlkcliaa
open Go.RowKit Go.Maps Go.Shelf Go.Sort Go.Proofs.Ytnmaldgmlkcliaa.HT

theorem stay_grow {W V : World} (h : Stay W V) (n : Nat) (os : Array Obj) : Stay W (grow (V.drewN n) os) := h.trans ⟨rfl, rfl, rfl, by rw [size_grow]; exact Nat.le_add_right _ _, fun k hk => heap_grow_old _ _ hk⟩
theorem Ord.grown {g : Nat} {κ : Int × Int → Int} {cf : Int × Int → Int × Int → Int} (h : Ord g κ cf) (x1 x2 y1 y2 : Int) (W : World) (c : Int) (hc : c = cf (x1, x2) (y1, y2)) : ∀ n os, Calls Try.prog g #[.agg #[.int .i64 x1, .int .i64 x2], .agg #[.int .i64 y1, .int .i64 y2]] (grow (W.drewN n) os) fun e w' => e = .returned (.int .i64 c) ∧ ∃ q os', w' = grow ((grow (W.drewN n) os).drewN q) os' :=
  fun n os => by rw [hc]; exact h.call (x1, x2) (y1, y2) _
theorem InT.lt_of {W : World} {G : Nat} {ts : List (Int × Int)} (h : InT W G ts) : G < W.heap.size := h.1

theorem two_swap2 (A B : List (Int × Int)) (x y : Int × Int) : ((A ++ x :: y :: B).set A.length y).set (A.length + 1) x = A ++ y :: x :: B := by
  rw [List.set_append, if_neg (by omega), Nat.sub_self, List.set_append, if_neg (by omega), Nat.add_sub_cancel_left]
  rfl

set_option maxRecDepth 100000 in
set_option maxHeartbeats 8000000 in
theorem sym_left {g : Nat} {κ : Int × Int → Int} {cf : Int × Int → Int × Int → Int} (h : Ord g κ cf) (W : World) (G cap n a b : Nat) (P : List (Int × Int)) (x : Int × Int) (Y Q : List (Int × Int)) (hn : n = P.length + 1 + Y.length + Q.length) (ha : a = P.length) (hb : b = a + 1 + Y.length) (hY : 0 < Y.length) (hsz : n < 4611686018427387904) (rY : RisK κ Y) (hI : InT W G (P ++ ([x] ++ (Y ++ Q)))) :
    Calls Try.prog 59 #[.slice (some ⟨G, 0, none⟩) n cap, .int .i64 (a : Int), .int .i64 ((a : Int) + 1), .int .i64 (b : Int), .func (.func g) #[] #[]] W fun e w' => e = .returned (.tuple #[]) ∧ ∃ Z, Merg κ [x] Y Z ∧ InT w' G (P ++ (Z ++ Q)) ∧ Turn (fun j => j = G) W w' := by
  obtain ⟨L, hL⟩ : ∃ L, L = P ++ ([x] ++ (Y ++ Q)) := ⟨_, rfl⟩
  rw [← hL] at hI
  have hLx : L[a]? = some x := by rw [hL, ha, List.getElem?_append_right (Nat.le_refl _), Nat.sub_self]; rfl
  have hLy : ∀ k, k < Y.length → L[a + 1 + k]? = Y[k]? := fun k hk => by
    rw [hL, List.getElem?_append_right (by omega), List.getElem?_append_right (by simp; omega), List.getElem?_append_left (by simp; omega)]
    congr 1; simp; omega
  have HX : Hid (Ord g κ cf ∧ InT W G L ∧ n = P.length + 1 + Y.length + Q.length ∧ a = P.length ∧ b = a + 1 + Y.length ∧ L[a]? = some x ∧ (∀ k, k < Y.length → L[a + 1 + k]? = Y[k]?) ∧ L = P ++ ([x] ++ (Y ++ Q)) ∧ RisK κ Y) := ⟨h, hI, hn, ha, hb, hLx, hLy, hL, rY⟩
  have hbn : (b : Int) ≤ (n : Int) := by omega
  have han : (a : Int) + 1 < (b : Int) := by omega
  have han2 : a + 1 < b := by omega
  have hbn2 : b ≤ n := by omega
  clear h hI hn ha hb hLx hLy hL rY hY
  have w1 : IntKind.i64.wrap ((a : Int) + 1 - (a : Int)) = 1 := by rw [IntKind.wrap_i64]; omega
  have mixed : Try.prog.follows .mixedOrders = true := by kernel_rfl
  go_enter Try.func59, Try.ntmps59
  go_wp2
  go_loopw [10, 11] (fun vi vj wr => ∃ (i j : Nat), a + 1 ≤ i ∧ i ≤ j ∧ j ≤ b ∧ vi = .int .i64 i ∧ vj = .int .i64 j ∧ (a + 1 < i → ∃ y, L[i - 1]? = some y ∧ κ y < κ x) ∧ (j < b → ∃ y, L[j]? = some y ∧ κ x ≤ κ y) ∧ Stay W wr) (fun vi vj _ => (intOf vj).toNat - (intOf vi).toNat)
  case atStart => exact ⟨a + 1, b, Nat.le_refl _, by omega, Nat.le_refl _, by first | rfl | go_num, rfl, fun h => by omega, fun h => by omega, Stay.refl _⟩
  case round =>
    obtain ⟨i, j, hi, hij, hj, rfl, rfl, hlo, hhi, hst⟩ := hrel
    by_cases hlt : i < j
    · have hlt2 : (i : Int) < (j : Int) := by omega
      obtain ⟨q, hq⟩ : ∃ q, q = (i + j) / 2 := ⟨_, rfl⟩
      have hmid : ((i : Int) + (j : Int)) / 2 = (q : Int) := by omega
      have hq1 : i ≤ q := by omega
      have hq2 : q < j := by omega
      clear hq
      obtain ⟨y, hy⟩ : ∃ y, L[q]? = some y := ⟨_, by rw [show q = a + 1 + (q - a - 1) by omega, HX.out.2.2.2.2.2.2.1 _ (by have := HX.out.2.2.2.2.1; omega)]; exact List.getElem?_eq_getElem (by have := HX.out.2.2.2.2.1; omega)⟩
      have hIr := HX.out.2.1.stay hst
      obtain ⟨y0, y1, _, _⟩ := hIr.spot q y hy
      obtain ⟨x0, x1, _, _⟩ := hIr.spot a x HX.out.2.2.2.2.2.1
      have lG := hIr.1
      obtain ⟨x1v, x2v⟩ := x
      obtain ⟨y1v, y2v⟩ := y
      dsimp only at x0 x1 y0 y1
      obtain ⟨c, hc⟩ : ∃ c, c = cf (y1v, y2v) (x1v, x2v) := ⟨_, rfl⟩
      have eg := HX.out.1.eg
      have hcg := HX.out.1.grown y1v y2v x1v x2v wr c hc
      have HK : Hid (c < 0 ↔ κ (y1v, y2v) < κ (x1v, x2v)) := by rw [hc]; exact HX.out.1.key _ _
      have m0 : ∀ n os, (grow (wr.drewN n) os).cell? ⟨G, q * 2, none⟩ = some (.int .i64 y1v) := fun n os => cell_grown lG y0 n os
      have m1 : ∀ n os, (grow (wr.drewN n) os).cell? ⟨G, q * 2 + 1, none⟩ = some (.int .i64 y2v) := fun n os => cell_grown lG y1 n os
      have m2 : ∀ n os, (grow (wr.drewN n) os).cell? ⟨G, a * 2, none⟩ = some (.int .i64 x1v) := fun n os => cell_grown lG x0 n os
      have m3 : ∀ n os, (grow (wr.drewN n) os).cell? ⟨G, a * 2 + 1, none⟩ = some (.int .i64 x2v) := fun n os => cell_grown lG x1 n os
      have lq : (q : Int) < (n : Int) := by omega
      have la : (a : Int) < (n : Int) := by omega
      have HS : Hid (Stay W wr ∧ (a + 1 < i → ∃ y, L[i - 1]? = some y ∧ κ y < κ (x1v, x2v)) ∧ (j < b → ∃ y, L[j]? = some y ∧ κ (x1v, x2v) ≤ κ y) ∧ L[q]? = some (y1v, y2v)) := ⟨hst, hlo, hhi, hy⟩
      clear hst hlo hhi hy hIr y0 y1 x0 x1 lG hc w1
      by_cases hlv : c < 0
      · go_wp2_with fail
        refine wp_region_quiet_grown (by assumption) (by kernel_rfl) ?_
        repeat (first | go_big_quiet_step (first | (go_at_fn g; refine Calls.grown_of (hcg _ _))) | quiet_step (first | (go_at_fn g; refine Calls.grown_of (hcg _ _))))
        refine wpQuiet_nil ?_
        intro _ hw'
        obtain ⟨⟨nq, osq⟩, hw''⟩ := hw'
        subst hw''
        have HS2 : Hid (Stay W (grow (wr.drewN nq) osq)) := stay_grow HS.out.1 _ _
        clear hcg m0 m1 m2 m3 eg
        go_wp2
        exact ⟨⟨q + 1, j, by omega, by omega, hj, by first | rfl | go_num, rfl, fun _ => ⟨_, HS.out.2.2.2, HK.out.1 hlv⟩, HS.out.2.2.1, HS2.out⟩, by simp [intOf]; omega⟩
      · go_wp2_with fail
        refine wp_region_quiet_grown (by assumption) (by kernel_rfl) ?_
        repeat (first | go_big_quiet_step (first | (go_at_fn g; refine Calls.grown_of (hcg _ _))) | quiet_step (first | (go_at_fn g; refine Calls.grown_of (hcg _ _))))
        refine wpQuiet_nil ?_
        intro _ hw'
        obtain ⟨⟨nq, osq⟩, hw''⟩ := hw'
        subst hw''
        have HS2 : Hid (Stay W (grow (wr.drewN nq) osq)) := stay_grow HS.out.1 _ _
        clear hcg m0 m1 m2 m3 eg
        go_wp2
        exact ⟨⟨i, q, hi, hq1, by omega, rfl, by first | rfl | go_num, HS.out.2.1, fun _ => ⟨_, HS.out.2.2.2, Int.not_lt.1 (fun e => absurd (HK.out.2 e) (by omega))⟩, HS2.out⟩, by simp [intOf]; omega⟩
    · have hlt2 : ¬ (i : Int) < (j : Int) := by omega
      obtain rfl : i = j := by omega
      obtain ⟨r, hr⟩ : ∃ r, i = a + 1 + r := ⟨i - a - 1, by omega⟩
      have hrY : r ≤ Y.length := by have := HX.out.2.2.2.2.1; omega
      have hM : Merg κ [x] Y (Y.take r ++ [x] ++ Y.drop r) := by
        refine Merg.one_left HX.out.2.2.2.2.2.2.2.2 r hrY (fun h0 => ?_) (fun h0 => ?_)
        · obtain ⟨y, h1, h2⟩ := hlo (by omega)
          rw [show i - 1 = a + 1 + (r - 1) by omega, HX.out.2.2.2.2.2.2.1 _ (by omega), List.getElem?_eq_getElem (by omega)] at h1
          rw [Option.some.inj h1]; exact h2
        · obtain ⟨y, h1, h2⟩ := hhi (by have := HX.out.2.2.2.2.1; omega)
          rw [hr, HX.out.2.2.2.2.2.2.1 _ h0, List.getElem?_eq_getElem h0] at h1
          rw [Option.some.inj h1]; omega
      have HM : Hid (Merg κ [x] Y (Y.take r ++ [x] ++ Y.drop r) ∧ r ≤ Y.length ∧ InT wr G (P ++ (Y.take 0 ++ ([x] ++ (Y.drop 0 ++ Q)))) ∧ Turn (fun j => j = G) W wr ∧ i = a + 1 + r) := ⟨hM, hrY, by have h9 := HX.out.2.1.stay hst; rw [HX.out.2.2.2.2.2.2.2.1] at h9; simpa using h9, Turn.of_stay hst, hr⟩
      have wi : IntKind.i64.wrap ((i : Int) - 1) = (a : Int) + (r : Int) := by rw [IntKind.wrap_i64]; omega
      clear hlo hhi hst hM w1 hr hrY
      go_wp2
      go_loopw [13] (fun vk wr => ∃ t : Nat, t ≤ r ∧ vk = .int .i64 ((a : Int) + (t : Int)) ∧ InT wr G (P ++ (Y.take t ++ ([x] ++ (Y.drop t ++ Q)))) ∧ Turn (fun j => j = G) W wr) (fun vk _ => a + r - (intOf vk).toNat)
      case atStart => exact ⟨0, Nat.zero_le _, by first | rfl | simp, HM.out.2.2.1, HM.out.2.2.2.1⟩
      case round =>
        obtain ⟨t, ht, rfl, hI, hT⟩ := hrel
        by_cases hlt3 : t < r
        · have htY : t < Y.length := by have := HM.out.2.1; omega
          have hsp : Y.drop t = Y[t] :: Y.drop (t + 1) := List.drop_eq_getElem_cons htY
          have htk : Y.take (t + 1) = Y.take t ++ [Y[t]] := List.take_succ_eq_append_getElem htY
          have hal : (Y.take t).length = t := by rw [List.length_take]; omega
          have haP := HX.out.2.2.2.1
          have hI2 := hI.stay (Stay.drew wr)
          have hg1 : (P ++ (Y.take t ++ ([x] ++ (Y.drop t ++ Q))))[a + t]? = some x := by rw [List.getElem?_append_right (by omega), List.getElem?_append_right (by omega), hal, show a + t - P.length - t = 0 by omega]; rfl
          have hg2 : (P ++ (Y.take t ++ ([x] ++ (Y.drop t ++ Q))))[a + t + 1]? = some Y[t] := by rw [List.getElem?_append_right (by omega), List.getElem?_append_right (by omega), hal, show a + t + 1 - P.length - t = 1 by omega, hsp]; rfl
          have hset : ((P ++ (Y.take t ++ ([x] ++ (Y.drop t ++ Q)))).set (a + t) Y[t]).set (a + t + 1) x = P ++ (Y.take (t + 1) ++ ([x] ++ (Y.drop (t + 1) ++ Q))) := by
            have := two_swap2 (P ++ Y.take t) (Y.drop (t + 1) ++ Q) x Y[t]
            rw [List.length_append, hal, ← haP] at this
            rw [hsp, htk]
            simp only [List.append_assoc, List.cons_append, List.nil_append] at this ⊢
            exact this
          have HS : Hid (InT (putT (putT wr.drew G (a + t) Y[t]) G (a + t + 1) x) G (P ++ (Y.take (t + 1) ++ ([x] ++ (Y.drop (t + 1) ++ Q)))) ∧ Turn (fun j => j = G) W (putT (putT wr.drew G (a + t) Y[t]) G (a + t + 1) x)) := by
            have h9 := hI2.swap (a + t) (a + t + 1) x Y[t] (List.getElem?_eq_some_iff.1 hg1).1 (List.getElem?_eq_some_iff.1 hg2).1
            rw [hset] at h9
            exact ⟨h9, swap_turn (hT.trans (Turn.of_stay (Stay.drew wr))) rfl _ _ _ _⟩
          obtain ⟨x0, x1, x2, x3⟩ := hI.spot _ _ hg1
          obtain ⟨y0, y1, y2, y3⟩ := hI.spot _ _ hg2
          generalize Y[t] = y at y0 y1 HS
          obtain ⟨xa, xb⟩ := x
          obtain ⟨ya, yb⟩ := y
          dsimp only at x0 x1 y0 y1
          have hi3 : (a : Int) + (t : Int) < (a : Int) + (r : Int) := by omega
          have hr2 : a + 1 + r ≤ b := by have := HM.out.2.2.2.2; omega
          have wa : IntKind.i64.wrap ((a : Int) + (t : Int) + 1) = (a : Int) + (t : Int) + 1 := by rw [IntKind.wrap_i64]; omega
          have pa : (0 : Int) ≤ (a : Int) + (t : Int) := by omega
          have pb : (0 : Int) ≤ (a : Int) + (t : Int) + 1 := by omega
          have la : (a : Int) + (t : Int) < (n : Int) := by omega
          have lb : (a : Int) + (t : Int) + 1 < (n : Int) := by omega
          have ea : ((a : Int) + (t : Int)).toNat = a + t := by omega
          have eb : ((a : Int) + (t : Int) + 1).toNat = a + t + 1 := by omega
          have n1 : ¬ (a + t + 1) * 2 = (a + t) * 2 := by omega
          have n2 : ¬ (a + t + 1) * 2 = (a + t) * 2 + 1 := by omega
          have n3 : ¬ (a + t + 1) * 2 + 1 = (a + t) * 2 := by omega
          have n4 : ¬ (a + t + 1) * 2 + 1 = (a + t) * 2 + 1 := by omega
          clear hI hT hg1 hg2 hI2 hset hsp htk hal haP
          go_wp2_with fail
          go_region
          go_wp2
          exact ⟨⟨t + 1, by omega, by simp; omega, HS.out.1, HS.out.2⟩, by simp [intOf]; omega⟩
        · have hi3 : ¬ (a : Int) + (t : Int) < (a : Int) + (r : Int) := by omega
          obtain rfl : t = r := by omega
          have HS : Hid (InT wr G (P ++ (Y.take t ++ [x] ++ Y.drop t ++ Q)) ∧ Turn (fun j => j = G) W wr) := ⟨by simpa using hI, hT⟩
          clear hI hT
          go_wp2
          (try simp only [Exit.inBlock, Exit.then]); refine bodyPost_ret (results_none rfl _ _ _) rfl ?_
          exact ⟨rfl, _, HM.out.1, HS.out.1, HS.out.2⟩
end Go.Proofs.Ytnmaldgmlkcliaa
