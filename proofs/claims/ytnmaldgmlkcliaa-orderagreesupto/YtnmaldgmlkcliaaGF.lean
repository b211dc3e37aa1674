/- The library's symMerge where the second stretch is one thing, and the first one is more. -/
import Derived.Test.YtnmaldgmlkcliaaGE
namespace Go.Proofs.Ytnmaldgmlkcliaa
open Go.RowKit Go.Maps Go.Shelf Go.Sort Go.Proofs.Ytnmaldgmlkcliaa.HT

set_option maxRecDepth 100000 in
set_option maxHeartbeats 8000000 in
theorem sym_right {g : Nat} {κ : Int × Int → Int} {cf : Int × Int → Int × Int → Int} (h : Ord g κ cf) (W : World) (G cap n a m : Nat) (P X : List (Int × Int)) (y : Int × Int) (Q : List (Int × Int)) (hn : n = P.length + X.length + 1 + Q.length) (ha : a = P.length) (hm : m = a + X.length) (hX : 2 ≤ X.length) (hsz : n < 4611686018427387904) (rX : RisK κ X) (hI : InT W G (P ++ (X ++ ([y] ++ Q)))) :
    Calls Try.prog 59 #[.slice (some ⟨G, 0, none⟩) n cap, .int .i64 (a : Int), .int .i64 (m : Int), .int .i64 ((m : Int) + 1), .func (.func g) #[] #[]] W fun e w' => e = .returned (.tuple #[]) ∧ ∃ Z, Merg κ X [y] Z ∧ InT w' G (P ++ (Z ++ Q)) ∧ Turn (fun j => j = G) W w' := by
  obtain ⟨L, hL⟩ : ∃ L, L = P ++ (X ++ ([y] ++ Q)) := ⟨_, rfl⟩
  obtain ⟨kx, hkx⟩ : ∃ kx, kx = X.length := ⟨_, rfl⟩
  rw [← hL] at hI
  have hLy : L[m]? = some y := by rw [hL, List.getElem?_append_right (by omega), List.getElem?_append_right (by omega), show m - P.length - X.length = 0 by omega]; rfl
  have hLx : ∀ k, k < X.length → L[a + k]? = X[k]? := fun k hk => by
    rw [hL, List.getElem?_append_right (by omega), List.getElem?_append_left (by omega)]
    congr 1; omega
  have HX : Hid (Ord g κ cf ∧ InT W G L ∧ n = P.length + X.length + 1 + Q.length ∧ a = P.length ∧ m = a + X.length ∧ L[m]? = some y ∧ (∀ k, k < X.length → L[a + k]? = X[k]?) ∧ L = P ++ (X ++ ([y] ++ Q)) ∧ RisK κ X) := ⟨h, hI, hn, ha, hm, hLy, hLx, hL, rX⟩
  have hmn : (m : Int) + 1 ≤ (n : Int) := by omega
  have ham : (a : Int) < (m : Int) := by omega
  have ham2 : a < m := by omega
  have hmn2 : m + 1 ≤ n := by omega
  have w1 : IntKind.i64.wrap ((m : Int) - (a : Int)) = (kx : Int) := by rw [IntKind.wrap_i64]; omega
  have hk1 : ¬ (kx : Int) = 1 := by omega
  have hk2 : ¬ kx = 1 := by omega
  have hke : ((kx : Int) == 1) = false := by simp; omega
  have w2 : IntKind.i64.wrap ((m : Int) + 1 - (m : Int)) = 1 := by rw [IntKind.wrap_i64]; omega
  clear h hI hn ha hm hLx hLy hL rX hX hkx
  have mixed : Try.prog.follows .mixedOrders = true := by kernel_rfl
  go_enter Try.func59, Try.ntmps59
  go_wp2
  go_loopw [14, 15] (fun vi vj wr => ∃ (i j : Nat), a ≤ i ∧ i ≤ j ∧ j ≤ m ∧ vi = .int .i64 i ∧ vj = .int .i64 j ∧ (a < i → ∃ z, L[i - 1]? = some z ∧ κ z ≤ κ y) ∧ (j < m → ∃ z, L[j]? = some z ∧ κ y < κ z) ∧ Stay W wr) (fun vi vj _ => (intOf vj).toNat - (intOf vi).toNat)
  case atStart => exact ⟨a, m, Nat.le_refl _, by omega, Nat.le_refl _, rfl, rfl, fun h => by omega, fun h => by omega, Stay.refl _⟩
  case round =>
    obtain ⟨i, j, hi, hij, hj, rfl, rfl, hlo, hhi, hst⟩ := hrel
    clear w1 hk1 hk2 hke w2
    by_cases hlt : i < j
    · have hlt2 : (i : Int) < (j : Int) := by omega
      obtain ⟨q, hq⟩ : ∃ q, q = (i + j) / 2 := ⟨_, rfl⟩
      have hmid : ((i : Int) + (j : Int)) / 2 = (q : Int) := by omega
      have hq1 : i ≤ q := by omega
      have hq2 : q < j := by omega
      clear hq
      obtain ⟨z, hz⟩ : ∃ z, L[q]? = some z := ⟨_, by rw [show q = a + (q - a) by omega, HX.out.2.2.2.2.2.2.1 _ (by have := HX.out.2.2.2.2.1; omega)]; exact List.getElem?_eq_getElem (by have := HX.out.2.2.2.2.1; omega)⟩
      have hIr := HX.out.2.1.stay hst
      obtain ⟨z0, z1, _, _⟩ := hIr.spot q z hz
      obtain ⟨y0, y1, _, _⟩ := hIr.spot m y HX.out.2.2.2.2.2.1
      have lG := hIr.1
      obtain ⟨y1v, y2v⟩ := y
      obtain ⟨z1v, z2v⟩ := z
      dsimp only at y0 y1 z0 z1
      obtain ⟨c, hc⟩ : ∃ c, c = cf (y1v, y2v) (z1v, z2v) := ⟨_, rfl⟩
      have eg := HX.out.1.eg
      have hcg := HX.out.1.grown y1v y2v z1v z2v wr c hc
      have HK : Hid (c < 0 ↔ κ (y1v, y2v) < κ (z1v, z2v)) := by rw [hc]; exact HX.out.1.key _ _
      have m0 : ∀ n os, (grow (wr.drewN n) os).cell? ⟨G, q * 2, none⟩ = some (.int .i64 z1v) := fun n os => cell_grown lG z0 n os
      have m1 : ∀ n os, (grow (wr.drewN n) os).cell? ⟨G, q * 2 + 1, none⟩ = some (.int .i64 z2v) := fun n os => cell_grown lG z1 n os
      have m2 : ∀ n os, (grow (wr.drewN n) os).cell? ⟨G, m * 2, none⟩ = some (.int .i64 y1v) := fun n os => cell_grown lG y0 n os
      have m3 : ∀ n os, (grow (wr.drewN n) os).cell? ⟨G, m * 2 + 1, none⟩ = some (.int .i64 y2v) := fun n os => cell_grown lG y1 n os
      have lq : (q : Int) < (n : Int) := by omega
      have lm : (m : Int) < (n : Int) := by omega
      have HS : Hid (Stay W wr ∧ (a < i → ∃ z, L[i - 1]? = some z ∧ κ z ≤ κ (y1v, y2v)) ∧ (j < m → ∃ z, L[j]? = some z ∧ κ (y1v, y2v) < κ z) ∧ L[q]? = some (z1v, z2v)) := ⟨hst, hlo, hhi, hz⟩
      clear hst hlo hhi hz hIr z0 z1 y0 y1 lG hc
      by_cases hlv : c < 0
      · go_wp2_with fail
        refine wp_region_quiet_grown (by assumption) (by kernel_rfl) ?_
        repeat (first | go_big_quiet_step (first | (go_at_fn g; refine Calls.grown_of (hcg _ _))) | quiet_step (first | (go_at_fn g; refine Calls.grown_of (hcg _ _))))
        refine wpQuiet_nil ?_
        intro _ hw'
        obtain ⟨⟨nq, osq⟩, hw''⟩ := hw'
        subst hw''
        have HS2 : Hid (Stay W (grow (wr.drewN nq) osq)) := stay_grow HS.out.1 _ _
        clear hcg m0 m1 m2 m3 eg
        go_wp2
        exact ⟨⟨i, q, hi, hq1, by omega, rfl, by first | rfl | go_num, HS.out.2.1, fun _ => ⟨_, HS.out.2.2.2, HK.out.1 hlv⟩, HS2.out⟩, by simp [intOf]; omega⟩
      · have hlv3 : 0 ≤ c := by omega
        have hd1 : decide (c < 0) = false := decide_eq_false hlv
        have hd2 : decide (0 ≤ c) = true := decide_eq_true hlv3
        go_wp2_with fail
        refine wp_region_quiet_grown (by assumption) (by kernel_rfl) ?_
        repeat (first | go_big_quiet_step (first | (go_at_fn g; refine Calls.grown_of (hcg _ _))) | quiet_step (first | (go_at_fn g; refine Calls.grown_of (hcg _ _))))
        refine wpQuiet_nil ?_
        intro _ hw'
        obtain ⟨⟨nq, osq⟩, hw''⟩ := hw'
        subst hw''
        have HS2 : Hid (Stay W (grow (wr.drewN nq) osq)) := stay_grow HS.out.1 _ _
        clear hcg m0 m1 m2 m3 eg
        go_wp2
        exact ⟨⟨q + 1, j, by omega, by omega, hj, by first | rfl | go_num, rfl, fun _ => ⟨_, HS.out.2.2.2, Int.not_lt.1 (fun e => absurd (HK.out.2 e) (by omega))⟩, HS.out.2.2.1, HS2.out⟩, by simp [intOf]; omega⟩
    · have hlt2 : ¬ (i : Int) < (j : Int) := by omega
      obtain rfl : i = j := by omega
      obtain ⟨r, hr⟩ : ∃ r, i = a + r := ⟨i - a, by omega⟩
      have hrX : r ≤ X.length := by have := HX.out.2.2.2.2.1; omega
      have hM : Merg κ X [y] (X.take r ++ [y] ++ X.drop r) := by
        refine Merg.one_right HX.out.2.2.2.2.2.2.2.2 r hrX (fun h0 => ?_) (fun h0 => ?_)
        · obtain ⟨z, h1, h2⟩ := hlo (by omega)
          rw [show i - 1 = a + (r - 1) by omega, HX.out.2.2.2.2.2.2.1 _ (by omega), List.getElem?_eq_getElem (by omega)] at h1
          rw [Option.some.inj h1]; omega
        · obtain ⟨z, h1, h2⟩ := hhi (by have := HX.out.2.2.2.2.1; omega)
          rw [hr, HX.out.2.2.2.2.2.2.1 _ h0, List.getElem?_eq_getElem h0] at h1
          rw [Option.some.inj h1]; exact h2
      have HM : Hid (Merg κ X [y] (X.take r ++ [y] ++ X.drop r) ∧ r ≤ X.length ∧ InT wr G (P ++ (X.take X.length ++ ([y] ++ (X.drop X.length ++ Q)))) ∧ Turn (fun j => j = G) W wr ∧ i = a + r) := ⟨hM, hrX, by have h9 := HX.out.2.1.stay hst; rw [HX.out.2.2.2.2.2.2.2.1] at h9; simpa using h9, Turn.of_stay hst, hr⟩
      have hir : (i : Int) = (a : Int) + (r : Int) := by omega
      have HI : Hid ((i : Int) = (a : Int) + (r : Int)) := hir
      clear hlo hhi hst hM hr hrX hir
      go_wp2
      go_loopw [17] (fun vk wr => ∃ t : Nat, r ≤ t ∧ t ≤ X.length ∧ vk = .int .i64 ((a + t : Nat) : Int) ∧ InT wr G (P ++ (X.take t ++ ([y] ++ (X.drop t ++ Q)))) ∧ Turn (fun j => j = G) W wr) (fun vk _ => (intOf vk).toNat)
      case atStart => exact ⟨X.length, HM.out.2.1, Nat.le_refl _, by have := HX.out.2.2.2.2.1; rw [← this], HM.out.2.2.1, HM.out.2.2.2.1⟩
      case round =>
        obtain ⟨t, ht, htX, rfl, hI, hT⟩ := hrel
        by_cases hlt3 : r < t
        · obtain ⟨s, rfl⟩ : ∃ s, t = s + 1 := ⟨t - 1, by omega⟩
          have hsX : s < X.length := by omega
          have hsp : X.drop s = X[s] :: X.drop (s + 1) := List.drop_eq_getElem_cons hsX
          have htk : X.take (s + 1) = X.take s ++ [X[s]] := List.take_succ_eq_append_getElem hsX
          have hal : (X.take s).length = s := by rw [List.length_take]; omega
          have haP := HX.out.2.2.2.1
          have hI2 := hI.stay (Stay.drew wr)
          have hg1 : (P ++ (X.take (s + 1) ++ ([y] ++ (X.drop (s + 1) ++ Q))))[a + (s + 1)]? = some y := by rw [List.getElem?_append_right (by omega), List.getElem?_append_right (by rw [List.length_take]; omega), List.length_take, show a + (s + 1) - P.length - min (s + 1) X.length = 0 by omega]; rfl
          have hg2 : (P ++ (X.take (s + 1) ++ ([y] ++ (X.drop (s + 1) ++ Q))))[a + s]? = some X[s] := by rw [List.getElem?_append_right (by omega), List.getElem?_append_left (by rw [List.length_take]; omega), show a + s - P.length = s by omega, List.getElem?_take_of_lt (by omega)]; exact List.getElem?_eq_getElem hsX
          have hset : ((P ++ (X.take (s + 1) ++ ([y] ++ (X.drop (s + 1) ++ Q)))).set (a + (s + 1)) X[s]).set (a + s) y = P ++ (X.take s ++ ([y] ++ (X.drop s ++ Q))) := by
            have := two_swap (P ++ X.take s) (X.drop (s + 1) ++ Q) X[s] y
            rw [List.length_append, hal, ← haP, Nat.add_assoc] at this
            rw [hsp, htk]
            simp only [List.append_assoc, List.cons_append, List.nil_append] at this ⊢
            exact this
          have HS : Hid (InT (putT (putT wr.drew G (a + (s + 1)) X[s]) G (a + s) y) G (P ++ (X.take s ++ ([y] ++ (X.drop s ++ Q)))) ∧ Turn (fun j => j = G) W (putT (putT wr.drew G (a + (s + 1)) X[s]) G (a + s) y)) := by
            have h9 := hI2.swap (a + (s + 1)) (a + s) y X[s] (List.getElem?_eq_some_iff.1 hg1).1 (List.getElem?_eq_some_iff.1 hg2).1
            rw [hset] at h9
            exact ⟨h9, swap_turn (hT.trans (Turn.of_stay (Stay.drew wr))) rfl _ _ _ _⟩
          obtain ⟨y0, y1, y2, y3⟩ := hI.spot _ _ hg1
          obtain ⟨x0, x1, x2, x3⟩ := hI.spot _ _ hg2
          generalize X[s] = x at x0 x1 HS
          obtain ⟨xa, xb⟩ := x
          obtain ⟨ya, yb⟩ := y
          dsimp only at x0 x1 y0 y1
          obtain ⟨u, hu⟩ : ∃ u, u = a + (s + 1) := ⟨_, rfl⟩
          obtain ⟨d, hd⟩ : ∃ d, d = a + s := ⟨_, rfl⟩
          rw [← hu, ← hd] at HS
          rw [← hu] at y0 y1 y2 y3 ⊢
          rw [← hd] at x0 x1 x2 x3
          have hi3 : (i : Int) < (u : Int) := by have := HI.out; omega
          have hun : u < n := by have := HX.out.2.2.2.2.1; omega
          have wd : IntKind.i64.wrap ((u : Int) - 1) = (d : Int) := by rw [IntKind.wrap_i64]; omega
          have la : (u : Int) < (n : Int) := by omega
          have lb : (d : Int) < (n : Int) := by omega
          have n1 : ¬ d * 2 = u * 2 := by omega
          have n2 : ¬ d * 2 = u * 2 + 1 := by omega
          have n3 : ¬ d * 2 + 1 = u * 2 := by omega
          have n4 : ¬ d * 2 + 1 = u * 2 + 1 := by omega
          have HD : Hid (u = a + (s + 1) ∧ d = a + s) := ⟨hu, hd⟩
          clear hI hT hg1 hg2 hI2 hset hsp htk hal haP hu hd
          go_wp2_with fail
          go_region
          go_wp2
          exact ⟨⟨s, by omega, by omega, by rw [← HD.out.2], HS.out.1, HS.out.2⟩, by have := HD.out; simp [intOf]; omega⟩
        · obtain rfl : t = r := by omega
          have HS : Hid (InT wr G (P ++ (X.take t ++ [y] ++ X.drop t ++ Q)) ∧ Turn (fun j => j = G) W wr) := ⟨by simpa using hI, hT⟩
          have hia := HM.out.2.2.2.2
          rw [← hia]
          have hi3 : ¬ (i : Int) < (i : Int) := by omega
          clear hI hT hia
          go_wp2
          (try simp only [Exit.inBlock, Exit.then]); refine bodyPost_ret (results_none rfl _ _ _) rfl ?_
          exact ⟨rfl, _, HM.out.1, HS.out.1, HS.out.2⟩
end Go.Proofs.Ytnmaldgmlkcliaa
