/- apart: lists that were answered are written over and grown, and none shows another one's. -/
import Derived.Test.YtnmaldgmlkcliaaSI
import Derived.Deep.RegionHeld3
namespace Go.Proofs.Ytnmaldgmlkcliaa
open Go.RowKit Go.Maps Go.Sort

set_option maxRecDepth 100000 in
set_option maxHeartbeats 20000000 in
theorem apart_any (w : World) (base B n : Nat) (v : Nat → Value) (t : Nat → List (Int × Int)) (hL : Lists base w B n v t) (hB : B < w.heap.size) (hn : n ≤ 1000) (hln : ∀ i, i < n → ((t i).length + 31) * 16 ≤ 140737488355328) (hbase : base ≤ w.heap.size) :
    Calls Try.prog 12 #[.slice (some ⟨B, 0, none⟩) n n] w fun e w' => e = .returned (.bool true) ∧ Turn (fun b => ∃ i, i < n ∧ (v i).ownBlock = some b) w w' := by
  have HX : Hid (Lists base w B n v (overL t 0) ∧ B < w.heap.size ∧ (∀ i, i < n → ((t i).length + 31) * 16 ≤ 140737488355328) ∧ base ≤ w.heap.size) := ⟨hL.over_start, hB, hln, hbase⟩
  have hn2 : (n : Int) ≤ 1000 := by omega
  clear hL hB hln hbase
  go_enter Try.func12, Try.ntmps12
  go_wp2
  go_loopw [3] (fun vi wr => ∃ k : Nat, k ≤ n ∧ vi = .int .i64 k ∧ Lists base wr B n v (overL t k) ∧ Turn (fun b => ∃ i, i < n ∧ (v i).ownBlock = some b) w wr) (fun vi _ => n - (intOf vi).toNat)
  case atStart => exact ⟨0, Nat.zero_le _, rfl, HX.out.1, Turn.refl _ _⟩
  case round =>
    obtain ⟨k, hk, rfl, hLs, hT⟩ := hrel
    by_cases hlt : k < n
    · have hi1 : (k : Int) < (n : Int) := by omega
      obtain ⟨L, hL⟩ : ∃ L, L = (t k).length := ⟨_, rfl⟩
      have HK : Hid (Lists base wr B n v (upd (overL t k) k (mixL k 0 (t k))) ∧ Turn (fun b => ∃ i, i < n ∧ (v i).ownBlock = some b) w wr ∧ L = (t k).length ∧ (L + 31) * 16 ≤ 140737488355328) := ⟨hLs.over_in, hT, hL, by rw [hL]; exact HX.out.2.2.1 k hlt⟩
      have hL2 : (L : Int) ≤ 8796093022208 := by have := HK.out.2.2.2; omega
      clear hLs hT hL
      go_wp2
      go_loopw [4] (fun vi wx => ∃ q : Nat, q ≤ L ∧ vi = .int .i64 q ∧ Lists base wx B n v (upd (overL t k) k (mixL k q (t k))) ∧ Turn (fun b => ∃ i, i < n ∧ (v i).ownBlock = some b) w wx) (fun vi _ => L - (intOf vi).toNat)
      case atStart => exact ⟨0, Nat.zero_le _, rfl, HK.out.1, HK.out.2.1⟩
      case round =>
        obtain ⟨q, hq, rfl, hLs, hT⟩ := hrel
        have hml : (mixL k q (t k)).length = L := by rw [mixL_len _ _ _ (by rw [← HK.out.2.2.1]; exact hq), ← HK.out.2.2.1]
        by_cases hlt2 : q < L
        · have hi2 : (q : Int) < (L : Int) := by omega
          have hown := hLs.own k hlt
          rw [upd_at] at hown
          obtain ⟨g, cap, hv, hR, hgb⟩ := hown.at_least q (by rw [hml]; exact hlt2)
          rw [hml] at hv
          have hc := hLs.ats k hlt
          rw [hv] at hc
          have hBg : B ≠ g := fun e => hLs.sp.off k hlt (by rw [hv, e]; rfl)
          have hgB : g ≠ B := fun e => hBg e.symm
          have HS : Hid (∀ W, Stay wr W → Lists base (putT W g q (1000 + (k : Int), (q : Int))) B n v (upd (overL t k) k (mixL k (q + 1) (t k))) ∧ Turn (fun b => ∃ i, i < n ∧ (v i).ownBlock = some b) w (putT W g q (1000 + (k : Int), (q : Int)))) := fun W hW =>
            ⟨(hLs.stay hW).over_step hlt (by rw [hv, HK.out.2.2.1]) (hR.stay hW) hgb (by rw [← HK.out.2.2.1]; exact hlt2), putT_turn (hT.trans (Turn.of_stay hW)) ⟨k, hlt, by rw [hv]; rfl⟩ _ _⟩
          have HR : Hid (∀ W, Stay wr W → W.cell? ⟨B, k, none⟩ = some (.slice (some ⟨g, 0, none⟩) L cap) ∧ ∃ z1 z2 : Int, W.cell? ⟨g, q * 2, none⟩ = some (.int .i64 z1) ∧ W.cell? ⟨g, q * 2 + 1, none⟩ = some (.int .i64 z2) ∧ ∀ j, W.frozen? ⟨g, j, none⟩ = false) := fun W hW => by
            have h9 := (hR.stay hW).cells q _ (List.getElem?_eq_getElem (by rw [hml]; exact hlt2))
            exact ⟨hW.cell hc, _, _, h9.1, h9.2, (hR.stay hW).free⟩
          have hw1 : IntKind.i64.wrap (1000 + (k : Int)) = 1000 + (k : Int) := by rw [IntKind.wrap_i64]; omega
          have hth : Calls Try.prog 7 #[.int .i64 (1000 + (k : Int)), .int .i64 (q : Int)] wr.drew fun e w' => e = .returned (.agg #[.int .i64 (1000 + (k : Int)), .int .i64 (q : Int)]) ∧ Hid (Stay wr w') ∧ (w'.cell? ⟨B, k, none⟩ = some (.slice (some ⟨g, 0, none⟩) L cap) ∧ ∃ z1 z2 : Int, w'.cell? ⟨g, q * 2, none⟩ = some (.int .i64 z1) ∧ w'.cell? ⟨g, q * 2 + 1, none⟩ = some (.int .i64 z2) ∧ ∀ j, w'.frozen? ⟨g, j, none⟩ = false) :=
            (thing_any _ _ _).mono fun e w' ⟨h1, h2⟩ => ⟨h1, (Stay.drew wr).trans h2, HR.out w' ((Stay.drew wr).trans h2)⟩
          clear hLs hT hml hown hv hR HR
          go_wp2_with fail
          go_region_held3 (fun W => W.cell? ⟨B, k, none⟩ = some (.slice (some ⟨g, 0, none⟩) L cap)) (first | assumption | go_keep) (first | (go_at_call 7; refine hth.mono ?_; rintro e8 w8 ⟨rfl, hs8, hc8, z1, z2, hz1, hz2, hfz⟩))
          have HS8 : Hid (Lists base (putT w8 g q (1000 + (k : Int), (q : Int))) B n v (upd (overL t k) k (mixL k (q + 1) (t k))) ∧ Turn (fun b => ∃ i, i < n ∧ (v i).ownBlock = some b) w (putT w8 g q (1000 + (k : Int), (q : Int)))) := HS.out w8 hs8.out
          clear hth hc hc8 hz1 hz2 hfz HS hs8
          go_wp2
          go_roundw
          case rel => exact ⟨q + 1, by omega, by go_num, HS8.out.1, HS8.out.2⟩
          case measure => simp [intOf]; omega
        · have hi2 : ¬ (q : Int) < (L : Int) := by omega
          obtain rfl : q = L := by omega
          have hown := hLs.own k hlt
          rw [upd_at] at hown
          obtain ⟨a, b, c, hv, _, _, _, _⟩ := hown.form
          rw [hml] at hv
          have hc := hLs.ats k hlt
          rw [hv] at hc
          have HS : Hid (Lists base wr B n v (overL t (k + 1)) ∧ Turn (fun b => ∃ i, i < n ∧ (v i).ownBlock = some b) w wr) := ⟨by rw [HK.out.2.2.1] at hLs; exact hLs.over_out, hT⟩
          clear hLs hT hml hown hv
          go_wp2
          go_roundw
          case rel => exact ⟨k + 1, by omega, by go_num, HS.out.1, HS.out.2⟩
          case measure => simp [intOf]; omega
    · have hi1 : ¬ (k : Int) < (n : Int) := by omega
      obtain rfl : k = n := by omega
      have hBw : B < wr.heap.size := Nat.lt_of_lt_of_le HX.out.2.1 hT.size
      have HL : Hid (Longs base wr.heap.size wr B k v v (fun j => (t j).length) (.slice none 0 0) 0 ∧ Turn (fun b => ∃ i, i < k ∧ (v i).ownBlock = some b) w wr ∧ base ≤ wr.heap.size) := ⟨hLs.longs hBw v, hT, Nat.le_trans HX.out.2.2.2 hT.size⟩
      generalize hM : wr.heap.size = M at HL
      have HM : Hid (w.heap.size ≤ M) := by rw [← hM]; exact hT.size
      clear hLs hT hBw hM
      go_wp2
      go_loopw [5, 6] (fun Lv vi wx => ∃ (q : Nat) (ms : Nat → Value), q ≤ k ∧ vi = .int .i64 q ∧ Longs base M wx B k v ms (fun j => (t j).length) Lv q ∧ Turn (fun b => ∃ i, i < k ∧ (v i).ownBlock = some b) w wx) (fun _ vi _ => k - (intOf vi).toNat)
      case atStart => exact ⟨0, v, Nat.zero_le _, rfl, HL.out.1, HL.out.2.1⟩
      case round =>
        obtain ⟨q, ms, hq, rfl, hLs, hT⟩ := hrel
        clear HL
        by_cases hlt : q < k
        · have hi1 : (q : Int) < (k : Int) := by omega
          obtain ⟨L, hL⟩ : ∃ L, L = (t q).length := ⟨_, rfl⟩
          have hown := hLs.todo q (Nat.le_refl _) hlt
          obtain ⟨a, b, c, hv, _, _, _, _⟩ := hown.form
          rw [markL_len, ← hL] at hv
          have hc := hLs.ats q hlt
          rw [hv] at hc
          have hG := hLs.grows hlt
          rw [← hL, hv] at hG
          have HK : Hid (Longs base M wr B k v ms (fun j => (t j).length) u5 q ∧ Turn (fun b => ∃ i, i < k ∧ (v i).ownBlock = some b) w wr ∧ L = (t q).length ∧ (L + 31) * 16 ≤ 140737488355328 ∧ v q = .slice a L c ∧ Grows base wr wr (.slice a L c) (.slice a L c) q L 0 ∧ wr.cell? ⟨B, q, none⟩ = some (.slice a L c)) := ⟨hLs, hT, hL, by rw [hL]; exact HX.out.2.2.1 q hlt, hv, hG, hc⟩
          have hL2 : (L : Int) ≤ 8796093022208 := by have := HK.out.2.2.2.1; omega
          clear hLs hT hL hown hv hG
          rename World => ws
          go_wp2
          go_loopw [7, 8] (fun m vi wx => ∃ p : Nat, p ≤ 30 ∧ vi = .int .i64 p ∧ Grows base ws wx (.slice a L c) m q L p) (fun _ vi _ => 30 - (intOf vi).toNat)
          case atStart => exact ⟨0, Nat.zero_le _, rfl, HK.out.2.2.2.2.2.1⟩
          case round =>
            obtain ⟨p, hp, rfl, hG⟩ := hrel
            clear hc
            by_cases hlt2 : p < 30
            · have hi2 : (p : Int) < 30 := by omega
              have hc2 := hG.turn.cell HK.out.2.2.2.2.2.2 (fun e => HK.out.1.sp.off q hlt (by rw [HK.out.2.2.2.2.1]; exact e))
              have ht := thing_any (1000 + (q : Int)) ((L : Int) + (p : Int)) wr
              have hw1 : IntKind.i64.wrap (1000 + (q : Int)) = 1000 + (q : Int) := by rw [IntKind.wrap_i64]; omega
              have hw2 : IntKind.i64.wrap ((L : Int) + (p : Int)) = (L : Int) + (p : Int) := by rw [IntKind.wrap_i64]; omega
              have HG : Hid (Grows base ws wr (.slice a L c) u7 q L p) := hG
              clear hG
              go_wp2_with fail
              refine ht.mono ?_
              rintro e9 w2 ⟨rfl, hs⟩
              obtain ⟨m3, w3, hr, hG3⟩ := (HG.out.stay hs).next (fun b e => Nat.lt_of_lt_of_le (HK.out.1.low q hlt b (by rw [HK.out.2.2.2.2.1]; exact e)) HK.out.1.size) (by have := HK.out.2.2.2.1; omega) (by have h1 := HX.out.2.2.2; have h2 := HK.out.2.1.size; have h3 := HG.out.turn.size; have h4 := hs.size; omega)
              have HR : Hid ((Builtin.append_ #[23, 23] 23 #[u7, .slice (some ⟨w2.heap.size, 0, none⟩) 1 1]).run Try.prog (w2.alloc (.cells #[.int .i64 (1000 + (q : Int)), .int .i64 ((L : Int) + (p : Int))] 26)) = .ok m3 w3 ∧ Grows base ws w3 (.slice a L c) m3 q L (p + 1)) := ⟨hr, hG3⟩
              clear hr hG3 HG ht hs hc2
              go_wp2_with (at_builtin; refine wpList_append_by rfl (.tmp 50) (.tmp 61) 23 23 rfl _ _ rfl rfl HR.out.1 ?_)
              go_roundw
              case rel => exact ⟨p + 1, by omega, by go_num, HR.out.2⟩
              case measure => simp [intOf]; omega
            · have hi2 : ¬ (p : Int) < 30 := by omega
              obtain rfl : p = 30 := by omega
              obtain ⟨am, bm, cm, hum, _, _, _, _⟩ := hG.own.form
              generalize (markL q (L + 30)).length = nm at hum
              subst hum
              obtain ⟨L3, w3, hr, hLn, hTn⟩ := HK.out.1.next hlt (m := .slice am nm cm) (by rw [← HK.out.2.2.1, HK.out.2.2.2.2.1]; exact hG) hn
              have HR : Hid ((Builtin.append_ #[22, 22] 22 #[u5, .slice (some ⟨wr.heap.size, 0, none⟩) 1 1]).run Try.prog (wr.alloc (.cells #[.slice am nm cm] 23)) = .ok L3 w3 ∧ Longs base M w3 B k v (fun j => if j = q then .slice am nm cm else ms j) (fun j => (t j).length) L3 (q + 1) ∧ Turn (fun b => ∃ i, i < k ∧ (v i).ownBlock = some b) w w3) := ⟨hr, hLn, HK.out.2.1.then hTn (fun i hi e => by
                rcases e with e | e
                · exact ⟨q, hlt, e⟩
                · have := HM.out; omega)⟩
              clear hr hLn hTn hG
              go_wp2_with (at_builtin; refine wpList_append_by rfl (.tmp 63) (.tmp 65) 22 22 rfl _ _ rfl rfl HR.out.1 ?_)
              go_roundw
              case rel => exact ⟨q + 1, _, by omega, by go_num, HR.out.2.1, HR.out.2.2⟩
              case measure => simp [intOf]; omega
        · have hi1 : ¬ (q : Int) < (k : Int) := by omega
          obtain rfl : q = k := by omega
          obtain ⟨aL, gL, cL, hLv, haL, hLc⟩ := hLs.names
          have HL : Hid (Longs base M wr B q v ms (fun j => (t j).length) u5 q ∧ Turn (fun b => ∃ i, i < q ∧ (v i).ownBlock = some b) w wr ∧ (0 < q → aL = some ⟨gL, 0, none⟩) ∧ ∀ j, j < q → wr.cell? ⟨gL, j, none⟩ = some (ms j)) := ⟨hLs, hT, haL, hLc⟩
          clear hLs hT haL hLc
          rw [hLv]
          clear hLv
          rename World => ws
          go_wp2
          go_loopw [9] (fun vi wx => ∃ p : Nat, p ≤ q ∧ vi = .int .i64 p ∧ Stay ws wx) (fun vi _ => q - (intOf vi).toNat)
          case atStart => exact ⟨0, Nat.zero_le _, rfl, Stay.refl _⟩
          case round =>
            obtain ⟨p, hp, rfl, hst⟩ := hrel
            by_cases hlt2 : p < q
            · have hi2 : (p : Int) < (q : Int) := by omega
              obtain ⟨L, hL⟩ : ∃ L, L = (t p).length := ⟨_, rfl⟩
              obtain ⟨g, cap, hgm, hR, _⟩ := (HL.out.1.new p hlt2 hlt2).at_least 0 (by rw [markL_len]; omega)
              obtain ⟨a, b, c, hv, hTv⟩ := (HL.out.1.old p hlt2 hlt2).form
              have hTg := hR.things
              rw [markL_len] at hgm hv
              rw [← hL] at hgm hTg hv hTv
              have hcL := HL.out.2.2.2 p hlt2
              have hcB := HL.out.1.ats p hlt2
              rw [hgm] at hcL
              rw [hv] at hcB
              obtain rfl := HL.out.2.2.1 (by omega)
              have HK : Hid (Stay ws wr ∧ ThS ws (some ⟨g, 0, none⟩) g 0 (markL p (L + 30)) ∧ ThS ws a b 0 (markL p L) ∧ ws.cell? ⟨gL, p, none⟩ = some (.slice (some ⟨g, 0, none⟩) (L + 30) cap) ∧ ws.cell? ⟨B, p, none⟩ = some (.slice a L c) ∧ (L + 31) * 16 ≤ 140737488355328) := ⟨hst, hTg, hTv, hcL, hcB, by rw [hL]; exact HX.out.2.2.1 p hlt2⟩
              have hL2 : (L : Int) ≤ 8796093022208 := by have := HK.out.2.2.2.2.2; omega
              clear hst hL hgm hR hv hTg hTv hcL hcB
              go_wp2
              go_loopw [10] (fun vi wx => ∃ r : Nat, r ≤ L + 30 ∧ vi = .int .i64 r ∧ Stay ws wx) (fun vi _ => L + 30 - (intOf vi).toNat)
              case atStart => exact ⟨0, Nat.zero_le _, rfl, HK.out.1⟩
              case round =>
                obtain ⟨r, hr, rfl, hst⟩ := hrel
                have hcL := hst.cell HK.out.2.2.2.1
                have hcB := hst.cell HK.out.2.2.2.2.1
                have HW : Hid (Stay ws wr) := hst
                by_cases hlt3 : r < L + 30
                · have hi3 : (r : Int) < (L : Int) + 30 := by omega
                  have h1 := (HK.out.2.1.stay hst).2 r (by rw [markL_len]; exact hlt3)
                  rw [markL_at _ _ _ hlt3, Nat.zero_add] at h1
                  have lL := World.block_lt_of_cell? wr _ hcL
                  have lB := World.block_lt_of_cell? wr _ hcB
                  have lg := World.block_lt_of_cell? wr _ h1.1
                  have lg2 := World.block_lt_of_cell? wr _ h1.2
                  have mL : ∀ n os, (grow (wr.drewN n) os).cell? ⟨gL, p, none⟩ = some (.slice (some ⟨g, 0, none⟩) (L + 30) cap) := fun n os => cell_grown lL hcL n os
                  have mB : ∀ n os, (grow (wr.drewN n) os).cell? ⟨B, p, none⟩ = some (.slice a L c) := fun n os => cell_grown lB hcB n os
                  have m1 : ∀ n os, (grow (wr.drewN n) os).cell? ⟨g, r * 2, none⟩ = some (.int .i64 (1000 + (p : Int))) := fun n os => cell_grown lg h1.1 n os
                  have m2 : ∀ n os, (grow (wr.drewN n) os).cell? ⟨g, r * 2 + 1, none⟩ = some (.int .i64 (r : Int)) := fun n os => cell_grown lg2 h1.2 n os
                  have hw1 : IntKind.i64.wrap (1000 + (p : Int)) = 1000 + (p : Int) := by rw [IntKind.wrap_i64]; omega
                  have hth : ∀ n os, Calls Try.prog 7 #[.int .i64 (1000 + (p : Int)), .int .i64 (r : Int)] (grow (wr.drewN n) os) fun e w' => e = .returned (.agg #[.int .i64 (1000 + (p : Int)), .int .i64 (r : Int)]) ∧ ∃ q os', w' = grow ((grow (wr.drewN n) os).drewN q) os' := fun n os => (thing_at (1000 + (p : Int)) (r : Int) _).mono fun e w' ⟨h1, h2⟩ => ⟨h1, 0, #[.cells #[.int .i64 (1000 + (p : Int)), .int .i64 (r : Int)] 26], by rw [h2, alloc_eq_grow]; rfl⟩
                  have hg := guardT
                  have hne : ∀ W, (binOp .neq 26 (.agg #[.int .i64 (1000 + (p : Int)), .int .i64 (r : Int)]) (.agg #[.int .i64 (1000 + (p : Int)), .int .i64 (r : Int)])).run Try.prog W = .ok (.bool false) W := fun W => by rw [neqT]; simp
                  have mixed : Try.prog.follows .mixedOrders = true := by kernel_rfl
                  by_cases hlt4 : r < L
                  · have hi4 : decide (r < L) = true := decide_eq_true hlt4
                    have hi5 : (r : Int) < (L : Int) := by omega
                    obtain rfl := HK.out.2.2.1.1 (by rw [markL_len]; omega)
                    have h2 := (HK.out.2.2.1.stay hst).2 r (by rw [markL_len]; exact hlt4)
                    rw [markL_at _ _ _ hlt4, Nat.zero_add] at h2
                    have lb := World.block_lt_of_cell? wr _ h2.1
                    have lb2 := World.block_lt_of_cell? wr _ h2.2
                    have m3 : ∀ n os, (grow (wr.drewN n) os).cell? ⟨b, r * 2, none⟩ = some (.int .i64 (1000 + (p : Int))) := fun n os => cell_grown lb h2.1 n os
                    have m4 : ∀ n os, (grow (wr.drewN n) os).cell? ⟨b, r * 2 + 1, none⟩ = some (.int .i64 (r : Int)) := fun n os => cell_grown lb2 h2.2 n os
                    clear h1 h2 hst hlt4
                    go_wp2_with fail
                    refine wp_region_quiet_grown (by assumption) (by kernel_rfl) ?_
                    repeat (go_big_quiet_step (first | (go_at_call 7; refine Calls.grown_of (hth _ _))))
                    refine wpQuiet_nil ?_
                    intro _ hw'
                    obtain ⟨⟨nq, osq⟩, hw''⟩ := hw'
                    subst hw''
                    have HW2 : Hid (Stay ws (grow (wr.drewN nq) osq)) := HW.out.trans ⟨rfl, rfl, rfl, by rw [size_grow]; exact Nat.le_add_right _ _, fun k hk => heap_grow_old _ _ hk⟩
                    clear hth mL mB m1 m2 m3 m4
                    go_wp2
                    go_roundw
                    case rel => exact ⟨r + 1, by omega, by go_num, HW2.out⟩
                    case measure => simp [intOf]; omega
                  · have hi5 : ¬ (r : Int) < (L : Int) := by omega
                    clear h1 hst
                    go_wp2_with fail
                    refine wp_region_quiet_grown (by assumption) (by kernel_rfl) ?_
                    repeat (go_big_quiet_step (first | (go_at_call 7; refine Calls.grown_of (hth _ _))))
                    refine wpQuiet_nil ?_
                    intro _ hw'
                    obtain ⟨⟨nq, osq⟩, hw''⟩ := hw'
                    subst hw''
                    have HW2 : Hid (Stay ws (grow (wr.drewN nq) osq)) := HW.out.trans ⟨rfl, rfl, rfl, by rw [size_grow]; exact Nat.le_add_right _ _, fun k hk => heap_grow_old _ _ hk⟩
                    clear hth mL mB m1 m2
                    go_wp2
                    go_roundw
                    case rel => exact ⟨r + 1, by omega, by go_num, HW2.out⟩
                    case measure => simp [intOf]; omega
                · have hi3 : ¬ (r : Int) < (L : Int) + 30 := by omega
                  clear hst
                  go_wp2
                  go_roundw
                  case rel => exact ⟨p + 1, by omega, by go_num, HW.out⟩
                  case measure => simp [intOf]; omega
            · have hi2 : ¬ (p : Int) < (q : Int) := by omega
              have HT : Hid (Turn (fun b => ∃ i, i < q ∧ (v i).ownBlock = some b) w wr) := HL.out.2.1.trans (Turn.of_stay hst)
              clear hst HL
              go_wp2
              go_ret
              exact ⟨rfl, HT.out⟩
end Go.Proofs.Ytnmaldgmlkcliaa
