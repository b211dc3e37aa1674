/- OrderMerges: the walk. -/
import Derived.Test.YtnmaldgmlkcliaaOMI
import Derived.Test.YtnmaldgmlkcliaaRW
namespace Go.Proofs.Ytnmaldgmlkcliaa
open Go.RowKit Go.Maps Go.Shelf Go.Sort

set_option maxRecDepth 100000 in
set_option maxHeartbeats 8000000 in
theorem merges_walk (w : World) (a : Option Addr) (b off c : Nat) (l : List Ls) (hS : LsS w a b off l) (hl : l.length ≤ 1048576) (hN : (allL l).length ≤ 1048576) :
    Calls Try.prog 3 #[.slice a l.length c] w fun e w' => e = .returned (.bool true) ∧ Stay w w' := by
  have hwk := works_any
  have hth := thing_any (-3) (-3)
  have egK : ∀ args w, (callFunc 13 args).run Try.prog w = .ok (.enter 13 args) w := enters_of Try.func13 (by kernel_rfl) rfl
  have hfl := flat_sort (l.map Ls.ts)
  obtain ⟨n, hn⟩ : ∃ n, n = l.length := ⟨_, rfl⟩
  have HX : Hid (LsS w a b off l ∧ n = l.length ∧ (∀ L ∈ l, L.ts.length ≤ 1048576) ∧ ((l.map Ls.ts).map sortR).flatten.length ≤ 1048576) := ⟨hS, hn, fun L hL => Nat.le_trans (allL_mem hL) hN, by rw [hfl]; exact hN⟩
  rw [← hn]
  rw [← hn] at hl
  clear hS hn hN hfl
  go_enter Try.func3, Try.ntmps3
  go_wp2
  go_loopw [3, 4, 5, 6] (fun v3 v4 i _ wr => ∃ k : Nat, k ≤ n ∧ i = .int .i64 (k : Int) ∧ ∃ R X, Gr w wr v3 v4 R X ∧ R.map Ls.ts = ((l.map Ls.ts).map sortR).take k ∧ X.map Ls.ts = ((l.map Ls.ts).map sortR).take k) (fun _ _ i _ _ => n - (intOf i).toNat)
  case atStart => exact ⟨0, Nat.zero_le _, rfl, [], [], Gr.nil w, rfl, rfl⟩
  case round =>
    obtain ⟨k, hk, rfl, R, X, hG, hR, hXm⟩ := hrel
    have hRl : R.length = k := by
      have := congrArg List.length hR
      rw [List.length_map, List.length_take, List.length_map, List.length_map, ← HX.out.2.1] at this
      omega
    have hXl : X.length = k := by
      have := congrArg List.length hXm
      rw [List.length_map, List.length_take, List.length_map, List.length_map, ← HX.out.2.1] at this
      omega
    by_cases hlt : k < n
    · have hkl : k < l.length := by rw [← HX.out.2.1]; exact hlt
      obtain rfl := HX.out.1.1 (by omega)
      obtain ⟨hc1, hin⟩ := (HX.out.1.stay hG.stay).2 k hkl
      have hki : (k : Int) < (n : Int) := by omega
      have hki0 : (0 : Int) ≤ (k : Int) := by omega
      have hLl := HX.out.2.2.1 _ (List.getElem_mem hkl)
      have hso := rsort_any wr l[k].a l[k].b l[k].off l[k].c l[k].ts hin.1 (by omega)
      have HT : Hid (((l.map Ls.ts).map sortR).take (k + 1) = ((l.map Ls.ts).map sortR).take k ++ [sortR l[k].ts] ∧ (sortR l[k].ts).length ≤ 1048576) := ⟨by
        rw [List.take_succ_eq_append_getElem (by simpa using hkl), List.getElem_map, List.getElem_map], by rw [sortR_len]; exact hLl⟩
      unfold Ls.val at hc1
      have HG : Hid (Gr w wr u3 u4 R X ∧ R.map Ls.ts = ((l.map Ls.ts).map sortR).take k ∧ X.map Ls.ts = ((l.map Ls.ts).map sortR).take k ∧ R.length = k ∧ X.length = k) := ⟨hG, hR, hXm, hRl, hXl⟩
      clear hin hG hR hXm hRl hXl hLl
      generalize sortR l[k].ts = st at *
      generalize l[k] = y at *
      obtain ⟨ya, yb, yo, yc, ys⟩ := y
      dsimp only at *
      generalize ys.length = yn at *
      go_wp2_with (first
        | (go_at_call 5; refine hso.mono ?_; rintro e V1 ⟨s, rfl, hos, hs1⟩
           obtain ⟨sa, sb, sc, rfl, hT1, hnil, hsl, hlt1⟩ := hos.form
           have hnew : ∀ b, (Value.slice sa st.length sc).ownBlock = some b → wr.heap.size ≤ b := fun b hb => (hlt1 b hb).1
           have hblk : 0 < st.length → (Value.slice sa st.length sc).ownBlock = some sb := fun h0 => by rw [hT1.1 h0]; rfl
           have hlow3 := fun k e => (World.ownsRow.lt HG.out.1.row3 k e).2
           have hlow4 := fun k e => (World.ownsRow.lt HG.out.1.row4 k e).2
           obtain ⟨v3', V2, hap3, hG3, hL3⟩ := (HG.out.1.go hs1).push3 (L := ⟨sa, sb, 0, sc, st⟩) ⟨hT1, hnil⟩ (fun h0 => by
             have hb1 := hnew sb (hblk h0)
             exact ⟨fun e => by have := hlow3 sb e; omega, fun e => by have := hlow4 sb e; omega⟩) (by rw [HG.out.2.2.2.1]; omega)
           have hle := lend_any V2 sa sb 0 sc st hL3.1 hL3.2 (by have := HT.out.2; omega)
           have HG3 : Hid (Gr w V2 v3' u4 (R ++ [⟨sa, sb, 0, sc, st⟩]) X) := hG3
           clear hso hos hs1 hT1 hnil hsl hlt1 hnew hblk hlow3 hlow4 hG3 hL3)
        | (at_builtin; refine wpList_append_by rfl _ _ 22 22 rfl _ _ rfl rfl hap3 ?_; clear hap3)
        | (go_at_call 6; refine hle.mono ?_; rintro e V3 ⟨g, gc, rfl, hlen, hs3⟩
           have hlow3 := fun k e => (World.ownsRow.lt HG3.out.row3 k e).2
           have hlow4 := fun k e => (World.ownsRow.lt HG3.out.row4 k e).2
           have hg2 := hlen.2
           obtain ⟨v4', V4, hap4, hG4⟩ := (HG3.out.go hs3).push4 (g := g) (c := gc) (ts := st) ⟨hlen.1, Nat.le_trans HG3.out.stay.size hg2⟩ (fun e => by have := hlow3 g e; omega) (fun e => by have := hlow4 g e; omega) (by rw [HG.out.2.2.2.2]; omega)
           have HG4 : Hid (Gr w V4 v3' v4' (R ++ [⟨sa, sb, 0, sc, st⟩]) (X ++ [⟨some ⟨g, 0, none⟩, g, 0, gc, st⟩])) := hG4
           clear hle hlen hs3 hlow3 hlow4 hg2 hG4)
        | (at_builtin; refine wpList_append_by rfl _ _ 22 22 rfl _ _ rfl rfl hap4 ?_; clear hap4))
      go_roundw
      case rel => exact ⟨k + 1, by omega, by simp, _, _, HG4.out, by rw [List.map_append, HG.out.2.1, HT.out.1]; rfl, by rw [List.map_append, HG.out.2.2.1, HT.out.1]; rfl⟩
      case measure => simp [intOf]; omega
    · have hki : ¬ (k : Int) < (n : Int) := by omega
      obtain rfl : k = n := by omega
      rw [List.take_of_length_le (by rw [List.length_map, List.length_map, ← HX.out.2.1]; exact Nat.le_refl _)] at hR hXm
      have hXN : (allL X).length ≤ 1048576 := by unfold allL; rw [hXm]; exact HX.out.2.2.2
      have hRX : allL R = allL X := allL_eq (hR.trans hXm.symm)
      have hrise : ∀ L ∈ X, Rises L.ts := fun L hL => by
        have : L.ts ∈ (l.map Ls.ts).map sortR := by rw [← hXm]; exact List.mem_map.2 ⟨L, hL, rfl⟩
        obtain ⟨t, _, e⟩ := List.mem_map.1 this
        rw [← e]; exact sortR_rises t
      have heq : R.map Ls.ts = X.map Ls.ts := hR.trans hXm.symm
      have HG : Hid (Gr w wr u3 u4 R X ∧ (allL X).length ≤ 1048576 ∧ allL R = allL X ∧ (∀ L ∈ X, Rises L.ts) ∧ R.length = k ∧ X.length = k ∧ R.map Ls.ts = X.map Ls.ts) := ⟨hG, hXN, hRX, hrise, hRl, hXl, heq⟩
      clear hG hXN hRX hrise hRl hXl heq hR hXm
      go_wp2_with fail
      refine (hth _).mono ?_
      rintro e W1 ⟨rfl, hs1⟩
      obtain ⟨G, cap, V, hap, hLain⟩ := (HG.out.1.go hs1).done (by rw [HG.out.2.2.2.2.2.1]; omega)
      rw [HG.out.2.2.2.2.2.1] at hap
      have hcut := cutL_to G (k + 1) cap k (by have := hLain.cap; have := HG.out.2.2.2.2.2.1; omega)
      obtain ⟨a3, b3, c3, hv3, hS3⟩ := hLain.sorted
      have hme : ∀ W, Stay V W → Calls Try.prog 8 #[.func (.func 9) #[] #[], .slice (some ⟨G, 0, none⟩) k cap] W (HH.MergeB W (sortR (allL X))) := fun W hW => by
        have := HH.merge_any W (some ⟨G, 0, none⟩) G 0 cap X (hLain.go hW).lists HG.out.2.2.2.1 (fun L hL => by have := ((hLain.lent L hL).1).bound; omega) (by rw [HG.out.2.2.2.2.2.1]; exact hl) HG.out.2.1
        rwa [HG.out.2.2.2.2.2.1] at this
      rw [HG.out.2.2.2.2.1] at hv3
      have hrm : ∀ W, Stay V W → Calls Try.prog 11 #[.slice a3 k c3] W fun e w' => ∃ v, e = .returned v ∧ OwnT W.heap.size w' v (sortR (allL X)) ∧ Stay W w' := fun W hW => by
        have := rmerge_any W a3 b3 0 c3 R (hS3.stay hW) (by rw [HG.out.2.2.2.2.1]; omega) (by rw [HG.out.2.2.1]; have := HG.out.2.1; omega)
        rwa [HG.out.2.2.2.2.1, HG.out.2.2.1] at this
      obtain ⟨M, hlast⟩ := hLain.last
      rw [HG.out.2.2.2.2.2.1] at hlast
      have HL : Hid (Lain w V G cap u3 R X ∧ LsS V a3 b3 0 R ∧ (sortR (allL X)).length ≤ 1048576) := ⟨hLain, hS3, by rw [sortR_len]; exact HG.out.2.1⟩
      have hik : (k : Int) < ((k + 1 : Nat) : Int) := by omega
      have hik0 : (0 : Int) ≤ (k : Int) := by omega
      rw [hv3] at HL ⊢
      have HK : Hid (X.length = k ∧ R.length = k ∧ R.map Ls.ts = X.map Ls.ts) := ⟨HG.out.2.2.2.2.2.1, HG.out.2.2.2.2.1, HG.out.2.2.2.2.2.2⟩
      clear hLain hS3 hv3 hs1 hth HG
      generalize sortR (allL X) = SX at *
      go_wp2_with (first
        | (at_builtin; refine wpList_append_by rfl _ _ 22 22 rfl _ _ rfl rfl hap ?_; clear hap; have hme1 := hme V (Stay.refl _))
        | (go_at_call 8; refine hme1.mono ?_; rintro e W2 ⟨va, rfl, hoa, hs2⟩
           obtain ⟨aa, ma, ca, rfl⟩ := own_sl hoa
           have HA : Hid (OwnT V.heap.size W2 (.slice aa ma ca) SX ∧ Stay V W2) := ⟨hoa, hs2⟩
           have hme2 := hme W2 hs2; clear hme1 hme hoa hs2)
        | (go_at_call 8; refine hme2.mono ?_; rintro e W3 ⟨vb, rfl, hob, hs3⟩
           obtain ⟨ab, mb, cb, rfl⟩ := own_sl hob
           have HB : Hid (OwnT W2.heap.size W3 (.slice ab mb cb) SX ∧ Stay W2 W3) := ⟨hob, hs3⟩
           have hrm3 := hrm W3 (HA.out.2.trans hs3); clear hme2 hrm hob hs3)
        | (go_at_call 11; refine hrm3.mono ?_; rintro e W4 ⟨vr, rfl, hor, hs4⟩
           have sm1 := same_own2 (HA.out.1.stay (HB.out.2.trans hs4)) hor
           have HS4 : Hid (Stay W3 W4) := hs4
           clear hrm3 hor hs4)
        | (go_at_call 10; refine sm1.mono ?_; rintro e W5 ⟨rfl, hs5⟩
           have HS5 : Hid (Stay W3 W5) := HS4.out.trans hs5
           have sm2 := same_own2 (HB.out.1.stay HS5.out) (HA.out.1.stay (HB.out.2.trans HS5.out))
           clear sm1 hs5)
        | (go_at_call 10; refine sm2.mono ?_; rintro e W6 ⟨rfl, hs6⟩
           have HS6 : Hid (Stay W3 W6) := HS5.out.trans hs6
           have hl6 := ((HA.out.2.trans HB.out.2).trans HS6.out).cell hlast
           have hz := HA.out.2.size
           have hli := lists_two (HA.out.1.stay (HB.out.2.trans HS6.out)) (HB.out.1.stay HS6.out) (fun k e => (HA.out.1.lt k e).2) hz
           have hz6 := ((HA.out.2.trans HB.out.2).trans HS6.out).size
           have hap2 := apart_any (W6.alloc (.cells #[.slice aa ma ca, .slice ab mb cb] 23)) V.heap.size W6.heap.size 2 (twoV (.slice aa ma ca) (.slice ab mb cb)) (twoL SX SX) hli (by rw [World.size_alloc]; omega) (by omega) (fun i hi => by
             have := HL.out.2.2
             match i, hi with
             | 0, _ => show (SX.length + 31) * 16 ≤ _; omega
             | 1, _ => show (SX.length + 31) * 16 ≤ _; omega) (by rw [World.size_alloc]; omega)
           have HT : Hid (∀ W7, Turn (fun b => ∃ i, i < 2 ∧ (twoV (.slice aa ma ca) (.slice ab mb cb) i).ownBlock = some b) (W6.alloc (.cells #[.slice aa ma ca, .slice ab mb cb] 23)) W7 → Stay V W7) := fun W7 hT => hT.stay (((HA.out.2.trans HB.out.2).trans HS6.out).alloc _) (fun b hb ⟨i, hi, e⟩ => by
             match i, hi with
             | 0, _ => have := (HA.out.1.lt b e).1; omega
             | 1, _ => have := (HB.out.1.lt b e).1; omega)
           clear sm2 hs6 hli hz hz6)
        | (go_at_call 12; refine hap2.mono ?_; rintro e W7 ⟨rfl, hT7⟩; have HS7 : Hid (Stay V W7) := HT.out W7 hT7; clear hap2 hT7))
      go_loopw [9] (fun i wr' => ∃ j : Nat, j ≤ k ∧ i = .int .i64 (j : Int) ∧ Stay V wr') (fun i _ => k - (intOf i).toNat)
      case atStart => exact ⟨0, Nat.zero_le _, rfl, HS7.out⟩
      case round =>
        rename World => w8
        obtain ⟨j, hj, rfl, hs8⟩ := hrel
        by_cases hlt2 : j < k
        · have hjX : j < X.length := by rw [HK.out.1]; exact hlt2
          have hjR : j < R.length := by rw [HK.out.2.1]; exact hlt2
          obtain ⟨hc4, -⟩ := (HL.out.1.lists.stay hs8).2 j hjX
          obtain rfl := HL.out.2.1.1 (by omega)
          obtain ⟨hc3, hi3⟩ := (HL.out.2.1.stay hs8).2 j hjR
          obtain ⟨hle4, hla4⟩ := HL.out.1.lent _ (List.getElem_mem hjX)
          have hts : R[j].ts = X[j].ts := by
            have h1 : (R.map Ls.ts)[j]'(by simpa using hjR) = (X.map Ls.ts)[j]'(by simpa using hjX) := by simp only [HK.out.2.2]
            simpa using h1
          have hkp := fun V' (hV' : Stay w8 V') => kept_any V' X[j].b X[j].c R[j].a R[j].b R[j].off R[j].c w.heap.size X[j].ts (hle4.stay (hs8.trans hV')) (by rw [← hts]; exact hi3.1.stay hV')
          rw [Nat.zero_add] at hc3 hc4
          unfold Ls.val at hc3 hc4
          rw [hla4] at hc4
          rw [hts] at hc3
          have hji : (j : Int) < (k : Int) := by omega
          have hji1 : (j : Int) < ((k + 1 : Nat) : Int) := by omega
          have hji2 : (j : Int) < (k : Int) + 1 := by omega
          have hji0 : (0 : Int) ≤ (j : Int) := by omega
          clear hi3 hle4 hla4 hts
          generalize X[j] = x at *
          generalize R[j] = r at *
          obtain ⟨xa, xb, xo, xc, xt⟩ := x
          obtain ⟨ra, rb, ro, rc, rt⟩ := r
          dsimp only at *
          generalize xt.length = xn at *
          have e3 : w8.drew.cell? _ = _ := hc3
          have e4 : w8.drew.cell? _ = _ := hc4
          go_upto_region 16 with fail
          go_region_law (first
            | (refine HH.step_go rfl 13 _ _ rfl (args := #[.slice (some ⟨xb, 0, none⟩) xn xc, .slice ra xn rc]) (by simp [Act.eval]) egK ?_; refine (hkp _ (by first | exact Stay.drewN _ _ | exact Stay.drew _)).mono ?_; rintro e W9 ⟨rfl, hs9⟩; refine ⟨_, rfl, ?_⟩; have HS9 : Hid (Stay V W9) := hs8.trans (Stay.trans (by first | exact Stay.drew _ | exact Stay.drewN _ _) hs9); clear hkp hs9))
          all_goals
            go_wp2_with fail
            go_roundw
            case rel => exact ⟨j + 1, by omega, by simp, HS9.out⟩
            case measure => simp [intOf]; omega
        · have hji : ¬ (j : Int) < (k : Int) := by omega
          go_wp2_with (go_at_call 14; refine (hwk _).mono ?_; rintro e W9 ⟨rfl, hs9⟩)
          go_ret
          exact ⟨rfl, (HL.out.1.stay.trans hs8).trans hs9⟩
end Go.Proofs.Ytnmaldgmlkcliaa
