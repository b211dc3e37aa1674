/- TupleLeast: its walk. -/
import Derived.Test.YtihkdaaghobckaaDoorZc
import Derived.Deep.QuietTactic
import Derived.BigQuiet
namespace Go.Proofs.YtihkdaaghobckaaDoor
open Go.RowKit Go.Maps

theorem Loans.step {w wr w1 w2 : World} {v v2 : Value} {us ts : List Tup} {t : Tup} {g c : Nat} (hst : Stay w wr) (hown : wr.ownsRow w.heap.size 22 1 v us.length (us.map Tup.v)) (hL : Loans w.heap.size wr us ts) (ht : ts[us.length]? = some t) (hs1 : Stay wr w1)
    (hl : Lent wr.heap.size w1 g c t.xs) (hg : (w1.alloc (.cells #[.slice (some ⟨g, 0, none⟩) t.xs.length c] 22)).grownBy w2 v.ownBlock) (hown2 : w2.ownsRow w.heap.size 22 1 v2 (us.length + 1) (us.map Tup.v ++ [.slice (some ⟨g, 0, none⟩) t.xs.length c])) :
    ∃ us' : List Tup, us'.length = us.length + 1 ∧ w2.ownsRow w.heap.size 22 1 v2 us'.length (us'.map Tup.v) ∧ Loans w.heap.size w2 us' ts ∧ Stay w w2 := by
  have hown1 : w1.ownsRow w.heap.size 22 1 v us.length (us.map Tup.v) := own_turn (S := fun _ => False) hown (Turn.of_stay hs1) (fun _ _ h => h)
  have ht2 : Turn (fun x => v.ownBlock = some x) w1 w2 := grown_turn hg (fun b e _ => e)
  refine ⟨us ++ [lentTup g c t.xs], by simp, ?_, ((hL.stay hs1).add ht (OwnI.mono hl hst.size)).turn hown1 ht2, ht2.stay (hst.trans hs1) (fun k hk e => ?_)⟩
  · rw [List.length_append, List.map_append]; exact hown2
  · have := (hown1.lt k e).1; omega

theorem Mid.make {w wr w2 : World} {v : Value} {us ts : List Tup} {bx cx : Nat} (hst : Stay w wr) (hown : wr.ownsRow w.heap.size 22 1 v us.length (us.map Tup.v)) (hL : Loans w.heap.size wr us ts) (he : us.length = ts.length)
    (hg : ((wr.alloc (.cells #[.int .i64 (-9)] 3)).alloc (.cells #[.slice (some ⟨wr.heap.size, 0, none⟩) 1 1] 22)).grownBy w2 v.ownBlock)
    (hown2 : w2.ownsRow w.heap.size 22 1 (.slice (some ⟨bx, 0, none⟩) (ts.length + 1) cx) (ts.length + 1) (us.map Tup.v ++ [.slice (some ⟨wr.heap.size, 0, none⟩) 1 1])) : Mid w w2 bx us ts := by
  have hst1 : Stay wr (wr.alloc (.cells #[.int .i64 (-9)] 3)) := Stay.new _ _
  have hown1 : (wr.alloc (.cells #[.int .i64 (-9)] 3)).ownsRow w.heap.size 22 1 v us.length (us.map Tup.v) := own_turn (S := fun _ => False) hown (Turn.of_stay hst1) (fun _ _ h => h)
  have ht2 : Turn (fun x => v.ownBlock = some x) (wr.alloc (.cells #[.int .i64 (-9)] 3)) w2 := grown_turn hg (fun b e _ => e)
  refine ⟨ht2.stay (hst.trans hst1) (fun k hk e => ?_), (hL.stay hst1).turn hown1 ht2, he, fun j u hu => ?_, wr.heap.size, ?_, ?_⟩
  · have := (hown1.lt k e).1; omega
  · have hj := (List.getElem?_eq_some_iff.1 hu).1
    exact row_cell hown2 j _ (by rw [List.getElem?_append_left (by simpa using hj), List.getElem?_map, hu]; rfl)
  · exact row_cell hown2 _ _ (by rw [List.getElem?_append_right (by simp [he])]; simp [he])
  · have h0 := new_cells wr [.int .i64 (-9)] 3 0 _ rfl
    rw [add_at, Nat.zero_add] at h0
    refine (World.cell?_of_block (a := ⟨wr.heap.size, 0, none⟩) (ht2.block _ (by show wr.heap.size < _; rw [World.size_alloc]; omega) (fun e => ?_))).trans h0
    have h9 : wr.heap.size < wr.heap.size := (hown.lt _ e).2
    omega

set_option maxRecDepth 100000 in
set_option maxHeartbeats 8000000 in
theorem leasts_walk (w : World) (a1 : Option Addr) (b1 o1 c1 : Nat) (ts : List Tup) (hx : TupsS w a1 b1 o1 ts) (hf : ∀ t ∈ ts, t.fair) (hz : ∀ t ∈ ts, t.xs.length * 8 ≤ 140737488351232) (hn : ts.length * 24 ≤ 140737488351232) :
    Calls Tryd.prog 6 #[.slice a1 ts.length c1] w fun e w' => e = .returned (.bool true) ∧ Stay w w' := by
  obtain ⟨i1, ki, kz0, kz1, kz2⟩ := info_parts infoInts
  have HX : Hid (TupsS w a1 b1 o1 ts ∧ (∀ t ∈ ts, t.fair) ∧ (∀ t ∈ ts, t.xs.length * 8 ≤ 140737488351232)) := ⟨hx, hf, hz⟩
  obtain ⟨M, hM⟩ : ∃ M, M = lstM (ts.map Tup.xs) := ⟨_, rfl⟩
  obtain ⟨B, hB⟩ : ∃ B, B = lstB (ts.map Tup.xs) := ⟨_, rfl⟩
  have hMl : M.length * 8 ≤ 140737488351232 := by rw [hM]; exact lstM_len _ (fun l hl => by obtain ⟨t, h1, rfl⟩ := List.mem_map.1 hl; exact hz t h1)
  have HR : Hid (∀ W, Stay w W → Calls Tryd.prog 26 #[.slice a1 ts.length c1] W fun e w' => ∃ v, e = .returned (.tuple #[v, .bool B]) ∧ OwnI W.heap.size w' v M ∧ Stay W w') := fun W hs => by
    rw [hM, hB]; exact rleast_all W a1 b1 o1 c1 ts (hx.stay hs) hf hz (by unfold maxLen; omega)
  have HL : Hid (∀ W bx cx us, Mid w W bx us ts → ts.length ≤ cx → cx ≤ maxLen → Calls Tryd.prog 25 #[.slice (some ⟨bx, 0, none⟩) ts.length cx] W fun e w' => ∃ v, e = .returned (.tuple #[v, .bool B]) ∧ OwnI W.heap.size w' v M ∧ Stay W w') := fun W bx cx us hm h1 h2 => by
    have h := least_all W _ bx 0 cx us (hm.tups hz) (by rw [hm.2.2.1]; exact h1) h2
    rw [hm.2.2.1, hm.2.1.same hm.2.2.1] at h
    rw [hM, hB]
    exact h
  clear hx hf hz hM hB
  have H0 := World.ownsRow_nil w w.heap.size 22 1
  go_enter Tryd.func6, Tryd.ntmps6
  go_wp2
  go_loopw [3, 4] (fun v i wr => ∃ (k : Nat) (us : List Tup), k ≤ ts.length ∧ us.length = k ∧ i = .int .i64 k ∧ wr.ownsRow w.heap.size 22 1 v us.length (us.map Tup.v) ∧ Loans w.heap.size wr us ts ∧ Stay w wr) (fun v i _ => ts.length - (intOf i).toNat)
  case atStart => exact ⟨0, [], Nat.zero_le _, rfl, rfl, H0, (fun j u h => by simp at h), Stay.refl _⟩
  case round =>
    obtain ⟨k, us, hk, hus, rfl, hown, hL, hst⟩ := hrel
    by_cases hlt : k < ts.length
    · have hi1 : (k : Int) < (ts.length : Int) := by omega
      obtain rfl := HX.out.1.1 (by omega)
      have hck := hst.cell (HX.out.1.2 k hlt).1
      have hti : ts[k]? = some ts[k] := List.getElem?_eq_getElem hlt
      have HT : Hid (ts[k].ok w ∧ ts[k].fair ∧ ts[k].xs.length * 8 ≤ 140737488351232 ∧ ts[us.length]? = some ts[k]) := ⟨(HX.out.1.2 k hlt).2, HX.out.2.1 _ (List.getElem_mem hlt), HX.out.2.2 _ (List.getElem_mem hlt), by rw [hus]; exact hti⟩
      generalize ts[k] = T at hck HT
      have HS : Hid (wr.ownsRow w.heap.size 22 1 u3 us.length (us.map Tup.v) ∧ Loans w.heap.size wr us ts ∧ Stay w wr) := ⟨hown, hL, hst⟩
      clear hti hown hL hst H0
      obtain ⟨ta, tb, tq, tc, xs⟩ := T
      unfold Tup.v at hck
      dsimp only at hck
      go_wp2_with fail
      refine (lend_any wr ta tb tq tc xs (HT.out.1.stay HS.out.2.2).1 HT.out.2.1 (by have h9 : xs.length * 8 ≤ 140737488351232 := HT.out.2.2.1; omega)).mono ?_
      rintro e w1 ⟨g1, k1, rfl, hl1, hs1⟩
      have H1 : Hid (Lent wr.heap.size w1 g1 k1 xs ∧ Stay wr w1 ∧ w1.ownsRow w.heap.size 22 1 u3 us.length (us.map Tup.v) ∧ w.heap.size ≤ w1.heap.size) := ⟨hl1, hs1, own_turn (S := fun _ => False) HS.out.1 (Turn.of_stay hs1) (fun _ _ h => h), Nat.le_trans HS.out.2.2.size hs1.size⟩
      clear hl1 hs1
      go_wp2_with (at_builtin; refine wpList_append_own _ rfl _ _ 36 rfl w.heap.size 22 i1 _ 1 24 Tryd.underlying36 ki kz0 kz1 kz2 rfl (by decide) u3 us.length (us.map Tup.v) rfl (H1.out.2.2.1.alloc _) ⟨w1.heap.size, 0, none⟩ 1 1 [.slice (some ⟨g1, 0, none⟩) xs.length k1] rfl rfl (new_cells w1 [.slice (some ⟨g1, 0, none⟩) xs.length k1] 22) (by simp [Value.oneCell']) (by unfold maxLen; omega) (by omega) (by rw [World.size_alloc]; have := H1.out.2.2.2; omega) ?_; intro v2 w2 hown2 hg2 hn2; have HN : Hid (∃ us' : List Tup, us'.length = us.length + 1 ∧ w2.ownsRow w.heap.size 22 1 v2 us'.length (us'.map Tup.v) ∧ Loans w.heap.size w2 us' ts ∧ Stay w w2) := Loans.step HS.out.2.2 HS.out.1 HS.out.2.1 HT.out.2.2.2 H1.out.2.1 H1.out.1 hg2 hown2; clear hown2 hg2 hn2)
      go_roundw
      case rel =>
        obtain ⟨us', e1, e2, e3, e4⟩ := HN.out
        exact ⟨k + 1, us', by omega, by omega, by go_num, e2, e3, e4⟩
      case measure => simp [intOf]; omega
    · have hi1 : ¬ (k : Int) < (ts.length : Int) := by omega
      obtain rfl : k = ts.length := by omega
      have HS : Hid (wr.ownsRow w.heap.size 22 1 u3 us.length (us.map Tup.v) ∧ Loans w.heap.size wr us ts ∧ Stay w wr) := ⟨hown, hL, hst⟩
      have HS2 : Hid (wr.ownsRow w.heap.size 22 1 u3 ts.length (us.map Tup.v) ∧ w.heap.size ≤ wr.heap.size) := ⟨by rw [← hus]; exact hown, hst.size⟩
      clear hown hL hst H0
      go_wp2_with (at_builtin; refine wpList_append_own _ rfl _ _ 36 rfl w.heap.size 22 i1 _ 1 24 Tryd.underlying36 ki kz0 kz1 kz2 rfl (by decide) u3 ts.length (us.map Tup.v) rfl ((HS2.out.1.alloc _).alloc _) ⟨wr.heap.size + 1, 0, none⟩ 1 1 [.slice (some ⟨wr.heap.size, 0, none⟩) 1 1] rfl rfl (by have h := new_cells (wr.alloc (.cells #[.int .i64 (-9)] 3)) [.slice (some ⟨wr.heap.size, 0, none⟩) 1 1] 22; rw [World.size_alloc] at h; exact h) (by simp [Value.oneCell']) (by unfold maxLen; omega) (by omega) (by rw [World.size_alloc, World.size_alloc]; have := HS2.out.2; omega) ?_; intro v2 w2 hown2 hg2 hn2; obtain ⟨bx, cx, rfl⟩ := own_form hown2; have hcx : (ts.length : Int) ≤ (cx : Int) := (by have := (rowBound hown2 rfl).2.1; omega); have hcx1 : (ts.length : Int) + 1 ≤ (cx : Int) := (by have := (rowBound hown2 rfl).2.1; omega); have HM : Hid (Mid w w2 bx us ts ∧ ts.length ≤ cx ∧ cx ≤ maxLen) := ⟨Mid.make HS.out.2.2 HS.out.1 HS.out.2.1 hus hg2 hown2, (by omega), (rowBound hown2 rfl).2.2⟩; clear hown2 hg2 hn2)
      refine (HL.out w2 bx cx us HM.out.1 HM.out.2.1 HM.out.2.2).mono ?_
      rintro e w3 ⟨v1, rfl, hown, hs⟩
      obtain ⟨A1, rfl, hA1l, hA1, hI1⟩ := hown.ans
      have S3 : Hid (Mid w w3 bx us ts ∧ (A1.len = M.length ∧ IsAns w2.heap.size w3 A1 ∧ IntsS w3 A1.a A1.g 0 M) ∧ Stay w2 w3) := ⟨HM.out.1.stay hs, ⟨hA1l, hA1, hI1⟩, hs⟩
      clear hs hown hA1l hA1 hI1 HS HS2
      go_wp2_with fail
      refine (HL.out w3 bx cx us S3.out.1 HM.out.2.1 HM.out.2.2).mono ?_
      rintro e w4 ⟨v2, rfl, hown, hs⟩
      obtain ⟨A2, rfl, hA2l, hA2, hI2⟩ := hown.ans
      have S4 : Hid (Mid w w4 bx us ts ∧ Two w2 w4 A1 A2 w2.heap.size w3.heap.size M M) := ⟨S3.out.1.stay hs, ⟨S3.out.2.1.1, S3.out.2.1.2.1.stay hs, S3.out.2.1.2.2.stay hs⟩, ⟨hA2l, hA2, hI2⟩, fun h => (S3.out.2.1.2.1.2 h).2.2.2.2.1, Nat.le_refl _, S3.out.2.2.size, hs.size, S3.out.2.2.trans hs⟩
      generalize w3.heap.size = n2 at S4
      clear hs hown hA2l hA2 hI2 S3
      go_wp2_with fail
      refine (HR.out w4 S4.out.1.1).mono ?_
      rintro e w5 ⟨v3, rfl, hown, hs⟩
      obtain ⟨av, bv, cv, rfl, hIv⟩ := hown.ints
      have S5 : Hid (Mid w w5 bx us ts ∧ Two w2 w5 A1 A2 w2.heap.size n2 M M ∧ IntsS w5 av bv 0 M) := ⟨S4.out.1.stay hs, S4.out.2.stay hs, hIv⟩
      clear hs hown hIv S4 HR HL
      go_upto_region 10 with fail
      go_cut [85] (fun b wx => b = .bool false ∧ Mid w wx bx us ts ∧ Two w2 wx A1 A2 w2.heap.size n2 M M)
      case first =>
        have hi5 : (ts.length : Int) < (ts.length : Int) + 1 := by omega
        cases B
        all_goals
          go_wp2_with fail
          refine (ints_any w5 A1.a av A1.g 0 bv 0 A1.cap cv M M S5.out.2.1.1.2.2 S5.out.2.2 (by unfold maxLen; omega) (by unfold maxLen; omega)).mono ?_
          rw [show decide (M = M) = true by simp]
          rintro e w6 ⟨rfl, m, hm⟩
          have S6 : Hid (Mid w w6 bx us ts ∧ Two w2 w6 A1 A2 w2.heap.size n2 M M ∧ IntsS w6 av bv 0 M) := by rw [hm]; exact ⟨S5.out.1.stay (Stay.drewN _ _), S5.out.2.1.stay (Stay.drewN _ _), S5.out.2.2.stay (Stay.drewN _ _)⟩
          clear hm S5
          go_wp2_with fail
          refine (ints_any w6 A2.a av A2.g 0 bv 0 A2.cap cv M M S6.out.2.1.2.1.2.2 S6.out.2.2 (by unfold maxLen; omega) (by unfold maxLen; omega)).mono ?_
          rw [show decide (M = M) = true by simp]
          rintro e w7 ⟨rfl, m, hm⟩
          have S7 : Hid (Mid w w7 bx us ts ∧ Two w2 w7 A1 A2 w2.heap.size n2 M M) := by rw [hm]; exact ⟨S6.out.1.stay (Stay.drewN _ _), S6.out.2.1.stay (Stay.drewN _ _)⟩
          clear hm S6
          obtain ⟨z, hz1, hz2⟩ := S7.out.1.2.2.2.2
          go_wp2_with fail
          go_meet
          exact ⟨rfl, S7.out⟩
      case rest =>
        obtain ⟨rfl, h8⟩ := hcut
        have S8 : Hid (Mid w wc bx us ts ∧ Two w2 wc A1 A2 w2.heap.size n2 M M) := h8
        clear h8 S5
        go_wp2_with fail
        refine (two_book S8.out.2 ⟨by omega, by omega⟩).mono ?_
        rintro e w13 ⟨rfl, hap⟩
        have HAP : Hid (Calls Tryd.prog 16 #[.pointer (some ⟨wc.heap.size, 0, none⟩)] w13 fun e w'' => e = .returned (.bool true) ∧ Stay w2 w'') := hap
        clear hap
        go_wp2_with fail
        refine HAP.out.mono ?_
        rintro e w14 ⟨rfl, hs⟩
        have S14 : Hid (Mid w w14 bx us ts) := HM.out.1.stay hs
        clear hs HAP S8 HM
        go_wp2_with fail
        go_loopw [12] (fun i wr => ∃ k : Nat, k ≤ ts.length ∧ i = .int .i64 k ∧ Mid w wr bx us ts) (fun i _ => ts.length - (intOf i).toNat)
        case atStart => exact ⟨0, Nat.zero_le _, rfl, S14.out⟩
        case round =>
          obtain ⟨k, hk, rfl, hm⟩ := hrel
          by_cases hlt : k < ts.length
          · have hi2 : (k : Int) < (ts.length : Int) := by omega
            have hi3 : (k : Int) < (ts.length : Int) + 1 := by omega
            obtain rfl := HX.out.1.1 (by omega)
            have hck := hm.1.cell (HX.out.1.2 k hlt).1
            have hok := (HX.out.1.2 k hlt).2
            have hu : us[k]? = some us[k] := List.getElem?_eq_getElem (by omega)
            obtain ⟨t, g, c, e1, e2, e3⟩ := hm.2.1 k _ hu
            have hcu := hm.2.2.2.1 k _ hu
            rw [e2] at hcu
            obtain rfl : ts[k] = t := by rw [List.getElem?_eq_getElem hlt] at e1; exact Option.some.inj e1
            have HK : Hid (∀ n, Calls Tryd.prog 11 #[.slice (some ⟨g, 0, none⟩) ts[k].xs.length c, .slice ts[k].a ts[k].xs.length ts[k].c] (World.drewN wr n) fun e w' => e = .returned (.bool true) ∧ ∃ m, w' = (World.drewN wr n).drewN m) := fun n => kept_any (World.drewN wr n) g c ts[k].a ts[k].b ts[k].o ts[k].c _ ts[k].xs (e3.stay (Stay.drewN _ _)) ((hok.stay (hm.1.trans (Stay.drewN _ _))).1)
            have HMM : Hid (Mid w wr bx us ts) := hm
            clear hm hok hu e1 e2 e3 S14
            unfold Tup.v at hck hcu
            unfold lentTup at hcu
            dsimp only at hck hcu
            generalize ts[k].xs.length = q at hck hcu HK
            generalize ts[k].a = ta at hck HK
            generalize ts[k].c = tc at hck HK
            go_wp2
            go_quiet ((go_at_call 11; exact Calls.quiet_of (HK.out _)))
            go_wp2
            go_roundw
            case rel => exact ⟨k + 1, by omega, by go_num, HMM.out.stay (Stay.drewN _ _)⟩
            case measure => simp [intOf]; omega
          · have hi2 : ¬ (k : Int) < (ts.length : Int) := by omega
            have HMM : Hid (Mid w wr bx us ts) := hm
            clear hm S14
            go_wp2_with fail
            refine (works_any wr).mono ?_
            rintro e w15 ⟨rfl, hs⟩
            have S15 : Hid (Stay w w15) := HMM.out.1.trans hs
            clear hs
            go_wp2_with fail
            go_ret
            exact ⟨rfl, S15.out⟩
end Go.Proofs.YtihkdaaghobckaaDoor
