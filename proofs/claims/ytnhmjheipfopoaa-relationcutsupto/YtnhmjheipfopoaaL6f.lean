/- RelationCuts' walk, of an arity that is good. -/
import Derived.Test.YtnhmjheipfopoaaL6e
import Derived.Deep.Cut
namespace Go.Proofs.Ytnhmjheipfopoaa.L
open Go.RowKit Go.Maps Go.Shelf Go.Proofs.Ytnhmjheipfopoaa
section
variable {w0 w : World} {rb ar : Nat} {T : List (List Int)}

/-- The columns without the last one. -/
def lessC (C : List Int) : List Int := C.dropLast
theorem less_ints {W : World} {a : Option Addr} {b o : Nat} {C : List Int} (h : IntsS W a b o C) : IntsS W a b o (lessC C) := by
  unfold lessC
  refine ⟨fun h0 => h.1 (by simp at h0; omega), fun j hj => ?_⟩
  have hj2 : j < C.length := by simp at hj; omega
  rw [h.2 j hj2]
  simp
theorem less_len (C : List Int) : (lessC C).length = C.length - 1 := by simp [lessC]

set_option maxRecDepth 100000 in
set_option maxHeartbeats 8000000 in
theorem cuts_good (w : World) (har : ar ≤ 16) (a0 : Option Addr) (b0 o0 cap0 : Nat) (us : List Tup) (hu : TupsA w a0 b0 o0 us) (aC : Option Addr) (bC oC cC : Nat) (C : List Int) (hC : IntsS w aC bC oC C) (hlC : C.length ≤ 1048576) (hcC : C.length ≤ cC) (cut : Int) :
    Calls Try.prog 4 #[.int .i64 ar, .slice a0 us.length cap0, .slice aC C.length cC, .int .i64 cut] w fun e w' => e = .returned (.bool true) ∧ Stay w w' := by
  have h3 := known_any w
  have hnum := q4num_any
  have hp := ptr_some
  have hlu := hu.len
  have HU : Hid (TupsA w a0 b0 o0 us) := hu
  have HC : Hid (IntsS w aC bC oC C) := hC
  clear hu hC
  go_enter Try.func4, Try.ntmps4
  go_wp2_with (first
    | (go_at_call 7; refine h3.mono ?_; rintro e w1 ⟨rfl, hs⟩; have H1 : Hid (Stay w w1) := hs; have hN := kn_begin (ar := ar) w1 har; clear hs h3)
    | (go_at_call 16; refine hN.mono ?_; rintro e w2 ⟨rfl, hkn⟩; have H2 : Hid (KnA w1 (w1.heap.size + 1) ar [] w2) := hkn; clear hkn hN; have HU1 : Hid (TupsA w1 a0 b0 o0 us) := HU.out.stay H1.out; have HC1 : Hid (IntsS w1 aC bC oC C) := HC.out.stay H1.out; clear HU HC)
    | (go_at_call 17; refine (hnum _ _).mono ?_; rintro e w9 ⟨rfl, hw⟩; have hw' := hw.symm; subst hw'))
  generalize w1.heap.size + 1 = rb at H2
  go_loopw [11] (fun i wr => ∃ k : Nat, k ≤ us.length ∧ i = .int .i64 k ∧ KnA w1 rb ar (foldT ar ((us.take k).map Tup.xs)) wr) (fun i _ => us.length - (intOf i).toNat)
  case atStart => exact ⟨0, Nat.zero_le _, rfl, H2.out⟩
  case round =>
    obtain ⟨k, hk, rfl, hkn⟩ := hrel
    by_cases hlt : k < us.length
    · have hi1 : (k : Int) < (us.length : Int) := by omega
      obtain rfl := HU1.out.at0 (by omega)
      have hTl := foldT_len ar ((us.take k).map Tup.xs)
      rw [List.length_map, List.length_take] at hTl
      obtain ⟨hck, hlent⟩ := one_add HU1.out hkn (by omega) hlt
      have HN : Hid (addT ar (foldT ar ((us.take k).map Tup.xs)) us[k].xs = foldT ar ((us.take (k + 1)).map Tup.xs)) := by
        show _ = _
        rw [List.take_succ_eq_append_getElem hlt, List.map_append, List.map_singleton, foldT_snoc]
      rw [HN.out] at hlent
      clear hkn H2 hTl HN
      generalize us[k].xs.length = m at hck hlent
      generalize us[k].a = ta at hck hlent
      generalize us[k].c = tc at hck hlent
      go_wp2_with (first
        | (go_at_call 11; refine hlent.mono ?_; rintro e w3 ⟨g, c, rfl, hadd⟩; clear hlent)
        | (go_at_call 18; refine hadd.mono ?_; rintro e w4 ⟨v, rfl, hkn⟩; have H4 : Hid (KnA w1 rb ar (foldT ar ((us.take (k + 1)).map Tup.xs)) w4) := hkn; clear hkn hadd))
      go_roundw
      case rel => exact ⟨k + 1, by omega, by go_num, H4.out⟩
      case measure => simp [intOf]; omega
    · have hi1 : ¬ (k : Int) < (us.length : Int) := by omega
      obtain rfl : k = us.length := by omega
      rw [List.take_length] at hkn
      obtain ⟨T, hT⟩ : ∃ T, T = foldT ar (us.map Tup.xs) := ⟨_, rfl⟩
      rw [← hT] at hkn
      have hTl : T.length ≤ 1048576 := by
        have := foldT_len ar (us.map Tup.xs)
        rw [List.length_map] at this
        rw [hT]; omega
      have H5 : Hid (KnA w1 rb ar T wr) := hkn
      have hlen := ka_len hkn
      have hdis := ka_distinct hkn (by omega) aC bC oC cC C HC1.out (by unfold maxLen; omega)
      clear hkn hT H2
      cases hrow : rowL ar C (-1) 0 with
      | none =>
        rw [show distV ar T C = #[.int .i64 0, .int .i64 2] by unfold distV; rw [hrow]] at hdis
        clear hrow
        go_wp2_with (first
          | (go_at_call 19; refine hlen.mono ?_; rintro e w9 ⟨rfl, hw⟩; have hw' := hw.symm; subst hw'; clear hlen)
          | (go_at_call 20; refine hdis.mono ?_; rintro e w4 ⟨rfl, hkn⟩; have H6 : Hid (Stay w w4) := H1.out.trans hkn.base; clear hkn hdis)
          | (go_at_call 17; refine (hnum _ _).mono ?_; rintro e w9 ⟨rfl, hw⟩; have hw' := hw.symm; subst hw'))
        go_ret
        exact ⟨rfl, H6.out⟩
      | some c =>
        rw [show distV ar T C = #[.int .i64 ((keyl c T).length : Int), .int .i64 0] by unfold distV; rw [hrow]] at hdis
        obtain ⟨c', hrow'⟩ := row_less hrow
        have HR : Hid (rowL ar C (-1) 0 = some c ∧ rowL ar C.dropLast (-1) 0 = some c') := ⟨hrow, hrow'⟩
        clear hrow hrow'
        go_upto_if 85 with (first
          | (go_at_call 19; refine hlen.mono ?_; rintro e w9 ⟨rfl, hw⟩; have hw' := hw.symm; subst hw'; clear hlen)
          | (go_at_call 20; refine hdis.mono ?_; rintro e w4 ⟨rfl, hkn⟩; have H6 : Hid (KnA w1 rb ar T w4) := hkn; clear hkn hdis)
          | (go_at_call 17; refine (hnum _ _).mono ?_; rintro e w9 ⟨rfl, hw⟩; have hw' := hw.symm; subst hw'))
        go_cut [15] from 32 (fun v wx => v = .slice aC (lessC C).length cC ∧ wx = w4)
        case first =>
          have hll := less_len C
          by_cases h0 : C.length = 0
          · have hg : ¬ (0 : Int) < (C.length : Int) := by omega
            have HL : Hid ((lessC C).length = C.length) := by show _ = _; omega
            clear hll h0
            go_wp2
            go_meet
            exact ⟨by rw [HL.out], rfl⟩
          · have hg : (0 : Int) < (C.length : Int) := by omega
            have h2 : (C.length : Int) - 1 ≤ (cC : Int) := by omega
            have h4 : 0 ≤ (C.length : Int) - 1 := by omega
            have HL : Hid ((lessC C).length = ((C.length : Int) - 1).toNat) := by show _ = _; omega
            clear hll h0
            go_wp2
            go_meet
            refine ⟨?_, rfl⟩
            first
              | (rw [less_len]; done)
              | rw [HL.out]
        case rest =>
          obtain ⟨rfl, rfl⟩ := hcut
          have hdis := ka_distinct H6.out (by omega) aC bC oC cC (lessC C) (less_ints HC1.out) (by rw [less_len]; unfold maxLen; omega)
          rw [show distV ar T (lessC C) = #[.int .i64 ((keyl c' T).length : Int), .int .i64 0] by unfold distV lessC; rw [HR.out.2]] at hdis
          have hq1 := keyl_len c T
          have hq2 := keyl_few (cut_less har HR.out.1 HR.out.2) T
          have hq3 := fun h => keyl_pos (c := c') (T := T) h
          generalize (keyl c' T).length = few at hdis hq2 hq3
          go_upto_region 18 with (first
            | (go_at_call 20; refine hdis.mono ?_; rintro e w5 ⟨rfl, hkn⟩; have H7 : Hid (KnA w1 rb ar T w5) := hkn; clear hkn hdis))
          go_cut [117] from 32 (fun v wx => v = .bool false ∧ wx = w5)
          case first =>
            have g1 : ¬ ((keyl c T).length : Int) < (few : Int) := by omega
            have g2 : ¬ (T.length : Int) < ((keyl c T).length : Int) := by omega
            by_cases h0 : 0 < T.length
            · have g3 : (0 : Int) < (T.length : Int) := by omega
              have g4 : ¬ (few : Int) < 1 := by have := hq3 h0; omega
              clear hq1 hq2 hq3 h0
              go_wp2_with (go_at_call 17; refine (hnum _ _).mono ?_; rintro e w9 ⟨rfl, hw⟩; have hw' := hw.symm; subst hw')
              go_meet
              exact ⟨by simp; omega, rfl⟩
            · have g3 : ¬ (0 : Int) < (T.length : Int) := by omega
              clear hq1 hq2 hq3 h0
              go_wp2_with (go_at_call 17; refine (hnum _ _).mono ?_; rintro e w9 ⟨rfl, hw⟩; have hw' := hw.symm; subst hw')
              go_meet
              exact ⟨by simp; omega, rfl⟩
          case rest =>
            obtain ⟨rfl, rfl⟩ := hcut
            clear H6 hq1 hq2 hq3
            go_wp2
            go_loopw [18, 19, 20] (fun s q i wr => ∃ k : Nat, k ≤ T.length ∧ i = .int .i64 k ∧ s = .int .i64 (tot c T (keyl c (T.take k)) : Int) ∧ q = .int .i64 ((keyl c (T.take k)).length : Int) ∧ KnA w1 rb ar T wr) (fun _ _ i _ => T.length - (intOf i).toNat)
            case atStart => exact ⟨0, Nat.zero_le _, rfl, by simp [keyl, tot], by simp [keyl], H7.out⟩
            case round =>
              obtain ⟨k, hk, rfl, rfl, rfl, hkn⟩ := hrel
              by_cases hlt : k < T.length
              · have hi1 : (k : Int) < (T.length : Int) := by omega
                obtain ⟨t, ht⟩ : ∃ t, T[k]? = some t := ⟨_, List.getElem?_eq_getElem hlt⟩
                have htl : t.length = ar := hkn.rows t (List.mem_of_getElem? ht)
                have hat := ka_at hkn (by omega) ht
                have hone := oneC c T t k ht cut hTl
                obtain ⟨K, hK⟩ : ∃ K, K = cutC t C := ⟨_, rfl⟩
                have hKl : K.length = C.length := by rw [hK, cutC_len]
                rw [← cutC_cutL har HR.out.1 t, ← hK] at hone
                obtain ⟨f, hf⟩ : ∃ f : Int → Int → Nat, f = fun x y => (mid (plc c T K) x y).length := ⟨_, rfl⟩
                have HONE : Hid (OneC c T t k cut (f 0 k) (f 0 cut) (f 0 T.length) (fun x => f x T.length)) := by rw [hf]; exact hone
                have HCut : Hid (∀ a b c9 Y, IntsS Y a b 0 t → Stay wr Y → Calls Try.prog 22 #[.slice a ar c9, .slice aC C.length cC] Y fun e w' => ∃ a b cp, e = .returned (.slice a K.length cp) ∧ KeyA w1 rb ar T a b K w') := fun a b c9 Y hI hs => by
                  have := ka_cut hkn hs a b c9 t hI htl aC bC oC cC C HC1.out HR.out.1
                  rw [htl, ← hK] at this
                  exact this
                have HCnt : Hid (∀ a2 b2 cp Y x y, KeyA w1 rb ar T a2 b2 K Y → Calls Try.prog 23 #[.pointer (some ⟨rb, 0, none⟩), .slice aC C.length cC, .slice a2 K.length cp, .int .i64 x, .int .i64 y] Y fun e w' => e = .returned (.tuple #[.int .i64 (f x y : Int), .int .i64 0]) ∧ KeyA w1 rb ar T a2 b2 K w') := fun a2 b2 cp Y x y hky => by
                  have := ky_count hky (by omega) aC bC oC cC cp C HC1.out (by unfold maxLen; omega) HR.out.1 hKl x y
                  rw [hf]; exact this
                rw [htl] at hat
                clear hkn ht htl hone hK hf hKl H7
                generalize K.length = m at HCut HCnt
                go_upto_region 32 with (first
                  | (go_at_call 21; refine hat.mono ?_; rintro e w6 ⟨a6, b6, c6, rfl, hI, hs⟩; have hcutc := HCut.out a6 b6 c6 w6 hI hs; clear hI hs hat HCut)
                  | (go_at_call 22; refine hcutc.mono ?_; rintro e w7 ⟨a7, b7, c7, rfl, hky⟩; have HK7 : Hid (KeyA w1 rb ar T a7 b7 K w7) := hky; clear hky hcutc)
                  | (go_at_call 23; refine (HCnt.out _ _ _ _ _ _ HK7.out).mono ?_; rintro e w8 ⟨rfl, hky⟩; have HK8 : Hid (KeyA w1 rb ar T a7 b7 K w8) := hky; clear hky HK7)
                  | (go_at_call 23; refine (HCnt.out _ _ _ _ _ _ HK8.out).mono ?_; rintro e w9 ⟨rfl, hky⟩; have HK9 : Hid (KeyA w1 rb ar T a7 b7 K w9) := hky; clear hky HK8)
                  | (go_at_call 23; refine (HCnt.out _ _ _ _ _ _ HK9.out).mono ?_; rintro e w10 ⟨rfl, hky⟩; have HK10 : Hid (KeyA w1 rb ar T a7 b7 K w10) := hky; clear hky HK9)
                  | (go_at_call 23; refine (HCnt.out _ _ _ _ _ _ HK10.out).mono ?_; rintro e w11 ⟨rfl, hky⟩; have HK11 : Hid (KnA w1 rb ar T w11) := hky.kn; clear hky HK10 HCnt))
                have h1 := HONE.out.whole
                have h2 := HONE.out.two (if 0 < cut then cut else 0) (by split <;> omega)
                have h3 := HONE.out.sums
                have h4 := HONE.out.same
                have htb : tot c T (keyl c (T.take k)) ≤ 1099511627776 := by
                  have h5 := tot_le c T (keyl c (T.take k))
                  have h6 := keyl_len c (T.take k)
                  rw [List.length_take] at h6
                  have h7 := Nat.mul_le_mul (show (keyl c (T.take k)).length ≤ 1048576 by omega) hTl
                  omega
                have hqb : (keyl c (T.take k)).length ≤ 1048576 := by
                  have h6 := keyl_len c (T.take k)
                  rw [List.length_take] at h6
                  omega
                try dsimp only at h2
                clear HONE
                have H3 : Hid (∀ k', k' = k + 1 → f 0 (k : Int) = 0 → tot c T (keyl c (T.take k')) = tot c T (keyl c (T.take k)) + f 0 (T.length : Int) ∧ (keyl c (T.take k')).length = (keyl c (T.take k)).length + 1) := fun k' e => e ▸ h3
                have H4 : Hid (∀ k', k' = k + 1 → f 0 (k : Int) ≠ 0 → tot c T (keyl c (T.take k')) = tot c T (keyl c (T.take k)) ∧ (keyl c (T.take k')).length = (keyl c (T.take k)).length) := fun k' e h => by rw [e, h4 h]; exact ⟨rfl, rfl⟩
                clear h3 h4
                generalize tot c T (keyl c (T.take k)) = s0 at htb H3 H4 ⊢
                generalize (keyl c (T.take k)).length = q0 at hqb H3 H4 ⊢
                generalize f 0 (k : Int) = ah at H3 H4 ⊢
                generalize f 0 cut = lo at h2 ⊢
                generalize f (if 0 < cut then cut else 0) (T.length : Int) = hi at h2 ⊢
                generalize f 0 (T.length : Int) = wh at h1 h2 H3 H4 ⊢
                obtain ⟨h1, h1b⟩ := h1
                by_cases h0 : ah = 0
                · have h0' : (ah : Int) = 0 := by omega
                  have HS := H3.out (k + 1) rfl h0
                  clear H3 H4 h0
                  go_wp2_with (go_at_call 17; refine (hnum _ _).mono ?_; rintro e w12 ⟨rfl, hw⟩; have hw' := hw.symm; subst hw')
                  go_roundw
                  case rel => exact ⟨k + 1, by omega, by go_num, by rw [HS.1]; go_num, by rw [HS.2]; go_num, HK11.out⟩
                  case measure => simp [intOf]; omega
                · have h0' : ¬ (ah : Int) = 0 := by omega
                  have HS := H4.out (k + 1) rfl h0
                  clear H3 H4 h0
                  go_wp2_with (go_at_call 17; refine (hnum _ _).mono ?_; rintro e w12 ⟨rfl, hw⟩; have hw' := hw.symm; subst hw')
                  go_roundw
                  case rel => exact ⟨k + 1, by omega, by go_num, by rw [HS.1], by rw [HS.2], HK11.out⟩
                  case measure => simp [intOf]; omega
              · have hi1 : ¬ (k : Int) < (T.length : Int) := by omega
                obtain rfl : k = T.length := by omega
                rw [List.take_length, tot_all]
                have H8 : Hid (Stay w wr) := H1.out.trans hkn.base
                clear hkn H7
                go_wp2
                go_ret
                exact ⟨rfl, H8.out⟩
end
end Go.Proofs.Ytnhmjheipfopoaa.L
