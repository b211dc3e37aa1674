/- FactsBack: the walk. -/
import Derived.Test.YthpecmdfppdkaaaFBm
import Derived.Test.YthpecmdfppdkaaaFTa2
namespace Go.Proofs.Ythpecmdfppdkaaa
open Go.RowKit Go.Maps

theorem sumE_at {t : List (List UInt8)} {k : Nat} (h : k < t.length) : sumE (t.take (k + 1)) = sumE (t.take k) + (t[k].length + cntE t[k]) ∧ sumE (t.take k) + (t[k].length + cntE t[k]) ≤ sumE t := by
  have e1 : sumE (t.take (k + 1)) = sumE (t.take k) + (t[k].length + cntE t[k]) := by
    rw [List.take_succ_eq_append_getElem h, sumE_app]; simp [sumE]
  refine ⟨e1, ?_⟩
  rw [← e1]
  have := sumE_app (t.take (k + 1)) (t.drop (k + 1))
  rw [List.take_append_drop] at this
  omega
theorem sizeG_at {t : List (List ByteArray)} {k : Nat} (h : k < t.length) : sizeG (t.take (k + 1)) = sizeG (t.take k) + (1 + (t[k].length - 1) + sumE (dat t[k])) ∧ sizeG (t.take k) + (1 + (t[k].length - 1) + sumE (dat t[k])) ≤ sizeG t := by
  have e1 : sizeG (t.take (k + 1)) = sizeG (t.take k) + (1 + (t[k].length - 1) + sumE (dat t[k])) := by
    rw [List.take_succ_eq_append_getElem h, sizeG_app]; simp [sizeG]
  refine ⟨e1, ?_⟩
  rw [← e1]
  have := sizeG_app (t.take (k + 1)) (t.drop (k + 1))
  rw [List.take_append_drop] at this
  omega

set_option maxRecDepth 100000 in
set_option maxHeartbeats 8000000 in
theorem back_walk (w : World) (a : Option Addr) (b off c : Nat) (ts : List Tx) (z : Int) (hT : TxsS w a b off ts) (hb : sumG (ts.map Tx.xs) ≤ 1048576) (hm : ∀ t ∈ ts, t.xs.length ≤ 1048576) (hl : ts.length ≤ 1048576) :
    Calls Try.prog 7 #[.slice a ts.length c, .int .i64 z] w fun e w' => e = .returned (.bool true) ∧ Stay w w' := by
  have hn := lnum_any
  have hkn := known_any w
  have hwr := fun V (hV : Stay w V) => Write_any (c := c) (hT.stay hV) (by omega) (fun t ht => by have := hm t ht; omega) (by omega) z
  unfold writeT at hwr
  have hll := linesL_len (ts.map Tx.xs)
  by_cases h0 : refZ (ts.map Tx.xs) z = 0
  · rw [if_pos h0] at hwr
    have hrb := read_back h0
    have hrd := fun V => Read_any (toB (linesL (ts.map Tx.xs))) z V (by rw [toB_size]; omega)
    rw [data_toB, hrb] at hrd
    dsimp only at hrd hwr
    rw [toG_dat] at hrd
    rw [show (⟨(linesL (ts.map Tx.xs)).toArray⟩ : ByteArray) = toB (linesL (ts.map Tx.xs)) from rfl] at hwr
    have hsz : (toB (linesL (ts.map Tx.xs))).size = sizeG (ts.map Tx.xs) := by rw [toB_size, sizeG_lines]
    have hG : sizeG (ts.map Tx.xs) ≤ 2097152 := by rw [sizeG_lines]; omega
    generalize toB (linesL (ts.map Tx.xs)) = X at *
    obtain ⟨n, hnn⟩ : ∃ n, n = ts.length := ⟨_, rfl⟩
    have HN : Hid (n = ts.length) := hnn
    have HT : Hid (TxsS w a b off ts ∧ (∀ t ∈ ts, t.xs.length ≤ 1048576)) := ⟨hT, hm⟩
    have hsame : ∀ W (hW : Stay w W) v us, OwnG W.heap.size W v us (ts.map Tx.xs) → True := fun _ _ _ _ _ => trivial
    have hq : ∀ (V : World) (base : Nat) (v : Value) (us : List Value), Stay w V → OwnG base V v us (ts.map Tx.xs) → Calls Try.prog 24 #[v, .slice a n c] V fun e w' => e = .returned (.bool true) ∧ Stay V w' := fun V base v us hV hown => by
      obtain ⟨a2, b2, c2, xs, rfl, h2, h3, -⟩ := hown.txs
      have hxl : xs.length = ts.length := by have := congrArg List.length h3; simpa using this
      refine (same_any V a2 a b2 0 b off c2 c xs ts h2 (hT.stay hV) (by omega) (by omega) (fun t ht => ?_) (fun t ht => by have := hm t ht; unfold maxLen; omega)).mono ?_ |> fun q => by rw [hnn]; exact q
      · have : t.xs ∈ ts.map Tx.xs := by rw [← h3]; exact List.mem_map.2 ⟨t, ht, rfl⟩
        obtain ⟨u, hu, e⟩ := List.mem_map.1 this
        have := hm u hu
        rw [← e]; unfold maxLen; omega
      · intro e w' h
        refine ⟨by rw [h.1, decide_eq_true h3], ?_⟩
        obtain ⟨q, hq⟩ := h.2
        rw [hq]; exact Stay.drewN _ _
    rw [← hnn] at hwr hl ⊢
    obtain ⟨G, hGG⟩ : ∃ G, G = sizeG (ts.map Tx.xs) := ⟨_, rfl⟩
    have HG : Hid (G = sizeG (ts.map Tx.xs)) := hGG
    rw [← hGG] at hsz hG
    clear hrb h0 hll hT hm hnn hsame hb hGG
    go_enter Try.func7, Try.ntmps7
    go_wp2_with (first
      | (go_at_call 17; refine hkn.mono ?_; rintro e W1 ⟨rfl, hs1⟩; have hwr1 := hwr W1 hs1; clear hkn hwr)
      | (go_at_call 27; refine hwr1.mono ?_; rintro e W2 ⟨rfl, hs2⟩; clear hwr1)
      | (go_at_call 22; refine (hrd _).mono ?_; rintro e W3 ⟨v3, us3, rfl, hG3, hs3⟩; have HS3 : Hid (Stay w W3) := (hs1.trans hs2).trans hs3; have hq3 := hq W3 _ v3 us3 HS3.out hG3; clear hG3 hrd hq)
      | (go_at_call 24; refine hq3.mono ?_; rintro e W4 ⟨rfl, hs4⟩; clear hq3)
      | (go_at_call 15; refine (hn _ _).mono ?_; rintro e w' ⟨rfl, hw'⟩; have hw2 := hw'.symm; subst hw2))
    have HS4 : Hid (Stay w W4) := HS3.out.trans hs4
    clear hs1 hs2 hs3 hs4 HS3
    go_loopw [10, 11] (fun sz i wr => ∃ k : Nat, k ≤ n ∧ i = .int .i64 (k : Int) ∧ sz = .int .i64 ((sizeG ((ts.map Tx.xs).take k) : Nat) : Int) ∧ wr = W4) (fun _ i _ => n - (intOf i).toNat)
    case atStart => exact ⟨0, Nat.zero_le _, rfl, rfl, rfl⟩
    case round =>
      obtain ⟨k, hk, rfl, rfl, rfl⟩ := hrel
      by_cases hlt : k < n
      · have hki : (k : Int) < (n : Int) := by omega
        have hkt : k < ts.length := by rw [← HN.out]; exact hlt
        obtain ⟨g1, g2⟩ := sizeG_at (t := ts.map Tx.xs) (k := k) (by rw [List.length_map]; exact hkt)
        rw [List.getElem_map] at g1 g2
        rw [← HG.out] at g2
        have HG1 : Hid (_ = _) := g1
        obtain rfl := HT.out.1.1 (by omega)
        obtain ⟨hc1, hS1⟩ := (HT.out.1.stay HS4.out).2 k hkt
        unfold Tx.v at hc1
        have hml := HT.out.2 _ (List.getElem_mem hkt)
        clear g1
        generalize ts[k] = t at *
        obtain ⟨ta, tb, to, tc, tx⟩ := t
        unfold Tx.S at hS1
        dsimp only at *
        have HS1 : Hid (StrsS wr ta tb to tx) := hS1
        obtain ⟨m, hmm⟩ : ∃ m, m = tx.length := ⟨_, rfl⟩
        have HM : Hid (m = tx.length) := hmm
        rw [← hmm] at hc1 g2 hml
        generalize sizeG ((ts.map Tx.xs).take k) = A at *
        obtain ⟨E, hE⟩ : ∃ E, E = sumE (dat tx) := ⟨_, rfl⟩
        rw [← hE] at g2
        have HE : Hid (E = sumE (dat tx)) := hE
        clear hS1 hmm hE
        go_wp2
        obtain ⟨B, hB⟩ : ∃ B : Nat, B = A + 1 + (m - 1) := ⟨_, rfl⟩
        have hBi : (A : Int) + 1 + max 0 ((m : Int) - 1) = (B : Int) := by omega
        rw [hBi]
        have hBG : B + E ≤ G := by omega
        have HB : Hid (A + (1 + (m - 1) + E) = B + E) := by show _ = _; omega
        clear hBi hB g2
        go_loopw [10, 12] (fun sz i wr' => ∃ k2 : Nat, k2 ≤ m ∧ i = .int .i64 (k2 : Int) ∧ sz = .int .i64 ((B + sumE ((dat tx).take k2) : Nat) : Int) ∧ wr' = wr) (fun _ i _ => m - (intOf i).toNat)
        case atStart => exact ⟨0, Nat.zero_le _, rfl, rfl, rfl⟩
        case round =>
          obtain ⟨k2, hk2, rfl, rfl, rfl⟩ := hrel
          by_cases hlt2 : k2 < m
          · have hki2 : (k2 : Int) < (m : Int) := by omega
            have hkx : k2 < tx.length := by rw [← HM.out]; exact hlt2
            obtain ⟨g3, g4⟩ := sumE_at (t := dat tx) (k := k2) (by rw [dat_len]; exact hkx)
            rw [dat_at _ _ hkx] at g3 g4
            rw [← HE.out] at g4
            have HG3 : Hid (_ = _) := g3
            obtain rfl := HS1.out.1 (by omega)
            have hc2 := HS1.out.2 k2 hkx
            generalize tx[k2] = y at *
            rw [data_len] at g4
            generalize sumE ((dat tx).take k2) = S at *
            obtain ⟨C, hC⟩ : ∃ C : Nat, C = B + S + y.size := ⟨_, rfl⟩
            have hCi : ((B + S : Nat) : Int) + (y.size : Int) = (C : Int) := by omega
            have hCi2 : (B : Int) + (S : Int) + (y.size : Int) = (C : Int) := by omega
            have hCG : C + cntE y.data.toList ≤ G := by omega
            have hcE := cntE_le y.data.toList
            rw [data_len] at hcE
            have hys : y.size ≤ 2097152 := by omega
            have hCG2 : C ≤ 2097152 := by omega
            have HC : Hid (C = B + S + y.size) := hC
            clear g3 hC g4
            go_wp2
            try rw [hCi]
            try rw [hCi2]
            clear hCi hCi2
            go_loopw [10, 14] (fun sz i wr' => ∃ j : Nat, j ≤ y.size ∧ i = .int .i64 (j : Int) ∧ sz = .int .i64 ((C + cntE (y.data.toList.take j) : Nat) : Int) ∧ wr' = wr) (fun _ i _ => y.size - (intOf i).toNat)
            case atStart => exact ⟨0, Nat.zero_le _, rfl, rfl, rfl⟩
            case round =>
              obtain ⟨j, hj, rfl, rfl, rfl⟩ := hrel
              by_cases hlt3 : j < y.size
              · have hki3 : (j : Int) < (y.size : Int) := by omega
                have g5 := cntE_take (l := y.data.toList) (k := j) (by rw [data_len]; exact hlt3)
                rw [data_at _ _ hlt3] at g5
                have g6 : cntE (y.data.toList.take j) ≤ j := by
                  have := cntE_le (y.data.toList.take j)
                  rw [List.length_take] at this; omega
                obtain ⟨x, hx⟩ : ∃ x, y[j] = x := ⟨_, rfl⟩
                rw [hx] at g5
                have hct : y[j].toNat = x.toNat := by rw [hx]
                have hx2 : x.toNat < 256 := UInt8.toNat_lt x
                generalize cntE (y.data.toList.take j) = D at *
                clear hx
                by_cases h9 : x = 9
                · subst h9
                  rw [show UInt8.toNat 9 = 9 from rfl] at hct
                  have HF : Hid (cntE (y.data.toList.take (j + 1)) = D + 1) := by show _ = _; rw [g5]; rfl
                  clear g5
                  go_wp2
                  go_roundw
                  case rel => exact ⟨j + 1, by omega, by simp, by first | (rw [HF.out]; simp; done) | (rw [HF.out]; simp; omega) | (simp [HF.out]; done) | (simp [HF.out]; omega) | (have h9 := HF.out; simp; omega), by first | rfl | trivial⟩
                  case measure => simp [intOf]; omega
                have q9 := byte_ne h9
                rw [show ((UInt8.toNat 9 : Nat) : Int) = 9 from rfl] at q9
                by_cases h10 : x = 10
                · subst h10
                  rw [show UInt8.toNat 10 = 10 from rfl] at hct
                  have HF : Hid (cntE (y.data.toList.take (j + 1)) = D + 1) := by show _ = _; rw [g5]; rfl
                  clear g5 q9 h9
                  go_wp2
                  go_roundw
                  case rel => exact ⟨j + 1, by omega, by simp, by first | (rw [HF.out]; simp; done) | (rw [HF.out]; simp; omega) | (simp [HF.out]; done) | (simp [HF.out]; omega) | (have h9 := HF.out; simp; omega), by first | rfl | trivial⟩
                  case measure => simp [intOf]; omega
                have q10 := byte_ne h10
                rw [show ((UInt8.toNat 10 : Nat) : Int) = 10 from rfl] at q10
                by_cases h92 : x = 92
                · subst h92
                  rw [show UInt8.toNat 92 = 92 from rfl] at hct
                  have HF : Hid (cntE (y.data.toList.take (j + 1)) = D + 1) := by show _ = _; rw [g5]; rfl
                  clear g5 q9 h9 q10 h10
                  go_wp2
                  go_roundw
                  case rel => exact ⟨j + 1, by omega, by simp, by first | (rw [HF.out]; simp; done) | (rw [HF.out]; simp; omega) | (simp [HF.out]; done) | (simp [HF.out]; omega) | (have h9 := HF.out; simp; omega), by first | rfl | trivial⟩
                  case measure => simp [intOf]; omega
                have q92 := byte_ne h92
                rw [show ((UInt8.toNat 92 : Nat) : Int) = 92 from rfl] at q92
                have HF : Hid (cntE (y.data.toList.take (j + 1)) = D) := by
                  show _ = _
                  rw [g5, if_neg (by simp [h9, h10, h92])]; rfl
                clear g5 h9 h10 h92
                go_wp2
                go_roundw
                case rel => exact ⟨j + 1, by omega, by simp, by first | (rw [HF.out]; simp; done) | (rw [HF.out]; simp; omega) | (simp [HF.out]; done) | (simp [HF.out]; omega) | (have h9 := HF.out; simp; omega), by first | rfl | trivial⟩
                case measure => simp [intOf]; omega
              · have hki3 : ¬ (j : Int) < (y.size : Int) := by omega
                have HK3 : Hid (C + cntE (y.data.toList.take j) = B + sumE ((dat tx).take (k2 + 1))) := by
                  show _ = _
                  rw [List.take_of_length_le (by rw [data_len]; omega), HG3.out, data_len, HC.out]; omega
                rw [HK3.out]
                go_wp2
                go_roundw
                case rel => exact ⟨k2 + 1, by omega, by simp, by first | rfl | simp, by first | rfl | trivial⟩
                case measure => simp [intOf]; omega
          · have hki2 : ¬ (k2 : Int) < (m : Int) := by omega
            have HK2 : Hid (B + sumE ((dat tx).take k2) = sizeG ((ts.map Tx.xs).take (k + 1))) := by
              show _ = _
              rw [List.take_of_length_le (by rw [dat_len, ← HM.out]; omega), ← HE.out, ← HB.out, HG1.out, ← HM.out, ← HE.out]
            rw [HK2.out]
            go_wp2
            go_roundw
            case rel => exact ⟨k + 1, by omega, by simp, by first | rfl | simp, by first | rfl | trivial⟩
            case measure => simp [intOf]; omega
      · have hki : ¬ (k : Int) < (n : Int) := by omega
        have HK : Hid (k = n) := by show k = n; omega
        have hAA : sizeG ((ts.map Tx.xs).take k) = G := by
          rw [HG.out, List.take_of_length_le (by rw [List.length_map, ← HN.out]; omega)]
        rw [hAA]
        clear hAA
        go_wp2
        go_ret
        exact ⟨by simp, HS4.out⟩
  · rw [if_neg h0] at hwr
    dsimp only at hwr
    rw [show (⟨([] : List UInt8).toArray⟩ : ByteArray) = ⟨#[]⟩ from rfl] at hwr
    rcases refZ_range (ts.map Tx.xs) z with e | e | e
    · exact absurd e h0
    · rw [e] at hwr
      generalize ts.length = n at *
      clear e h0 hT hm hll
      go_enter Try.func7, Try.ntmps7
      go_wp2_with (first
        | (go_at_call 17; refine hkn.mono ?_; rintro e W1 ⟨rfl, hs1⟩; have hwr1 := hwr W1 hs1; clear hkn hwr)
        | (go_at_call 27; refine hwr1.mono ?_; rintro e W2 ⟨rfl, hs2⟩; clear hwr1)
        | (go_at_call 15; refine (hn _ _).mono ?_; rintro e w' ⟨rfl, hw'⟩; have hw2 := hw'.symm; subst hw2))
      go_ret
      exact ⟨rfl, hs1.trans hs2⟩
    · rw [e] at hwr
      generalize ts.length = n at *
      clear e h0 hT hm hll
      go_enter Try.func7, Try.ntmps7
      go_wp2_with (first
        | (go_at_call 17; refine hkn.mono ?_; rintro e W1 ⟨rfl, hs1⟩; have hwr1 := hwr W1 hs1; clear hkn hwr)
        | (go_at_call 27; refine hwr1.mono ?_; rintro e W2 ⟨rfl, hs2⟩; clear hwr1)
        | (go_at_call 15; refine (hn _ _).mono ?_; rintro e w' ⟨rfl, hw'⟩; have hw2 := hw'.symm; subst hw2))
      go_ret
      exact ⟨rfl, hs1.trans hs2⟩
end Go.Proofs.Ythpecmdfppdkaaa
