/- The document's right and Write: the walks. -/
import Derived.Test.YtbbgembkdhcidaaFWn
namespace Go.Proofs.Ytbbgembkdhcidaa
open Go.RowKit Go.Maps

set_option maxRecDepth 100000 in
set_option maxHeartbeats 4000000 in
theorem rright_any {w : World} {a : Option Addr} {b off c : Nat} {ts : List Tx} (h : TxsS w a b off ts) (hl : ts.length ≤ 1048576) (z : Int) :
    Calls Try.prog 18 #[.slice a ts.length c, .int .i64 z] w fun e w' => e = .returned (.int .i64 (refZ (ts.map Tx.xs) z)) ∧ Stay w w' := by
  obtain ⟨n, hn⟩ : ∃ n, n = ts.length := ⟨_, rfl⟩
  obtain ⟨R, hR⟩ : ∃ R, R = refZ (ts.map Tx.xs) z := ⟨_, rfl⟩
  have HX : Hid (TxsS w a b off ts ∧ n = ts.length ∧ R = refZ (ts.map Tx.xs) z) := ⟨h, hn, hR⟩
  rw [← hn, ← hR]
  rw [← hn] at hl
  clear h hn hR
  by_cases h0 : z < 0
  · have HR : Hid (R = 2) := HX.out.2.2.trans (refZ_out (by omega))
    go_enter Try.func18, Try.ntmps18
    go_wp2
    go_ret
    exact ⟨by rw [HR.out]; rfl, Stay.refl _⟩
  by_cases h16 : 16 < z
  · have HR : Hid (R = 2) := HX.out.2.2.trans (refZ_out (by omega))
    go_enter Try.func18, Try.ntmps18
    go_wp2
    go_ret
    exact ⟨by rw [HR.out]; rfl, Stay.refl _⟩
  go_enter Try.func18, Try.ntmps18
  go_wp2
  go_loopw [5] (fun i wr => ∃ k : Nat, k ≤ n ∧ i = .int .i64 (k : Int) ∧ wr = w ∧ ∀ t ∈ (ts.map Tx.xs).take k, (t.length : Int) = z) (fun i _ => n - (intOf i).toNat)
  case atStart => exact ⟨0, Nat.zero_le _, rfl, rfl, fun t ht => by simp at ht⟩
  case round =>
    obtain ⟨k, hk, rfl, rfl, hall⟩ := hrel
    by_cases hlt : k < n
    · have hks : k < ts.length := by rw [← HX.out.2.1]; exact hlt
      obtain rfl := HX.out.1.1 (by omega)
      obtain ⟨hc1, -⟩ := HX.out.1.2 k hks
      have hki : (k : Int) < (n : Int) := by omega
      have hki0 : (0 : Int) ≤ (k : Int) := by omega
      have hmem : ts[k].xs ∈ ts.map Tx.xs := List.mem_map.2 ⟨_, List.getElem_mem hks, rfl⟩
      have htk : (ts.map Tx.xs).take (k + 1) = (ts.map Tx.xs).take k ++ [ts[k].xs] := by
        rw [List.take_succ_eq_append_getElem (by simpa using hks), List.getElem_map]
      unfold Tx.v at hc1
      by_cases he : (ts[k].xs.length : Int) = z
      · have HA : Hid (∀ t ∈ (ts.map Tx.xs).take (k + 1), (t.length : Int) = z) := fun t ht => by
          rw [htk] at ht
          rcases List.mem_append.1 ht with h | h
          · exact hall t h
          · rw [List.mem_singleton] at h; rw [h]; exact he
        have hb : ((ts[k].xs.length : Int) == z) = true := by simp [he]
        clear hall htk hmem he
        generalize ts[k] = t at *
        obtain ⟨ta, tb, to, tc, tx⟩ := t
        dsimp only at *
        generalize tx.length = tn at *
        go_wp2
        go_roundw
        case rel => exact ⟨k + 1, by omega, by simp, by first | rfl | trivial, HA.out⟩
        case measure => simp [intOf]; omega
      · have HR : Hid (R = 2) := HX.out.2.2.trans (refZ_mis hmem he)
        have hb : ((ts[k].xs.length : Int) == z) = false := by simp [he]
        clear hall htk hmem he
        generalize ts[k] = t at *
        obtain ⟨ta, tb, to, tc, tx⟩ := t
        dsimp only at *
        generalize tx.length = tn at *
        go_wp2
        go_ret
        exact ⟨by rw [HR.out]; rfl, Stay.refl _⟩
    · have hki : ¬ (k : Int) < (n : Int) := by omega
      rw [List.take_of_length_le (by rw [List.length_map, ← HX.out.2.1]; omega)] at hall
      have HA : Hid (R = if (ts.map Tx.xs).any longB then 3 else 0) := HX.out.2.2.trans (refZ_in (by omega) (by omega) hall)
      have HL : Hid (∀ t ∈ ts.map Tx.xs, t.length ≤ 16) := fun t ht => by have := hall t ht; omega
      clear hall
      go_wp2
      go_loopw [6, 7, 8] (fun i _ _ wr' => ∃ j : Nat, j ≤ n ∧ i = .int .i64 (j : Int) ∧ Stay wr wr' ∧ ∀ t ∈ (ts.map Tx.xs).take j, longB t = false) (fun i _ _ _ => n - (intOf i).toNat)
      case atStart => exact ⟨0, Nat.zero_le _, rfl, Stay.refl _, fun t ht => by simp at ht⟩
      case round =>
        rename World => w2
        obtain ⟨j, hj, rfl, hs2, hall⟩ := hrel
        by_cases hlt2 : j < n
        · have hks : j < ts.length := by rw [← HX.out.2.1]; exact hlt2
          obtain rfl := HX.out.1.1 (by omega)
          obtain ⟨hc1, hS1⟩ := (HX.out.1.stay hs2).2 j hks
          have hji : (j : Int) < (n : Int) := by omega
          have hji0 : (0 : Int) ≤ (j : Int) := by omega
          have hmem : ts[j].xs ∈ ts.map Tx.xs := List.mem_map.2 ⟨_, List.getElem_mem hks, rfl⟩
          have htk : (ts.map Tx.xs).take (j + 1) = (ts.map Tx.xs).take j ++ [ts[j].xs] := by
            rw [List.take_succ_eq_append_getElem (by simpa using hks), List.getElem_map]
          have hLn := rLine_any (c := ts[j].c) hS1
          rw [lineT_16 (HL.out _ hmem)] at hLn
          unfold Tx.v at hc1
          cases hb : longB ts[j].xs with
          | false =>
            rw [hb] at hLn
            have HB : Hid (∀ t ∈ (ts.map Tx.xs).take (j + 1), longB t = false) := fun t ht => by
              rw [htk] at ht
              rcases List.mem_append.1 ht with h | h
              · exact hall t h
              · rw [List.mem_singleton] at h; rw [h]; exact hb
            rw [if_neg (by simp)] at hLn
            clear hall htk hmem hb hS1
            generalize ts[j] = t at *
            obtain ⟨ta, tb, to, tc, tx⟩ := t
            dsimp only at *
            generalize toB (lineL (dat tx)) = q at *
            generalize tx.length = tn at *
            go_wp2_with (go_at_call 19; refine hLn.mono ?_; rintro e W3 ⟨rfl, hs3⟩)
            go_roundw
            case rel => exact ⟨j + 1, by omega, by simp, hs2.trans hs3, HB.out⟩
            case measure => simp [intOf]; omega
          | true =>
            rw [hb] at hLn
            rw [if_pos rfl] at hLn
            have HR : Hid (R = 3) := by
              show R = 3
              rw [HA.out, if_pos (List.any_eq_true.2 ⟨_, hmem, hb⟩)]
            clear hall htk hmem hb hS1
            generalize ts[j] = t at *
            obtain ⟨ta, tb, to, tc, tx⟩ := t
            dsimp only at *
            generalize tx.length = tn at *
            go_wp2_with (go_at_call 19; refine hLn.mono ?_; rintro e W3 ⟨rfl, hs3⟩)
            go_ret
            exact ⟨by rw [HR.out]; rfl, hs2.trans hs3⟩
        · have hji : ¬ (j : Int) < (n : Int) := by omega
          rw [List.take_of_length_le (by rw [List.length_map, ← HX.out.2.1]; omega)] at hall
          have HR : Hid (R = 0) := by
            show R = 0
            rw [HA.out, if_neg]
            rw [List.any_eq_true]
            rintro ⟨t, ht, hb⟩
            rw [hall t ht] at hb
            cases hb
          clear hall
          go_wp2
          go_ret
          exact ⟨by rw [HR.out]; rfl, hs2⟩

set_option maxRecDepth 100000 in
set_option maxHeartbeats 4000000 in
theorem rWrite_any {w : World} {a : Option Addr} {b off c : Nat} {ts : List Tx} (h : TxsS w a b off ts) (hl : ts.length ≤ 1048576) (hlen : sumG (ts.map Tx.xs) * 2 + 8 ≤ 140737488355328) (z : Int) :
    Calls Try.prog 6 #[.slice a ts.length c, .int .i64 z] w fun e w' => e = .returned (.tuple #[.string (toB (writeT (ts.map Tx.xs) z).1), .int .i64 (writeT (ts.map Tx.xs) z).2]) ∧ Stay w w' := by
  have hr := rright_any h (c := c) hl z
  unfold writeT
  obtain ⟨r, hrz⟩ : ∃ r, r = refZ (ts.map Tx.xs) z := ⟨_, rfl⟩
  rw [← hrz] at hr ⊢
  by_cases h0 : r = 0
  · rw [if_pos h0]
    have hz0 : (r == 0) = true := by simp [h0]
    subst h0
    obtain ⟨n, hn⟩ : ∃ n, n = ts.length := ⟨_, rfl⟩
    have HS : Hid (TxsS w a b off ts ∧ n = ts.length ∧ sumG (ts.map Tx.xs) * 2 + 8 ≤ 140737488355328 ∧ ∀ t ∈ ts.map Tx.xs, lineT t = (lineL (dat t), 0)) := ⟨h, hn, hlen, fun t ht => line_all hrz.symm ht⟩
    rw [← hn] at hr hl ⊢
    clear h hlen hn hrz
    go_enter Try.func6, Try.ntmps6
    go_wp2_with (first
      | (go_at_call 18; refine hr.mono ?_; rintro e W1 ⟨rfl, hs1⟩; have H1 : Hid (Stay w W1) := hs1; clear hr hs1))
    go_loopw [7, 8, 9, 10] (fun v i _ _ wr => ∃ k : Nat, k ≤ n ∧ i = .int .i64 (k : Int) ∧ OwnB W1.heap.size wr v (linesL ((ts.map Tx.xs).take k)) ∧ Stay W1 wr) (fun _ i _ _ _ => n - (intOf i).toNat)
    case atStart => exact ⟨0, Nat.zero_le _, rfl, OwnB.nil, Stay.refl _⟩
    case round =>
      obtain ⟨k, hk, rfl, hown, hst⟩ := hrel
      obtain ⟨va, vc, rfl⟩ := hown.slice
      by_cases hlt : k < n
      · have hks : k < ts.length := by rw [← HS.out.2.1]; exact hlt
        obtain rfl := HS.out.1.1 (by omega)
        obtain ⟨hc1, hS1⟩ := (HS.out.1.stay (H1.out.trans hst)).2 k hks
        have hki : (k : Int) < (n : Int) := by omega
        have hki0 : (0 : Int) ≤ (k : Int) := by omega
        have hkm : k < (ts.map Tx.xs).length := by simpa using hks
        have hmem : ts[k].xs ∈ ts.map Tx.xs := List.mem_map.2 ⟨_, List.getElem_mem hks, rfl⟩
        have hLn := rLine_any (c := ts[k].c) hS1
        rw [HS.out.2.2.2 _ hmem] at hLn
        have h3 := sumG_at (ts.map Tx.xs) k hkm
        have h4 := linesL_len ((ts.map Tx.xs).take k)
        have h5 := HS.out.2.2.1
        have h6 := lineL_len (dat ts[k].xs)
        rw [List.getElem_map] at h3
        have hE0 : linesL ((ts.map Tx.xs).take (k + 1)) = (linesL ((ts.map Tx.xs).take k) ++ lineL (dat ts[k].xs)) ++ [10] := by
          rw [List.take_succ_eq_append_getElem hkm, linesL_snoc, List.getElem_map, List.append_assoc]
        have hbase := hst.size
        have hapA : ∀ V, Stay wr V → ∃ v' w', (Builtin.append_ #[42, 9] 42 #[.slice va (linesL ((ts.map Tx.xs).take k)).length vc, .string (toB (lineL (dat ts[k].xs)))]).run Try.prog V = .ok v' w' ∧ OwnB W1.heap.size w' v' (linesL ((ts.map Tx.xs).take k) ++ lineL (dat ts[k].xs)) ∧ Stay W1 w' := fun V hV => by
          obtain ⟨v', w', q1, q2, q3⟩ := (hown.stay hV).text (lineL (dat ts[k].xs)) (by omega) (Nat.le_trans hbase hV.size)
          exact ⟨v', w', q1, q2, q3.stay (hst.trans hV) (fun i hi e => by have := (hown.lt i e).1; omega)⟩
        have hapB : ∀ V v, OwnB W1.heap.size V v (linesL ((ts.map Tx.xs).take k) ++ lineL (dat ts[k].xs)) → Stay W1 V → ∃ v' w', (Builtin.append_ #[42, 42] 42 #[v, .slice (some ⟨V.heap.size, 0, none⟩) 1 1]).run Try.prog (V.alloc (.cells #[.int .u8 10] 5)) = .ok v' w' ∧ OwnB W1.heap.size w' v' (linesL ((ts.map Tx.xs).take (k + 1))) ∧ Stay W1 w' := fun V v ho hV => by
          obtain ⟨v', w', q1, q2, q3, _⟩ := ho.add 42 [10] (by rw [List.length_append]; simp; omega) hV.size
          refine ⟨v', w', q1, by rw [hE0]; exact q2, q3.stay hV (fun i hi e => by have := (ho.lt i e).1; omega)⟩
        unfold Tx.v at hc1
        clear hmem h3 h4 h5 h6 hE0 hown hS1 hkm
        obtain ⟨L2, hL2⟩ : ∃ L2, L2 = linesL ((ts.map Tx.xs).take (k + 1)) := ⟨_, rfl⟩
        rw [← hL2] at hapB
        have HL2 : Hid (L2 = linesL ((ts.map Tx.xs).take (k + 1))) := hL2
        clear hL2
        generalize linesL ((ts.map Tx.xs).take k) ++ lineL (dat ts[k].xs) = L1 at *
        generalize (linesL ((ts.map Tx.xs).take k)).length = L0 at *
        generalize ts[k] = t at *
        obtain ⟨ta, tb, to, tc, tx⟩ := t
        dsimp only at *
        generalize toB (lineL (dat tx)) = q at *
        generalize tx.length = tn at *
        go_wp2_with (first
          | (go_at_call 19; refine hLn.mono ?_; rintro e W3 ⟨rfl, hs3⟩; obtain ⟨v1, V1, ap1, o1, s1⟩ := hapA W3 hs3; obtain ⟨v2, V2, ap2, o2, s2⟩ := hapB V1 v1 o1 s1; have HO : Hid (OwnB W1.heap.size V2 v2 L2 ∧ Stay W1 V2) := ⟨o2, s2⟩; clear hapA hapB o1 s1 o2 s2)
          | (at_builtin; refine wpList_append_run rfl _ _ 42 9 rfl _ _ rfl rfl ap1 ?_; clear ap1)
          | (at_builtin; refine wpList_append_run rfl _ _ 42 42 rfl _ _ rfl rfl ap2 ?_; clear ap2))
        go_roundw
        case rel => exact ⟨k + 1, by omega, by simp, by rw [← HL2.out]; exact HO.out.1, HO.out.2⟩
        case measure => simp [intOf]; omega
      · have hki : ¬ (k : Int) < (n : Int) := by omega
        have hE : (ts.map Tx.xs).take k = ts.map Tx.xs := List.take_of_length_le (by rw [List.length_map, ← HS.out.2.1]; omega)
        rw [hE] at hown ⊢
        have hcv := hown.str
        have HW : Hid (Stay w wr) := H1.out.trans hst
        clear hE hown hst
        go_wp2
        go_ret2
        exact ⟨rfl, HW.out⟩
  · rw [if_neg h0]
    have hz0 : (r == 0) = false := by simp [h0]
    clear h hl hlen hrz
    generalize ts.length = n at *
    go_enter Try.func6, Try.ntmps6
    go_wp2_with (first
      | (go_at_call 18; refine hr.mono ?_; rintro e W1 ⟨rfl, hs1⟩))
    go_ret2
    exact ⟨rfl, hs1⟩
end Go.Proofs.Ytbbgembkdhcidaa
