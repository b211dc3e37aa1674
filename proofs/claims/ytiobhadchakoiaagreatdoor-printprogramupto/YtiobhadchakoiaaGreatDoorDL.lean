/- The document's Program. -/
import Derived.Test.YtiobhadchakoiaaGreatDoorDK
import Derived.Test.YtiobhadchakoiaaGreatDoorCL
namespace Go.Proofs.YtiobhadchakoiaaGreatDoor
open Go.RowKit Go.Maps

theorem catN {α : Type} (f : α → List UInt8) (l : List α) (k : Nat) (h : k < l.length) : catL [] ((l.take (k + 1)).map f) = catL [] ((l.take k).map f) ++ f l[k] := by
  rw [catL_take f [] l k h]
  by_cases hk : k = 0
  · subst hk; simp [catL]
  · rw [if_neg hk]; simp
theorem name_len {p : ByteArray} {ar : Int} (h : decB p ar = true) : p.size ≤ 64 ∧ 0 ≤ ar ∧ ar ≤ 16 := by
  unfold decB at h
  rw [Bool.and_eq_true, Bool.and_eq_true, decide_eq_true_eq, decide_eq_true_eq] at h
  refine ⟨?_, h.1.2, h.2⟩
  have e : p.data.toList.length = p.size := by simp
  have h64 : p.data.toList.length ≤ 64 := (nameB_len h.1.1).2
  omega
theorem five_keep {W W' : World} {b bk o : Nat} {c0 c1 c2 c3 : Value} (h : W.cell? ⟨b, 0, none⟩ = some c0 ∧ W.cell? ⟨bk, o, none⟩ = some c1 ∧ W.cell? ⟨bk, o + 1, none⟩ = some c2 ∧ W.cell? ⟨bk, o + 2, none⟩ = some c3) (hs : Stay W W') :
    W'.cell? ⟨b, 0, none⟩ = some c0 ∧ W'.cell? ⟨bk, o, none⟩ = some c1 ∧ W'.cell? ⟨bk, o + 1, none⟩ = some c2 ∧ W'.cell? ⟨bk, o + 2, none⟩ = some c3 :=
  ⟨hs.cell h.1, hs.cell h.2.1, hs.cell h.2.2.1, hs.cell h.2.2.2⟩
theorem Inp.len {x : Inp} (h : x.ok = true) : x.pred.size ≤ 64 ∧ 0 ≤ x.ar ∧ x.ar ≤ 16 ∧ x.file.size ≤ 1024 := by
  unfold Inp.ok at h
  rw [Bool.and_eq_true, decide_eq_true_eq] at h
  obtain ⟨h1, h2, h3⟩ := name_len h.1
  have e : x.file.data.toList.length = x.file.size := by simp
  exact ⟨h1, h2, h3, by omega⟩
theorem Ru.txt_len {x : Ru} (h : x.ok = true) : x.txt.length ≤ 17000000 := by
  unfold Ru.ok at h
  rw [Bool.and_eq_true, Bool.and_eq_true, decide_eq_true_eq] at h
  have h1 := ruT_len h.2 x.head.txt x.body.length (Nat.le_refl _)
  have h2 := At.txt_len h.1.2
  have e : x.txt = ruT x.head.txt x.body x.body.length ++ [46] := by
    unfold Ru.txt ruT
    rw [List.take_length]; simp
  rw [e, List.length_append, List.length_singleton]
  have := h.1.1
  omega
/-- The text is no longer than so many lines can be. -/
def Big3 (s i o k : Nat) : Prop := s ≤ i * 4301 + o * 4301 + k * 17000001
theorem Big3.zero {s i o : Nat} (h : s ≤ i * 4301 + o * 4301) : Big3 s i o 0 := by unfold Big3; rw [Nat.zero_mul, Nat.add_zero]; exact h
theorem Big3.next {s t i o k : Nat} (h : Big3 s i o k) (ht : t ≤ 17000000) : Big3 (s + t + 1) i o (k + 1) := by unfold Big3 at *; omega
theorem Big3.le {s i o k : Nat} (h : Big3 s i o k) (h1 : i ≤ 1048576) (h2 : o ≤ 1048576) (h3 : k ≤ 1048576) : s ≤ 18035000000000 := by unfold Big3 at *; omega
theorem out_keep {W W' : World} {b bk o : Nat} {c0 c1 c2 : Value} (h : W.cell? ⟨b, 1, none⟩ = some c0 ∧ W.cell? ⟨bk, o, none⟩ = some c1 ∧ W.cell? ⟨bk, o + 1, none⟩ = some c2) (hs : Stay W W') :
    W'.cell? ⟨b, 1, none⟩ = some c0 ∧ W'.cell? ⟨bk, o, none⟩ = some c1 ∧ W'.cell? ⟨bk, o + 1, none⟩ = some c2 :=
  ⟨hs.cell h.1, hs.cell h.2.1, hs.cell h.2.2⟩

set_option maxRecDepth 100000 in
set_option maxHeartbeats 8000000 in
theorem y9Program_any (x : Pr) (w : World) (hM : x.In w) (h1 : x.ins.length ≤ 1048576) (h2 : x.outs.length ≤ 1048576) (h3 : x.rules.length ≤ 1048576) : Calls Tryz.prog 4 #[x.v] w fun e w' => e = .returned (tellT x.ok x.txt) ∧ Stay w w' := by
  have hs0 : Stay w (w.alloc (.cells #[.slice x.ia x.ins.length x.ic, .slice x.oa x.outs.length x.oc, .slice x.ra x.rules.length x.rc] 26)) := Stay.new w _
  have hfo := y11Formed_any x _ (Pr.stay hM hs0) h1 h2 h3
  have HB : Hid (∀ W, Stay (w.alloc (.cells #[.slice x.ia x.ins.length x.ic, .slice x.oa x.outs.length x.oc, .slice x.ra x.rules.length x.rc] 26)) W → W.cell? ⟨w.heap.size, 0, none⟩ = some (.slice x.ia x.ins.length x.ic) ∧ W.cell? ⟨w.heap.size, 1, none⟩ = some (.slice x.oa x.outs.length x.oc) ∧ W.cell? ⟨w.heap.size, 2, none⟩ = some (.slice x.ra x.rules.length x.rc)) := fun W hW => ⟨hW.cell (by simp), hW.cell (by simp), hW.cell (by simp)⟩
  have HS0 : Hid (Stay w (w.alloc (.cells #[.slice x.ia x.ins.length x.ic, .slice x.oa x.outs.length x.oc, .slice x.ra x.rules.length x.rc] 26))) := hs0
  unfold tellT
  cases hok : x.ok with
  | false =>
    rw [hok] at hfo
    simp only [Bool.false_eq_true, if_false]
    unfold Pr.v at *
    clear hM hs0 HB hok
    generalize x.ins.length = n1 at *
    generalize x.outs.length = n2 at *
    generalize x.rules.length = n3 at *
    go_enter Tryz.func4, Tryz.ntmps4
    go_wp2_with (go_at_call 9; refine hfo.mono ?_; rintro e W1 ⟨rfl, hs1⟩)
    go_ret2
    exact ⟨rfl, HS0.out.trans hs1⟩
  | true =>
    rw [hok] at hfo
    simp only [if_true]
    obtain ⟨Q, hQ⟩ : ∃ Q : ByteArray, Q = ⟨x.txt.toArray⟩ := ⟨_, rfl⟩
    have HQ : Hid (Q.data.toList = x.txt) := by rw [hQ]; exact mk_list _
    rw [← hQ]
    clear hQ
    obtain ⟨ia, ib, io, ic, ins, oa, ob, oo, oc, outs, ra, rb, ro, rc, rules⟩ := x
    unfold Pr.ok at hok
    rw [Bool.and_eq_true, Bool.and_eq_true] at hok
    unfold Pr.v at *
    unfold Pr.In at hM
    unfold Pr.txt at HQ
    dsimp only at *
    obtain ⟨nI, hnI⟩ : ∃ n, n = ins.length := ⟨_, rfl⟩
    obtain ⟨nO, hnO⟩ : ∃ n, n = outs.length := ⟨_, rfl⟩
    obtain ⟨nR, hnR⟩ : ∃ n, n = rules.length := ⟨_, rfl⟩
    have HX : Hid (LsI w ia ib io ins ∧ LsO w oa ob oo outs ∧ LsR w ra rb ro rules ∧ nI = ins.length ∧ nO = outs.length ∧ nR = rules.length ∧ ins.all Inp.ok = true ∧ outs.all Oup.ok = true ∧ rules.all Ru.ok = true) := ⟨hM.1, hM.2.1, hM.2.2, hnI, hnO, hnR, hok.1.1, hok.1.2, hok.2⟩
    rw [← hnI] at h1 hfo HB HS0 ⊢
    rw [← hnO] at h2 hfo HB HS0 ⊢
    rw [← hnR] at h3 hfo HB HS0 ⊢
    clear hM hnI hnO hnR hok hs0
    go_enter Tryz.func4, Tryz.ntmps4
    go_wp2_with (go_at_call 9; refine hfo.mono ?_; rintro e W1 ⟨rfl, hs1⟩; have HW1 : Hid (Stay (w.alloc (.cells #[.slice ia nI ic, .slice oa nO oc, .slice ra nR rc] 26)) W1) := hs1; clear hs1 hfo)
    obtain ⟨U, hU⟩ : ∃ U, U = w.alloc (.cells #[.slice ia nI ic, .slice oa nO oc, .slice ra nR rc] 26) := ⟨_, rfl⟩
    rw [← hU] at HB HS0 HW1
    clear hU
    go_loopw [5, 6] (fun v i wr => Stay U wr ∧ ∃ (k : Nat) (S : ByteArray), k ≤ nI ∧ i = .int .i64 (k : Int) ∧ v = .string S ∧ S.data.toList = catL [] ((ins.take k).map Inp.line) ∧ S.size ≤ k * 4301) (fun _ i _ => nI - (intOf i).toNat)
    case atStart => exact ⟨HW1.out, 0, ⟨#[]⟩, Nat.zero_le _, rfl, rfl, rfl, Nat.zero_le _⟩
    case round =>
      obtain ⟨hst, k, S, hk, rfl, rfl, hS, hSz⟩ := hrel
      obtain ⟨b0, b1, b2⟩ := HB.out wr hst
      by_cases hlt : k < nI
      · have hki : (k : Int) < (nI : Int) := by omega
        have hki0 : (0 : Int) ≤ (k : Int) := by omega
        have hks : k < ins.length := by rw [← HX.out.2.2.2.1]; exact hlt
        obtain rfl := HX.out.1.1 (by omega)
        obtain ⟨e0, e1, e2⟩ := three_rec (fun i v hv => ((HX.out.1.stay HS0.out).stay hst).2 k hks i v hv)
        obtain ⟨l1, l2, l3, l4⟩ := Inp.len (all_at HX.out.2.2.2.2.2.2.1 hks)
        obtain ⟨m, hm⟩ : ∃ m : Nat, ins[k].ar = (m : Int) := ⟨ins[k].ar.toNat, by omega⟩
        have hsm := fun V => y9small_any m (by omega) V
        have hqu := fun V => y_Quote ins[k].file V (by omega)
        have hql := quoteL_len ins[k].file.data.toList
        have hdl := dec_len (n := m) (by omega)
        have HN : Hid (catL [] ((ins.take (k + 1)).map Inp.line) = catL [] ((ins.take k).map Inp.line) ++ ins[k].line) := catN Inp.line ins k hks
        have HL : Hid (ins[k].line = [105, 110, 112, 117, 116, 32] ++ (ins[k].pred.data.toList ++ (47 :: Lib.decDigits m)) ++ (32 :: (quoteL ins[k].file.data.toList ++ [46])) ++ [10]) := by
          show ins[k].line = _
          unfold Inp.line Inp.txt decL
          rw [hm]; rfl
        obtain ⟨D, hD⟩ : ∃ D : ByteArray, D = ⟨(Lib.decDigits m).toArray⟩ := ⟨_, rfl⟩
        obtain ⟨T, hT⟩ : ∃ T : ByteArray, T = ⟨(quoteL ins[k].file.data.toList).toArray⟩ := ⟨_, rfl⟩
        have hDs : D.size ≤ 2 := by rw [hD, mk_size]; exact hdl
        have hTs : T.size ≤ 4098 := by
          rw [hT, mk_size]
          have e : ins[k].file.data.toList.length = ins[k].file.size := by simp
          omega
        have HDT : Hid (D.data.toList = Lib.decDigits m ∧ T.data.toList = quoteL ins[k].file.data.toList) := ⟨by rw [hD], by rw [hT]⟩
        rw [← hD] at hsm
        rw [← hT] at hqu
        rw [hm] at e1
        have HSS : Hid (S.data.toList = catL [] ((ins.take k).map Inp.line) ∧ Stay U wr) := ⟨hS, hst⟩
        clear hD hT hdl hql hm l2 l3 l4 hS hst
        generalize ins[k].pred = P at *
        generalize ins[k].file = Fl at *
        have g0 : S.size ≤ 4509926400000 := by omega
        have g1 : ¬ 9223372036854775807 < S.size + 6 := by omega
        have g2 : ¬ 9223372036854775807 < S.size + 6 + P.size := by omega
        have g3 : ¬ 9223372036854775807 < S.size + 6 + P.size + 1 := by omega
        have g4 : ¬ 9223372036854775807 < S.size + 6 + P.size + 1 + D.size := by omega
        have g5 : ¬ 9223372036854775807 < S.size + 6 + P.size + 1 + D.size + 1 := by omega
        have g6 : ¬ 9223372036854775807 < S.size + 6 + P.size + 1 + D.size + 1 + T.size := by omega
        have g7 : ¬ 9223372036854775807 < S.size + 6 + P.size + 1 + D.size + 1 + T.size + 2 := by omega
        have HZ : Hid (S.size + 6 + P.size + 1 + D.size + 1 + T.size + 2 ≤ (k + 1) * 4301) := by
          show _ ≤ (k + 1) * 4301
          omega
        have hS4 : wr.drew.cell? ⟨w.heap.size, 0, none⟩ = some (.slice (some ⟨ib, io, none⟩) nI ic) ∧ wr.drew.cell? ⟨ib, io + k * 3, none⟩ = some (.string P) ∧ wr.drew.cell? ⟨ib, io + k * 3 + 1, none⟩ = some (.int .i64 (m : Int)) ∧ wr.drew.cell? ⟨ib, io + k * 3 + 2, none⟩ = some (.string Fl) := five_keep ⟨b0, e0, e1, e2⟩ (Stay.drew _)
        go_upto_region 8 with fail
        go_region_held3 (fun W => W.cell? ⟨w.heap.size, 0, none⟩ = some (.slice (some ⟨ib, io, none⟩) nI ic) ∧ W.cell? ⟨ib, io + k * 3, none⟩ = some (.string P) ∧ W.cell? ⟨ib, io + k * 3 + 1, none⟩ = some (.int .i64 (m : Int)) ∧ W.cell? ⟨ib, io + k * 3 + 2, none⟩ = some (.string Fl))
          (first | assumption | (exact five_keep (by assumption) (by assumption)))
          (first
            | (go_at_call 10; refine (hsm _).mono ?_; rintro e W2 ⟨rfl, hs2⟩; clear hsm)
            | (go_at_call 11; refine (hqu _).mono ?_; rintro e W3 ⟨rfl, hs3⟩; clear hqu))
        go_wp2_with fail
        go_roundw
        case rel => exact ⟨HSS.out.2.trans (Stay.trans (Stay.drew _) (hs2.trans hs3)), k + 1, _, by omega, by first | rfl | go_num | simp, rfl, by rw [HN.out, HL.out, ← HSS.out.1, ← HDT.out.1, ← HDT.out.2]; simp only [app_list]; simp, by simp only [ByteArray.size_append]; exact HZ.out⟩
        case measure => simp [intOf]; omega
      · have hki : ¬ (k : Int) < (nI : Int) := by omega
        rw [List.take_of_length_le (by rw [← HX.out.2.2.2.1]; omega)] at hS
        have HS1 : Hid (S.data.toList = catL [] (ins.map Inp.line) ∧ S.size ≤ nI * 4301 ∧ Stay U wr) := ⟨hS, by omega, hst⟩
        clear hS hSz hst
        generalize catL [] (ins.map Inp.line) = TI at *
        go_wp2
        clear b0 b1 b2
        go_loopw [5, 7] (fun v i wr' => Stay U wr' ∧ ∃ (k : Nat) (S : ByteArray), k ≤ nO ∧ i = .int .i64 (k : Int) ∧ v = .string S ∧ S.data.toList = TI ++ catL [] ((outs.take k).map Oup.line) ∧ S.size ≤ nI * 4301 + k * 4301) (fun _ i _ => nO - (intOf i).toNat)
        case atStart => exact ⟨HS1.out.2.2, 0, S, Nat.zero_le _, rfl, rfl, by rw [HS1.out.1]; simp [catL], by have := HS1.out.2.1; omega⟩
        case round =>
          rename World => w4
          obtain ⟨hst, j, S2, hj, rfl, rfl, hS, hSz⟩ := hrel
          obtain ⟨b0, b1, b2⟩ := HB.out w4 hst
          by_cases hlt2 : j < nO
          · have hji : (j : Int) < (nO : Int) := by omega
            have hji0 : (0 : Int) ≤ (j : Int) := by omega
            have hjs : j < outs.length := by rw [← HX.out.2.2.2.2.1]; exact hlt2
            obtain rfl := HX.out.2.1.1 (by omega)
            obtain ⟨e0, e1⟩ := two_rec (fun i v hv => ((HX.out.2.1.stay HS0.out).stay hst).2 j hjs i v hv)
            obtain ⟨l1, l2, l3⟩ := name_len (all_at HX.out.2.2.2.2.2.2.2.1 hjs)
            obtain ⟨m, hm⟩ : ∃ m : Nat, outs[j].ar = (m : Int) := ⟨outs[j].ar.toNat, by omega⟩
            have hsm := fun V => y9small_any m (by omega) V
            have hdl := dec_len (n := m) (by omega)
            have HN : Hid (catL [] ((outs.take (j + 1)).map Oup.line) = catL [] ((outs.take j).map Oup.line) ++ outs[j].line) := catN Oup.line outs j hjs
            have HL : Hid (outs[j].line = [111, 117, 116, 112, 117, 116, 32] ++ (outs[j].pred.data.toList ++ (47 :: Lib.decDigits m)) ++ [46] ++ [10]) := by
              show outs[j].line = _
              unfold Oup.line Oup.txt decL
              rw [hm]; rfl
            obtain ⟨D, hD⟩ : ∃ D : ByteArray, D = ⟨(Lib.decDigits m).toArray⟩ := ⟨_, rfl⟩
            have hDs : D.size ≤ 2 := by rw [hD, mk_size]; exact hdl
            have HDT : Hid (D.data.toList = Lib.decDigits m) := by rw [hD]; exact mk_list _
            rw [← hD] at hsm
            rw [hm] at e1
            have HSS : Hid (S2.data.toList = TI ++ catL [] ((outs.take j).map Oup.line) ∧ Stay U w4) := ⟨hS, hst⟩
            clear hD hdl hm l2 l3 hS hst
            generalize outs[j].pred = P at *
            have g0 : S2.size ≤ 9019852800000 := by omega
            have g1 : ¬ 9223372036854775807 < S2.size + 7 := by omega
            have g2 : ¬ 9223372036854775807 < S2.size + 7 + P.size := by omega
            have g3 : ¬ 9223372036854775807 < S2.size + 7 + P.size + 1 := by omega
            have g4 : ¬ 9223372036854775807 < S2.size + 7 + P.size + 1 + D.size := by omega
            have g5 : ¬ 9223372036854775807 < S2.size + 7 + P.size + 1 + D.size + 2 := by omega
            have HZ : Hid (S2.size + 7 + P.size + 1 + D.size + 2 ≤ nI * 4301 + (j + 1) * 4301) := by
              show _ ≤ nI * 4301 + (j + 1) * 4301
              omega
            have hS4 : w4.drew.cell? ⟨w.heap.size, 1, none⟩ = some (.slice (some ⟨ob, oo, none⟩) nO oc) ∧ w4.drew.cell? ⟨ob, oo + j * 2, none⟩ = some (.string P) ∧ w4.drew.cell? ⟨ob, oo + j * 2 + 1, none⟩ = some (.int .i64 (m : Int)) := out_keep ⟨b1, e0, e1⟩ (Stay.drew _)
            go_upto_region 12 with fail
            go_region_held3 (fun W => W.cell? ⟨w.heap.size, 1, none⟩ = some (.slice (some ⟨ob, oo, none⟩) nO oc) ∧ W.cell? ⟨ob, oo + j * 2, none⟩ = some (.string P) ∧ W.cell? ⟨ob, oo + j * 2 + 1, none⟩ = some (.int .i64 (m : Int)))
              (first | assumption | (exact out_keep (by assumption) (by assumption)))
              (first
                | (go_at_call 10; refine (hsm _).mono ?_; rintro e W2 ⟨rfl, hs2⟩; clear hsm))
            go_wp2_with fail
            go_roundw
            case rel => exact ⟨HSS.out.2.trans (Stay.trans (Stay.drew _) hs2), j + 1, _, by omega, by first | rfl | go_num | simp, rfl, by rw [HN.out, HL.out, ← List.append_assoc, ← HSS.out.1, ← HDT.out]; simp only [app_list]; simp, by simp only [ByteArray.size_append]; exact HZ.out⟩
            case measure => simp [intOf]; omega
          · have hji : ¬ (j : Int) < (nO : Int) := by omega
            rw [List.take_of_length_le (by rw [← HX.out.2.2.2.2.1]; omega)] at hS
            have HS2 : Hid (S2.data.toList = TI ++ catL [] (outs.map Oup.line) ∧ S2.size ≤ nI * 4301 + nO * 4301 ∧ Stay U w4) := ⟨hS, by omega, hst⟩
            clear hS hSz hst
            generalize catL [] (outs.map Oup.line) = TO at *
            go_wp2
            clear b0 b1 b2
            go_loopw [5, 8] (fun v i wr' => Stay U wr' ∧ ∃ (k : Nat) (S : ByteArray), k ≤ nR ∧ i = .int .i64 (k : Int) ∧ v = .string S ∧ S.data.toList = TI ++ TO ++ catL [] ((rules.take k).map Ru.line) ∧ Big3 S.size nI nO k) (fun _ i _ => nR - (intOf i).toNat)
            case atStart => exact ⟨HS2.out.2.2, 0, S2, Nat.zero_le _, rfl, rfl, by rw [HS2.out.1]; simp [catL], Big3.zero HS2.out.2.1⟩
            case round =>
              rename World => w5
              obtain ⟨hst, q, S3, hq, rfl, rfl, hS, hSz⟩ := hrel
              obtain ⟨b0, b1, b2⟩ := HB.out w5 hst
              by_cases hlt3 : q < nR
              · have hqi : (q : Int) < (nR : Int) := by omega
                have hqi0 : (0 : Int) ≤ (q : Int) := by omega
                have hqs : q < rules.length := by rw [← HX.out.2.2.2.2.2.1]; exact hlt3
                obtain rfl := HX.out.2.2.1.1.1 (by omega)
                obtain ⟨e0, e1, e2⟩ := rule_rec (fun i v hv => ((HX.out.2.2.1.1.stay HS0.out).stay hst).2 q hqs i v hv)
                have hko := all_at HX.out.2.2.2.2.2.2.2.2 hqs
                have hru := y9rule_any rules[q] w5 (Ru.stay (HX.out.2.2.1.2 _ (List.getElem_mem hqs)) (HS0.out.trans hst)) hko
                have htl := Ru.txt_len hko
                have HN : Hid (catL [] ((rules.take (q + 1)).map Ru.line) = catL [] ((rules.take q).map Ru.line) ++ (rules[q].txt ++ [10])) := catN Ru.line rules q hqs
                obtain ⟨T, hT⟩ : ∃ T : ByteArray, T = ⟨rules[q].txt.toArray⟩ := ⟨_, rfl⟩
                have hTs : T.size ≤ 17000000 := by rw [hT, mk_size]; exact htl
                have HT : Hid (T.data.toList = rules[q].txt) := by rw [hT]; exact mk_list _
                rw [← hT] at hru
                have HSS : Hid (S3.data.toList = TI ++ TO ++ catL [] ((rules.take q).map Ru.line) ∧ Stay U w5) := ⟨hS, hst⟩
                clear hT htl hS hst hko
                unfold Ru.v at hru
                generalize rules[q] = r at *
                obtain ⟨⟨rp, rha, rhb, rho, rhc, rts⟩, rra, rrb, rro, rrc, rls⟩ := r
                unfold At.sl at e1 hru
                dsimp only at e0 e1 e2 hru
                generalize rts.length = rn at *
                generalize rls.length = ln at *
                have g0 : S3.size ≤ 18035000000000 := hSz.le h1 h2 (by omega)
                have g1 : ¬ 9223372036854775807 < S3.size + T.size := by omega
                have g2 : ¬ 9223372036854775807 < S3.size + T.size + 1 := by omega
                have HZ : Hid (Big3 (S3.size + T.size + 1) nI nO (q + 1)) := hSz.next hTs
                clear hSz
                go_wp2_with (go_at_call 12; refine hru.mono ?_; rintro e W6 ⟨rfl, hs6⟩)
                go_roundw
                case rel => exact ⟨HSS.out.2.trans hs6, q + 1, _, by omega, by first | rfl | go_num | simp, rfl, by rw [HN.out, ← List.append_assoc, ← HSS.out.1, ← HT.out]; simp only [app_list]; simp, by simp only [ByteArray.size_append]; exact HZ.out⟩
                case measure => simp [intOf]; omega
              · have hqi : ¬ (q : Int) < (nR : Int) := by omega
                rw [List.take_of_length_le (by rw [← HX.out.2.2.2.2.2.1]; omega)] at hS
                have HF : Hid (S3 = Q ∧ Stay w w5) := ⟨eq_list (by rw [hS, HQ.out]; simp), HS0.out.trans hst⟩
                clear hS hst hSz
                go_wp2
                go_ret2
                exact ⟨by rw [HF.out.1]; rfl, HF.out.2⟩
end Go.Proofs.YtiobhadchakoiaaGreatDoor
