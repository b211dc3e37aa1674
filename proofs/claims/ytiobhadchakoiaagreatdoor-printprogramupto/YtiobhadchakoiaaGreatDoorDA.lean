/- Inputs and outputs: writeDeclared, writeInput, writeOutput; the document's small, named. -/
import Derived.Test.YtiobhadchakoiaaGreatDoorPP
namespace Go.Proofs.YtiobhadchakoiaaGreatDoor
open Go.RowKit Go.Maps

/-- Is a predicate with an arity in form? -/
def decB (pred : ByteArray) (ar : Int) : Bool := nameB pred.data.toList && decide (0 ≤ ar) && decide (ar ≤ 16)
def decL (word : List UInt8) (pred : ByteArray) (ar : Int) : List UInt8 := word ++ (pred.data.toList ++ (47 :: Lib.decDigits ar.toNat))
theorem dec_len {n : Nat} (h : n < 100) : (Lib.decDigits n).length ≤ 2 := by
  by_cases h1 : n < 10
  · rw [Lib.decDigits_one h1]; simp
  · rw [Lib.decDigits_two h1 h]; simp
set_option maxRecDepth 100000 in
set_option maxHeartbeats 2000000 in
theorem writeDeclared_any {B b : Nat} {w : World} {bs : List UInt8} (h : Bld B b w bs) (word pred : ByteArray) (ar : Int) (hT : Tabs w) (hlen : bs.length + 100 ≤ 140737488355328) (hw7 : word.size ≤ 7) (hBw : B ≤ w.heap.size) :
    Calls Tryz.prog 45 #[.pointer (some ⟨b, 0, none⟩), .string word, .string pred, .int .i64 ar] w (Wrote B b w bs (decB pred ar) (decL word.data.toList pred ar) 100) := by
  have hnm := Name_any pred w hT
  have hwl : word.data.toList.length = word.size := by simp
  have hpl : pred.data.toList.length = pred.size := by simp
  have HB : Hid (Bld B b w bs) := h
  unfold decB decL
  cases hnb : nameB pred.data.toList
  · rw [hnb] at hnm
    simp only [Bool.false_and]
    generalize (word.data.toList ++ _) = tx
    clear hnb h
    go_enter Tryz.func45, Tryz.ntmps45
    go_wp2_with (first | (go_at_call 60; refine hnm.mono ?_; rintro e w' ⟨rfl, hw'⟩; have hw2 := hw'.symm; subst hw2))
    go_ret
    exact ⟨rfl, [], by simpa using HB.out, (fun h => nomatch h), by simp, Wk.refl _ _ _⟩
  · rw [hnb] at hnm
    have hp64 := (nameB_len hnb).2
    simp only [Bool.true_and]
    by_cases h0 : ar < 0
    · rw [decide_eq_false (by omega)]
      simp only [Bool.false_and]
      generalize (word.data.toList ++ _) = tx
      clear hnb h
      go_enter Tryz.func45, Tryz.ntmps45
      go_wp2_with (first | (go_at_call 60; refine hnm.mono ?_; rintro e w' ⟨rfl, hw'⟩; have hw2 := hw'.symm; subst hw2))
      go_ret
      exact ⟨rfl, [], by simpa using HB.out, (fun h => nomatch h), by simp, Wk.refl _ _ _⟩
    · rw [decide_eq_true (by omega)]
      simp only [Bool.true_and]
      by_cases h16 : 16 < ar
      · rw [decide_eq_false (by omega)]
        generalize (word.data.toList ++ _) = tx
        have h0i : ¬ ar < 0 := h0
        clear hnb h
        go_enter Tryz.func45, Tryz.ntmps45
        go_wp2_with (first | (go_at_call 60; refine hnm.mono ?_; rintro e w' ⟨rfl, hw'⟩; have hw2 := hw'.symm; subst hw2))
        go_ret
        exact ⟨rfl, [], by simpa using HB.out, (fun h => nomatch h), by simp, Wk.refl _ _ _⟩
      · rw [decide_eq_true (by omega)]
        obtain ⟨k, rfl⟩ : ∃ k : Nat, ar = (k : Int) := ⟨ar.toNat, by omega⟩
        rw [show ((k : Int)).toNat = k from by simp]
        have hk : k ≤ 16 := by omega
        have hdl := dec_len (show k < 100 by omega)
        have hit := fun W => Tryz.strconv_Itoa_small k (by omega) W
        have w1 := writeStringK h word (by omega) hBw
        have w2 := fun (W : World) (hBW : Bld B b W (bs ++ word.data.toList)) (hWW : Wk B b w W) => writeStringK hBW pred (by rw [List.length_append]; omega) (Nat.le_trans hBw hWW.size)
        have w3 := fun (W : World) (hBW : Bld B b W (bs ++ word.data.toList ++ pred.data.toList)) (hWW : Wk B b w W) => writeByteK hBW 47 (by rw [List.length_append, List.length_append]; omega) (Nat.le_trans hBw hWW.size)
        rw [show ((UInt8.toNat 47 : Nat) : Int) = 47 from rfl] at w3
        obtain ⟨D, hD⟩ : ∃ D : ByteArray, D = ⟨(Lib.decDigits k).toArray⟩ := ⟨_, rfl⟩
        rw [← hD] at hit
        have HD : Hid (D.data.toList = Lib.decDigits k) := by show D.data.toList = _; rw [hD]
        have hDs : D.size ≤ 2 := by rw [hD]; show (Lib.decDigits k).toArray.size ≤ 2; simpa using hdl
        have w4 := fun (W : World) (hBW : Bld B b W (bs ++ word.data.toList ++ pred.data.toList ++ [47])) (hWW : Wk B b w W) => writeStringK hBW D (by rw [List.length_append, List.length_append, List.length_append, List.length_cons, List.length_nil]; omega) (Nat.le_trans hBw hWW.size)
        have HL : Hid (word.data.toList.length ≤ 7 ∧ pred.data.toList.length ≤ 64 ∧ (Lib.decDigits k).length ≤ 2) := ⟨by omega, hp64, hdl⟩
        have h16i : ¬ (16 : Int) < (k : Int) := h16
        clear hnb h hD hdl h0 h16 hp64
        go_enter Tryz.func45, Tryz.ntmps45
        go_wp2_with (first
          | (go_at_call 60; refine hnm.mono ?_; rintro e w' ⟨rfl, hw'⟩; have hw2 := hw'.symm; subst hw2)
          | (go_at_call 42; refine w1.mono ?_; rintro e W1 ⟨rfl, hB1, hb1⟩; have w2' := w2 W1 hB1 hb1; have H1 : Hid (Wk B b w W1) := hb1; clear w1 w2 hB1 hb1)
          | (go_at_call 42; refine w2'.mono ?_; rintro e W2 ⟨rfl, hB2, hb2⟩; have w3' := w3 W2 hB2 (H1.out.trans hb2); have H2 : Hid (Wk B b w W2) := H1.out.trans hb2; clear w2' w3 hB2 hb2)
          | (go_at_call 44; refine w3'.mono ?_; rintro e W3 ⟨rfl, hB3, hb3⟩; have w4' := w4 W3 hB3 (H2.out.trans hb3); have H3 : Hid (Wk B b w W3) := H2.out.trans hb3; clear w3' w4 hB3 hb3)
          | (go_at_call 61; refine (hit _).mono ?_; rintro e w' ⟨rfl, hw'⟩; have hw2 := hw'.symm; subst hw2)
          | (go_at_call 42; refine w4'.mono ?_; rintro e W4 ⟨rfl, hB4, hb4⟩))
        go_ret
        refine ⟨rfl, word.data.toList ++ (pred.data.toList ++ (47 :: Lib.decDigits k)), by rw [HD.out] at hB4; simpa using hB4, fun _ => rfl, ?_, H3.out.trans hb4⟩
        have := HL.out.1
        have := HL.out.2.1
        have := HL.out.2.2
        simp only [List.length_append, List.length_cons]
        omega
end Go.Proofs.YtiobhadchakoiaaGreatDoor
