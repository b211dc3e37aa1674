/- The library's rotate, on a row of things. -/
import Derived.Test.YtnmaldgmlkcliaaGC
namespace Go.Proofs.Ytnmaldgmlkcliaa
open Go.RowKit Go.Maps Go.Shelf Go.Sort Go.Proofs.Ytnmaldgmlkcliaa.HT

/-- What is left to be turned: i things ahead of m, j behind. -/
def Rot (L F : List (Int × Int)) (m i j : Nat) : Prop := ∃ P X Y Q, L = P ++ (X ++ (Y ++ Q)) ∧ P.length + i = m ∧ X.length = i ∧ Y.length = j ∧ F = P ++ (Y ++ (X ++ Q))

set_option maxRecDepth 100000 in
set_option maxHeartbeats 4000000 in
theorem rotate_any (W : World) (G cap n : Nat) (fv : Value) (P X Y Q : List (Int × Int)) (hn : n = P.length + X.length + Y.length + Q.length) (hX : 0 < X.length) (hY : 0 < Y.length) (hsz : n < 4611686018427387904) (hI : InT W G (P ++ (X ++ (Y ++ Q)))) :
    Calls Try.prog 62 #[.slice (some ⟨G, 0, none⟩) n cap, .int .i64 (P.length : Int), .int .i64 ((P.length + X.length : Nat) : Int), .int .i64 ((P.length + X.length + Y.length : Nat) : Int), fv] W fun e w' => e = .returned (.tuple #[]) ∧ InT w' G (P ++ (Y ++ (X ++ Q))) ∧ Turn (fun j => j = G) W w' := by
  obtain ⟨a, ha⟩ : ∃ a, a = P.length := ⟨_, rfl⟩
  obtain ⟨i0, hi0⟩ : ∃ i, i = X.length := ⟨_, rfl⟩
  obtain ⟨j0, hj0⟩ : ∃ j, j = Y.length := ⟨_, rfl⟩
  obtain ⟨F, hF⟩ : ∃ F, F = P ++ (Y ++ (X ++ Q)) := ⟨_, rfl⟩
  obtain ⟨L0, hL0⟩ : ∃ L, L = P ++ (X ++ (Y ++ Q)) := ⟨_, rfl⟩
  obtain ⟨m, hm⟩ : ∃ m, m = a + i0 := ⟨_, rfl⟩
  obtain ⟨b, hb0⟩ : ∃ b, b = a + i0 + j0 := ⟨_, rfl⟩
  rw [← hF, ← ha, ← hi0, ← hj0, ← hb0, ← hm]
  rw [← hL0] at hI
  have HX : Hid (InT W G L0 ∧ Rot L0 F m i0 j0 ∧ L0.length = n ∧ b ≤ n) := ⟨hI, ⟨P, X, Y, Q, hL0, by rw [hm, ha], hi0.symm, hj0.symm, hF⟩, by rw [hL0, hn]; simp; omega, by omega⟩
  have hb : (b : Int) ≤ (n : Int) := by omega
  have hip : 0 < i0 := by omega
  have hjp : 0 < j0 := by omega
  have hmi : i0 ≤ m ∧ m + j0 = b := by omega
  have w1 : IntKind.i64.wrap ((m : Int) - (a : Int)) = (i0 : Int) := by rw [IntKind.wrap_i64]; omega
  have w2 : IntKind.i64.wrap ((b : Int) - (m : Int)) = (j0 : Int) := by rw [IntKind.wrap_i64]; omega
  have HM : Hid (i0 ≤ m ∧ m + j0 = b ∧ b ≤ n) := ⟨hmi.1, hmi.2, by omega⟩
  clear hn hX hY hI ha hi0 hj0 hF hL0 hm hb0 hmi
  go_enter Try.func62, Try.ntmps62
  go_wp2
  go_loopw [10, 11] (fun vi vj wr => ∃ (i j : Nat) (L : List (Int × Int)), 0 < i ∧ 0 < j ∧ i ≤ m ∧ m + j ≤ n ∧ vi = .int .i64 i ∧ vj = .int .i64 j ∧ Rot L F m i j ∧ L.length = n ∧ InT wr G L ∧ Turn (fun j => j = G) W wr) (fun vi vj _ => (intOf vi).toNat + (intOf vj).toNat)
  case atStart => exact ⟨i0, j0, L0, hip, hjp, HM.out.1, by have := HM.out; omega, by first | rfl | go_num, by first | rfl | go_num, HX.out.2.1, HX.out.2.2.1, HX.out.1, Turn.refl _ _⟩
  case round =>
    clear w1 w2
    obtain ⟨i, j, L, h1, h2, h3, h4, rfl, rfl, hR, hl, hI, hT⟩ := hrel
    obtain ⟨P', X', Y', Q', hL, hP, hX, hY, hF⟩ := hR
    have wm : IntKind.i64.wrap ((m : Int) - (i : Int)) = (P'.length : Int) := by rw [IntKind.wrap_i64]; omega
    obtain ⟨p, hp⟩ : ∃ p, p = P'.length := ⟨_, rfl⟩
    rw [← hp] at wm
    by_cases hij : i = j
    · subst hij
      have hc := swapRange_at wr G cap n p m i fv L hl.symm (by omega) (by omega) hsz hI
      have hE : exch L p m i = F := by
        have := exch_parts P' X' [] Y' Q' (by omega)
        rw [hL, hp, hF, show m = P'.length + X'.length + ([] : List (Int × Int)).length by simp; omega, ← hX]
        exact this
      rw [hE] at hc
      have HT : Hid (Turn (fun j => j = G) W wr) := hT
      clear hI hT hL hP hX hY hF hp hl hE
      go_wp2_with fail
      refine hc.mono ?_
      rintro e w1 ⟨rfl, hI, hT⟩
      have HS : Hid (InT w1 G F ∧ Turn (fun j => j = G) W w1) := ⟨hI, HT.out.trans hT⟩
      clear hI hT hc HT
      go_wp2
      go_end0
      exact ⟨rfl, HS.out.1, HS.out.2⟩
    · have hne : ((i : Int) != (j : Int)) = true := by simp; omega
      have hne2 : ¬ (i : Int) = (j : Int) := by omega
      by_cases hgt : j < i
      · have hgt2 : (j : Int) < (i : Int) := by omega
        have hc := swapRange_at wr G cap n p m j fv L hl.symm (by omega) (by omega) hsz hI
        have hsp : X' = X'.take j ++ X'.drop j := (List.take_append_drop j X').symm
        have ht : (X'.take j).length = j := by rw [List.length_take]; omega
        have hd : (X'.drop j).length = i - j := by rw [List.length_drop]; omega
        generalize X'.take j = X1 at hsp ht
        generalize X'.drop j = X2 at hsp hd
        have hE : exch L p m j = P' ++ (Y' ++ (X2 ++ (X1 ++ Q'))) := by
          have := exch_parts P' X1 X2 Y' Q' (by omega)
          rw [hL, hsp, List.append_assoc, hp, show m = P'.length + X1.length + X2.length by omega, ← ht]
          exact this
        have hRot : Rot (P' ++ (Y' ++ (X2 ++ (X1 ++ Q')))) F m (i - j) j := ⟨P' ++ Y', X2, X1, Q', by simp, by rw [List.length_append]; omega, hd, ht, by rw [hF, hsp]; simp⟩
        have hl2 : (P' ++ (Y' ++ (X2 ++ (X1 ++ Q')))).length = n := by rw [← hE, exch_len]; exact hl
        rw [hE] at hc
        generalize P' ++ (Y' ++ (X2 ++ (X1 ++ Q'))) = L2 at hc hRot hl2
        have HT : Hid (Turn (fun j => j = G) W wr ∧ Rot L2 F m (i - j) j ∧ L2.length = n) := ⟨hT, hRot, hl2⟩
        have wd : IntKind.i64.wrap ((i : Int) - (j : Int)) = ((i - j : Nat) : Int) := by rw [IntKind.wrap_i64]; omega
        obtain ⟨d, hd2⟩ : ∃ d, d = i - j := ⟨_, rfl⟩
        rw [← hd2] at wd HT
        have HD : Hid (d = i - j) := hd2
        clear hI hT hL hP hX hY hF hp hl hE hsp ht hd hRot hl2 hd2
        go_wp2_with fail
        refine hc.mono ?_
        rintro e w1 ⟨rfl, hI, hT⟩
        have HS : Hid (InT w1 G L2 ∧ Turn (fun j => j = G) W w1) := ⟨hI, HT.out.1.trans hT⟩
        clear hI hT hc
        go_wp2
        exact ⟨⟨d, j, L2, by have := HD.out; omega, h2, by have := HD.out; omega, h4, by first | rfl | go_num, rfl, HT.out.2.1, HT.out.2.2, HS.out.1, HS.out.2⟩, by have := HD.out; simp [intOf]; omega⟩
      · have hgt2 : ¬ (j : Int) < (i : Int) := by omega
        have hc := swapRange_at wr G cap n p (m + (j - i)) i fv L hl.symm (by omega) (by omega) hsz hI
        have wb : IntKind.i64.wrap ((m : Int) + (j : Int)) = (m : Int) + (j : Int) := by rw [IntKind.wrap_i64]; omega
        have wb2 : IntKind.i64.wrap ((m : Int) + (j : Int) - (i : Int)) = ((m + (j - i) : Nat) : Int) := by rw [IntKind.wrap_i64]; omega
        have hsp : Y' = Y'.take (j - i) ++ Y'.drop (j - i) := (List.take_append_drop (j - i) Y').symm
        have ht : (Y'.take (j - i)).length = j - i := by rw [List.length_take]; omega
        have hd : (Y'.drop (j - i)).length = i := by rw [List.length_drop]; omega
        generalize Y'.take (j - i) = Y1 at hsp ht
        generalize Y'.drop (j - i) = Y2 at hsp hd
        have hE : exch L p (m + (j - i)) i = P' ++ (Y2 ++ (Y1 ++ (X' ++ Q'))) := by
          have := exch_parts P' X' Y1 Y2 Q' (by omega)
          rw [hL, hsp, List.append_assoc, hp, show m + (j - i) = P'.length + X'.length + Y1.length by omega, ← hX]
          exact this
        have hRot : Rot (P' ++ (Y2 ++ (Y1 ++ (X' ++ Q')))) F m i (j - i) := ⟨P', Y2, Y1, X' ++ Q', rfl, hP, hd, ht, by rw [hF, hsp]; simp⟩
        have hl2 : (P' ++ (Y2 ++ (Y1 ++ (X' ++ Q')))).length = n := by rw [← hE, exch_len]; exact hl
        rw [hE] at hc
        generalize P' ++ (Y2 ++ (Y1 ++ (X' ++ Q'))) = L2 at hc hRot hl2
        have HT : Hid (Turn (fun j => j = G) W wr ∧ Rot L2 F m i (j - i) ∧ L2.length = n) := ⟨hT, hRot, hl2⟩
        have wd : IntKind.i64.wrap ((j : Int) - (i : Int)) = ((j - i : Nat) : Int) := by rw [IntKind.wrap_i64]; omega
        obtain ⟨d, hd2⟩ : ∃ d, d = j - i := ⟨_, rfl⟩
        rw [← hd2] at wd HT
        obtain ⟨bb, hbb⟩ : ∃ bb, bb = m + (j - i) := ⟨_, rfl⟩
        rw [← hbb] at wb2 hc
        have HD : Hid (d = j - i) := hd2
        clear hI hT hL hP hX hY hF hp hl hE hsp ht hd hRot hl2 hd2 hbb
        go_wp2_with fail
        refine hc.mono ?_
        rintro e w1 ⟨rfl, hI, hT⟩
        have HS : Hid (InT w1 G L2 ∧ Turn (fun j => j = G) W w1) := ⟨hI, HT.out.1.trans hT⟩
        clear hI hT hc
        go_wp2
        exact ⟨⟨i, d, L2, h1, by have := HD.out; omega, h3, by have := HD.out; omega, rfl, by first | rfl | go_num, HT.out.2.1, HT.out.2.2, HS.out.1, HS.out.2⟩, by have := HD.out; simp [intOf]; omega⟩
end Go.Proofs.Ytnmaldgmlkcliaa
