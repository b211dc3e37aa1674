/- PrintTexts' walk. -/
import Derived.Test.YtckgmpifdkbeeaaDoorPP
namespace Go.Proofs.YtckgmpifdkbeeaaDoor
open Go.RowKit Go.Maps

theorem str_eq (a b : List UInt8) : ((⟨a.toArray⟩ : ByteArray).toList == (⟨b.toArray⟩ : ByteArray).toList) = decide (a = b) := by
  rw [ByteArray.toList_eq, ByteArray.toList_eq, Bool.eq_iff_iff]
  simp
set_option maxRecDepth 100000 in
set_option maxHeartbeats 4000000 in
theorem printTexts_walk (s : ByteArray) (w : World) (hT : Tabs w) (hs : s.size ≤ 1048576) : Calls Tryd.prog 3 #[.string s] w fun e w' => e = .returned (.bool true) ∧ Stay w w' := by
  have a1 := pTerm_any ⟨false, s⟩ w hT
  have a2 := fun W (hW : Stay w W) => pTerm_any ⟨true, s⟩ W (hT.stay hW)
  have a3 := fun W => y9Term_any ⟨false, s⟩ W
  have a4 := fun W => y9Term_any ⟨true, s⟩ W
  have a5 := fun W (hW : Stay w W) => Bare_any s W (hT.stay hW)
  have a6 := fun W => y_Bare s W
  have a7 := fun W => pQuote_any s W (by omega)
  have a8 := fun W => y_Quote s W (by omega)
  have a9 := fun W (hW : Stay w W) => known_any W (hT.stay hW)
  unfold tellT Tm.v at *
  dsimp only at *
  generalize (if Tm.ok ⟨false, s⟩ = true then Tm.txt ⟨false, s⟩ else []) = x1 at *
  generalize (if Tm.ok ⟨true, s⟩ = true then Tm.txt ⟨true, s⟩ else []) = x2 at *
  generalize (if Tm.ok ⟨false, s⟩ = true then (0 : Int) else 2) = y1 at *
  generalize (if Tm.ok ⟨true, s⟩ = true then (0 : Int) else 2) = y2 at *
  generalize bareB s.data.toList = z at *
  generalize quoteL s.data.toList = q at *
  have s1 := str_eq x1 x1
  have s2 := str_eq x2 x2
  have s3 := str_eq q q
  rw [decide_eq_true rfl] at s1 s2 s3
  have n1 : (z == z) = true := by simp
  clear hT hs
  go_enter Tryd.func3, Tryd.ntmps3
  go_wp2_with (first
    | (go_at_call 5; refine a1.mono ?_; rintro e W1 ⟨rfl, hs1⟩; have H1 : Hid (Stay w W1) := hs1; clear hs1 a1)
    | (go_at_call 5; refine (a2 _ H1.out).mono ?_; rintro e W2 ⟨rfl, hs2⟩; have H2 : Hid (Stay w W2) := H1.out.trans hs2; clear hs2 a2)
    | (go_at_call 6; refine (a3 _).mono ?_; rintro e W3 ⟨rfl, hs3⟩; have H3 : Hid (Stay w W3) := H2.out.trans hs3; clear hs3 a3)
    | (go_at_call 6; refine (a4 _).mono ?_; rintro e W4 ⟨rfl, hs4⟩; have H4 : Hid (Stay w W4) := H3.out.trans hs4; clear hs4 a4)
    | (go_at_call 7; refine (a5 _ H4.out).mono ?_; rintro e w' ⟨rfl, hw'⟩; have hw2 := hw'.symm; subst hw2)
    | (go_at_call 8; refine (a6 _).mono ?_; rintro e w' ⟨rfl, hw'⟩; have hw2 := hw'.symm; subst hw2)
    | (go_at_call 9; refine (a7 _).mono ?_; rintro e W5 ⟨rfl, hs5⟩; have H5 : Hid (Stay w W5) := H4.out.trans hs5; clear hs5)
    | (go_at_call 10; refine (a8 _).mono ?_; rintro e W6 ⟨rfl, hs6⟩; have H6 : Hid (Stay w W6) := H5.out.trans hs6; clear hs6)
    | (go_at_call 11; refine (a9 _ H6.out).mono ?_; rintro e W7 ⟨rfl, hs7⟩))
  go_ret
  exact ⟨rfl, H6.out.trans hs7⟩
end Go.Proofs.YtckgmpifdkbeeaaDoor
