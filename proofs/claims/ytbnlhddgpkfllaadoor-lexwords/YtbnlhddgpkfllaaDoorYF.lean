/- LexWords' walk. -/
import Derived.Test.YtbnlhddgpkfllaaDoorYE
namespace Go.Proofs.YtbnlhddgpkfllaaDoor
open Go.RowKit Go.Maps

set_option maxRecDepth 100000 in
set_option maxHeartbeats 4000000 in
theorem lexWords_walk (s : ByteArray) (w : World) (hT : Tabs w) (hs : s.size ≤ 140737488355328) : Calls Tryd.prog 5 #[.string s] w fun e w' => e = .returned (.bool true) ∧ Stay w w' := by
  have a1 := Name_any s w hT
  have a2 := y_Name s w hs
  have a3 := Reserved_any s w hT
  have a4 := y_Reserved s w
  have a5 := Variable_any s w hT
  have a6 := y_Variable s w hs
  have a7 := Number_any s w hT
  have a8 := y_Number s w hs
  have a9 := Constant_any s w
  have a10 := y_Constant s w
  have b1 := Quote_any s w
  have b2 := fun W => y_Quote s W
  have b3 := fun W hW => Show_any s W hW hs
  have b4 := fun W => y_Show s W hs
  unfold numB at a7
  generalize nameB s.data.toList = x1 at *
  generalize resB s.data.toList = x2 at *
  generalize varB s.data.toList = x3 at *
  generalize allB digitZ s.data.toList = x4 at *
  generalize decide (s.data.toList.length ≤ 1024) = x5 at *
  generalize quoteT s.data.toList = T at *
  generalize showT s.data.toList = U at *
  obtain ⟨t1, t2⟩ := T
  obtain ⟨u1, u2⟩ := U
  dsimp only at *
  have n1 : (x1 != x1) = false := by simp
  have n2 : (x2 != x2) = false := by simp
  have n3 : (x3 != x3) = false := by simp
  have n4 : (x4 != x4) = false := by simp
  have n5 : (x5 != x5) = false := by simp
  have s1 := str_eq t1 t1
  have s2 := str_eq u1 u1
  rw [decide_eq_true rfl] at s1 s2
  have hkn := fun (W : World) (hW : Stay w W) => known_any W (hT.stay hW)
  have HT : Hid (Tabs w) := hT
  clear hT
  go_enter Tryd.func5, Tryd.ntmps5
  go_wp2_with (first
    | (go_at_call 15; refine a1.mono ?_; rintro e w' ⟨rfl, hw'⟩; have hw2 := hw'.symm; subst hw2)
    | (go_at_call 16; refine a2.mono ?_; rintro e w' ⟨rfl, hw'⟩; have hw2 := hw'.symm; subst hw2)
    | (go_at_call 17; refine a3.mono ?_; rintro e w' ⟨rfl, hw'⟩; have hw2 := hw'.symm; subst hw2)
    | (go_at_call 18; refine a4.mono ?_; rintro e w' ⟨rfl, hw'⟩; have hw2 := hw'.symm; subst hw2)
    | (go_at_call 19; refine a5.mono ?_; rintro e w' ⟨rfl, hw'⟩; have hw2 := hw'.symm; subst hw2)
    | (go_at_call 20; refine a6.mono ?_; rintro e w' ⟨rfl, hw'⟩; have hw2 := hw'.symm; subst hw2)
    | (go_at_call 21; refine a7.mono ?_; rintro e w' ⟨rfl, hw'⟩; have hw2 := hw'.symm; subst hw2)
    | (go_at_call 22; refine a8.mono ?_; rintro e w' ⟨rfl, hw'⟩; have hw2 := hw'.symm; subst hw2)
    | (go_at_call 23; refine a9.mono ?_; rintro e w' ⟨rfl, hw'⟩; have hw2 := hw'.symm; subst hw2)
    | (go_at_call 24; refine a10.mono ?_; rintro e w' ⟨rfl, hw'⟩; have hw2 := hw'.symm; subst hw2)
    | (go_at_call 25; refine b1.mono ?_; rintro e W1 ⟨rfl, hs1⟩; have H1 : Hid (Stay w W1) := hs1; clear hs1)
    | (go_at_call 26; refine (b2 _).mono ?_; rintro e W2 ⟨rfl, hs2⟩; have H2 : Hid (Stay w W2) := H1.out.trans hs2; clear hs2)
    | (go_at_call 27; refine (b3 _ (HT.out.stay H2.out)).mono ?_; rintro e W3 ⟨rfl, hs3⟩; have H3 : Hid (Stay w W3) := H2.out.trans hs3; clear hs3)
    | (go_at_call 28; refine (b4 _).mono ?_; rintro e W4 ⟨rfl, hs4⟩; have H4 : Hid (Stay w W4) := H3.out.trans hs4; clear hs4)
    | (go_at_call 12; refine (num_any _ _).mono ?_; rintro e w' ⟨rfl, hw'⟩; have hw2 := hw'.symm; subst hw2)
    | (go_at_call 13; refine (hkn _ H4.out).mono ?_; rintro e W5 ⟨rfl, hs5⟩))
  go_ret
  exact ⟨rfl, H4.out.trans hs5⟩
end Go.Proofs.YtbnlhddgpkfllaaDoor
