/- nothing: a relation that is not there, asked all that can be asked. -/
import Derived.Test.YtnhmjheipfopoaaL5o
namespace Go.Proofs.Ytnhmjheipfopoaa.L
open Go.RowKit Go.Maps Go.Shelf Go.Proofs.Ytnhmjheipfopoaa

section
variable {W : World} {p : Option Addr}

theorem q4num_any (e : Int) (w : World) : Calls Try.prog 17 #[.int .i64 e] w fun r w' => r = .returned (.int .i64 e) ∧ w' = w := by
  go_enter Try.func17, Try.ntmps17
  go_wp2
  go_ret
  exact ⟨rfl, rfl⟩

set_option maxRecDepth 100000 in
set_option maxHeartbeats 1000000 in
theorem match_none (h : NoRel p W) (a : Option Addr) (n c : Nat) (a2 : Option Addr) (n2 c2 : Nat) (x y : Int) : Calls Try.prog 10 #[.pointer p, .slice a n c, .slice a2 n2 c2, .int .i64 x, .int .i64 y] W fun e w' => e = .returned (.func (.func 29) #[] #[]) ∧ Stay W w' := by
  obtain ⟨V, hV⟩ : ∃ V, V = (((W.alloc (.cells #[.pointer p] 24)).alloc (.cells #[.slice a2 n2 c2] 23)).alloc (.cells #[.int .i64 x] 3)).alloc (.cells #[.int .i64 y] 3) := ⟨_, rfl⟩
  have hsV : Stay W V := by rw [hV]; exact (((Stay.new _ _).alloc _).alloc _).alloc _
  have hask := ask_none (h.stay hsV) a n c a2 n2 c2
  have hz := zeroRow
  obtain ⟨Z, hZ⟩ : ∃ Z, Z = rowV 0 := ⟨_, rfl⟩
  rw [← hZ] at hz hask
  have H0 : Hid (Z = rowV 0) := hZ
  have HV : Hid (Stay W V) := hsV
  rw [hV] at hask
  clear hZ h hsV
  go_enter Try.func10, Try.ntmps10
  go_wp2_with (first
    | (go_at_call 28; refine hask.mono ?_; rw [← hV]; rintro e w1 ⟨rfl, hs1⟩; have HS1 : Hid (Stay W w1) := HV.out.trans hs1; clear hs1 hask hV)
    | (refine wpList_store_fresh rfl 64 (.tmp 11) (.tmp 18) rfl Z Z rfl rfl 64 (by rw [H0.out]; exact sizeRow' _) rfl (by rw [H0.out]; exact rowV_one _) ?_))
  go_ret
  exact ⟨rfl, HS1.out.alloc _⟩

theorem all_tells (h : NoRel p W) (x y : Int) : Calls Try.prog 12 #[.pointer p, .int .i64 x, .int .i64 y] W fun e w' => ∃ b1 b2 b3, e = .returned (.func (.func 35) #[] #[.pointer (some ⟨b1, 0, none⟩), .pointer (some ⟨b2, 0, none⟩), .pointer (some ⟨b3, 0, none⟩)]) ∧ Stay W w' ∧
    Calls Try.prog 49 #[.func (.func 35) #[] #[.pointer (some ⟨b1, 0, none⟩), .pointer (some ⟨b2, 0, none⟩), .pointer (some ⟨b3, 0, none⟩)]] w' fun e w2 => e = .returned (.bool true) ∧ Stay w' w2 :=
  (allR_any W p x y).mono fun _ _ ⟨V, h1, h2, h3, _, c1, c2, c3⟩ => ⟨_, _, _, h1, h2 ▸ h3, h2 ▸ none_any _ _ V (enters_of Try.func35 (by kernel_rfl) rfl) (all1_none _ _ _ V c1 x y c2 c3 (h.stay h3))⟩

theorem match_tells (w : World) : Calls Try.prog 49 #[.func (.func 29) #[] #[]] w fun e w2 => e = .returned (.bool true) ∧ Stay w w2 :=
  none_any _ _ w (enters_of Try.func29 (by kernel_rfl) rfl) (match1_none w)

set_option maxRecDepth 100000 in
set_option maxHeartbeats 4000000 in
theorem nothing_any (h : NoRel p W) : Calls Try.prog 24 #[.pointer p] W fun e w' => e = .returned (.bool true) ∧ Stay W w' := by
  have HN : Hid (NoRel p W) := h
  have hnum := q4num_any
  clear h
  go_enter Try.func24, Try.ntmps24
  go_wp2_with (first
    | (go_at_call 18; refine (add_none (HN.out.stay (by (repeat (first | exact Stay.refl _ | assumption | exact Hid.out (by assumption) | refine Stay.alloc ?_ _)))) _ _ _).mono ?_; rintro e w9 ⟨rfl, hw⟩; have hw' := hw.symm; subst hw')
    | (go_at_call 42; refine (place_none (HN.out.stay (by (repeat (first | exact Stay.refl _ | assumption | exact Hid.out (by assumption) | refine Stay.alloc ?_ _)))) _ _ _).mono ?_; rintro e w9 ⟨rfl, hw⟩; have hw' := hw.symm; subst hw')
    | (go_at_call 21; refine (atR_none (HN.out.stay (by (repeat (first | exact Stay.refl _ | assumption | exact Hid.out (by assumption) | refine Stay.alloc ?_ _)))) _).mono ?_; rintro e w9 ⟨rfl, hw⟩; have hw' := hw.symm; subst hw')
    | (go_at_call 23; refine (count_none (HN.out.stay (by (repeat (first | exact Stay.refl _ | assumption | exact Hid.out (by assumption) | refine Stay.alloc ?_ _)))) _ _ _ _ _ _ _ _).mono ?_; rintro e w9 ⟨rfl, hw⟩; have hw' := hw.symm; subst hw')
    | (go_at_call 20; refine (distinct_none (HN.out.stay (by (repeat (first | exact Stay.refl _ | assumption | exact Hid.out (by assumption) | refine Stay.alloc ?_ _)))) _ _ _).mono ?_; rintro e w9 ⟨rfl, hw⟩; have hw' := hw.symm; subst hw')
    | (go_at_call 19; refine (len_none (HN.out.stay (by (repeat (first | exact Stay.refl _ | assumption | exact Hid.out (by assumption) | refine Stay.alloc ?_ _))))).mono ?_; rintro e w9 ⟨rfl, hw⟩; have hw' := hw.symm; subst hw')
    | (go_at_call 47; refine (arity_none (HN.out.stay (by (repeat (first | exact Stay.refl _ | assumption | exact Hid.out (by assumption) | refine Stay.alloc ?_ _))))).mono ?_; rintro e w9 ⟨rfl, hw⟩; have hw' := hw.symm; subst hw')
    | (go_at_call 48; refine (copy_none (HN.out.stay (by (repeat (first | exact Stay.refl _ | assumption | exact Hid.out (by assumption) | refine Stay.alloc ?_ _))))).mono ?_; rintro e w9 ⟨rfl, hw⟩; have hw' := hw.symm; subst hw')
    | (go_at_call 17; refine (hnum _ _).mono ?_; rintro e w9 ⟨rfl, hw⟩; have hw' := hw.symm; subst hw')
    | (go_at_call 12; refine (all_tells (HN.out.stay (by (repeat (first | exact Stay.refl _ | assumption | exact Hid.out (by assumption) | refine Stay.alloc ?_ _)))) 0 9).mono ?_; rintro e wa ⟨b1, b2, b3, rfl, hs, hno⟩; have HSa : Hid (Stay W wa) := Stay.trans (by (repeat (first | exact Stay.refl _ | assumption | exact Hid.out (by assumption) | refine Stay.alloc ?_ _))) hs; clear hs)
    | (go_at_call 49; refine hno.mono ?_; rintro e wn ⟨rfl, hs⟩; have HSn : Hid (Stay W wn) := HSa.out.trans hs; clear hs hno)
    | (go_at_call 10; refine (match_none (HN.out.stay (by (repeat (first | exact Stay.refl _ | assumption | exact Hid.out (by assumption) | refine Stay.alloc ?_ _)))) _ _ _ _ _ _ 0 9).mono ?_; rintro e wm ⟨rfl, hs⟩; have HSa : Hid (Stay W wm) := Stay.trans (by (repeat (first | exact Stay.refl _ | assumption | exact Hid.out (by assumption) | refine Stay.alloc ?_ _))) hs; clear hs; have hno := match_tells wm))
  go_ret
  exact ⟨rfl, by (repeat (first | exact Stay.refl _ | assumption | exact Hid.out (by assumption) | refine Stay.alloc ?_ _))⟩
end
end Go.Proofs.Ytnhmjheipfopoaa.L
