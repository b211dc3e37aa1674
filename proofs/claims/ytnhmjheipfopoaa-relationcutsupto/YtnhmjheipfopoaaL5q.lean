/- known: a small relation that the document names; the walk of RelationNil. -/
import Derived.Test.YtnhmjheipfopoaaL5k
import Derived.Test.YtnhmjheipfopoaaL5m
import Derived.Test.YtnhmjheipfopoaaL5p
namespace Go.Proofs.Ytnhmjheipfopoaa.L
open Go.RowKit Go.Maps Go.Shelf Go.Proofs.Ytnhmjheipfopoaa
section
variable {w0 w : World} {rb : Nat} {T : List (List Int)}

/-- Behind w0 there came a relation of pairs. -/
def KnR (w0 : World) (rb : Nat) (T : List (List Int)) (w : World) : Prop := ∃ F, RelS w F rb 2 T ∧ (∀ k, F k → w0.heap.size ≤ k) ∧ Stay w0 w

theorem stay_turn {w' : World} {F : Nat → Prop} (h : Stay w0 w) (ht : Turn F w w') (hF : ∀ k, F k → w0.heap.size ≤ k) : Stay w0 w' :=
  Below.trans h ⟨ht.os, ht.tape, ht.output, ht.size, fun k hk => ht.block k (Nat.lt_of_lt_of_le hk h.size) (fun hf => by have := hF k hf; omega)⟩

theorem KnR.grown {w1 w' : World} {F : Nat → Prop} (hF : ∀ k, F k → w0.heap.size ≤ k) (hs : Stay w0 w1) (hr : RelS w' (Grow F w1.heap.size w') rb 2 T) (ht : Turn F w1 w') : KnR w0 rb T w' :=
  ⟨_, hr, fun k hk => hk.elim (hF k) (fun h => Nat.le_trans hs.size h.1), stay_turn hs ht hF⟩

theorem RelS.lt {F : Nat → Prop} {ar : Nat} (h : RelS w F rb ar T) : ∀ k, F k → k < w.heap.size := by
  obtain ⟨_, _, _, _, h⟩ := h
  exact h.lt

theorem kn_new (h : KnR w0 rb T w) (x y : Int) (hx : 0 ≤ x) (hy : 0 ≤ y) (hl : T.length + 1 ≤ 68719476736) (hp : posL T [x, y] = []) :
    Calls Try.prog 18 #[.pointer (some ⟨rb, 0, none⟩), .slice (some ⟨w.heap.size, 0, none⟩) 2 2] (w.alloc (.cells #[.int .i64 x, .int .i64 y] 3)) fun e w' => e = .returned (.tuple #[.int .i64 T.length, .bool true, .int .i64 0]) ∧ KnR w0 rb (T ++ [[x, y]]) w' := by
  obtain ⟨F, hr, hF, hs⟩ := h
  have hs1 : Stay w (w.alloc (.cells #[.int .i64 x, .int .i64 y] 3)) := Stay.new _ _
  refine (add_new (hr.stay hs1) hl w.heap.size 0 2 [x, y] (ints_new w [x, y] 3) (by simp) (fun h => by have := hr.lt _ h; omega) (by simp [okT]; omega) hp).mono ?_
  rintro e w' ⟨rfl, h2, h3⟩
  exact ⟨rfl, KnR.grown hF (hs.trans hs1) h2 h3⟩

theorem kn_old (h : KnR w0 rb T w) (x y : Int) (hx : 0 ≤ x) (hy : 0 ≤ y) (hl : T.length ≤ 68719476736) {p : Nat} {l : List Nat} (hp : posL T [x, y] = p :: l) :
    Calls Try.prog 18 #[.pointer (some ⟨rb, 0, none⟩), .slice (some ⟨w.heap.size, 0, none⟩) 2 2] (w.alloc (.cells #[.int .i64 x, .int .i64 y] 3)) fun e w' => e = .returned (.tuple #[.int .i64 p, .bool false, .int .i64 0]) ∧ KnR w0 rb T w' := by
  obtain ⟨F, hr, hF, hs⟩ := h
  have hs1 : Stay w (w.alloc (.cells #[.int .i64 x, .int .i64 y] 3)) := Stay.new _ _
  refine (add_old (hr.stay hs1) hl (some ⟨w.heap.size, 0, none⟩) w.heap.size 0 2 [x, y] (ints_new w [x, y] 3) (by simp [maxLen]) (fun _ h => by have := hr.lt _ h; omega) (by simp [okT]; omega) hp).mono ?_
  rintro e w' ⟨rfl, h2, h3⟩
  exact ⟨rfl, KnR.grown hF (hs.trans hs1) h2 h3⟩

theorem kn_count (h : KnR w0 rb T w) (hl : T.length ≤ 68719476736) :
    Calls Try.prog 23 #[.pointer (some ⟨rb, 0, none⟩), .slice (some ⟨w.heap.size, 0, none⟩) 1 1, .slice (some ⟨w.heap.size + 1, 0, none⟩) 1 1, .int .i64 0, .int .i64 9] ((w.alloc (.cells #[.int .i64 1] 3)).alloc (.cells #[.int .i64 1] 3)) fun e w' => e = .returned (.tuple (countV 2 T [1] [1] 0 9)) ∧ KnR w0 rb T w' := by
  obtain ⟨F, hr, hF, hs⟩ := h
  have hs1 : Stay w ((w.alloc (.cells #[.int .i64 1] 3)).alloc (.cells #[.int .i64 1] 3)) := (Stay.new _ _).alloc _
  obtain ⟨vv, mb, L, Fs, hR⟩ := hr.stay hs1
  have hk := ints_new (w.alloc (.cells #[.int .i64 1] 3)) [1] 3
  rw [World.size_alloc] at hk
  refine (count_any hR hl (some ⟨w.heap.size, 0, none⟩) w.heap.size 0 1 [1] ((ints_new w [1] 3).stay (Stay.new _ _)) (by simp [maxLen]) (some ⟨w.heap.size + 1, 0, none⟩) (w.heap.size + 1) 0 1 [1] hk (by simp [maxLen]) (fun _ h => by have := hr.lt _ h; omega) 0 9).mono ?_
  rintro e w' ⟨rfl, h2, h3⟩
  exact ⟨rfl, KnR.grown hF (hs.trans hs1) h2 h3⟩

theorem kn_len (h : KnR w0 rb T w) : Calls Try.prog 19 #[.pointer (some ⟨rb, 0, none⟩)] w fun e w' => e = .returned (.int .i64 T.length) ∧ w' = w := by
  obtain ⟨F, hr, hF, hs⟩ := h
  obtain ⟨vv, mb, hb⟩ := hr.box
  exact rlen_yes hb

theorem known_count : countV 2 [[3, 1], [0, 1]] [1] [1] 0 9 = #[.int .i64 2, .int .i64 0] := by kernel_rfl
theorem pos_0 : posL [] [3, 1] = [] := by kernel_rfl
theorem pos_1 : posL [[3, 1]] [0, 1] = [] := by kernel_rfl
theorem pos_2 : posL [[3, 1], [0, 1]] [3, 1] = [0] := by kernel_rfl

set_option maxRecDepth 100000 in
set_option maxHeartbeats 2000000 in
theorem known_any (w : World) : Calls Try.prog 7 #[] w fun e w' => e = .returned (.bool true) ∧ Stay w w' := by
  have hnw := new_rel (ar := 2) w (by decide)
  have hnum := q4num_any
  have K1 : Hid (∀ Y, KnR w (w.heap.size + 1) [] Y → Calls Try.prog 18 #[.pointer (some ⟨w.heap.size + 1, 0, none⟩), .slice (some ⟨Y.heap.size, 0, none⟩) 2 2] (Y.alloc (.cells #[.int .i64 3, .int .i64 1] 3)) fun e w' => e = .returned (.tuple #[.int .i64 0, .bool true, .int .i64 0]) ∧ KnR w (w.heap.size + 1) [[3, 1]] w') := fun Y hY => kn_new hY 3 1 (by decide) (by decide) (by simp) pos_0
  have K2 : Hid (∀ Y, KnR w (w.heap.size + 1) [[3, 1]] Y → Calls Try.prog 18 #[.pointer (some ⟨w.heap.size + 1, 0, none⟩), .slice (some ⟨Y.heap.size, 0, none⟩) 2 2] (Y.alloc (.cells #[.int .i64 0, .int .i64 1] 3)) fun e w' => e = .returned (.tuple #[.int .i64 1, .bool true, .int .i64 0]) ∧ KnR w (w.heap.size + 1) [[3, 1], [0, 1]] w') := fun Y hY => kn_new hY 0 1 (by decide) (by decide) (by simp) pos_1
  have K3 : Hid (∀ Y, KnR w (w.heap.size + 1) [[3, 1], [0, 1]] Y → Calls Try.prog 18 #[.pointer (some ⟨w.heap.size + 1, 0, none⟩), .slice (some ⟨Y.heap.size, 0, none⟩) 2 2] (Y.alloc (.cells #[.int .i64 3, .int .i64 1] 3)) fun e w' => e = .returned (.tuple #[.int .i64 0, .bool false, .int .i64 0]) ∧ KnR w (w.heap.size + 1) [[3, 1], [0, 1]] w') := fun Y hY => kn_old hY 3 1 (by decide) (by decide) (by simp) pos_2
  have K4 : Hid (∀ Y, KnR w (w.heap.size + 1) [[3, 1], [0, 1]] Y → Calls Try.prog 23 #[.pointer (some ⟨w.heap.size + 1, 0, none⟩), .slice (some ⟨Y.heap.size, 0, none⟩) 1 1, .slice (some ⟨Y.heap.size + 1, 0, none⟩) 1 1, .int .i64 0, .int .i64 9] ((Y.alloc (.cells #[.int .i64 1] 3)).alloc (.cells #[.int .i64 1] 3)) fun e w' => e = .returned (.tuple #[.int .i64 2, .int .i64 0]) ∧ KnR w (w.heap.size + 1) [[3, 1], [0, 1]] w') := fun Y hY => by
    have := kn_count hY (by simp)
    rwa [known_count] at this
  have K5 : Hid (∀ Y, KnR w (w.heap.size + 1) [[3, 1], [0, 1]] Y → Calls Try.prog 19 #[.pointer (some ⟨w.heap.size + 1, 0, none⟩)] Y fun e w' => e = .returned (.int .i64 2) ∧ w' = Y) := fun Y hY => kn_len hY
  go_enter Try.func7, Try.ntmps7
  go_wp2_with (first
    | (go_at_call 16; refine hnw.mono ?_; rintro e w1 ⟨rfl, hr, hs⟩; have H1 : Hid (KnR w (w.heap.size + 1) [] w1) := ⟨_, hr, fun k hk => hk.1, hs⟩; clear hr hs hnw)
    | (go_at_call 17; refine (hnum _ _).mono ?_; rintro e w9 ⟨rfl, hw⟩; have hw' := hw.symm; subst hw')
    | (go_at_call 18; refine (K1.out _ H1.out).mono ?_; rintro e w2 ⟨rfl, hr⟩; have H2 : Hid (KnR w (w.heap.size + 1) [[3, 1]] w2) := hr; clear hr H1)
    | (go_at_call 18; refine (K2.out _ H2.out).mono ?_; rintro e w3 ⟨rfl, hr⟩; have H3 : Hid (KnR w (w.heap.size + 1) [[3, 1], [0, 1]] w3) := hr; clear hr H2)
    | (go_at_call 18; refine (K3.out _ H3.out).mono ?_; rintro e w4 ⟨rfl, hr⟩; have H4 : Hid (KnR w (w.heap.size + 1) [[3, 1], [0, 1]] w4) := hr; clear hr H3)
    | (go_at_call 23; refine (K4.out _ H4.out).mono ?_; rintro e w5 ⟨rfl, hr⟩; have H5 : Hid (KnR w (w.heap.size + 1) [[3, 1], [0, 1]] w5) := hr; clear hr H4)
    | (go_at_call 19; refine (K5.out _ H5.out).mono ?_; rintro e w9 ⟨rfl, hw⟩; have hw' := hw.symm; subst hw'))
  go_ret
  obtain ⟨_, _, _, hs⟩ := H5.out
  exact ⟨rfl, hs⟩

theorem zero_rel (w : World) : (w.alloc (.cells #[.int .i64 0, .int .i64 0, .slice none 0 0, .map none] 58)).cell? ⟨w.heap.size, 3, none⟩ = some (.map none) := by
  simp

set_option maxRecDepth 100000 in
set_option maxHeartbeats 1000000 in
theorem nil_walk (w : World) : Calls Try.prog 5 #[] w fun e w' => e = .returned (.bool true) ∧ Stay w w' := by
  have h1 := nothing_any (norel_nil w)
  have h2 : Hid (∀ Y, Calls Try.prog 24 #[.pointer (some ⟨Y.heap.size, 0, none⟩)] (Y.alloc (.cells #[.int .i64 0, .int .i64 0, .slice none 0 0, .map none] 58)) fun e w' => e = .returned (.bool true) ∧ Stay Y w') := fun Y =>
    (nothing_any (norel_zero (zero_rel Y))).mono fun _ _ ⟨a, b⟩ => ⟨a, (Stay.new _ _).trans b⟩
  have h3 : Hid (∀ Y, Calls Try.prog 7 #[] Y fun e w' => e = .returned (.bool true) ∧ Stay Y w') := fun Y => known_any Y
  go_enter Try.func5, Try.ntmps5
  go_wp2_with (first
    | (go_at_call 24; refine h1.mono ?_; rintro e w1 ⟨rfl, hs⟩; have H1 : Hid (Stay w w1) := hs; clear hs h1)
    | (go_at_call 24; refine (h2.out _).mono ?_; rintro e w2 ⟨rfl, hs⟩; have H2 : Hid (Stay w w2) := H1.out.trans hs; clear hs h2)
    | (go_at_call 7; refine (h3.out _).mono ?_; rintro e w3 ⟨rfl, hs⟩; have H3 : Hid (Stay w w3) := H2.out.trans hs; clear hs h3))
  go_ret
  exact ⟨rfl, H3.out⟩
end
end Go.Proofs.Ytnhmjheipfopoaa.L
