/- LexBack's walk. -/
import Derived.Test.YtbnlhddgpkfllaaDoorYG
namespace Go.Proofs.YtbnlhddgpkfllaaDoor
open Go.RowKit Go.Maps

theorem neqK (x y : Tok) (w : World) : (binOp .neq 25 (.agg #[.int .i64 x.kind, .string ⟨x.text.toArray⟩, .int .i64 (x.at_ : Int), .int .i64 (x.fin : Int)]) (.agg #[.int .i64 y.kind, .string ⟨y.text.toArray⟩, .int .i64 (y.at_ : Int), .int .i64 (y.fin : Int)])).run Tryd.prog w = .ok (.bool (decide (¬ x = y))) w := by
  obtain ⟨x1, x2, x3, x4⟩ := x
  obtain ⟨y1, y2, y3, y4⟩ := y
  have u3 := Tryd.underlying3
  have a3 := Tryd.isAgg3
  have z3 := Tryd.sizeOf3
  have u9 := Tryd.underlying9
  have a9 := Tryd.isAgg9
  have z9 := Tryd.sizeOf9
  have u23 := Tryd.underlying23
  have a23 := Tryd.isAgg23
  have z23 := Tryd.sizeOf23
  rw [run_neq_struct, show (10000 : Nat) = 9999 + 1 from rfl, run_equalIn_agg w 9999 25 _ _ fieldsK heldK]
  simp only [Program.fieldsOf, Tryd.underlying25]
  go_simp
  by_cases h1 : x1 = y1 <;> by_cases h2 : x2 = y2 <;> by_cases h3 : x3 = y3 <;> by_cases h4 : x4 = y4 <;> simp [h1, h2, h3, h4]
  all_goals omega

set_option maxRecDepth 100000 in
set_option maxHeartbeats 4000000 in
theorem lexBack_walk (s : ByteArray) (w : World) (hT : Tabs w) (hs : s.size ≤ 140737488355328) : Calls Tryd.prog 7 #[.string s] w fun e w' => e = .returned (.bool true) ∧ Stay w w' := by
  have hkn := known_any w hT
  have b1 := fun W => Quote_any s W
  have b3 := fun W (hW : Stay w W) => Show_any s W (hT.stay hW) hs
  have b5 := fun W => Constant_any s W
  obtain ⟨L, rfl⟩ : ∃ L : List UInt8, s = ⟨L.toArray⟩ := ⟨s.data.toList, by simp⟩
  have hlen : (⟨L.toArray⟩ : ByteArray).size = L.length := by show L.toArray.size = _; simp
  dsimp only at b1 b3 b5
  by_cases hc : L.length ≤ 1024
  · rw [decide_eq_true hc] at b5
    unfold quoteT at b1
    rw [if_pos hc] at b1
    have lq := lex_quote L hc
    obtain ⟨ls, le, lg⟩ := lex_show L hc
    rw [le] at b3
    have hql : (quoteL L).length ≤ 4098 := by rw [quoteL_len]; have := pieces_len L; omega
    have t1 := fun W (hW : Tabs W) => Tokens_any ⟨(quoteL L).toArray⟩ (by show (quoteL L).toArray.size ≤ _; simp; omega) W hW
    have t2 := fun W (hW : Tabs W) => Tokens_any ⟨(showT L).1.toArray⟩ (by show (showT L).1.toArray.size ≤ _; simp; omega) W hW
    dsimp only at t1 t2
    rw [lq] at t1
    rw [ls] at t2
    have nb : ((showK L == 1) == nameB L) = true ∧ ((showK L == 3) == numB L) = true := by
      unfold showK
      cases hn : nameB L
      · cases hm : numB L <;> simp
      · rw [name_not_num hn]; simp
    have c1 := fun W (hW : Stay w W) => Name_any ⟨L.toArray⟩ W (hT.stay hW)
    have c2 := fun W (hW : Stay w W) => Number_any ⟨L.toArray⟩ W (hT.stay hW)
    dsimp only at c1 c2
    have HT : Hid (Tabs w) := hT
    generalize showT L = U at *
    obtain ⟨u1, u2⟩ := U
    generalize quoteL L = Q at *
    generalize showK L = K at *
    generalize nameB L = x1 at *
    generalize numB L = x2 at *
    dsimp only [Tok.val, Tok.cells, tok0] at *
    obtain ⟨nb1, nb2⟩ := nb
    have hg := guardK
    have he := neqK ⟨4, L, 0, Q.length⟩ ⟨4, L, 0, Q.length⟩
    simp only [not_true_eq_false, decide_false] at he
    have hst := str_eq L L
    rw [decide_eq_true rfl] at hst
    have hqs : (⟨Q.toArray⟩ : ByteArray).size = Q.length := by show Q.toArray.size = _; simp
    have hus : (⟨u1.toArray⟩ : ByteArray).size = u1.length := by show u1.toArray.size = _; simp
    clear le lq ls hT hs hc
    go_enter Tryd.func7, Tryd.ntmps7
    go_wp2_with fail
    refine hkn.mono ?_
    rintro e W0 ⟨rfl, hs0⟩
    have H0 : Hid (Stay w W0) := hs0
    clear hkn hs0
    go_wp2_with fail
    refine (b1 W0).mono ?_
    rintro e W1 ⟨rfl, hs1⟩
    have H1 : Hid (Stay w W1) := H0.out.trans hs1
    clear b1 hs1
    go_wp2_with fail
    refine (b3 W1 H1.out).mono ?_
    rintro e W2 ⟨rfl, hs2⟩
    have H2 : Hid (Stay w W2) := H1.out.trans hs2
    clear b3 hs2
    go_wp2_with fail
    refine (b5 W2).mono ?_
    rintro e w' ⟨rfl, hw'⟩
    have hw2 := hw'.symm
    subst hw2
    clear b5
    go_wp2_with fail
    refine (t1 W2 (HT.out.stay H2.out)).mono ?_
    rintro e W3 ⟨v1, rfl, hO1, hs3⟩
    obtain ⟨g1, c1', rfl⟩ := ownsRow_succ hO1
    have H3 : Hid (Stay w W3 ∧ OwnK W2.heap.size W3 (.slice (some ⟨g1, 0, none⟩) (0 + 1) c1') [⟨4, L, 0, Q.length⟩]) := ⟨H2.out.trans hs3, hO1⟩
    clear t1 hO1 hs3
    go_wp2_with fail
    refine (t2 _ (HT.out.stay (H3.out.1.trans (Stay.new _ _)))).mono ?_
    rintro e W4 ⟨v2, rfl, hO2, hs4⟩
    obtain ⟨g2, c2', rfl⟩ := ownsRow_succ hO2
    have s34 : Stay W3 W4 := (Stay.new _ _).trans hs4
    obtain ⟨X, hX⟩ : ∃ X, X = W4.alloc (.cells #[.int .i64 0, .string ⟨#[]⟩, .int .i64 0, .int .i64 0] 25) := ⟨_, rfl⟩
    have sX : Stay W4 X := by rw [hX]; exact Stay.new _ _
    have hOa := (H3.out.2.stay s34).stay sX
    have hOb := OwnK.stay hO2 sX
    have k0 := hOa.cells 0 (.int .i64 4) rfl
    have k1 := hOa.cells 1 (.string ⟨L.toArray⟩) rfl
    have k2 := hOa.cells 2 (.int .i64 0) rfl
    have k3 := hOa.cells 3 (.int .i64 (Q.length : Int)) rfl
    have m0 := hOb.cells 0 (.int .i64 K) rfl
    have m1 := hOb.cells 1 (.string ⟨L.toArray⟩) rfl
    have m2 := hOb.cells 2 (.int .i64 0) rfl
    have m3 := hOb.cells 3 (.int .i64 (u1.length : Int)) rfl
    have HX : Hid (Stay w X) := (H3.out.1.trans s34).trans sX
    rw [hX] at k0 k1 k2 k3 m0 m1 m2 m3
    have HXX : Hid (X = W4.alloc (.cells #[.int .i64 0, .string ⟨#[]⟩, .int .i64 0, .int .i64 0] 25)) := hX
    clear t2 hO2 hs4 s34 sX hOa hOb hX
    go_wp2_with (first
      | (go_at_call 12; refine (num_any _ _).mono ?_; rintro e w' ⟨rfl, hw'⟩; have hw2 := hw'.symm; subst hw2))
    rw [← HXX.out]
    rw [← HXX.out] at k0 k1 k2 k3 m0 m1 m2 m3
    have z1 : ((u1.length : Int) == (u1.length : Int)) = true := by simp
    have z2 : decide (u1.length ≤ Q.length) = true := by simpa using lg
    clear HXX k0 k1 k2 k3 he hg
    refine wp_region_quiet_lit (by kernel_rfl) (by kernel_rfl) ?_
    repeat (go_big_quiet_step (first | (go_at_call 15; exact Calls.quiet_of_same (c1 _ (HX.out.trans (Stay.drewN _ _)))) | (go_at_call 21; exact Calls.quiet_of_same (c2 _ (HX.out.trans (Stay.drewN _ _))))))
    refine wpQuiet_nil ?_
    intro _ hw'
    obtain ⟨nq, hw''⟩ := hw'
    subst hw''
    go_wp2
    go_ret
    exact ⟨rfl, HX.out.trans (Stay.drewN _ _)⟩
  · rw [decide_eq_false hc] at b5
    unfold quoteT at b1
    rw [if_neg hc] at b1
    rw [show_long L hc] at b3
    dsimp only at b1 b3
    have hgt : (1024 : Int) < (L.length : Int) := by omega
    clear hT hs hc
    go_enter Tryd.func7, Tryd.ntmps7
    go_wp2_with fail
    refine hkn.mono ?_
    rintro e W0 ⟨rfl, hs0⟩
    have H0 : Hid (Stay w W0) := hs0
    clear hkn hs0
    go_wp2_with fail
    refine (b1 W0).mono ?_
    rintro e W1 ⟨rfl, hs1⟩
    have H1 : Hid (Stay w W1) := H0.out.trans hs1
    clear b1 hs1
    go_wp2_with fail
    refine (b3 W1 H1.out).mono ?_
    rintro e W2 ⟨rfl, hs2⟩
    have H2 : Hid (Stay w W2) := H1.out.trans hs2
    clear b3 hs2
    go_wp2_with fail
    refine (b5 W2).mono ?_
    rintro e w' ⟨rfl, hw'⟩
    have hw2 := hw'.symm
    subst hw2
    clear b5
    go_wp2_with (first
      | (go_at_call 12; refine (num_any _ _).mono ?_; rintro e w' ⟨rfl, hw'⟩; have hw2 := hw'.symm; subst hw2))
    go_ret
    exact ⟨rfl, H2.out⟩
end Go.Proofs.YtbnlhddgpkfllaaDoor
