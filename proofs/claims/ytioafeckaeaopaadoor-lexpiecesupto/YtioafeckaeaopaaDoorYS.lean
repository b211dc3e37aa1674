/- LexPieces' walk. -/
import Derived.Test.YtioafeckaeaopaaDoorYR
import Derived.Test.YtioafeckaeaopaaDoorYT
namespace Go.Proofs.YtioafeckaeaopaaDoor
open Go.RowKit Go.Maps

theorem wrap_diff (a b : Nat) (h : a < b) (h2 : b ≤ 1048576) : IntKind.i64.wrap ((b : Int) - (a : Int)) = ((b - a : Nat) : Int) := by
  rw [IntKind.wrap_i64]; omega
theorem take_string (L : List UInt8) (b : Nat) : (⟨L.toArray⟩ : ByteArray).extract 0 b = ⟨(L.take b).toArray⟩ := by
  rw [cut_string]; simp

set_option maxRecDepth 100000 in
set_option maxHeartbeats 4000000 in
theorem pieces_A (L : List UInt8) (l : List Tok) (far : Nat) (w : World) (hT : Tabs w) (hs : L.length ≤ 1048576) (hfl : far = L.length) (hfar : far ≤ L.length) (n1 : l.length ≤ L.length) (hch : Ch L far 0 l)
    (hkn : Calls Tryd.prog 13 #[] w fun e w' => e = .returned (.bool true) ∧ Stay w w')
    (t1 : ∀ W, Tabs W → Calls Tryd.prog 9 #[.string ⟨L.toArray⟩] W fun e w' => ∃ v, e = .returned (.tuple #[v, .agg #[.int .i64 0, .string ⟨#[]⟩, .int .i64 0, .int .i64 0], .int .i64 (far : Int), .int .i64 0]) ∧ OwnK W.heap.size w' v l ∧ Stay W w')
    (t3 : ∀ W, Tabs W → Calls Tryd.prog 9 #[.string ⟨(L.take far).toArray⟩] W fun e w' => ∃ v, e = .returned (.tuple #[v, .agg #[.int .i64 0, .string ⟨#[]⟩, .int .i64 0, .int .i64 0], .int .i64 (far : Int), .int .i64 0]) ∧ OwnK W.heap.size w' v l ∧ Stay W w') :
    Calls Tryd.prog 6 #[.string ⟨L.toArray⟩] w fun e w' => e = .returned (.bool true) ∧ Stay w w' := by
  have HT : Hid (Tabs w) := hT
  have HC : Hid (Ch L far 0 l ∧ far ≤ L.length ∧ L.length ≤ 1048576) := ⟨hch, hfar, hs⟩
  have hgk := guardK
  have hl1 : l.length ≤ 140737488355328 := by omega
  have z1 : ¬ (far : Int) < 0 := by omega
  have z2 : ¬ (L.length : Int) < (far : Int) := by omega
  have z4 : 0 ≤ (far : Int) := by omega
  have z5 : (far : Int) ≤ (L.length : Int) := by omega
  have z3 : ((far : Int) != (L.length : Int)) = false := by rw [hfl]; simp
  clear hfl
  clear hT hs hch hfar n1
  go_enter Tryd.func6, Tryd.ntmps6
  go_wp2_with fail
  refine hkn.mono ?_
  rintro e W0 ⟨rfl, hs0⟩
  have H0 : Hid (Stay w W0) := hs0
  clear hkn hs0
  go_wp2_with fail
  refine (t1 W0 (HT.out.stay H0.out)).mono ?_
  rintro e W1 ⟨v1, rfl, hO1, hs1⟩
  have H1 : Hid (Stay w W1) := H0.out.trans hs1
  clear t1 hs1
  go_wp2_with (first
    | (go_at_call 12; refine (num_any _ _).mono ?_; rintro e w' ⟨rfl, hw'⟩; have hw2 := hw'.symm; subst hw2))
  obtain ⟨X, hX⟩ : ∃ X, X = W1.alloc (.cells #[.int .i64 0, .string ⟨#[]⟩, .int .i64 0, .int .i64 0] 25) := ⟨_, rfl⟩
  rw [← hX]
  have sX : Stay W1 X := by rw [hX]; exact Stay.new _ _
  have x5 : X.heap[W1.heap.size]? = some (.cells #[.int .i64 0, .string ⟨#[]⟩, .int .i64 0, .int .i64 0] 25 (0, 0)) := by rw [hX]; exact heap_new _ _
  obtain ⟨a1, b1, c1, rfl, k1⟩ := (hO1.stay sX).form
  have HK : Hid (TkS X a1 b1 l) := k1
  have H5 : Hid (X.heap[W1.heap.size]? = some (.cells #[.int .i64 0, .string ⟨#[]⟩, .int .i64 0, .int .i64 0] 25 (0, 0)) ∧ Stay w X) := ⟨x5, H1.out.trans sX⟩
  have HZ : Hid (0 ≤ (far : Int) ∧ (far : Int) ≤ (L.length : Int)) := ⟨z4, z5⟩
  have f1 : decide ((far : Int) < 0) = false := by simp
  have f2 : decide (L.length < far) = false := by simp; omega
  simp only [f1, f2, Bool.or_false]
  clear k1 x5 sX hX hO1 H0 H1 z1 z2 z4 z5 f1 f2
  go_loopw [7, 8, 9, 10, 11, 12, 13] (fun at_ i _ _ _ _ _ wr => ∃ (k a : Nat), k ≤ l.length ∧ i = .int .i64 k ∧ at_ = .int .i64 a ∧ (Ch L far a (l.drop k) ∧ lastE a (l.drop k) = lastE 0 l) ∧ Stay X wr) (fun at_ i _ _ _ _ _ _ => l.length - (intOf i).toNat)
  case atStart => exact ⟨0, 0, Nat.zero_le _, rfl, rfl, ⟨HC.out.1, rfl⟩, Stay.refl _⟩
  case round =>
    obtain ⟨k, a, hk, rfl, rfl, ⟨hC, hE⟩, hst⟩ := hrel
    by_cases hlt : k < l.length
    · rw [List.drop_eq_getElem_cons hlt] at hC hE
      obtain ⟨⟨d1, d2, d3, d4⟩, hC2⟩ := hC
      have HE : Hid (Ch L far l[k].fin (l.drop (k + 1)) ∧ lastE l[k].fin (l.drop (k + 1)) = lastE 0 l) := ⟨hC2, hE⟩
      obtain ⟨p0, p1, p2, p3⟩ := (HK.out.stay hst).2 k hlt
      obtain rfl := HK.out.1 (by omega)
      have hfl := HC.out.2
      have tt := fun W (hW : Tabs W) => Tokens_any ⟨((L.drop l[k].at_).take (l[k].fin - l[k].at_)).toArray⟩ (by show ((L.drop l[k].at_).take (l[k].fin - l[k].at_)).toArray.size ≤ _; simp; omega) W hW
      dsimp only at tt
      rw [d4, ← cut_string] at tt
      clear hC2 hE d4
      generalize l[k] = x at *
      obtain ⟨q1, q2, q3, q4⟩ := x
      dsimp only at *
      dsimp only [Tok.val, Tok.cells, tok0] at tt
      have e1 : (k : Int) < (l.length : Int) := by omega
      have e2 : ¬ (q3 : Int) < (a : Int) := by omega
      have e3 : ¬ (q4 : Int) ≤ (q3 : Int) := by omega
      have e4 : ¬ (far : Int) < (q4 : Int) := by omega
      have e5 : (q3 : Int) ≤ (q4 : Int) := by omega
      have e6 : (q4 : Int) ≤ (L.length : Int) := by omega
      have HW : Hid (Stay X wr) := hst
      have HQ : Hid (q3 < q4 ∧ q4 ≤ L.length ∧ L.length ≤ 1048576 ∧ k < l.length) := ⟨d2, by omega, hfl.2, hlt⟩
      clear hst d1 d2 d3 hfl
      go_wp2_with fail
      refine (tt _ (HT.out.stay (H5.out.2.trans (HW.out.trans (Stay.new _ _))))).mono ?_
      rintro e W3 ⟨v3, rfl, hO3, hs3⟩
      obtain ⟨g1, c3, rfl⟩ := ownsRow_succ hO3
      have y9 : W3.heap[wr.heap.size]? = some (.cells #[.int .i64 q1, .string ⟨q2.toArray⟩, .int .i64 (q3 : Int), .int .i64 (q4 : Int)] 25 (0, 0)) := (hs3.block wr.heap.size (by simp)).trans (heap_new wr _)
      obtain ⟨X2, hX2⟩ : ∃ X2, X2 = W3.alloc (.cells #[.int .i64 0, .string ⟨#[]⟩, .int .i64 0, .int .i64 0] 25) := ⟨_, rfl⟩
      have s2 : Stay W3 X2 := by rw [hX2]; exact Stay.new _ _
      have HS : Hid (Stay X X2) := (HW.out.trans ((Stay.new _ _).trans hs3)).trans s2
      obtain ⟨y0, y1, y2, y3, _, _, _, _⟩ := four ((s2.block wr.heap.size (Array.getElem?_eq_some_iff.1 y9).1).trans y9)
      have hO4 := OwnK.stay hO3 s2
      have m0 := hO4.cells 0 (.int .i64 q1) rfl
      have m1 := hO4.cells 1 (.string ⟨q2.toArray⟩) rfl
      have m2 := hO4.cells 2 (.int .i64 (0 : Nat)) rfl
      have m3 := hO4.cells 3 (.int .i64 ((q4 - q3 : Nat) : Int)) rfl
      have hneq := neqK0 ⟨q1, q2, 0, q4 - q3⟩
      have w1 : IntKind.i64.wrap ((q4 : Int) - (q3 : Int)) = ((q4 - q3 : Nat) : Int) := wrap_diff q3 q4 HQ.out.1 (by have := HQ.out; omega)
      generalize q4 - q3 = q5 at *
      have w2 : ((q5 : Int) != (q5 : Int)) = false := by simp
      dsimp only at hneq
      have HXX : Hid (X2 = W3.alloc (.cells #[.int .i64 0, .string ⟨#[]⟩, .int .i64 0, .int .i64 0] 25)) := hX2
      clear tt hO3 hO4 hs3 y9 s2 hX2
      go_wp2_with fail
      rw [← HXX.out]
      clear HXX
      refine wp_region_quiet_lit (by kernel_rfl) (by kernel_rfl) ?_
      repeat (go_big_quiet_step (first | (go_at_call 12; exact Calls.quiet_of_same (num_any _ _))))
      refine wpQuiet_nil ?_
      intro _ hw'
      obtain ⟨nq, hw''⟩ := hw'
      subst hw''
      have HS2 : Hid (Stay X (X2.drewN nq)) := HS.out.trans (Stay.drewN _ _)
      have y3' := (Stay.drewN X2 nq).cell y3
      clear HS y0 y1 y2 y3 m0 m1 m2 m3 hneq w1 w2
      go_wp2
      go_roundw
      case rel => exact ⟨k + 1, q4, HQ.out.2.2.2, by go_num, rfl, HE.out, HS2.out⟩
      case measure => have := HQ.out.2.2.2; simp [intOf]; omega
    · obtain rfl : k = l.length := by omega
      have e1 : ¬ (l.length : Int) < (l.length : Int) := by omega
      have hae : a = lastE 0 l := by rw [← hE, List.drop_length]; rfl
      have HW : Hid (Stay X wr) := hst
      obtain ⟨y0, y1, y2, y3, _, _, _, _⟩ := four ((hst.block W1.heap.size (Array.getElem?_eq_some_iff.1 H5.out.1).1).trans H5.out.1)
      clear hst hC hE hk hlt
      have z4 := HZ.out.1
      have z5 := HZ.out.2
      clear hae
      rw [← take_string] at t3
      go_wp2_with fail
      refine (t3 _ (HT.out.stay (H5.out.2.trans HW.out))).mono ?_
      rintro e W4 ⟨v4, rfl, hO4, hs4⟩
      obtain ⟨X3, hX3⟩ : ∃ X3, X3 = W4.alloc (.cells #[.int .i64 0, .string ⟨#[]⟩, .int .i64 0, .int .i64 0] 25) := ⟨_, rfl⟩
      have s3 : Stay W4 X3 := by rw [hX3]; exact Stay.new _ _
      have s5 : Stay X X3 := (HW.out.trans hs4).trans s3
      obtain ⟨a4, b4, c4, rfl, k4⟩ := (hO4.stay s3).form
      have HS : Hid (TkS X3 a1 b1 l ∧ TkS X3 a4 b4 l ∧ Stay w X3) := ⟨HK.out.stay s5, k4, H5.out.2.trans s5⟩
      obtain ⟨x0, x1, x2, x3, _, _, _, _⟩ := four ((s5.block W1.heap.size (Array.getElem?_eq_some_iff.1 H5.out.1).1).trans H5.out.1)
      obtain ⟨v0, v1, v2, v3, _, _, _, _⟩ := four (show X3.heap[W4.heap.size]? = some (.cells #[.int .i64 0, .string ⟨#[]⟩, .int .i64 0, .int .i64 0] 25 (0, 0)) by rw [hX3]; exact heap_new _ _)
      have HXX : Hid (X3 = W4.alloc (.cells #[.int .i64 0, .string ⟨#[]⟩, .int .i64 0, .int .i64 0] 25)) := hX3
      have hqq := eqlK tok0 tok0
      rw [decide_eq_true rfl] at hqq
      dsimp only [tok0] at hqq
      have w5 : ((far : Int) == (far : Int)) = true := by simp
      have sd := fun n => same_drew (X3.drewN n) a4 a1 b4 b1 c4 c1 l (HS.out.2.1.stay (Stay.drewN _ _)) (HS.out.1.stay (Stay.drewN _ _)) hl1
      clear t3 hO4 hs4 s3 s5 k4 hX3 y0 y1 y2 y3
      go_wp2_with fail
      rw [← HXX.out]
      clear HXX
      refine wp_region_quiet_lit (by kernel_rfl) (by kernel_rfl) ?_
      repeat (go_big_quiet_step (first | (go_at_call 11; exact Calls.quiet_of (sd _)) | (go_at_call 12; exact Calls.quiet_of_same (num_any _ _))))
      refine wpQuiet_nil ?_
      intro _ hw'
      obtain ⟨nq, hw''⟩ := hw'
      subst hw''
      go_wp2
      go_ret
      exact ⟨rfl, HS.out.2.2.trans (Stay.drewN _ _)⟩

set_option maxRecDepth 100000 in
set_option maxHeartbeats 4000000 in
theorem pieces_B (L : List UInt8) (l : List Tok) (far : Nat) (w : World) (hT : Tabs w) (hs : L.length ≤ 1048576)  (hfar : far ≤ L.length) (n1 : l.length ≤ L.length) (hch : Ch L far 0 l)
    (hkn : Calls Tryd.prog 13 #[] w fun e w' => e = .returned (.bool true) ∧ Stay w w')
    (t1 : ∀ W, Tabs W → Calls Tryd.prog 9 #[.string ⟨L.toArray⟩] W fun e w' => ∃ v, e = .returned (.tuple #[v, .agg #[.int .i64 0, .string ⟨#[]⟩, .int .i64 0, .int .i64 0], .int .i64 (far : Int), .int .i64 11]) ∧ OwnK W.heap.size w' v l ∧ Stay W w')
    (t3 : ∀ W, Tabs W → Calls Tryd.prog 9 #[.string ⟨(L.take far).toArray⟩] W fun e w' => ∃ v, e = .returned (.tuple #[v, .agg #[.int .i64 0, .string ⟨#[]⟩, .int .i64 0, .int .i64 0], .int .i64 (far : Int), .int .i64 0]) ∧ OwnK W.heap.size w' v l ∧ Stay W w') :
    Calls Tryd.prog 6 #[.string ⟨L.toArray⟩] w fun e w' => e = .returned (.bool true) ∧ Stay w w' := by
  have HT : Hid (Tabs w) := hT
  have HC : Hid (Ch L far 0 l ∧ far ≤ L.length ∧ L.length ≤ 1048576) := ⟨hch, hfar, hs⟩
  have hgk := guardK
  have hl1 : l.length ≤ 140737488355328 := by omega
  have z1 : ¬ (far : Int) < 0 := by omega
  have z2 : ¬ (L.length : Int) < (far : Int) := by omega
  have z4 : 0 ≤ (far : Int) := by omega
  have z5 : (far : Int) ≤ (L.length : Int) := by omega
  clear hT hs hch hfar n1
  go_enter Tryd.func6, Tryd.ntmps6
  go_wp2_with fail
  refine hkn.mono ?_
  rintro e W0 ⟨rfl, hs0⟩
  have H0 : Hid (Stay w W0) := hs0
  clear hkn hs0
  go_wp2_with fail
  refine (t1 W0 (HT.out.stay H0.out)).mono ?_
  rintro e W1 ⟨v1, rfl, hO1, hs1⟩
  have H1 : Hid (Stay w W1) := H0.out.trans hs1
  clear t1 hs1
  go_wp2_with (first
    | (go_at_call 12; refine (num_any _ _).mono ?_; rintro e w' ⟨rfl, hw'⟩; have hw2 := hw'.symm; subst hw2))
  obtain ⟨X, hX⟩ : ∃ X, X = W1.alloc (.cells #[.int .i64 0, .string ⟨#[]⟩, .int .i64 0, .int .i64 0] 25) := ⟨_, rfl⟩
  rw [← hX]
  have sX : Stay W1 X := by rw [hX]; exact Stay.new _ _
  have x5 : X.heap[W1.heap.size]? = some (.cells #[.int .i64 0, .string ⟨#[]⟩, .int .i64 0, .int .i64 0] 25 (0, 0)) := by rw [hX]; exact heap_new _ _
  obtain ⟨a1, b1, c1, rfl, k1⟩ := (hO1.stay sX).form
  have HK : Hid (TkS X a1 b1 l) := k1
  have H5 : Hid (X.heap[W1.heap.size]? = some (.cells #[.int .i64 0, .string ⟨#[]⟩, .int .i64 0, .int .i64 0] 25 (0, 0)) ∧ Stay w X) := ⟨x5, H1.out.trans sX⟩
  have HZ : Hid (0 ≤ (far : Int) ∧ (far : Int) ≤ (L.length : Int)) := ⟨z4, z5⟩
  have f1 : decide ((far : Int) < 0) = false := by simp
  have f2 : decide (L.length < far) = false := by simp; omega
  simp only [f1, f2, Bool.or_false]
  clear k1 x5 sX hX hO1 H0 H1 z1 z2 z4 z5 f1 f2
  go_loopw [7, 8, 9, 10, 11, 12, 13] (fun at_ i _ _ _ _ _ wr => ∃ (k a : Nat), k ≤ l.length ∧ i = .int .i64 k ∧ at_ = .int .i64 a ∧ (Ch L far a (l.drop k) ∧ lastE a (l.drop k) = lastE 0 l) ∧ Stay X wr) (fun at_ i _ _ _ _ _ _ => l.length - (intOf i).toNat)
  case atStart => exact ⟨0, 0, Nat.zero_le _, rfl, rfl, ⟨HC.out.1, rfl⟩, Stay.refl _⟩
  case round =>
    obtain ⟨k, a, hk, rfl, rfl, ⟨hC, hE⟩, hst⟩ := hrel
    by_cases hlt : k < l.length
    · rw [List.drop_eq_getElem_cons hlt] at hC hE
      obtain ⟨⟨d1, d2, d3, d4⟩, hC2⟩ := hC
      have HE : Hid (Ch L far l[k].fin (l.drop (k + 1)) ∧ lastE l[k].fin (l.drop (k + 1)) = lastE 0 l) := ⟨hC2, hE⟩
      obtain ⟨p0, p1, p2, p3⟩ := (HK.out.stay hst).2 k hlt
      obtain rfl := HK.out.1 (by omega)
      have hfl := HC.out.2
      have tt := fun W (hW : Tabs W) => Tokens_any ⟨((L.drop l[k].at_).take (l[k].fin - l[k].at_)).toArray⟩ (by show ((L.drop l[k].at_).take (l[k].fin - l[k].at_)).toArray.size ≤ _; simp; omega) W hW
      dsimp only at tt
      rw [d4, ← cut_string] at tt
      clear hC2 hE d4
      generalize l[k] = x at *
      obtain ⟨q1, q2, q3, q4⟩ := x
      dsimp only at *
      dsimp only [Tok.val, Tok.cells, tok0] at tt
      have e1 : (k : Int) < (l.length : Int) := by omega
      have e2 : ¬ (q3 : Int) < (a : Int) := by omega
      have e3 : ¬ (q4 : Int) ≤ (q3 : Int) := by omega
      have e4 : ¬ (far : Int) < (q4 : Int) := by omega
      have e5 : (q3 : Int) ≤ (q4 : Int) := by omega
      have e6 : (q4 : Int) ≤ (L.length : Int) := by omega
      have HW : Hid (Stay X wr) := hst
      have HQ : Hid (q3 < q4 ∧ q4 ≤ L.length ∧ L.length ≤ 1048576 ∧ k < l.length) := ⟨d2, by omega, hfl.2, hlt⟩
      clear hst d1 d2 d3 hfl
      go_wp2_with fail
      refine (tt _ (HT.out.stay (H5.out.2.trans (HW.out.trans (Stay.new _ _))))).mono ?_
      rintro e W3 ⟨v3, rfl, hO3, hs3⟩
      obtain ⟨g1, c3, rfl⟩ := ownsRow_succ hO3
      have y9 : W3.heap[wr.heap.size]? = some (.cells #[.int .i64 q1, .string ⟨q2.toArray⟩, .int .i64 (q3 : Int), .int .i64 (q4 : Int)] 25 (0, 0)) := (hs3.block wr.heap.size (by simp)).trans (heap_new wr _)
      obtain ⟨X2, hX2⟩ : ∃ X2, X2 = W3.alloc (.cells #[.int .i64 0, .string ⟨#[]⟩, .int .i64 0, .int .i64 0] 25) := ⟨_, rfl⟩
      have s2 : Stay W3 X2 := by rw [hX2]; exact Stay.new _ _
      have HS : Hid (Stay X X2) := (HW.out.trans ((Stay.new _ _).trans hs3)).trans s2
      obtain ⟨y0, y1, y2, y3, _, _, _, _⟩ := four ((s2.block wr.heap.size (Array.getElem?_eq_some_iff.1 y9).1).trans y9)
      have hO4 := OwnK.stay hO3 s2
      have m0 := hO4.cells 0 (.int .i64 q1) rfl
      have m1 := hO4.cells 1 (.string ⟨q2.toArray⟩) rfl
      have m2 := hO4.cells 2 (.int .i64 (0 : Nat)) rfl
      have m3 := hO4.cells 3 (.int .i64 ((q4 - q3 : Nat) : Int)) rfl
      have hneq := neqK0 ⟨q1, q2, 0, q4 - q3⟩
      have w1 : IntKind.i64.wrap ((q4 : Int) - (q3 : Int)) = ((q4 - q3 : Nat) : Int) := wrap_diff q3 q4 HQ.out.1 (by have := HQ.out; omega)
      generalize q4 - q3 = q5 at *
      have w2 : ((q5 : Int) != (q5 : Int)) = false := by simp
      dsimp only at hneq
      have HXX : Hid (X2 = W3.alloc (.cells #[.int .i64 0, .string ⟨#[]⟩, .int .i64 0, .int .i64 0] 25)) := hX2
      clear tt hO3 hO4 hs3 y9 s2 hX2
      go_wp2_with fail
      rw [← HXX.out]
      clear HXX
      refine wp_region_quiet_lit (by kernel_rfl) (by kernel_rfl) ?_
      repeat (go_big_quiet_step (first | (go_at_call 12; exact Calls.quiet_of_same (num_any _ _))))
      refine wpQuiet_nil ?_
      intro _ hw'
      obtain ⟨nq, hw''⟩ := hw'
      subst hw''
      have HS2 : Hid (Stay X (X2.drewN nq)) := HS.out.trans (Stay.drewN _ _)
      have y3' := (Stay.drewN X2 nq).cell y3
      clear HS y0 y1 y2 y3 m0 m1 m2 m3 hneq w1 w2
      go_wp2
      go_roundw
      case rel => exact ⟨k + 1, q4, HQ.out.2.2.2, by go_num, rfl, HE.out, HS2.out⟩
      case measure => have := HQ.out.2.2.2; simp [intOf]; omega
    · obtain rfl : k = l.length := by omega
      have e1 : ¬ (l.length : Int) < (l.length : Int) := by omega
      have hae : a = lastE 0 l := by rw [← hE, List.drop_length]; rfl
      have HW : Hid (Stay X wr) := hst
      obtain ⟨y0, y1, y2, y3, _, _, _, _⟩ := four ((hst.block W1.heap.size (Array.getElem?_eq_some_iff.1 H5.out.1).1).trans H5.out.1)
      clear hst hC hE hk hlt
      have z4 := HZ.out.1
      have z5 := HZ.out.2
      clear hae
      rw [← take_string] at t3
      go_wp2_with fail
      refine (t3 _ (HT.out.stay (H5.out.2.trans HW.out))).mono ?_
      rintro e W4 ⟨v4, rfl, hO4, hs4⟩
      obtain ⟨X3, hX3⟩ : ∃ X3, X3 = W4.alloc (.cells #[.int .i64 0, .string ⟨#[]⟩, .int .i64 0, .int .i64 0] 25) := ⟨_, rfl⟩
      have s3 : Stay W4 X3 := by rw [hX3]; exact Stay.new _ _
      have s5 : Stay X X3 := (HW.out.trans hs4).trans s3
      obtain ⟨a4, b4, c4, rfl, k4⟩ := (hO4.stay s3).form
      have HS : Hid (TkS X3 a1 b1 l ∧ TkS X3 a4 b4 l ∧ Stay w X3) := ⟨HK.out.stay s5, k4, H5.out.2.trans s5⟩
      obtain ⟨x0, x1, x2, x3, _, _, _, _⟩ := four ((s5.block W1.heap.size (Array.getElem?_eq_some_iff.1 H5.out.1).1).trans H5.out.1)
      obtain ⟨v0, v1, v2, v3, _, _, _, _⟩ := four (show X3.heap[W4.heap.size]? = some (.cells #[.int .i64 0, .string ⟨#[]⟩, .int .i64 0, .int .i64 0] 25 (0, 0)) by rw [hX3]; exact heap_new _ _)
      have HXX : Hid (X3 = W4.alloc (.cells #[.int .i64 0, .string ⟨#[]⟩, .int .i64 0, .int .i64 0] 25)) := hX3
      have hqq := eqlK tok0 tok0
      rw [decide_eq_true rfl] at hqq
      dsimp only [tok0] at hqq
      have w5 : ((far : Int) == (far : Int)) = true := by simp
      have sd := fun n => same_drew (X3.drewN n) a4 a1 b4 b1 c4 c1 l (HS.out.2.1.stay (Stay.drewN _ _)) (HS.out.1.stay (Stay.drewN _ _)) hl1
      clear t3 hO4 hs4 s3 s5 k4 hX3 y0 y1 y2 y3
      go_wp2_with fail
      rw [← HXX.out]
      clear HXX
      refine wp_region_quiet_lit (by kernel_rfl) (by kernel_rfl) ?_
      repeat (go_big_quiet_step (first | (go_at_call 11; exact Calls.quiet_of (sd _)) | (go_at_call 12; exact Calls.quiet_of_same (num_any _ _))))
      refine wpQuiet_nil ?_
      intro _ hw'
      obtain ⟨nq, hw''⟩ := hw'
      subst hw''
      go_wp2
      go_ret
      exact ⟨rfl, HS.out.2.2.trans (Stay.drewN _ _)⟩

set_option maxRecDepth 100000 in
set_option maxHeartbeats 4000000 in
theorem pieces_C (L : List UInt8) (l : List Tok) (far : Nat) (u1 : Int) (u3 : Nat) (w : World) (hT : Tabs w) (hs : L.length ≤ 1048576) (hu : u1 ≠ 0) (hu3 : lastE 0 l ≤ u3) (hfar : far ≤ L.length) (n1 : l.length ≤ L.length) (hch : Ch L far 0 l)
    (hkn : Calls Tryd.prog 13 #[] w fun e w' => e = .returned (.bool true) ∧ Stay w w')
    (t1 : ∀ W, Tabs W → Calls Tryd.prog 9 #[.string ⟨L.toArray⟩] W fun e w' => ∃ v, e = .returned (.tuple #[v, .agg #[.int .i64 u1, .string ⟨#[]⟩, .int .i64 (u3 : Int), .int .i64 (far : Int)], .int .i64 (far : Int), .int .i64 11]) ∧ OwnK W.heap.size w' v l ∧ Stay W w')
    (t3 : ∀ W, Tabs W → Calls Tryd.prog 9 #[.string ⟨(L.take far).toArray⟩] W fun e w' => ∃ v, e = .returned (.tuple #[v, .agg #[.int .i64 u1, .string ⟨#[]⟩, .int .i64 (u3 : Int), .int .i64 (far : Int)], .int .i64 (far : Int), .int .i64 11]) ∧ OwnK W.heap.size w' v l ∧ Stay W w') :
    Calls Tryd.prog 6 #[.string ⟨L.toArray⟩] w fun e w' => e = .returned (.bool true) ∧ Stay w w' := by
  have HT : Hid (Tabs w) := hT
  have HC : Hid (Ch L far 0 l ∧ far ≤ L.length ∧ L.length ≤ 1048576) := ⟨hch, hfar, hs⟩
  have hgk := guardK
  have hl1 : l.length ≤ 140737488355328 := by omega
  have z1 : ¬ (far : Int) < 0 := by omega
  have z2 : ¬ (L.length : Int) < (far : Int) := by omega
  have z4 : 0 ≤ (far : Int) := by omega
  have z5 : (far : Int) ≤ (L.length : Int) := by omega
  have hn := neqQ ⟨u1, [], u3, far⟩ tok0
  rw [decide_eq_true (p := ¬ (⟨u1, [], u3, far⟩ : Tok) = tok0) (fun h => hu (congrArg Tok.kind h))] at hn
  dsimp only [tok0] at hn
  have hq := eqlK ⟨u1, [], u3, far⟩ tok0
  rw [decide_eq_false (p := (⟨u1, [], u3, far⟩ : Tok) = tok0) (fun h => hu (congrArg Tok.kind h))] at hq
  dsimp only [tok0] at hq
  have HU : Hid (u1 ≠ 0 ∧ lastE 0 l ≤ u3) := ⟨hu, hu3⟩
  have hu1 : (u1 == 0) = false := by simpa using hu
  clear hu3
  clear hT hs hch hfar n1
  go_enter Tryd.func6, Tryd.ntmps6
  go_wp2_with fail
  refine hkn.mono ?_
  rintro e W0 ⟨rfl, hs0⟩
  have H0 : Hid (Stay w W0) := hs0
  clear hkn hs0
  go_wp2_with fail
  refine (t1 W0 (HT.out.stay H0.out)).mono ?_
  rintro e W1 ⟨v1, rfl, hO1, hs1⟩
  have H1 : Hid (Stay w W1) := H0.out.trans hs1
  clear t1 hs1
  go_wp2_with (first
    | (go_at_call 12; refine (num_any _ _).mono ?_; rintro e w' ⟨rfl, hw'⟩; have hw2 := hw'.symm; subst hw2))
  obtain ⟨X, hX⟩ : ∃ X, X = W1.alloc (.cells #[.int .i64 u1, .string ⟨#[]⟩, .int .i64 (u3 : Int), .int .i64 (far : Int)] 25) := ⟨_, rfl⟩
  rw [← hX]
  have sX : Stay W1 X := by rw [hX]; exact Stay.new _ _
  have x5 : X.heap[W1.heap.size]? = some (.cells #[.int .i64 u1, .string ⟨#[]⟩, .int .i64 (u3 : Int), .int .i64 (far : Int)] 25 (0, 0)) := by rw [hX]; exact heap_new _ _
  obtain ⟨a1, b1, c1, rfl, k1⟩ := (hO1.stay sX).form
  have HK : Hid (TkS X a1 b1 l) := k1
  have H5 : Hid (X.heap[W1.heap.size]? = some (.cells #[.int .i64 u1, .string ⟨#[]⟩, .int .i64 (u3 : Int), .int .i64 (far : Int)] 25 (0, 0)) ∧ Stay w X) := ⟨x5, H1.out.trans sX⟩
  have HZ : Hid (0 ≤ (far : Int) ∧ (far : Int) ≤ (L.length : Int)) := ⟨z4, z5⟩
  have f1 : decide ((far : Int) < 0) = false := by simp
  have f2 : decide (L.length < far) = false := by simp; omega
  simp only [f1, f2, Bool.or_false]
  clear k1 x5 sX hX hO1 H0 H1 z1 z2 z4 z5 f1 f2
  go_loopw [7, 8, 9, 10, 11, 12, 13] (fun at_ i _ _ _ _ _ wr => ∃ (k a : Nat), k ≤ l.length ∧ i = .int .i64 k ∧ at_ = .int .i64 a ∧ (Ch L far a (l.drop k) ∧ lastE a (l.drop k) = lastE 0 l) ∧ Stay X wr) (fun at_ i _ _ _ _ _ _ => l.length - (intOf i).toNat)
  case atStart => exact ⟨0, 0, Nat.zero_le _, rfl, rfl, ⟨HC.out.1, rfl⟩, Stay.refl _⟩
  case round =>
    obtain ⟨k, a, hk, rfl, rfl, ⟨hC, hE⟩, hst⟩ := hrel
    by_cases hlt : k < l.length
    · rw [List.drop_eq_getElem_cons hlt] at hC hE
      obtain ⟨⟨d1, d2, d3, d4⟩, hC2⟩ := hC
      have HE : Hid (Ch L far l[k].fin (l.drop (k + 1)) ∧ lastE l[k].fin (l.drop (k + 1)) = lastE 0 l) := ⟨hC2, hE⟩
      obtain ⟨p0, p1, p2, p3⟩ := (HK.out.stay hst).2 k hlt
      obtain rfl := HK.out.1 (by omega)
      have hfl := HC.out.2
      have tt := fun W (hW : Tabs W) => Tokens_any ⟨((L.drop l[k].at_).take (l[k].fin - l[k].at_)).toArray⟩ (by show ((L.drop l[k].at_).take (l[k].fin - l[k].at_)).toArray.size ≤ _; simp; omega) W hW
      dsimp only at tt
      rw [d4, ← cut_string] at tt
      clear hC2 hE d4
      generalize l[k] = x at *
      obtain ⟨q1, q2, q3, q4⟩ := x
      dsimp only at *
      dsimp only [Tok.val, Tok.cells, tok0] at tt
      have e1 : (k : Int) < (l.length : Int) := by omega
      have e2 : ¬ (q3 : Int) < (a : Int) := by omega
      have e3 : ¬ (q4 : Int) ≤ (q3 : Int) := by omega
      have e4 : ¬ (far : Int) < (q4 : Int) := by omega
      have e5 : (q3 : Int) ≤ (q4 : Int) := by omega
      have e6 : (q4 : Int) ≤ (L.length : Int) := by omega
      have HW : Hid (Stay X wr) := hst
      have HQ : Hid (q3 < q4 ∧ q4 ≤ L.length ∧ L.length ≤ 1048576 ∧ k < l.length) := ⟨d2, by omega, hfl.2, hlt⟩
      clear hst d1 d2 d3 hfl
      go_wp2_with fail
      refine (tt _ (HT.out.stay (H5.out.2.trans (HW.out.trans (Stay.new _ _))))).mono ?_
      rintro e W3 ⟨v3, rfl, hO3, hs3⟩
      obtain ⟨g1, c3, rfl⟩ := ownsRow_succ hO3
      have y9 : W3.heap[wr.heap.size]? = some (.cells #[.int .i64 q1, .string ⟨q2.toArray⟩, .int .i64 (q3 : Int), .int .i64 (q4 : Int)] 25 (0, 0)) := (hs3.block wr.heap.size (by simp)).trans (heap_new wr _)
      obtain ⟨X2, hX2⟩ : ∃ X2, X2 = W3.alloc (.cells #[.int .i64 0, .string ⟨#[]⟩, .int .i64 0, .int .i64 0] 25) := ⟨_, rfl⟩
      have s2 : Stay W3 X2 := by rw [hX2]; exact Stay.new _ _
      have HS : Hid (Stay X X2) := (HW.out.trans ((Stay.new _ _).trans hs3)).trans s2
      obtain ⟨y0, y1, y2, y3, _, _, _, _⟩ := four ((s2.block wr.heap.size (Array.getElem?_eq_some_iff.1 y9).1).trans y9)
      have hO4 := OwnK.stay hO3 s2
      have m0 := hO4.cells 0 (.int .i64 q1) rfl
      have m1 := hO4.cells 1 (.string ⟨q2.toArray⟩) rfl
      have m2 := hO4.cells 2 (.int .i64 (0 : Nat)) rfl
      have m3 := hO4.cells 3 (.int .i64 ((q4 - q3 : Nat) : Int)) rfl
      have hneq := neqK0 ⟨q1, q2, 0, q4 - q3⟩
      have w1 : IntKind.i64.wrap ((q4 : Int) - (q3 : Int)) = ((q4 - q3 : Nat) : Int) := wrap_diff q3 q4 HQ.out.1 (by have := HQ.out; omega)
      generalize q4 - q3 = q5 at *
      have w2 : ((q5 : Int) != (q5 : Int)) = false := by simp
      dsimp only at hneq
      have HXX : Hid (X2 = W3.alloc (.cells #[.int .i64 0, .string ⟨#[]⟩, .int .i64 0, .int .i64 0] 25)) := hX2
      clear tt hO3 hO4 hs3 y9 s2 hX2
      go_wp2_with fail
      rw [← HXX.out]
      clear HXX
      refine wp_region_quiet_lit (by kernel_rfl) (by kernel_rfl) ?_
      repeat (go_big_quiet_step (first | (go_at_call 12; exact Calls.quiet_of_same (num_any _ _))))
      refine wpQuiet_nil ?_
      intro _ hw'
      obtain ⟨nq, hw''⟩ := hw'
      subst hw''
      have HS2 : Hid (Stay X (X2.drewN nq)) := HS.out.trans (Stay.drewN _ _)
      have y3' := (Stay.drewN X2 nq).cell y3
      clear HS y0 y1 y2 y3 m0 m1 m2 m3 hneq w1 w2
      go_wp2
      go_roundw
      case rel => exact ⟨k + 1, q4, HQ.out.2.2.2, by go_num, rfl, HE.out, HS2.out⟩
      case measure => have := HQ.out.2.2.2; simp [intOf]; omega
    · obtain rfl : k = l.length := by omega
      have e1 : ¬ (l.length : Int) < (l.length : Int) := by omega
      have hae : a = lastE 0 l := by rw [← hE, List.drop_length]; rfl
      have HW : Hid (Stay X wr) := hst
      obtain ⟨y0, y1, y2, y3, _, _, _, _⟩ := four ((hst.block W1.heap.size (Array.getElem?_eq_some_iff.1 H5.out.1).1).trans H5.out.1)
      clear hst hC hE hk hlt
      have z4 := HZ.out.1
      have z5 := HZ.out.2
      have e7 : ¬ (u3 : Int) < (a : Int) := by have := HU.out.2; omega
      have e8 : ((far : Int) != (far : Int)) = false := by simp
      clear hae
      rw [← take_string] at t3
      go_wp2_with fail
      refine (t3 _ (HT.out.stay (H5.out.2.trans HW.out))).mono ?_
      rintro e W4 ⟨v4, rfl, hO4, hs4⟩
      obtain ⟨X3, hX3⟩ : ∃ X3, X3 = W4.alloc (.cells #[.int .i64 u1, .string ⟨#[]⟩, .int .i64 (u3 : Int), .int .i64 (far : Int)] 25) := ⟨_, rfl⟩
      have s3 : Stay W4 X3 := by rw [hX3]; exact Stay.new _ _
      have s5 : Stay X X3 := (HW.out.trans hs4).trans s3
      obtain ⟨a4, b4, c4, rfl, k4⟩ := (hO4.stay s3).form
      have HS : Hid (TkS X3 a1 b1 l ∧ TkS X3 a4 b4 l ∧ Stay w X3) := ⟨HK.out.stay s5, k4, H5.out.2.trans s5⟩
      obtain ⟨x0, x1, x2, x3, _, _, _, _⟩ := four ((s5.block W1.heap.size (Array.getElem?_eq_some_iff.1 H5.out.1).1).trans H5.out.1)
      obtain ⟨v0, v1, v2, v3, _, _, _, _⟩ := four (show X3.heap[W4.heap.size]? = some (.cells #[.int .i64 u1, .string ⟨#[]⟩, .int .i64 (u3 : Int), .int .i64 (far : Int)] 25 (0, 0)) by rw [hX3]; exact heap_new _ _)
      have HXX : Hid (X3 = W4.alloc (.cells #[.int .i64 u1, .string ⟨#[]⟩, .int .i64 (u3 : Int), .int .i64 (far : Int)] 25)) := hX3
      have hqq := eqlK ⟨u1, [], u3, far⟩ ⟨u1, [], u3, far⟩
      rw [decide_eq_true rfl] at hqq
      dsimp only [tok0] at hqq
      have w5 : ((far : Int) == (far : Int)) = true := by simp
      have sd := fun n => same_drew (X3.drewN n) a4 a1 b4 b1 c4 c1 l (HS.out.2.1.stay (Stay.drewN _ _)) (HS.out.1.stay (Stay.drewN _ _)) hl1
      clear t3 hO4 hs4 s3 s5 k4 hX3 y0 y1 y2 y3
      go_wp2_with fail
      rw [← HXX.out]
      clear HXX
      refine wp_region_quiet_lit (by kernel_rfl) (by kernel_rfl) ?_
      repeat (go_big_quiet_step (first | (go_at_call 11; exact Calls.quiet_of (sd _)) | (go_at_call 12; exact Calls.quiet_of_same (num_any _ _))))
      refine wpQuiet_nil ?_
      intro _ hw'
      obtain ⟨nq, hw''⟩ := hw'
      subst hw''
      go_wp2
      go_ret
      exact ⟨rfl, HS.out.2.2.trans (Stay.drewN _ _)⟩

theorem lexPieces_walk (s : ByteArray) (w : World) (hT : Tabs w) (hs : s.size ≤ 1048576) : Calls Tryd.prog 6 #[.string s] w fun e w' => e = .returned (.bool true) ∧ Stay w w' := by
  obtain ⟨L, rfl⟩ : ∃ L : List UInt8, s = ⟨L.toArray⟩ := ⟨s.data.toList, by simp⟩
  have hlen : (⟨L.toArray⟩ : ByteArray).size = L.length := by show L.toArray.size = _; simp
  rw [hlen] at hs
  have hkn := known_any w hT
  have t1 := fun W (hW : Tabs W) => Tokens_any ⟨L.toArray⟩ (by show L.toArray.size ≤ _; simp; omega) W hW
  obtain ⟨hfar, hcase, hch, hop, hcut⟩ := lex_pieces L
  have n1 : (lexT L).1.length ≤ L.length := by
    have h := (tokF_len L (L.length + 1) 0 tok0 (Nat.zero_le _)).1
    have e : (lexT L).1 = (tokF L (L.length + 1) 0 tok0).1 := by unfold lexT; split <;> rfl
    rw [e]; omega
  have t3 := fun W (hW : Tabs W) => Tokens_any ⟨(L.take (lexT L).2.2.1).toArray⟩ (by show (L.take (lexT L).2.2.1).toArray.size ≤ _; simp; omega) W hW
  dsimp only at t1 t3
  rw [hcut] at t3
  clear hcut
  generalize lexT L = U at *
  obtain ⟨l, ⟨u1, u2, u3, u4⟩, far, e⟩ := U
  dsimp only at t1 t3 hfar hcase hch hop n1
  dsimp only [Tok.val, Tok.cells] at t1 t3
  rcases hop with ho | ⟨hk, hat, hfin, htx⟩
  · obtain ⟨rfl, rfl, rfl, rfl⟩ := Tok.mk.inj ho
    rw [if_pos rfl] at t3
    rcases hcase with ⟨rfl, hc1, _⟩ | rfl
    · exact pieces_A L l far w hT hs hc1 hfar n1 hch hkn t1 t3
    · exact pieces_B L l far w hT hs hfar n1 hch hkn t1 t3
  · subst hfin htx
    dsimp only at t3
    rw [if_neg hk] at t3
    rcases hcase with ⟨rfl, _, hc2⟩ | rfl
    · exact absurd (congrArg Tok.kind hc2) hk
    · exact pieces_C L l u4 u1 u3 w hT hs hk hat hfar n1 hch hkn t1 t3
end Go.Proofs.YtioafeckaeaopaaDoor
