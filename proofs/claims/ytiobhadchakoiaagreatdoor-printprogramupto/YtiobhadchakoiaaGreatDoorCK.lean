/- The document's texts of literals and rules: literal, rule; Atom, Literal, Rule. -/
import Derived.Test.YtiobhadchakoiaaGreatDoorCJ
import Derived.Deep.RegionHeld3
namespace Go.Proofs.YtiobhadchakoiaaGreatDoor
open Go.RowKit Go.Maps

theorem At.txt_len {x : At} (h : x.ok = true) : x.txt.length ≤ 66000 := by
  unfold At.ok at h
  rw [Bool.and_eq_true, Bool.and_eq_true, decide_eq_true_eq] at h
  obtain ⟨⟨hn, h16⟩, hall⟩ := h
  have hp := (nameB_len hn).2
  have h1 := atT_len hall x.pred.data.toList x.ts.length (Nat.le_refl _)
  unfold atT at h1
  rw [List.take_length] at h1
  unfold At.txt
  by_cases h0 : x.ts.length = 0
  · rw [if_pos h0]; simp; simp at hp; omega
  · rw [if_neg h0] at h1 ⊢
    simp only [List.length_append, List.length_cons, List.length_nil] at h1 ⊢
    omega
theorem Li.parts {x : Li} (h : x.ok = true) : ((x.kind = 1 ∨ x.kind = 2) ∧ x.atom.ok = true) ∨ (x.kind = 3 ∧ x.left.ok = true ∧ x.right.ok = true) := by
  unfold Li.ok at h
  by_cases h1 : x.kind = 1 ∨ x.kind = 2
  · rw [if_pos h1, Bool.and_eq_true] at h
    exact .inl ⟨h1, h.2⟩
  · rw [if_neg h1] at h
    by_cases h3 : x.kind = 3
    · rw [if_pos h3, Bool.and_eq_true, Bool.and_eq_true] at h
      exact .inr ⟨h3, h.1.2, h.2⟩
    · rw [if_neg h3] at h; cases h
theorem Li.txt_len {x : Li} (h : x.ok = true) : x.txt.length ≤ 66010 := by
  unfold Li.txt
  rcases Li.parts h with ⟨h1, h2⟩ | ⟨h1, h2, h3⟩
  · have := At.txt_len h2
    by_cases hk : x.kind = 1
    · rw [if_pos hk]; omega
    · rw [if_neg hk, if_pos (h1.resolve_left hk)]
      simp only [List.length_append, List.length_cons, List.length_nil]
      omega
  · have g1 := Tm.txt_len h2
    have g2 := Tm.txt_len h3
    rw [if_neg (by omega), if_neg (by omega)]
    simp only [List.length_append, List.length_cons, List.length_nil]
    omega

theorem four_box {W W' : World} {b : Nat} {c0 c1 c2 c3 : Value} (h : W.cell? ⟨b, 3, none⟩ = some c0 ∧ W.cell? ⟨b, 4, none⟩ = some c1 ∧ W.cell? ⟨b, 5, none⟩ = some c2 ∧ W.cell? ⟨b, 6, none⟩ = some c3) (hs : Stay W W') :
    W'.cell? ⟨b, 3, none⟩ = some c0 ∧ W'.cell? ⟨b, 4, none⟩ = some c1 ∧ W'.cell? ⟨b, 5, none⟩ = some c2 ∧ W'.cell? ⟨b, 6, none⟩ = some c3 := ⟨hs.cell h.1, hs.cell h.2.1, hs.cell h.2.2.1, hs.cell h.2.2.2⟩
set_option maxRecDepth 100000 in
set_option maxHeartbeats 4000000 in
theorem y9literal_any (x : Li) (w : World) (hM : x.atom.In w) (hok : x.ok = true) : Calls Tryz.prog 21 #[x.v] w fun e w' => e = .returned (.string ⟨x.txt.toArray⟩) ∧ Stay w w' := by
  have hpt := Li.parts hok
  obtain ⟨q, hq⟩ : ∃ q : ByteArray, q = ⟨x.txt.toArray⟩ := ⟨_, rfl⟩
  rw [← hq]
  have HQ : Hid (q.data.toList = x.txt) := by rw [hq]; exact mk_list _
  clear hq hok
  obtain ⟨k, ⟨p, a, bk, off, cap, ts⟩, ⟨va1, s1⟩, ⟨va2, s2⟩⟩ := x
  unfold Li.txt at HQ
  unfold Li.v
  unfold At.sl
  dsimp only at *
  have hs0 : Stay w (w.alloc (.cells #[.int .i64 k, .string p, .slice a ts.length cap, .bool va1, .string s1, .bool va2, .string s2] 57)) := Stay.new w _
  have HS : Hid (Stay w (w.alloc (.cells #[.int .i64 k, .string p, .slice a ts.length cap, .bool va1, .string s1, .bool va2, .string s2] 57))) := hs0
  rcases hpt with ⟨hk, hao⟩ | ⟨rfl, ho1, ho2⟩
  · have hat := y9atom_any ⟨p, a, bk, off, cap, ts⟩ _ (TmsS.stay hM hs0) hao
    have hal := At.txt_len hao
    obtain ⟨T, hT⟩ : ∃ T : ByteArray, T = ⟨(At.txt ⟨p, a, bk, off, cap, ts⟩).toArray⟩ := ⟨_, rfl⟩
    have HT : Hid (T.data.toList = At.txt ⟨p, a, bk, off, cap, ts⟩) := by rw [hT]; exact mk_list _
    have hTs : T.size ≤ 66000 := by rw [hT, mk_size]; exact hal
    rw [← hT] at hat
    unfold At.v At.sl at hat
    dsimp only at hat
    clear hT hal hao hM hs0
    generalize ts.length = n at *
    rcases hk with rfl | rfl
    · rw [if_pos rfl] at HQ
      go_enter Tryz.func21, Tryz.ntmps21
      go_wp2_with (first | (go_at_call 20; refine hat.mono ?_; rintro e W1 ⟨rfl, hs1⟩))
      go_ret
      exact ⟨congrArg (fun z => Ending.returned (Value.string z)) (eq_list (by rw [HT.out, HQ.out])), HS.out.trans hs1⟩
    · rw [if_neg (by decide), if_pos rfl] at HQ
      have g1 : ¬ 9223372036854775807 < 4 + T.size := by omega
      go_enter Tryz.func21, Tryz.ntmps21
      go_wp2_with (first | (go_at_call 20; refine hat.mono ?_; rintro e W1 ⟨rfl, hs1⟩))
      go_ret
      exact ⟨congrArg (fun z => Ending.returned (Value.string z)) (eq_list (by rw [app_list, HT.out, HQ.out])), HS.out.trans hs1⟩
  · rw [if_neg (by decide), if_neg (by decide)] at HQ
    have ht1 := fun W => y9term_any ⟨va1, s1⟩ W (Tm.size_ok ho1)
    have ht2 := fun W => y9term_any ⟨va2, s2⟩ W (Tm.size_ok ho2)
    have hl1 := Tm.txt_len ho1
    have hl2 := Tm.txt_len ho2
    obtain ⟨T1, hT1⟩ : ∃ T : ByteArray, T = ⟨(Tm.txt ⟨va1, s1⟩).toArray⟩ := ⟨_, rfl⟩
    obtain ⟨T2, hT2⟩ : ∃ T : ByteArray, T = ⟨(Tm.txt ⟨va2, s2⟩).toArray⟩ := ⟨_, rfl⟩
    have HT : Hid (T1.data.toList = Tm.txt ⟨va1, s1⟩ ∧ T2.data.toList = Tm.txt ⟨va2, s2⟩) := ⟨by rw [hT1], by rw [hT2]⟩
    have hz1 : T1.size ≤ 4098 := by rw [hT1, mk_size]; exact hl1
    have hz2 : T2.size ≤ 4098 := by rw [hT2, mk_size]; exact hl2
    rw [← hT1] at ht1
    rw [← hT2] at ht2
    unfold Tm.v at ht1 ht2
    dsimp only at ht1 ht2
    have g1 : ¬ 9223372036854775807 < T1.size + 4 := by omega
    have g2 : ¬ 9223372036854775807 < T1.size + 4 + T2.size := by omega
    obtain ⟨W0, hW0⟩ : ∃ W0, W0 = w.alloc (.cells #[.int .i64 3, .string p, .slice a ts.length cap, .bool va1, .string s1, .bool va2, .string s2] 57) := ⟨_, rfl⟩
    have hS4 : W0.drew.cell? ⟨w.heap.size, 3, none⟩ = some (.bool va1) ∧ W0.drew.cell? ⟨w.heap.size, 4, none⟩ = some (.string s1) ∧ W0.drew.cell? ⟨w.heap.size, 5, none⟩ = some (.bool va2) ∧ W0.drew.cell? ⟨w.heap.size, 6, none⟩ = some (.string s2) := by
      rw [hW0]; exact ⟨by (show (w.alloc _).cell? _ = _) <;> simp, by (show (w.alloc _).cell? _ = _) <;> simp, by (show (w.alloc _).cell? _ = _) <;> simp, by (show (w.alloc _).cell? _ = _) <;> simp⟩
    clear hT1 hT2 hl1 hl2 ho1 ho2 hM hs0
    rw [← hW0] at HS
    generalize ts.length = n at *
    go_enter Tryz.func21, Tryz.ntmps21
    go_wp2_with fail
    rw [← hW0]
    clear hW0
    go_region_held3 (fun W => W.cell? ⟨w.heap.size, 3, none⟩ = some (.bool va1) ∧ W.cell? ⟨w.heap.size, 3 + 1, none⟩ = some (.string s1) ∧ W.cell? ⟨w.heap.size, 5, none⟩ = some (.bool va2) ∧ W.cell? ⟨w.heap.size, 5 + 1, none⟩ = some (.string s2))
      (first | assumption | (exact four_box (by assumption) (by assumption)))
      (first
        | (go_at_call 41; refine (ht1 _).mono ?_; rintro e W1 ⟨rfl, hs1⟩; clear ht1)
        | (go_at_call 41; refine (ht2 _).mono ?_; rintro e W2 ⟨rfl, hs2⟩; clear ht2))
    go_wp2_with fail
    go_ret
    exact ⟨congrArg (fun z => Ending.returned (Value.string z)) (eq_list (by rw [app_list, app_list, HT.out.1, HT.out.2, HQ.out]; simp)), Below.trans (Below.drew HS.out) (Below.trans (hs1.mono HS.out.size) (hs2.mono (Nat.le_trans HS.out.size hs1.size)))⟩
end Go.Proofs.YtiobhadchakoiaaGreatDoor
