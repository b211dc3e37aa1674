/- Compare, by the program and by the document. -/
import Derived.Test.YtdmopioiaaecfaaRanksRefB
import Derived.Test.YtdmopioiaaecfaaRefNo
namespace Go.Proofs.Ytdmopioiaaecfaa
open Go.RowKit Go.Maps

def cval (ts : List ByteArray) (a b : Int) : Int := if good ts a && good ts b then cmpT (textAt ts a) (textAt ts b) else 0
def cerr (ts : List ByteArray) (a b : Int) : Int := if good ts a && good ts b then 0 else 2

theorem cb_three : ∀ a b : List UInt8, Lib.compareBytes a b = -1 ∨ Lib.compareBytes a b = 0 ∨ Lib.compareBytes a b = 1
  | [], [] => by simp [Lib.compareBytes]
  | [], _ :: _ => by simp [Lib.compareBytes]
  | _ :: _, [] => by simp [Lib.compareBytes]
  | x :: a, y :: b => by
    unfold Lib.compareBytes
    split
    · exact .inl rfl
    · split
      · exact .inr (.inr rfl)
      · exact cb_three a b

theorem cmpT_three (a b : ByteArray) : cmpT a b = -1 ∨ cmpT a b = 0 ∨ cmpT a b = 1 := cb_three _ _

theorem eq_bytes (a b : ByteArray) : (a.toList == b.toList) = decide (cmpT a b = 0) := by
  by_cases h : cmpT a b = 0
  · rw [cmpT_eq h, cmpT_self]; simp
  · rw [tl_ne (fun e => h (by rw [e, cmpT_self]))]; simp [h]

theorem good_nat {ts : List ByteArray} {z : Int} (h : good ts z = true) : ∃ k : Nat, z = k ∧ ∃ hk : k < ts.length, textAt ts z = ts[k] := by
  have h1 : 0 ≤ z ∧ z < ts.length := by unfold good at h; simpa using h
  obtain ⟨k, rfl⟩ : ∃ k : Nat, z = k := ⟨z.toNat, by omega⟩
  have hk : k < ts.length := by omega
  refine ⟨k, rfl, hk, ?_⟩
  unfold textAt
  rw [h, if_pos rfl]
  simp [hk]

section
variable {w : World} {bt bm g cap : Nat} {ts : List ByteArray}

set_option maxRecDepth 100000 in
set_option maxHeartbeats 400000 in
theorem compare_yes (h : Tab w bt bm g cap ts) (a b : Int) :
    Calls Try.prog 40 #[.pointer (some ⟨bt, 0, none⟩), .int .i64 a, .int .i64 b] w fun e w' => e = .returned (.tuple #[.int .i64 (cval ts a b), .int .i64 (cerr ts a b)]) ∧ ∃ n, w' = w.drewN n := by
  have hm := made_yes w bt bm h.c1
  have ha := has_yes h a
  have hb := has_yes h b
  rw [show (decide (0 ≤ a) && decide (a < ts.length)) = good ts a from rfl] at ha
  rw [show (decide (0 ≤ b) && decide (b < ts.length)) = good ts b from rfl] at hb
  by_cases hga : good ts a = true
  · by_cases hgb : good ts b = true
    · have hv : cval ts a b = cmpT (textAt ts a) (textAt ts b) ∧ cerr ts a b = 0 := by unfold cval cerr; simp [hga, hgb]
      rw [hv.1, hv.2]
      rw [hga] at ha
      rw [hgb] at hb
      obtain ⟨j, rfl, hj, hja⟩ := good_nat hga
      obtain ⟨k, rfl, hk, hkb⟩ := good_nat hgb
      have c0 := h.c0
      have cj := h.text hj
      have ck := h.text hk
      rw [← hja] at cj
      rw [← hkb] at ck
      have hcmp : ∀ W, Calls Try.prog 50 #[.string (textAt ts j), .string (textAt ts k)] W fun e w' => e = .returned (.int .i64 (cmpT (textAt ts j) (textAt ts k))) ∧ w' = W := fun W => Try.strings_Compare _ _ W
      have hjb : (j : Int) < (ts.length : Int) := by omega
      have hkb2 : (k : Int) < (ts.length : Int) := by omega
      generalize textAt ts j = sj at cj hcmp
      generalize textAt ts k = sk at ck hcmp
      generalize cmpT sj sk = cv at hcmp
      clear h hga hgb hv hja hkb
      go_enter Try.func40, Try.ntmps40
      go_wp2_with (first | (go_at_call 34; refine Calls.mono hm ?_; rintro e w' ⟨rfl, hw⟩; have hw' := hw.symm; subst hw') | (go_at_call 51; refine Calls.mono ha ?_; rintro e w' ⟨rfl, hw⟩; have hw' := hw.symm; subst hw'; clear ha) | (go_at_call 51; refine Calls.mono hb ?_; rintro e w' ⟨rfl, hw⟩; have hw' := hw.symm; subst hw'; clear hb))
      go_quiet ((go_at_call 50; exact Calls.quiet_of_same (hcmp _)))
      go_wp2
      go_ret2
      exact ⟨rfl, _, rfl⟩
    · have hgb' : good ts b = false := by simpa using hgb
      have hv : cval ts a b = 0 ∧ cerr ts a b = 2 := by unfold cval cerr; simp [hgb']
      rw [hv.1, hv.2]
      rw [hga] at ha
      rw [hgb'] at hb
      clear h hga hgb hv hgb'
      go_enter Try.func40, Try.ntmps40
      go_wp2_with (first | (go_at_call 34; refine Calls.mono hm ?_; rintro e w' ⟨rfl, hw⟩; have hw' := hw.symm; subst hw') | (go_at_call 51; refine Calls.mono ha ?_; rintro e w' ⟨rfl, hw⟩; have hw' := hw.symm; subst hw'; clear ha) | (go_at_call 51; refine Calls.mono hb ?_; rintro e w' ⟨rfl, hw⟩; have hw' := hw.symm; subst hw'; clear hb))
      go_ret2
      exact ⟨rfl, 0, rfl⟩
  · have hga' : good ts a = false := by simpa using hga
    have hv : cval ts a b = 0 ∧ cerr ts a b = 2 := by unfold cval cerr; simp [hga']
    rw [hv.1, hv.2]
    rw [hga'] at ha
    clear h hga hv hga' hb
    go_enter Try.func40, Try.ntmps40
    go_wp2_with (first | (go_at_call 34; refine Calls.mono hm ?_; rintro e w' ⟨rfl, hw⟩; have hw' := hw.symm; subst hw') | (go_at_call 51; refine Calls.mono ha ?_; rintro e w' ⟨rfl, hw⟩; have hw' := hw.symm; subst hw'; clear ha))
    go_ret2
    exact ⟨rfl, 0, rfl⟩
end

section
variable {w : World} {br : Nat} {sv : Value} {ls : List ByteArray}

set_option maxRecDepth 100000 in
set_option maxHeartbeats 400000 in
theorem rcompare_yes (h : RTab w br sv ls) (a b : Int) :
    Calls Try.prog 41 #[.pointer (some ⟨br, 0, none⟩), .int .i64 a, .int .i64 b] w fun e w' => e = .returned (.tuple #[.int .i64 (cval ls a b), .int .i64 (cerr ls a b)]) ∧ w' = w := by
  have ha := rtext_any h a
  have hb := rtext_any h b
  by_cases hga : good ls a = true
  · by_cases hgb : good ls b = true
    · have hv : cval ls a b = cmpT (textAt ls a) (textAt ls b) ∧ cerr ls a b = 0 := by unfold cval cerr; simp [hga, hgb]
      rw [hv.1, hv.2]
      rw [hga] at ha
      rw [hgb] at hb
      have hl := below_bytes (textAt ls a) (textAt ls b)
      have hr := below_bytes (textAt ls b) (textAt ls a)
      have hsw := cmpT_swap (textAt ls a) (textAt ls b)
      have h3 := cmpT_three (textAt ls a) (textAt ls b)
      have hq := eq_bytes (textAt ls a) (textAt ls b)
      generalize textAt ls a = sa at ha hl hr hsw h3 hq
      generalize textAt ls b = sb at hb hl hr hsw h3 hq
      rw [hsw] at hr
      generalize cmpT sa sb = cv at hl hr h3 hq
      clear h hga hgb hv hsw
      rcases h3 with rfl | rfl | rfl
      all_goals
        simp at hl hr
        simp only [show decide ((-1 : Int) = 0) = false from rfl, show decide ((1 : Int) = 0) = false from rfl] at hq
        go_enter Try.func41, Try.ntmps41
        go_wp2_with (first | (go_at_call 38; refine Calls.mono ha ?_; rintro e w' ⟨rfl, hw⟩; have hw' := hw.symm; subst hw'; clear ha) | (go_at_call 38; refine Calls.mono hb ?_; rintro e w' ⟨rfl, hw⟩; have hw' := hw.symm; subst hw'; clear hb))
        go_ret2
        exact ⟨rfl, rfl⟩
    · have hgb' : good ls b = false := by simpa using hgb
      have hv : cval ls a b = 0 ∧ cerr ls a b = 2 := by unfold cval cerr; simp [hgb']
      rw [hv.1, hv.2]
      rw [hga] at ha
      rw [hgb'] at hb
      generalize textAt ls a = sa at ha
      generalize textAt ls b = sb at hb
      clear h hga hgb hv hgb'
      go_enter Try.func41, Try.ntmps41
      go_wp2_with (first | (go_at_call 38; refine Calls.mono ha ?_; rintro e w' ⟨rfl, hw⟩; have hw' := hw.symm; subst hw'; clear ha) | (go_at_call 38; refine Calls.mono hb ?_; rintro e w' ⟨rfl, hw⟩; have hw' := hw.symm; subst hw'; clear hb))
      go_ret2
      exact ⟨rfl, rfl⟩
  · have hga' : good ls a = false := by simpa using hga
    have hv : cval ls a b = 0 ∧ cerr ls a b = 2 := by unfold cval cerr; simp [hga']
    rw [hv.1, hv.2]
    rw [hga'] at ha
    generalize textAt ls a = sa at ha
    generalize textAt ls b = sb at hb
    generalize good ls b = gb at hb
    clear h hga hv hga'
    go_enter Try.func41, Try.ntmps41
    go_wp2_with (first | (go_at_call 38; refine Calls.mono ha ?_; rintro e w' ⟨rfl, hw⟩; have hw' := hw.symm; subst hw'; clear ha) | (go_at_call 38; refine Calls.mono hb ?_; rintro e w' ⟨rfl, hw⟩; have hw' := hw.symm; subst hw'; clear hb))
    go_ret2
    exact ⟨rfl, rfl⟩
end
end Go.Proofs.Ytdmopioiaaecfaa
