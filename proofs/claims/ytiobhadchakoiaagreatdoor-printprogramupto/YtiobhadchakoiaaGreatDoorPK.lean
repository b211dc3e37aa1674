/- A term: the code's writing, the document's. -/
import Derived.Test.YtiobhadchakoiaaGreatDoorPG
import Derived.Test.YtiobhadchakoiaaGreatDoorBA
namespace Go.Proofs.YtiobhadchakoiaaGreatDoor
open Go.RowKit Go.Maps

theorem string_mk (s : ByteArray) : (⟨s.data.toList.toArray⟩ : ByteArray) = s := by simp
theorem quoteL_len (l : List UInt8) : (quoteL l).length ≤ l.length * 4 + 2 := by
  have := pieces_len l
  rw [quoteL, List.length_cons, List.length_append]
  simp only [List.length_cons, List.length_nil]
  omega

/-- Is it in form? -/
def Tm.ok (t : Tm) : Bool := if t.var then varB t.text.data.toList else decide (t.text.data.toList.length ≤ 1024)
/-- Its text. -/
def Tm.txt (t : Tm) : List UInt8 := if t.var || bareB t.text.data.toList then t.text.data.toList else quoteL t.text.data.toList
theorem varB_len {l : List UInt8} (h : varB l = true) : l.length ≤ 64 := by
  unfold varB allB at h
  simp at h
  omega
theorem numB_len {l : List UInt8} (h : numB l = true) : l.length ≤ 64 := by
  unfold numB allB at h
  simp at h
  omega
theorem Tm.small {t : Tm} (h : t.ok = true) : t.text.data.toList.length ≤ 1024 := by
  unfold Tm.ok at h
  split at h
  · have := varB_len h; omega
  · simpa using h
theorem Tm.txt_len {t : Tm} (h : t.ok = true) : t.txt.length ≤ 4098 := by
  have h1 := Tm.small h
  have h2 := quoteL_len t.text.data.toList
  unfold Tm.txt
  split <;> omega

/-- What a writer leaves: whether it is in form, and behind what was there, if so, its text. -/
def Wrote (B b : Nat) (w : World) (bs : List UInt8) (ok : Bool) (txt : List UInt8) (n : Nat) (e : Ending) (w' : World) : Prop :=
  e = .returned (.bool ok) ∧ ∃ cs : List UInt8, Bld B b w' (bs ++ cs) ∧ (ok = true → cs = txt) ∧ cs.length ≤ n ∧ Wk B b w w'

set_option maxRecDepth 100000 in
set_option maxHeartbeats 2000000 in
theorem writeTerm_any {B b : Nat} {w : World} {bs : List UInt8} (h : Bld B b w bs) (t : Tm) (hT : Tabs w) (hlen : bs.length + 4098 ≤ 140737488355328) (hBw : B ≤ w.heap.size) :
    Calls Tryz.prog 64 #[.pointer (some ⟨b, 0, none⟩), t.v] w (Wrote B b w bs t.ok t.txt 4098) := by
  obtain ⟨va, s⟩ := t
  have htl := @Tm.txt_len ⟨va, s⟩
  have hsm := @Tm.small ⟨va, s⟩
  unfold Tm.v
  unfold Tm.txt Tm.ok at *
  dsimp only at *
  have hN : Stay w (w.alloc (.cells #[.bool va, .string s] 54)) := Stay.new w _
  have hv := Variable_any s _ (hT.stay hN)
  have hc := Constant_any s (w.alloc (.cells #[.bool va, .string s] 54))
  have hb := Bare_any s _ (hT.stay hN)
  have hs := fun hl => writeStringK (h.stay hN) s hl (Nat.le_trans hBw hN.size)
  have hq := fun hl => writeQuotedK (h.stay hN) s hl (Nat.le_trans hBw hN.size)
  have HK : Hid (Wk B b w (w.alloc (.cells #[.bool va, .string s] 54))) := Wk.new hBw _
  have HB : Hid (Bld B b (w.alloc (.cells #[.bool va, .string s] 54)) bs) := h.stay hN
  clear h hT hN
  cases va
  · simp only [Bool.false_eq_true, if_false, Bool.false_or] at *
    cases hcc : decide (s.data.toList.length ≤ 1024)
    · rw [hcc] at hc
      clear hcc hs hq hb hv htl hsm
      generalize (if bareB s.data.toList = true then s.data.toList else quoteL s.data.toList) = tx
      go_enter Tryz.func64, Tryz.ntmps64
      go_wp2_with (first
        | (go_at_call 46; refine hc.mono ?_; rintro e w' ⟨rfl, hw'⟩; subst hw'))
      go_ret
      exact ⟨rfl, [], by simpa using HB.out, (fun h => nomatch h), by simp, HK.out⟩
    · rw [hcc] at hc
      have hl := hsm hcc
      have hsz : s.data.toList.length = s.size := by simp
      cases hbb : bareB s.data.toList
      · rw [hbb] at hb
        have hq1 := hq (by omega)
        have HX : Hid ((quoteL s.data.toList).length ≤ 4098) := by
          show (quoteL s.data.toList).length ≤ 4098
          simpa [hbb] using htl hcc
        simp only [Bool.false_eq_true, if_false]
        clear hcc hs hq hv htl hsm hbb hl hsz
        go_enter Tryz.func64, Tryz.ntmps64
        go_wp2_with (first
          | (go_at_call 46; refine hc.mono ?_; rintro e w' ⟨rfl, hw'⟩; subst hw')
          | (go_at_call 75; refine hb.mono ?_; rintro e w' ⟨rfl, hw'⟩; subst hw')
          | (go_at_call 47; refine hq1.mono ?_; rintro e W1 ⟨rfl, hB1, hb1⟩))
        go_ret
        exact ⟨rfl, _, hB1, fun _ => rfl, HX.out, HK.out.trans hb1⟩
      · rw [hbb] at hb
        have hs1 := hs (by omega)
        have HX : Hid (s.data.toList.length ≤ 4098) := by show _ ≤ _; omega
        simp only [if_true]
        clear hcc hs hq hv htl hsm hbb hl hsz
        go_enter Tryz.func64, Tryz.ntmps64
        go_wp2_with (first
          | (go_at_call 46; refine hc.mono ?_; rintro e w' ⟨rfl, hw'⟩; subst hw')
          | (go_at_call 75; refine hb.mono ?_; rintro e w' ⟨rfl, hw'⟩; subst hw')
          | (go_at_call 42; refine hs1.mono ?_; rintro e W1 ⟨rfl, hB1, hb1⟩))
        go_ret
        exact ⟨rfl, _, hB1, fun _ => rfl, HX.out, HK.out.trans hb1⟩
  · simp only [if_true, Bool.true_or] at *
    cases hcc : varB s.data.toList
    · rw [hcc] at hv
      clear hcc hs hq hb hc htl hsm
      go_enter Tryz.func64, Tryz.ntmps64
      go_wp2_with (first
        | (go_at_call 74; refine hv.mono ?_; rintro e w' ⟨rfl, hw'⟩; subst hw'))
      go_ret
      exact ⟨rfl, [], by simpa using HB.out, (fun h => nomatch h), by simp, HK.out⟩
    · rw [hcc] at hv
      have hl := hsm hcc
      have hsz : s.data.toList.length = s.size := by simp
      rw [decide_eq_true hl] at hc
      have hs1 := hs (by omega)
      have HX : Hid (s.data.toList.length ≤ 4098) := by show _ ≤ _; omega
      clear hcc hs hq hb htl hsm hl hsz
      go_enter Tryz.func64, Tryz.ntmps64
      go_wp2_with (first
        | (go_at_call 74; refine hv.mono ?_; rintro e w' ⟨rfl, hw'⟩; subst hw')
        | (go_at_call 46; refine hc.mono ?_; rintro e w' ⟨rfl, hw'⟩; subst hw')
        | (go_at_call 42; refine hs1.mono ?_; rintro e W1 ⟨rfl, hB1, hb1⟩))
      go_ret
      exact ⟨rfl, _, hB1, fun _ => rfl, HX.out, HK.out.trans hb1⟩

/-- What Term answers. -/
def tellT (ok : Bool) (txt : List UInt8) : Value := .tuple #[.string ⟨(if ok then txt else []).toArray⟩, .int .i64 (if ok then 0 else 2)]
theorem y11constant_any (s : ByteArray) (w : World) : Calls Tryz.prog 39 #[.string s] w fun e w' => e = .returned (.bool (decide (s.data.toList.length ≤ 1024))) ∧ w' = w := by
  rw [show s.data.toList.length = s.size by simp]
  go_enter Tryz.func39, Tryz.ntmps39
  go_wp2
  go_ret
  refine ⟨?_, rfl⟩
  show Ending.returned (Value.bool _) = _
  simp; omega
theorem y11Term_any (t : Tm) (w : World) : Calls Tryz.prog 69 #[t.v] w fun e w' => e = .returned (.bool t.ok) ∧ Stay w w' := by
  obtain ⟨va, s⟩ := t
  have h1 := fun W => y_Variable s W
  have h2 := fun W => y11constant_any s W
  have HS : Hid (Stay w (w.alloc (.cells #[.bool va, .string s] 54))) := Stay.new w _
  unfold Tm.v Tm.ok
  dsimp only
  generalize varB s.data.toList = x at *
  generalize decide (s.data.toList.length ≤ 1024) = y at *
  cases va
  · simp only [Bool.false_eq_true, if_false]
    go_enter Tryz.func69, Tryz.ntmps69
    go_wp2_with (first
      | (go_at_call 39; refine (h2 _).mono ?_; rintro e W1 ⟨rfl, hs1⟩; subst hs1))
    go_ret
    exact ⟨rfl, HS.out⟩
  · simp only [if_true]
    go_enter Tryz.func69, Tryz.ntmps69
    go_wp2_with (first
      | (go_at_call 79; refine (h1 _).mono ?_; rintro e W1 ⟨rfl, hs1⟩; subst hs1))
    go_ret
    exact ⟨rfl, HS.out⟩
theorem y9term_any (t : Tm) (w : World) (hs : t.text.size ≤ 35184372088000) : Calls Tryz.prog 41 #[t.v] w fun e w' => e = .returned (.string ⟨t.txt.toArray⟩) ∧ Stay w w' := by
  obtain ⟨va, s⟩ := t
  have h1 := fun W => y_Bare s W
  have h2 := fun W => y_Quote s W hs
  have HS : Hid (Stay w (w.alloc (.cells #[.bool va, .string s] 54))) := Stay.new w _
  have hm := string_mk s
  unfold Tm.v Tm.txt
  dsimp only
  clear hs
  cases va
  · simp only [Bool.false_or]
    cases hb : bareB s.data.toList
    · rw [hb] at h1
      simp only [Bool.false_eq_true, if_false]
      generalize (quoteL s.data.toList).toArray = q at *
      clear hb hm
      go_enter Tryz.func41, Tryz.ntmps41
      go_wp2_with (first
        | (go_at_call 58; refine (h1 _).mono ?_; rintro e W1 ⟨rfl, hs1⟩; subst hs1)
        | (go_at_call 11; refine (h2 _).mono ?_; rintro e W1 ⟨rfl, hs1⟩))
      go_ret
      exact ⟨rfl, HS.out.trans hs1⟩
    · rw [hb] at h1
      simp only [if_true]
      rw [hm]
      clear hb hm h2
      go_enter Tryz.func41, Tryz.ntmps41
      go_wp2_with (first
        | (go_at_call 58; refine (h1 _).mono ?_; rintro e W1 ⟨rfl, hs1⟩; subst hs1))
      go_ret
      exact ⟨rfl, HS.out⟩
  · simp only [Bool.true_or, if_true]
    rw [hm]
    clear h1 h2 hm
    go_enter Tryz.func41, Tryz.ntmps41
    go_wp2_with fail
    go_ret
    exact ⟨rfl, HS.out⟩
end Go.Proofs.YtiobhadchakoiaaGreatDoor
