/- A term: the code's writing, the document's. -/
import Derived.Test.YtmbjghhicbbgmaaDoorPG
namespace Go.Proofs.YtmbjghhicbbgmaaDoor
open Go.RowKit Go.Maps

theorem string_mk (s : ByteArray) : (⟨s.data.toList.toArray⟩ : ByteArray) = s := by simp
theorem quoteL_len (l : List UInt8) : (quoteL l).length ≤ l.length * 4 + 2 := by
  have := pieces_len l
  rw [quoteL, List.length_cons, List.length_append]
  simp only [List.length_cons, List.length_nil]
  omega

/-- A term, plainly. -/
structure Tm where
  var : Bool
  text : ByteArray
def Tm.v (t : Tm) : Value := .agg #[.bool t.var, .string t.text]
/-- Is it in form? -/
def Tm.ok (t : Tm) : Bool := if t.var then varB t.text.data.toList else decide (t.text.data.toList.length ≤ 1024)
/-- Its text. -/
def Tm.txt (t : Tm) : List UInt8 := if t.var || bareB t.text.data.toList then t.text.data.toList else quoteL t.text.data.toList
theorem varB_len {l : List UInt8} (h : varB l = true) : l.length ≤ 64 := by
  unfold varB allB at h
  simp at h
  omega
theorem numB_len {l : List UInt8} (h : numB l = true) : l.length ≤ 64 := by
  unfold numB allB at h
  simp at h
  omega
theorem Tm.small {t : Tm} (h : t.ok = true) : t.text.data.toList.length ≤ 1024 := by
  unfold Tm.ok at h
  split at h
  · have := varB_len h; omega
  · simpa using h
theorem Tm.txt_len {t : Tm} (h : t.ok = true) : t.txt.length ≤ 4098 := by
  have h1 := Tm.small h
  have h2 := quoteL_len t.text.data.toList
  unfold Tm.txt
  split <;> omega

/-- What a writer leaves: whether it is in form, and behind what was there, if so, its text. -/
def Wrote (B b : Nat) (w : World) (bs : List UInt8) (ok : Bool) (txt : List UInt8) (n : Nat) (e : Ending) (w' : World) : Prop :=
  e = .returned (.bool ok) ∧ ∃ cs : List UInt8, Bld B b w' (bs ++ cs) ∧ (ok = true → cs = txt) ∧ cs.length ≤ n ∧ Wk B b w w'

set_option maxRecDepth 100000 in
set_option maxHeartbeats 2000000 in
theorem writeTerm_any {B b : Nat} {w : World} {bs : List UInt8} (h : Bld B b w bs) (t : Tm) (hT : Tabs w) (hlen : bs.length + 4098 ≤ 140737488355328) (hBw : B ≤ w.heap.size) :
    Calls Tryd.prog 30 #[.pointer (some ⟨b, 0, none⟩), t.v] w (Wrote B b w bs t.ok t.txt 4098) := by
  obtain ⟨va, s⟩ := t
  have htl := @Tm.txt_len ⟨va, s⟩
  have hsm := @Tm.small ⟨va, s⟩
  unfold Tm.v
  unfold Tm.txt Tm.ok at *
  dsimp only at *
  have hN : Stay w (w.alloc (.cells #[.bool va, .string s] 38)) := Stay.new w _
  have hv := Variable_any s _ (hT.stay hN)
  have hc := Constant_any s (w.alloc (.cells #[.bool va, .string s] 38))
  have hb := Bare_any s _ (hT.stay hN)
  have hs := fun hl => writeStringK (h.stay hN) s hl (Nat.le_trans hBw hN.size)
  have hq := fun hl => writeQuotedK (h.stay hN) s hl (Nat.le_trans hBw hN.size)
  have HK : Hid (Wk B b w (w.alloc (.cells #[.bool va, .string s] 38))) := Wk.new hBw _
  have HB : Hid (Bld B b (w.alloc (.cells #[.bool va, .string s] 38)) bs) := h.stay hN
  clear h hT hN
  cases va
  · simp only [Bool.false_eq_true, if_false, Bool.false_or] at *
    cases hcc : decide (s.data.toList.length ≤ 1024)
    · rw [hcc] at hc
      clear hcc hs hq hb hv htl hsm
      generalize (if bareB s.data.toList = true then s.data.toList else quoteL s.data.toList) = tx
      go_enter Tryd.func30, Tryd.ntmps30
      go_wp2_with (first
        | (go_at_call 43; refine hc.mono ?_; rintro e w' ⟨rfl, hw'⟩; subst hw'))
      go_ret
      exact ⟨rfl, [], by simpa using HB.out, (fun h => nomatch h), by simp, HK.out⟩
    · rw [hcc] at hc
      have hl := hsm hcc
      have hsz : s.data.toList.length = s.size := by simp
      cases hbb : bareB s.data.toList
      · rw [hbb] at hb
        have hq1 := hq (by omega)
        have HX : Hid ((quoteL s.data.toList).length ≤ 4098) := by
          show (quoteL s.data.toList).length ≤ 4098
          simpa [hbb] using htl hcc
        simp only [Bool.false_eq_true, if_false]
        clear hcc hs hq hv htl hsm hbb hl hsz
        go_enter Tryd.func30, Tryd.ntmps30
        go_wp2_with (first
          | (go_at_call 43; refine hc.mono ?_; rintro e w' ⟨rfl, hw'⟩; subst hw')
          | (go_at_call 44; refine hb.mono ?_; rintro e w' ⟨rfl, hw'⟩; subst hw')
          | (go_at_call 45; refine hq1.mono ?_; rintro e W1 ⟨rfl, hB1, hb1⟩))
        go_ret
        exact ⟨rfl, _, hB1, fun _ => rfl, HX.out, HK.out.trans hb1⟩
      · rw [hbb] at hb
        have hs1 := hs (by omega)
        have HX : Hid (s.data.toList.length ≤ 4098) := by show _ ≤ _; omega
        simp only [if_true]
        clear hcc hs hq hv htl hsm hbb hl hsz
        go_enter Tryd.func30, Tryd.ntmps30
        go_wp2_with (first
          | (go_at_call 43; refine hc.mono ?_; rintro e w' ⟨rfl, hw'⟩; subst hw')
          | (go_at_call 44; refine hb.mono ?_; rintro e w' ⟨rfl, hw'⟩; subst hw')
          | (go_at_call 36; refine hs1.mono ?_; rintro e W1 ⟨rfl, hB1, hb1⟩))
        go_ret
        exact ⟨rfl, _, hB1, fun _ => rfl, HX.out, HK.out.trans hb1⟩
  · simp only [if_true, Bool.true_or] at *
    cases hcc : varB s.data.toList
    · rw [hcc] at hv
      clear hcc hs hq hb hc htl hsm
      go_enter Tryd.func30, Tryd.ntmps30
      go_wp2_with (first
        | (go_at_call 42; refine hv.mono ?_; rintro e w' ⟨rfl, hw'⟩; subst hw'))
      go_ret
      exact ⟨rfl, [], by simpa using HB.out, (fun h => nomatch h), by simp, HK.out⟩
    · rw [hcc] at hv
      have hl := hsm hcc
      have hsz : s.data.toList.length = s.size := by simp
      rw [decide_eq_true hl] at hc
      have hs1 := hs (by omega)
      have HX : Hid (s.data.toList.length ≤ 4098) := by show _ ≤ _; omega
      clear hcc hs hq hb htl hsm hl hsz
      go_enter Tryd.func30, Tryd.ntmps30
      go_wp2_with (first
        | (go_at_call 42; refine hv.mono ?_; rintro e w' ⟨rfl, hw'⟩; subst hw')
        | (go_at_call 43; refine hc.mono ?_; rintro e w' ⟨rfl, hw'⟩; subst hw')
        | (go_at_call 36; refine hs1.mono ?_; rintro e W1 ⟨rfl, hB1, hb1⟩))
      go_ret
      exact ⟨rfl, _, hB1, fun _ => rfl, HX.out, HK.out.trans hb1⟩

/-- What Term answers. -/
def tellT (ok : Bool) (txt : List UInt8) : Value := .tuple #[.string ⟨(if ok then txt else []).toArray⟩, .int .i64 (if ok then 0 else 2)]
set_option maxRecDepth 100000 in
set_option maxHeartbeats 2000000 in
theorem writtenT_any (t : Tm) (w : World) (hT : Tabs w) : Calls Tryd.prog 29 #[t.v, .func (.func 30) #[] #[]] w fun e w' => e = .returned (tellT t.ok t.txt) ∧ Stay w w' := by
  have hN : Stay w (w.alloc (.cells #[.bool t.var, .string t.text] 38)) := Stay.new w _
  have hF := fresh_bld0 (w.alloc (.cells #[.bool t.var, .string t.text] 38))
  have hN2 : Stay (w.alloc (.cells #[.bool t.var, .string t.text] 38)) _ := Stay.new (w.alloc (.cells #[.bool t.var, .string t.text] 38)) (.cells #[.pointer none, .slice none 0 0] 72)
  rw [show (w.alloc (.cells #[.bool t.var, .string t.text] 38)).heap.size = w.heap.size + 1 from by simp] at hF
  have hw := writeTerm_any hF t ((hT.stay hN).stay hN2) (by simp) (by simp)
  have HS : Hid (Stay w ((w.alloc (.cells #[.bool t.var, .string t.text] 38)).alloc (.cells #[.pointer none, .slice none 0 0] 72))) := hN.trans hN2
  have HL : Hid (t.ok = true → t.txt.length ≤ 4098) := Tm.txt_len
  obtain ⟨va, s⟩ := t
  unfold Tm.v at *
  unfold tellT
  dsimp only at *
  generalize Tm.ok ⟨va, s⟩ = ok at *
  generalize Tm.txt ⟨va, s⟩ = txt at *
  clear hF hN hN2 hT
  cases ok
  · simp only [Bool.false_eq_true, if_false]
    go_enter Tryd.func29, Tryd.ntmps29
    go_wp2_with (first
      | (go_at_call 30; refine hw.mono ?_; rintro e W1 ⟨rfl, cs, hB1, hcs, hcl, hb1⟩))
    go_ret2
    exact ⟨rfl, Below.trans HS.out (hb1.1.mono (Nat.le_succ _))⟩
  · simp only [if_true]
    go_enter Tryd.func29, Tryd.ntmps29
    go_wp2_with (first
      | (go_at_call 30; refine hw.mono ?_; rintro e W1 ⟨rfl, cs, hB1, hcs, hcl, hb1⟩; obtain rfl := hcs rfl; have w2 := Bld.strOk hB1 (Nat.le_trans (by simp) hb1.size); have HB1 : Hid (Wk _ _ _ W1) := hb1; clear hb1 hB1)
      | (go_at_call 35; refine w2.mono ?_; rintro e W2 ⟨rfl, hb2⟩))
    go_ret2
    exact ⟨by simp, Below.trans HS.out ((HB1.out.1.trans hb2).mono (Nat.le_succ _))⟩

theorem pTerm_any (t : Tm) (w : World) (hT : Tabs w) : Calls Tryd.prog 11 #[t.v] w fun e w' => e = .returned (tellT t.ok t.txt) ∧ Stay w w' := by
  have hw := writtenT_any t (w.alloc (.cells #[.bool t.var, .string t.text] 38)) (hT.stay (Stay.new w _))
  have HS : Hid (Stay w (w.alloc (.cells #[.bool t.var, .string t.text] 38))) := Stay.new w _
  obtain ⟨va, s⟩ := t
  unfold Tm.v at *
  unfold tellT at *
  dsimp only at *
  generalize (if Tm.ok ⟨va, s⟩ = true then Tm.txt ⟨va, s⟩ else []).toArray = x at *
  generalize (if Tm.ok ⟨va, s⟩ = true then (0 : Int) else 2) = y at *
  clear hT
  go_enter Tryd.func11, Tryd.ntmps11
  go_wp2_with (first
    | (go_at_call 29; refine hw.mono ?_; rintro e W1 ⟨rfl, hs1⟩))
  go_ret2
  exact ⟨rfl, HS.out.trans hs1⟩
theorem y11constant_any (s : ByteArray) (w : World) : Calls Tryd.prog 47 #[.string s] w fun e w' => e = .returned (.bool (decide (s.data.toList.length ≤ 1024))) ∧ w' = w := by
  rw [show s.data.toList.length = s.size by simp]
  go_enter Tryd.func47, Tryd.ntmps47
  go_wp2
  go_ret
  refine ⟨?_, rfl⟩
  show Ending.returned (Value.bool _) = _
  simp; omega
theorem y11Term_any (t : Tm) (w : World) : Calls Tryd.prog 31 #[t.v] w fun e w' => e = .returned (.bool t.ok) ∧ Stay w w' := by
  obtain ⟨va, s⟩ := t
  have h1 := fun W => y_Variable s W
  have h2 := fun W => y11constant_any s W
  have HS : Hid (Stay w (w.alloc (.cells #[.bool va, .string s] 38))) := Stay.new w _
  unfold Tm.v Tm.ok
  dsimp only
  generalize varB s.data.toList = x at *
  generalize decide (s.data.toList.length ≤ 1024) = y at *
  cases va
  · simp only [Bool.false_eq_true, if_false]
    go_enter Tryd.func31, Tryd.ntmps31
    go_wp2_with (first
      | (go_at_call 47; refine (h2 _).mono ?_; rintro e W1 ⟨rfl, hs1⟩; subst hs1))
    go_ret
    exact ⟨rfl, HS.out⟩
  · simp only [if_true]
    go_enter Tryd.func31, Tryd.ntmps31
    go_wp2_with (first
      | (go_at_call 46; refine (h1 _).mono ?_; rintro e W1 ⟨rfl, hs1⟩; subst hs1))
    go_ret
    exact ⟨rfl, HS.out⟩
theorem y9term_any (t : Tm) (w : World) (hs : t.text.size ≤ 35184372088000) : Calls Tryd.prog 32 #[t.v] w fun e w' => e = .returned (.string ⟨t.txt.toArray⟩) ∧ Stay w w' := by
  obtain ⟨va, s⟩ := t
  have h1 := fun W => y_Bare s W
  have h2 := fun W => y_Quote s W hs
  have HS : Hid (Stay w (w.alloc (.cells #[.bool va, .string s] 38))) := Stay.new w _
  have hm := string_mk s
  unfold Tm.v Tm.txt
  dsimp only
  clear hs
  cases va
  · simp only [Bool.false_or]
    cases hb : bareB s.data.toList
    · rw [hb] at h1
      simp only [Bool.false_eq_true, if_false]
      generalize (quoteL s.data.toList).toArray = q at *
      clear hb hm
      go_enter Tryd.func32, Tryd.ntmps32
      go_wp2_with (first
        | (go_at_call 48; refine (h1 _).mono ?_; rintro e W1 ⟨rfl, hs1⟩; subst hs1)
        | (go_at_call 49; refine (h2 _).mono ?_; rintro e W1 ⟨rfl, hs1⟩))
      go_ret
      exact ⟨rfl, HS.out.trans hs1⟩
    · rw [hb] at h1
      simp only [if_true]
      rw [hm]
      clear hb hm h2
      go_enter Tryd.func32, Tryd.ntmps32
      go_wp2_with (first
        | (go_at_call 48; refine (h1 _).mono ?_; rintro e W1 ⟨rfl, hs1⟩; subst hs1))
      go_ret
      exact ⟨rfl, HS.out⟩
  · simp only [Bool.true_or, if_true]
    rw [hm]
    clear h1 h2 hm
    go_enter Tryd.func32, Tryd.ntmps32
    go_wp2_with fail
    go_ret
    exact ⟨rfl, HS.out⟩
theorem y9Term_any (t : Tm) (w : World) : Calls Tryd.prog 12 #[t.v] w fun e w' => e = .returned (tellT t.ok t.txt) ∧ Stay w w' := by
  have h1 := fun W => y11Term_any t W
  have h2 := fun (h : t.ok = true) W => y9term_any t W (by have := Tm.small h; rw [show t.text.data.toList.length = t.text.size by simp] at this; omega)
  have HS : Hid (Stay w (w.alloc (.cells #[.bool t.var, .string t.text] 38))) := Stay.new w _
  have HC : Hid (∀ W, Stay (w.alloc (.cells #[.bool t.var, .string t.text] 38)) W → W.cell? ⟨w.heap.size, 0, none⟩ = some (.bool t.var) ∧ W.cell? ⟨w.heap.size, 1, none⟩ = some (.string t.text)) := fun W hW =>
    ⟨hW.cell (by simp), hW.cell (by simp)⟩
  obtain ⟨va, s⟩ := t
  unfold Tm.v at *
  unfold tellT
  dsimp only at *
  generalize Tm.txt ⟨va, s⟩ = txt at *
  cases hok : Tm.ok ⟨va, s⟩
  · rw [hok] at h1
    simp only [Bool.false_eq_true, if_false]
    clear h2 hok
    go_enter Tryd.func12, Tryd.ntmps12
    go_wp2_with (first
      | (go_at_call 31; refine (h1 _).mono ?_; rintro e W1 ⟨rfl, hs1⟩))
    go_ret2
    exact ⟨rfl, HS.out.trans hs1⟩
  · rw [hok] at h1
    have h3 := h2 hok
    simp only [if_true]
    clear h2 hok
    go_enter Tryd.func12, Tryd.ntmps12
    go_wp2_with (first
      | (go_at_call 31; refine (h1 _).mono ?_; rintro e W1 ⟨rfl, hs1⟩; obtain ⟨c0, c1⟩ := HC.out W1 hs1; have HS1 : Hid (Stay _ W1) := hs1; clear hs1)
      | (go_at_call 32; refine (h3 _).mono ?_; rintro e W2 ⟨rfl, hs2⟩))
    go_ret2
    exact ⟨rfl, HS.out.trans (HS1.out.trans hs2)⟩
end Go.Proofs.YtmbjghhicbbgmaaDoor
