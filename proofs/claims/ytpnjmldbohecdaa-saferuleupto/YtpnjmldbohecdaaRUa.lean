/- The document's answer for layer 12: is a literal ready. -/
import Derived.Test.YtpnjmldbohecdaaEY
import Derived.Test.YtpnjmldbohecdaaED
import Derived.Test.YtpnjmldbohecdaaEG
namespace Go.Proofs.Ytpnjmldbohecdaa
open Go.RowKit Go.Maps Go.Shelf

theorem allV_take (us : List ByteArray) {ts : List Tm} {j : Nat} (h : j < ts.length) : allS us (varsT (ts.take (j + 1))) = (allS us (varsT (ts.take j)) && (!ts[j].var || inB us ts[j].text)) := by
  unfold allS varsT
  rw [List.take_add_one, List.getElem?_eq_getElem h, Option.toList_some, List.filter_append, List.map_append, List.all_append]
  congr 1
  cases hv : ts[j].var <;> simp [hv]
theorem allV_no (us : List ByteArray) {ts : List Tm} {j : Nat} (h : j < ts.length) (hv : ts[j].var = true) (hc : inB us ts[j].text = false) : allS us (varsT ts) = false := by
  unfold allS
  rw [List.all_eq_false]
  refine ⟨ts[j].text, ?_, by simp [hc]⟩
  unfold varsT
  exact List.mem_map.2 ⟨ts[j], List.mem_filter.2 ⟨List.getElem_mem h, hv⟩, rfl⟩

set_option maxRecDepth 100000 in
set_option maxHeartbeats 2000000 in
theorem yReady_any (l : Li) (w : World) (hl : l.fit w) (hkd : (Lit.int .i64 l.kind).wf = true) (a : Option Addr) (b off c : Nat) (us : List ByteArray) (h : RecS 1 encSt w a b off us) (hn : us.length ≤ 4398046511104) :
    Calls Try.prog 16 #[l.v, .slice a us.length c] w fun e w' => e = .returned (.bool (readyB l us)) ∧ Stay w w' := by
  obtain ⟨w0, hw0⟩ : ∃ w0, w0 = w.alloc (.cells #[.int .i64 l.kind, .string l.atom.pred, .slice l.atom.a l.atom.ts.length l.atom.cap, .bool l.left.var, .string l.left.text, .bool l.right.var, .string l.right.text] 53) := ⟨_, rfl⟩
  have s0 : Stay w w0 := by rw [hw0]; exact Stay.new _ _
  have har := args_any l w0 (TmsS.stay hl.ins s0) hkd
  have HUS : Hid (RecS 1 encSt w0 a b off us ∧ Stay w w0) := ⟨h.stay s0, s0⟩
  have htl : l.terms.length ≤ 1048578 := by have := Li.terms_len l; have := hl.few; omega
  obtain ⟨R, hR⟩ : ∃ R : Ending → World → Prop, R = fun e w' => e = .returned (.bool (readyB l us)) ∧ Stay w w' := ⟨_, rfl⟩
  rw [← hR]
  have HR : Hid (R = fun e w' => e = .returned (.bool (readyB l us)) ∧ Stay w w') := hR
  have HRB : Hid (readyB l us = (l.kind == 1 || ((l.kind == 2 || l.kind == 3) && allS us (varsT l.terms)))) := rfl
  generalize readyB l us = rd at *
  have HB0 : w0.heap[w.heap.size]? = some (.cells #[.int .i64 l.kind, .string l.atom.pred, .slice l.atom.a l.atom.ts.length l.atom.cap, .bool l.left.var, .string l.left.text, .bool l.right.var, .string l.right.text] 53 (0, 0)) := by rw [hw0]; exact heap_new _ _
  have d : w0.cell? ⟨w.heap.size, 0, none⟩ = some (.int .i64 l.kind) ∧ w0.cell? ⟨w.heap.size, 1, none⟩ = some (.string l.atom.pred) ∧ w0.cell? ⟨w.heap.size, 2, none⟩ = some (.slice l.atom.a l.atom.ts.length l.atom.cap) ∧ w0.cell? ⟨w.heap.size, 3, none⟩ = some (.bool l.left.var) ∧ w0.cell? ⟨w.heap.size, 4, none⟩ = some (.string l.left.text) ∧ w0.cell? ⟨w.heap.size, 5, none⟩ = some (.bool l.right.var) ∧ w0.cell? ⟨w.heap.size, 6, none⟩ = some (.string l.right.text) := by simp [World.cell?, HB0]
  obtain ⟨d0, d1, d2, d3, d4, d5, d6⟩ := d
  rw [hw0] at d0 d1 d2 d3 d4 d5 d6
  clear h s0 hl hR HB0
  unfold TermsAt at har
  generalize l.terms = ts at *
  obtain ⟨tl, htlE⟩ : ∃ tl, tl = ts.length := ⟨_, rfl⟩
  have HTL : Hid (tl = ts.length) := htlE
  rw [← htlE] at har htl
  clear htlE
  obtain ⟨kind, ⟨pred, aa, ab, aoff, acap, ats⟩, ⟨lv, lt⟩, ⟨rv, rt⟩⟩ := l
  dsimp only [Li.v, At.sl] at *
  by_cases k1 : kind < 1
  · have HF : Hid (rd = false) := by
      show _ = _
      rw [HRB.out]
      have g1 : (kind == 1) = false := by simp; omega
      have g2 : (kind == 2) = false := by simp; omega
      have g3 : (kind == 3) = false := by simp; omega
      simp [g1, g2, g3]
    clear HRB har
    go_enter Try.func16, Try.ntmps16
    go_wp2
    show R _ _
    rw [HR.out]
    exact ⟨by rw [HF.out] <;> rfl, by rw [← hw0]; exact HUS.out.2⟩
  · by_cases k3 : kind > 3
    · have HF : Hid (rd = false) := by
        show _ = _
        rw [HRB.out]
        have g1 : (kind == 1) = false := by simp; omega
        have g2 : (kind == 2) = false := by simp; omega
        have g3 : (kind == 3) = false := by simp; omega
        simp [g1, g2, g3]
      clear HRB har
      go_enter Try.func16, Try.ntmps16
      go_wp2
      show R _ _
      rw [HR.out]
      exact ⟨by rw [HF.out] <;> rfl, by rw [← hw0]; exact HUS.out.2⟩
    · by_cases hk1 : kind = 1
      · subst hk1
        have HF : Hid (rd = true) := by show _ = _; rw [HRB.out] <;> rfl
        clear HRB k1 k3
        go_enter Try.func16, Try.ntmps16
        go_wp2_with (go_at_call 37; rw [← hw0]; refine har.mono ?_; rintro e w1 ⟨a1, b1, o1, c1, rfl, hT, -, s1⟩)
        have H1 : Hid (Stay w w1) := HUS.out.2.trans s1
        clear hT s1 har
        go_loopw [7] (fun u wr => u = .int .i64 ((0 : Nat) : Int) ∧ wr = w1) (fun u _ => 0)
        case atStart => exact ⟨rfl, rfl⟩
        case round =>
          obtain ⟨rfl, hwr⟩ := hrel
          subst wr
          by_cases h0 : 0 < tl
          · have hki : ((0 : Nat) : Int) < (tl : Int) := by omega
            go_wp2
            show R _ _
            rw [HR.out]
            exact ⟨by rw [HF.out] <;> rfl, H1.out⟩
          · have hki : ¬ ((0 : Nat) : Int) < (tl : Int) := by omega
            go_wp2
            show R _ _
            rw [HR.out]
            exact ⟨by rw [HF.out] <;> rfl, H1.out⟩
      · have HF : Hid (rd = allS us (varsT ts)) := by
          show _ = _
          rw [HRB.out]
          have g1 : (kind == 1) = false := by simpa using hk1
          have g2 : (kind == 2 || kind == 3) = true := by
            rcases (show kind = 2 ∨ kind = 3 by omega) with rfl | rfl <;> rfl
          rw [g1, g2] <;> simp
        have hkb : (kind == 1) = false := by simpa using hk1
        clear HRB
        go_enter Try.func16, Try.ntmps16
        go_wp2_with (go_at_call 37; rw [← hw0]; refine har.mono ?_; rintro e w1 ⟨a1, b1, o1, c1, rfl, hT, -, s1⟩)
        have H1 : Hid (Stay w w1 ∧ TmsS w1 a1 b1 o1 ts ∧ RecS 1 encSt w1 a b off us) := ⟨HUS.out.2.trans s1, hT, HUS.out.1.stay s1⟩
        clear hT s1 har d0 d1 d2 d3 d4 d5 d6 hw0
        go_loopw [7] (fun u wr => ∃ j : Nat, j ≤ tl ∧ u = .int .i64 (j : Int) ∧ allS us (varsT (ts.take j)) = true ∧ wr = w1) (fun u _ => tl - (intOf u).toNat)
        case atStart => exact ⟨0, Nat.zero_le _, rfl, by simp [allS, varsT], rfl⟩
        case round =>
          obtain ⟨j, hj, rfl, hal, hwr⟩ := hrel
          subst wr
          by_cases hlt : j < tl
          · have hki : (j : Int) < (tl : Int) := by omega
            have hjl : j < ts.length := by have := HTL.out; omega
            obtain rfl := H1.out.2.1.1 (by omega)
            obtain ⟨e0, e1⟩ := H1.out.2.1.2 j hjl
            have HT : Hid (allS us (varsT (ts.take (j + 1))) = (!ts[j].var || inB us ts[j].text)) := by show _ = _; rw [allV_take us hjl, hal]; rfl
            have HNo : Hid (ts[j].var = true → inB us ts[j].text = false → rd = false) := fun g1 g2 => by rw [HF.out]; exact allV_no us hjl g1 g2
            have hhs := has_any w1 a b off c us ts[j].text H1.out.2.2 hn
            generalize ts[j] = t at *
            obtain ⟨tv, tt⟩ := t
            dsimp only at *
            clear hal
            cases tv
            · go_wp2_with fail
              go_roundw
              case rel => exact ⟨j + 1, by omega, by simp, by rw [HT.out]; rfl, by first | rfl | trivial⟩
              case measure => simp [intOf]; omega
            · cases hc : inB us tt
              · rw [hc] at hhs
                have HX : Hid (rd = false) := HNo.out rfl hc
                go_wp2_with (go_at_call 31; refine hhs.mono ?_; rintro e w9 ⟨rfl, rfl⟩)
                show R _ _
                rw [HR.out]
                exact ⟨by rw [HX.out]; rfl, H1.out.1⟩
              · rw [hc] at hhs
                have HX : Hid (allS us (varsT (ts.take (j + 1))) = true) := by show _ = _; rw [HT.out, hc]; rfl
                go_wp2_with (go_at_call 31; refine hhs.mono ?_; rintro e w9 ⟨rfl, rfl⟩)
                go_roundw
                case rel => exact ⟨j + 1, by omega, by simp, HX.out, by first | rfl | trivial⟩
                case measure => simp [intOf]; omega
          · obtain rfl : j = tl := by omega
            have HX : Hid (rd = true) := by show _ = _; rw [HF.out, ← hal, HTL.out, List.take_length]
            clear hal
            go_wp2
            show R _ _
            rw [HR.out]
            exact ⟨by rw [HX.out]; rfl, H1.out.1⟩
end Go.Proofs.Ytpnjmldbohecdaa
