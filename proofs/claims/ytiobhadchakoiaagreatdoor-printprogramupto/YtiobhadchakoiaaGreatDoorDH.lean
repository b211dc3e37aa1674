/- The document's form, Formed: the walks. -/
import Derived.Test.YtiobhadchakoiaaGreatDoorDG
namespace Go.Proofs.YtiobhadchakoiaaGreatDoor
open Go.RowKit Go.Maps

/-- A spot in a block of its own. -/
def Spt (W : World) (br : Nat) (a b : Int) : Prop := W.heap[br]? = some (.cells #[.int .i64 a, .int .i64 b, .string ⟨#[]⟩] 61 (0, 0))
theorem Spt.cells {W : World} {br : Nat} {a b : Int} (h : Spt W br a b) : W.cell? ⟨br, 0, none⟩ = some (.int .i64 a) ∧ W.cell? ⟨br, 1, none⟩ = some (.int .i64 b) ∧ W.cell? ⟨br, 2, none⟩ = some (.string ⟨#[]⟩) ∧ ∀ j, W.frozen? ⟨br, j, none⟩ = false := by
  unfold Spt at h
  exact ⟨by simp [World.cell?, h], by simp [World.cell?, h], by simp [World.cell?, h], fun j => by simp [World.frozen?, h]⟩
theorem Spt.set {W : World} {br : Nat} {a b : Int} (h : Spt W br a b) (a' b' : Int) : Spt (((W.setCell ⟨br, 0, none⟩ (.int .i64 a')).setCell ⟨br, 1, none⟩ (.int .i64 b')).setCell ⟨br, 2, none⟩ (.string ⟨#[]⟩)) br a' b' ∧ ∀ w, Stay w W → w.heap.size ≤ br → Stay w (((W.setCell ⟨br, 0, none⟩ (.int .i64 a')).setCell ⟨br, 1, none⟩ (.int .i64 b')).setCell ⟨br, 2, none⟩ (.string ⟨#[]⟩)) := by
  have h1 := heap_setCell_same W br 0 _ _ (.int .i64 a') h
  have h2 := heap_setCell_same _ br 1 _ _ (.int .i64 b') h1
  have h3 := heap_setCell_same _ br 2 _ _ (.string ⟨#[]⟩) h2
  refine ⟨by unfold Spt; rw [h3]; rfl, fun w hs hb => ?_⟩
  exact ((hs.setCell hb _).setCell hb _).setCell hb _
theorem three_rec {W : World} {b o : Nat} {x : Inp} (h : ∀ (i : Nat) v, (encInp x)[i]? = some v → W.cell? ⟨b, o + i, none⟩ = some v) : W.cell? ⟨b, o, none⟩ = some (.string x.pred) ∧ W.cell? ⟨b, o + 1, none⟩ = some (.int .i64 x.ar) ∧ W.cell? ⟨b, o + 2, none⟩ = some (.string x.file) :=
  ⟨h 0 _ rfl, h 1 _ rfl, h 2 _ rfl⟩
theorem two_rec {W : World} {b o : Nat} {x : Oup} (h : ∀ (i : Nat) v, (encOup x)[i]? = some v → W.cell? ⟨b, o + i, none⟩ = some v) : W.cell? ⟨b, o, none⟩ = some (.string x.pred) ∧ W.cell? ⟨b, o + 1, none⟩ = some (.int .i64 x.ar) :=
  ⟨h 0 _ rfl, h 1 _ rfl⟩
theorem rule_rec {W : World} {b o : Nat} {x : Ru} (h : ∀ (i : Nat) v, (encRu x)[i]? = some v → W.cell? ⟨b, o + i, none⟩ = some v) : W.cell? ⟨b, o, none⟩ = some (.string x.head.pred) ∧ W.cell? ⟨b, o + 1, none⟩ = some x.head.sl ∧ W.cell? ⟨b, o + 2, none⟩ = some (.slice x.a x.body.length x.cap) :=
  ⟨h 0 _ rfl, h 1 _ rfl, h 2 _ rfl⟩

set_option maxRecDepth 100000 in
set_option maxHeartbeats 8000000 in
theorem y11form_any (x : Pr) (w : World) (hM : x.In w) (h1 : x.ins.length ≤ 1048576) (h2 : x.outs.length ≤ 1048576) (h3 : x.rules.length ≤ 1048576) : Calls Tryz.prog 19 #[x.v] w (SpotB w (spotZ x.ins x.outs x.rules)) := by
  obtain ⟨ia, ib, io, ic, ins, oa, ob, oo, oc, outs, ra, rb, ro, rc, rules⟩ := x
  unfold Pr.v
  unfold Pr.In at hM
  dsimp only at *
  obtain ⟨Z, hZ⟩ : ∃ Z, Z = spotZ ins outs rules := ⟨_, rfl⟩
  rw [← hZ]
  obtain ⟨nI, hnI⟩ : ∃ n, n = ins.length := ⟨_, rfl⟩
  obtain ⟨nO, hnO⟩ : ∃ n, n = outs.length := ⟨_, rfl⟩
  obtain ⟨nR, hnR⟩ : ∃ n, n = rules.length := ⟨_, rfl⟩
  have HX : Hid (LsI w ia ib io ins ∧ LsO w oa ob oo outs ∧ LsR w ra rb ro rules ∧ nI = ins.length ∧ nO = outs.length ∧ nR = rules.length ∧ Z = spotZ ins outs rules) := ⟨hM.1, hM.2.1, hM.2.2, hnI, hnO, hnR, hZ⟩
  rw [← hnI] at h1 ⊢
  rw [← hnO] at h2 ⊢
  rw [← hnR] at h3 ⊢
  clear hM hZ hnI hnO hnR
  obtain ⟨W0, hW0⟩ : ∃ W0, W0 = (w.alloc (.cells #[.slice ia nI ic, .slice oa nO oc, .slice ra nR rc] 26)).alloc (.cells #[.int .i64 0, .int .i64 0, .string ⟨#[]⟩] 61) := ⟨_, rfl⟩
  have HW : Hid (Stay w W0 ∧ Spt W0 (w.heap.size + 1) 0 0 ∧ W0.cell? ⟨w.heap.size, 0, none⟩ = some (.slice ia nI ic) ∧ W0.cell? ⟨w.heap.size, 1, none⟩ = some (.slice oa nO oc) ∧ W0.cell? ⟨w.heap.size, 2, none⟩ = some (.slice ra nR rc)) := by
    rw [hW0]
    refine ⟨(Stay.new _ _).trans (Stay.new _ _), ?_, ?_, ?_, ?_⟩
    · have := heap_alloc_new (w.alloc (.cells #[.slice ia nI ic, .slice oa nO oc, .slice ra nR rc] 26)) (.cells #[.int .i64 0, .int .i64 0, .string ⟨#[]⟩] 61)
      rw [World.size_alloc] at this
      exact this
    · exact (Stay.new _ _).cell (by simp)
    · exact (Stay.new _ _).cell (by simp)
    · exact (Stay.new _ _).cell (by simp)
  -- what an end leaves
  have HE : Hid (∀ wr, Stay W0 wr → Spt wr (w.heap.size + 1) 0 0) := fun wr hs => (hs.block _ (Array.getElem?_eq_some_iff.1 HW.out.2.1).1).trans HW.out.2.1
  go_enter Tryz.func19, Tryz.ntmps19
  go_wp2_with fail
  rw [← hW0]
  clear hW0
  go_loopw [4] (fun i wr => ∃ k : Nat, k ≤ nI ∧ i = .int .i64 (k : Int) ∧ (ins.take k).all Inp.ok = true ∧ Stay W0 wr) (fun i _ => nI - (intOf i).toNat)
  case atStart => exact ⟨0, Nat.zero_le _, rfl, rfl, Stay.refl _⟩
  case round =>
    obtain ⟨k, hk, rfl, hall, hst⟩ := hrel
    have b0 := hst.cell HW.out.2.2.1
    by_cases hlt : k < nI
    · have hki : (k : Int) < (nI : Int) := by omega
      have hki0 : (0 : Int) ≤ (k : Int) := by omega
      have hks : k < ins.length := by rw [← HX.out.2.2.2.1]; exact hlt
      obtain rfl := HX.out.1.1 (by omega)
      obtain ⟨e0, e1, e2⟩ := three_rec (fun i v hv => ((HX.out.1.stay HW.out.1).stay hst).2 k hks i v hv)
      have hna := y11named_any ins[k].pred ins[k].ar
      have hco := y11constant_any ins[k].file
      have HK : Hid ((ins[k].ok = true → (ins.take (k + 1)).all Inp.ok = true) ∧ (ins[k].ok = false → Z = some (1, k)) ∧ ins[k].ok = (decB ins[k].pred ins[k].ar && decide (ins[k].file.data.toList.length ≤ 1024)) ∧ Stay W0 wr) := ⟨fun h => all_nextI hks hall h, fun h => by rw [HX.out.2.2.2.2.2.2]; unfold spotZ; rw [badAt_some hks hall h], rfl, hst⟩
      obtain ⟨s0, s1, s2, s3⟩ := (HE.out wr hst).cells
      clear hall hst
      generalize decB ins[k].pred ins[k].ar = db at *
      generalize decide (ins[k].file.data.toList.length ≤ 1024) = cb at *
      generalize ins[k].pred = ip at *
      generalize ins[k].ar = iar at *
      generalize ins[k].file = ifl at *
      have fin : ∀ Q, Stay wr Q → Spt (((Q.setCell ⟨w.heap.size + 1, 0, none⟩ (.int .i64 1)).setCell ⟨w.heap.size + 1, 1, none⟩ (.int .i64 (k : Int))).setCell ⟨w.heap.size + 1, 2, none⟩ (.string ⟨#[]⟩)) (w.heap.size + 1) 1 (k : Int) ∧ Stay w (((Q.setCell ⟨w.heap.size + 1, 0, none⟩ (.int .i64 1)).setCell ⟨w.heap.size + 1, 1, none⟩ (.int .i64 (k : Int))).setCell ⟨w.heap.size + 1, 2, none⟩ (.string ⟨#[]⟩)) := fun Q hQ => by
        obtain ⟨g1, g2⟩ := (HE.out Q (HK.out.2.2.2.trans hQ)).set 1 (k : Int)
        exact ⟨g1, g2 w ((HW.out.1.trans HK.out.2.2.2).trans hQ) (by omega)⟩
      have s4 := s3 0
      have s5 := s3 1
      have s6 := s3 2
      cases db with
      | false =>
        have HZ : Hid (Z = some (1, k)) := HK.out.2.1 (by rw [HK.out.2.2.1]; rfl)
        go_wp2_with fail
        refine wp_region_quiet_lit (by kernel_rfl) (by kernel_rfl) ?_
        repeat (go_big_quiet_step ((first | (go_at_call 38; exact Calls.quiet_of_same (hna _)) | (go_at_call 39; exact Calls.quiet_of_same (hco _)))))
        refine wpQuiet_nil ?_
        intro _ hw'
        obtain ⟨nq, hw''⟩ := hw'
        subst hw''
        have t0 : (wr.drewN nq).cell? ⟨w.heap.size + 1, 0, none⟩ = _ := s0
        have t1 : (wr.drewN nq).cell? ⟨w.heap.size + 1, 1, none⟩ = _ := s1
        have t2 : (wr.drewN nq).cell? ⟨w.heap.size + 1, 2, none⟩ = _ := s2
        have t4 : (wr.drewN nq).frozen? ⟨w.heap.size + 1, 0, none⟩ = _ := s4
        have t5 : (wr.drewN nq).frozen? ⟨w.heap.size + 1, 1, none⟩ = _ := s5
        have t6 : (wr.drewN nq).frozen? ⟨w.heap.size + 1, 2, none⟩ = _ := s6
        obtain ⟨f1, f2⟩ := fin (wr.drewN nq) (Stay.drewN _ _)
        have HF : Hid (Stay w (((( wr.drewN nq).setCell ⟨w.heap.size + 1, 0, none⟩ (.int .i64 1)).setCell ⟨w.heap.size + 1, 1, none⟩ (.int .i64 (k : Int))).setCell ⟨w.heap.size + 1, 2, none⟩ (.string ⟨#[]⟩))) := f2
        unfold Spt at f1
        clear f2 fin
        go_wp2
        refine bodyPost_ret (results_spot rfl _ _ (w.heap.size + 1) 61 #[.int .i64 1, .int .i64 (k : Int), .string ⟨#[]⟩] (0, 0) _ rfl f1 Tryz.underlying61 rfl sizeSpot) rfl ?_
        exact ⟨by rw [HZ.out]; rfl, HF.out⟩
      | true =>
        cases cb with
        | false =>
          have HZ : Hid (Z = some (1, k)) := HK.out.2.1 (by rw [HK.out.2.2.1]; rfl)
          go_wp2_with fail
          refine wp_region_quiet_lit (by kernel_rfl) (by kernel_rfl) ?_
          repeat (go_big_quiet_step ((first | (go_at_call 38; exact Calls.quiet_of_same (hna _)) | (go_at_call 39; exact Calls.quiet_of_same (hco _)))))
          refine wpQuiet_nil ?_
          intro _ hw'
          obtain ⟨nq, hw''⟩ := hw'
          subst hw''
          have t0 : (wr.drewN nq).cell? ⟨w.heap.size + 1, 0, none⟩ = _ := s0
          have t1 : (wr.drewN nq).cell? ⟨w.heap.size + 1, 1, none⟩ = _ := s1
          have t2 : (wr.drewN nq).cell? ⟨w.heap.size + 1, 2, none⟩ = _ := s2
          have t4 : (wr.drewN nq).frozen? ⟨w.heap.size + 1, 0, none⟩ = _ := s4
          have t5 : (wr.drewN nq).frozen? ⟨w.heap.size + 1, 1, none⟩ = _ := s5
          have t6 : (wr.drewN nq).frozen? ⟨w.heap.size + 1, 2, none⟩ = _ := s6
          obtain ⟨f1, f2⟩ := fin (wr.drewN nq) (Stay.drewN _ _)
          have HF : Hid (Stay w (((( wr.drewN nq).setCell ⟨w.heap.size + 1, 0, none⟩ (.int .i64 1)).setCell ⟨w.heap.size + 1, 1, none⟩ (.int .i64 (k : Int))).setCell ⟨w.heap.size + 1, 2, none⟩ (.string ⟨#[]⟩))) := f2
          unfold Spt at f1
          clear f2 fin
          go_wp2
          refine bodyPost_ret (results_spot rfl _ _ (w.heap.size + 1) 61 #[.int .i64 1, .int .i64 (k : Int), .string ⟨#[]⟩] (0, 0) _ rfl f1 Tryz.underlying61 rfl sizeSpot) rfl ?_
          exact ⟨by rw [HZ.out]; rfl, HF.out⟩
        | true =>
          have HN : Hid ((ins.take (k + 1)).all Inp.ok = true) := HK.out.1 (by rw [HK.out.2.2.1]; rfl)
          go_wp2_with fail
          refine wp_region_quiet_lit (by kernel_rfl) (by kernel_rfl) ?_
          repeat (go_big_quiet_step ((first | (go_at_call 38; exact Calls.quiet_of_same (hna _)) | (go_at_call 39; exact Calls.quiet_of_same (hco _)))))
          refine wpQuiet_nil ?_
          intro _ hw'
          obtain ⟨nq, hw''⟩ := hw'
          subst hw''
          go_wp2
          go_roundw
          case rel => exact ⟨k + 1, by omega, by first | rfl | go_num | simp, HN.out, HK.out.2.2.2.trans (Stay.drewN _ _)⟩
          case measure => simp [intOf]; omega
    · have hki : ¬ (k : Int) < (nI : Int) := by omega
      rw [List.take_of_length_le (by rw [← HX.out.2.2.2.1]; omega)] at hall
      have HI : Hid (badAt Inp.ok ins = none) := badAt_none hall
      clear hall
      go_wp2
      go_loopw [5] (fun i wr' => ∃ k : Nat, k ≤ nO ∧ i = .int .i64 (k : Int) ∧ (outs.take k).all Oup.ok = true ∧ Stay W0 wr') (fun i _ => nO - (intOf i).toNat)
      case atStart => exact ⟨0, Nat.zero_le _, rfl, rfl, hst⟩
      case round =>
        clear hst b0
        rename World => w2
        obtain ⟨j, hj, rfl, hall, hst⟩ := hrel
        have b1 := hst.cell HW.out.2.2.2.1
        by_cases hlt2 : j < nO
        · have hji : (j : Int) < (nO : Int) := by omega
          have hji0 : (0 : Int) ≤ (j : Int) := by omega
          have hjs : j < outs.length := by rw [← HX.out.2.2.2.2.1]; exact hlt2
          obtain rfl := HX.out.2.1.1 (by omega)
          obtain ⟨e0, e1⟩ := two_rec (fun i v hv => ((HX.out.2.1.stay HW.out.1).stay hst).2 j hjs i v hv)
          have hna := y11named_any outs[j].pred outs[j].ar
          have HK : Hid ((outs[j].ok = true → (outs.take (j + 1)).all Oup.ok = true) ∧ (outs[j].ok = false → Z = some (2, j)) ∧ outs[j].ok = decB outs[j].pred outs[j].ar ∧ Stay W0 w2) := ⟨fun h => all_nextO hjs hall h, fun h => by rw [HX.out.2.2.2.2.2.2]; unfold spotZ; rw [HI.out, badAt_some hjs hall h], rfl, hst⟩
          clear hall hst
          generalize decB outs[j].pred outs[j].ar = db at *
          generalize outs[j].pred = ip at *
          generalize outs[j].ar = iar at *
          cases db with
          | false =>
            have HZ : Hid (Z = some (2, j)) := HK.out.2.1 (by rw [HK.out.2.2.1])
            go_wp2_with fail
            refine wp_region_quiet_lit (by kernel_rfl) (by kernel_rfl) ?_
            repeat (go_big_quiet_step ((first | (go_at_call 38; exact Calls.quiet_of_same (hna _)))))
            refine wpQuiet_nil ?_
            intro _ hw'
            obtain ⟨nq, hw''⟩ := hw'
            subst hw''
            have t0 : (w2.drewN nq).cell? ⟨w.heap.size + 1, 0, none⟩ = some (.int .i64 0) := ((HE.out (w2.drewN nq) (HK.out.2.2.2.trans (Stay.drewN _ _))).cells).1
            have t1 : (w2.drewN nq).cell? ⟨w.heap.size + 1, 1, none⟩ = some (.int .i64 0) := ((HE.out (w2.drewN nq) (HK.out.2.2.2.trans (Stay.drewN _ _))).cells).2.1
            have t2 : (w2.drewN nq).cell? ⟨w.heap.size + 1, 2, none⟩ = some (.string ⟨#[]⟩) := ((HE.out (w2.drewN nq) (HK.out.2.2.2.trans (Stay.drewN _ _))).cells).2.2.1
            have t4 : (w2.drewN nq).frozen? ⟨w.heap.size + 1, 0, none⟩ = false := ((HE.out (w2.drewN nq) (HK.out.2.2.2.trans (Stay.drewN _ _))).cells).2.2.2 0
            have t5 : (w2.drewN nq).frozen? ⟨w.heap.size + 1, 1, none⟩ = false := ((HE.out (w2.drewN nq) (HK.out.2.2.2.trans (Stay.drewN _ _))).cells).2.2.2 1
            have t6 : (w2.drewN nq).frozen? ⟨w.heap.size + 1, 2, none⟩ = false := ((HE.out (w2.drewN nq) (HK.out.2.2.2.trans (Stay.drewN _ _))).cells).2.2.2 2
            obtain ⟨f1, f2⟩ := (HE.out (w2.drewN nq) (HK.out.2.2.2.trans (Stay.drewN _ _))).set 2 (j : Int)
            have HF : Hid (Stay w ((((w2.drewN nq).setCell ⟨w.heap.size + 1, 0, none⟩ (.int .i64 2)).setCell ⟨w.heap.size + 1, 1, none⟩ (.int .i64 (j : Int))).setCell ⟨w.heap.size + 1, 2, none⟩ (.string ⟨#[]⟩))) := f2 w (HW.out.1.trans (HK.out.2.2.2.trans (Stay.drewN _ _))) (by omega)
            unfold Spt at f1
            clear f2
            go_wp2
            refine bodyPost_ret (results_spot rfl _ _ (w.heap.size + 1) 61 #[.int .i64 2, .int .i64 (j : Int), .string ⟨#[]⟩] (0, 0) _ rfl f1 Tryz.underlying61 rfl sizeSpot) rfl ?_
            exact ⟨by rw [HZ.out]; rfl, HF.out⟩
          | true =>
            have HN : Hid ((outs.take (j + 1)).all Oup.ok = true) := HK.out.1 (by rw [HK.out.2.2.1])
            go_wp2_with fail
            refine wp_region_quiet_lit (by kernel_rfl) (by kernel_rfl) ?_
            repeat (go_big_quiet_step ((first | (go_at_call 38; exact Calls.quiet_of_same (hna _)))))
            refine wpQuiet_nil ?_
            intro _ hw'
            obtain ⟨nq, hw''⟩ := hw'
            subst hw''
            go_wp2
            first
              | exact ⟨⟨j + 1, by omega, by first | rfl | go_num | simp, HN.out, HK.out.2.2.2.trans (Stay.drewN _ _)⟩, by simp [intOf]; omega⟩
              | (go_roundw
                 case rel => exact ⟨j + 1, by omega, by first | rfl | go_num | simp, HN.out, HK.out.2.2.2.trans (Stay.drewN _ _)⟩
                 case measure => simp [intOf]; omega)
        · have hji : ¬ (j : Int) < (nO : Int) := by omega
          rw [List.take_of_length_le (by rw [← HX.out.2.2.2.2.1]; omega)] at hall
          have HO : Hid (badAt Oup.ok outs = none) := badAt_none hall
          clear hall
          go_wp2
          go_loopw [6] (fun i wr' => ∃ k : Nat, k ≤ nR ∧ i = .int .i64 (k : Int) ∧ (rules.take k).all Ru.ok = true ∧ Stay W0 wr') (fun i _ => nR - (intOf i).toNat)
          case atStart => exact ⟨0, Nat.zero_le _, rfl, rfl, hst⟩
          case round =>
            clear hst b1
            rename World => w3
            obtain ⟨q, hq, rfl, hall, hst⟩ := hrel
            have b2 := hst.cell HW.out.2.2.2.2
            by_cases hlt3 : q < nR
            · have hqi : (q : Int) < (nR : Int) := by omega
              have hqi0 : (0 : Int) ≤ (q : Int) := by omega
              have hqs : q < rules.length := by rw [← HX.out.2.2.2.2.2.1]; exact hlt3
              obtain rfl := HX.out.2.2.1.1.1 (by omega)
              obtain ⟨e0, e1, e2⟩ := rule_rec (fun i v hv => ((HX.out.2.2.1.1.stay HW.out.1).stay hst).2 q hqs i v hv)
              have hfo := y11FormedRule_any rules[q] w3 (Ru.stay (HX.out.2.2.1.2 _ (List.getElem_mem hqs)) (HW.out.1.trans hst))
              have HK : Hid ((rules[q].ok = true → (rules.take (q + 1)).all Ru.ok = true) ∧ (rules[q].ok = false → Z = some (3, q)) ∧ Stay W0 w3) := ⟨fun h => all_nextR hqs hall h, fun h => by rw [HX.out.2.2.2.2.2.2]; unfold spotZ; rw [HI.out, HO.out, badAt_some hqs hall h]; rfl, hst⟩
              clear hall hst
              unfold Ru.v at hfo
              generalize rules[q].ok = db at *
              generalize rules[q] = r at *
              obtain ⟨⟨rp, rha, rhb, rho, rhc, rts⟩, rra, rrb, rro, rrc, rls⟩ := r
              unfold At.sl at e1 hfo
              dsimp only at e0 e1 e2 hfo
              generalize rts.length = rn at *
              generalize rls.length = ln at *
              cases db with
              | false =>
                have HZ : Hid (Z = some (3, q)) := HK.out.2.1 rfl
                go_wp2_with fail
                refine hfo.mono ?_
                rintro e W5 ⟨rfl, hs5⟩
                have HS5 : Hid (Stay W0 W5) := HK.out.2.2.trans hs5
                clear hs5 hfo
                have t0 : W5.cell? ⟨w.heap.size + 1, 0, none⟩ = some (.int .i64 0) := ((HE.out W5 HS5.out).cells).1
                have t1 : W5.cell? ⟨w.heap.size + 1, 1, none⟩ = some (.int .i64 0) := ((HE.out W5 HS5.out).cells).2.1
                have t2 : W5.cell? ⟨w.heap.size + 1, 2, none⟩ = some (.string ⟨#[]⟩) := ((HE.out W5 HS5.out).cells).2.2.1
                have t4 : W5.frozen? ⟨w.heap.size + 1, 0, none⟩ = false := ((HE.out W5 HS5.out).cells).2.2.2 0
                have t5 : W5.frozen? ⟨w.heap.size + 1, 1, none⟩ = false := ((HE.out W5 HS5.out).cells).2.2.2 1
                have t6 : W5.frozen? ⟨w.heap.size + 1, 2, none⟩ = false := ((HE.out W5 HS5.out).cells).2.2.2 2
                obtain ⟨f1, f2⟩ := (HE.out W5 HS5.out).set 3 (q : Int)
                have HF : Hid (Stay w (((W5.setCell ⟨w.heap.size + 1, 0, none⟩ (.int .i64 3)).setCell ⟨w.heap.size + 1, 1, none⟩ (.int .i64 (q : Int))).setCell ⟨w.heap.size + 1, 2, none⟩ (.string ⟨#[]⟩))) := f2 w (HW.out.1.trans HS5.out) (by omega)
                unfold Spt at f1
                clear f2
                go_wp2
                refine bodyPost_ret (results_spot rfl _ _ (w.heap.size + 1) 61 #[.int .i64 3, .int .i64 (q : Int), .string ⟨#[]⟩] (0, 0) _ rfl f1 Tryz.underlying61 rfl sizeSpot) rfl ?_
                exact ⟨by rw [HZ.out]; rfl, HF.out⟩
              | true =>
                have HN : Hid ((rules.take (q + 1)).all Ru.ok = true) := HK.out.1 rfl
                go_wp2_with fail
                refine hfo.mono ?_
                rintro e W5 ⟨rfl, hs5⟩
                have HS5 : Hid (Stay W0 W5) := HK.out.2.2.trans hs5
                clear hs5 hfo
                go_wp2
                go_roundw
                case rel => exact ⟨q + 1, by omega, by first | rfl | go_num | simp, HN.out, HS5.out⟩
                case measure => simp [intOf]; omega
            · have hqi : ¬ (q : Int) < (nR : Int) := by omega
              rw [List.take_of_length_le (by rw [← HX.out.2.2.2.2.2.1]; omega)] at hall
              have HZ : Hid (Z = none) := by
                show Z = none
                rw [HX.out.2.2.2.2.2.2]; unfold spotZ; rw [HI.out, HO.out, badAt_none hall]; rfl
              have HS5 : Hid (Stay W0 w3) := hst
              clear hall hst
              have t0 : w3.cell? ⟨w.heap.size + 1, 0, none⟩ = some (.int .i64 0) := ((HE.out w3 HS5.out).cells).1
              have t1 : w3.cell? ⟨w.heap.size + 1, 1, none⟩ = some (.int .i64 0) := ((HE.out w3 HS5.out).cells).2.1
              have t2 : w3.cell? ⟨w.heap.size + 1, 2, none⟩ = some (.string ⟨#[]⟩) := ((HE.out w3 HS5.out).cells).2.2.1
              have t4 : w3.frozen? ⟨w.heap.size + 1, 0, none⟩ = false := ((HE.out w3 HS5.out).cells).2.2.2 0
              have t5 : w3.frozen? ⟨w.heap.size + 1, 1, none⟩ = false := ((HE.out w3 HS5.out).cells).2.2.2 1
              have t6 : w3.frozen? ⟨w.heap.size + 1, 2, none⟩ = false := ((HE.out w3 HS5.out).cells).2.2.2 2
              obtain ⟨f1, f2⟩ := (HE.out w3 HS5.out).set 0 0
              have HF : Hid (Stay w (((w3.setCell ⟨w.heap.size + 1, 0, none⟩ (.int .i64 0)).setCell ⟨w.heap.size + 1, 1, none⟩ (.int .i64 0)).setCell ⟨w.heap.size + 1, 2, none⟩ (.string ⟨#[]⟩))) := f2 w (HW.out.1.trans HS5.out) (by omega)
              unfold Spt at f1
              clear f2
              go_wp2
              refine bodyPost_ret (results_spot rfl _ _ (w.heap.size + 1) 61 #[.int .i64 0, .int .i64 0, .string ⟨#[]⟩] (0, 0) _ rfl f1 Tryz.underlying61 rfl sizeSpot) rfl ?_
              exact ⟨by rw [HZ.out]; rfl, HF.out⟩

set_option maxHeartbeats 1000000 in
theorem y11Formed_any (x : Pr) (w : World) (hM : x.In w) (h1 : x.ins.length ≤ 1048576) (h2 : x.outs.length ≤ 1048576) (h3 : x.rules.length ≤ 1048576) : Calls Tryz.prog 9 #[x.v] w fun e w' => e = .returned (.bool x.ok) ∧ Stay w w' := by
  have hs0 : Stay w (w.alloc (.cells #[.slice x.ia x.ins.length x.ic, .slice x.oa x.outs.length x.oc, .slice x.ra x.rules.length x.rc] 26)) := Stay.new w _
  have hf := y11form_any x _ (Pr.stay hM hs0) h1 h2 h3
  have he : x.ok = !(spotZ x.ins x.outs x.rules).isSome := by
    unfold Pr.ok
    rw [← spot_all]
    cases spotZ x.ins x.outs x.rules <;> rfl
  unfold SpotB at hf
  unfold Pr.v at hf ⊢
  rw [he]
  have HS : Hid (Stay w (w.alloc (.cells #[.slice x.ia x.ins.length x.ic, .slice x.oa x.outs.length x.oc, .slice x.ra x.rules.length x.rc] 26))) := hs0
  clear he hM hs0
  generalize (spotZ x.ins x.outs x.rules).isSome = bb at *
  generalize ((spotZ x.ins x.outs x.rules).getD (0, 0)).1 = z1 at *
  generalize ((spotZ x.ins x.outs x.rules).getD (0, 0)).2 = z2 at *
  generalize x.ins.length = n1 at *
  generalize x.outs.length = n2 at *
  generalize x.rules.length = n3 at *
  go_enter Tryz.func9, Tryz.ntmps9
  go_wp2_with (go_at_call 19; refine hf.mono ?_; rintro e W1 ⟨rfl, hs1⟩)
  go_ret
  exact ⟨rfl, HS.out.trans (hs1.trans (Stay.new _ _))⟩
end Go.Proofs.YtiobhadchakoiaaGreatDoor
