/- The document's faults: the walk. -/
import Derived.Test.YtpnjmldbohecdaaEI
import Derived.Test.YtpnjmldbohecdaaQP
namespace Go.Proofs.Ytpnjmldbohecdaa
open Go.RowKit Go.Maps Go.Shelf

set_option maxRecDepth 100000 in
set_option maxHeartbeats 4000000 in
theorem yFaults_any (x : Pr) (w : World) (hM : LsR w x.ra x.rb x.ro x.rules) (hf : ∀ r ∈ x.rules, r.fit w ∧ kindsOk r.body) (hn : x.rules.length ≤ 1048576) (hl : (faultsF 0 x.rules).length ≤ 4294967296) : Calls Try.prog 10 #[x.v] w (NewR 45 3 encLo w (faultsF 0 x.rules)) := by
  obtain ⟨ia, ib, io, ic, ins, oa, ob, oo, oc, outs, ra, rb, ro, rc, rules⟩ := x
  dsimp only [Pr.v] at *
  obtain ⟨R, hR⟩ : ∃ R, R = NewR 45 3 encLo w (faultsF 0 rules) := ⟨_, rfl⟩
  rw [← hR]
  have HR : Hid (R = NewR 45 3 encLo w (faultsF 0 rules)) := hR
  obtain ⟨w0, hw0⟩ : ∃ w0, w0 = w.alloc (.cells #[.slice ia ins.length ic, .slice oa outs.length oc, .slice ra rules.length rc] 43) := ⟨_, rfl⟩
  have s0 : Stay w w0 := by rw [hw0]; exact Stay.new _ _
  have z0 : w0.heap.size = w.heap.size + 1 := by rw [hw0]; simp
  have b0 : w0.heap[w.heap.size]? = some (.cells #[.slice ia ins.length ic, .slice oa outs.length oc, .slice ra rules.length rc] 43 (0, 0)) := by rw [hw0]; exact heap_new _ _
  have HC : Hid (∀ V, Stay w0 V → V.cell? ⟨w.heap.size, 2, none⟩ = some (.slice ra rules.length rc)) := fun V hV => by
    have := (hV.block _ (by omega)).trans b0
    simp [World.cell?, this]
  have HM : Hid (LsR w0 ra rb ro rules ∧ (∀ r ∈ rules, r.fit w0 ∧ kindsOk r.body) ∧ (faultsF 0 rules).length ≤ 4294967296) := ⟨⟨hM.1.stay s0, fun r hr => Ru.stay (hM.2 r hr) s0⟩, fun r hr => ⟨(hf r hr).1.stay s0, (hf r hr).2⟩, hl⟩
  clear hM hf hl hR b0
  go_enter Try.func10, Try.ntmps10
  go_wp2
  rw [← hw0]
  go_loopw [3, 4] (fun vv u wr => ∃ (i : Nat) (v0 : Value), v0 = vv ∧ i ≤ rules.length ∧ u = .int .i64 (i : Int) ∧ OwnR 45 3 encLo w0.heap.size wr v0 (faultsF 0 (rules.take i)) ∧ Stay w0 wr) (fun _ u _ => rules.length - (intOf u).toNat)
  case atStart => exact ⟨0, _, rfl, Nat.zero_le _, rfl, by simpa [faultsF] using OwnR.nil, Stay.refl _⟩
  case round =>
    obtain ⟨i, v0, rfl, hi, rfl, hO, hS⟩ := hrel
    have c2 := HC.out wr hS
    by_cases hlt : i < rules.length
    · have hki : (i : Int) < (rules.length : Int) := by omega
      obtain ⟨⟨hra, hrec⟩, hrin⟩ := HM.out.1
      obtain rfl := hra (by omega)
      obtain ⟨hfit, hkd⟩ := HM.out.2.1 _ (List.getElem_mem hlt)
      have d0 := hS.cell (hrec i hlt 0 _ rfl)
      have d1 := hS.cell (hrec i hlt 1 _ rfl)
      have e2 := hrec i hlt 2 _ rfl
      have d2 := hS.cell e2
      have d3 : ∀ V, Stay wr V → V.cell? ⟨rb, ro + i * 3 + 2, none⟩ = some (.slice rules[i].a rules[i].body.length rules[i].cap) := fun V hV => hV.cell d2
      have hft := faults_few hlt HM.out.2.2
      have hus := uses_any rules[i] wr (Ru.stay hfit.ins hS) hfit.small hkd
      have hbd := fun V (hV : Stay wr V) => yBound_any rules[i].body rules[i].a rules[i].b rules[i].off rules[i].cap V ((hfit.ins.2.stay hS).stay hV) (bodySmall hfit.small) hkd
      have hpf := placesR_few hfit.small
      have hbf : (bindP rules[i].body).length ≤ 1099514773504 := by
        have := placesB_few (bodySmall hfit.small)
        have := sel_len (bindC rules[i].body) (placesB 0 rules[i].body)
        unfold bindP
        omega
      have HT : Hid (faultsF 0 (rules.take (i + 1)) = faultsF 0 (rules.take i) ++ (looseP rules[i]).map (fun p => ((i : Int), p))) := faultsF_take hlt
      obtain ⟨F, hF⟩ : ∃ F, F = faultsF 0 (rules.take i) := ⟨_, rfl⟩
      obtain ⟨r, hr⟩ : ∃ r, r = rules[i] := ⟨_, rfl⟩
      rw [← hF] at hO hft HT
      rw [← hr] at d0 d1 d2 d3 hft hus hbd hpf hbf HT
      have HC3 : Hid (∀ V, Stay wr V → V.cell? ⟨rb, ro + i * 3 + 2, none⟩ = some (.slice r.a r.body.length r.cap) ∧ V.cell? ⟨w.heap.size, 2, none⟩ = some (.slice (some ⟨rb, ro, none⟩) rules.length rc)) := fun V hV => ⟨d3 V hV, HC.out V (hS.trans hV)⟩
      have HO : Hid (OwnR 45 3 encLo w0.heap.size wr v0 F ∧ Stay w0 wr) := ⟨hO, hS⟩
      clear hra hrec hrin hfit hkd e2 d3 hO hS hF hr
      rw [looseP_lf] at hft HT
      obtain ⟨bs, hbs⟩ : ∃ bs, bs = bindP r.body := ⟨_, rfl⟩
      obtain ⟨ps, hps⟩ : ∃ ps, ps = placesR r := ⟨_, rfl⟩
      rw [← hbs] at hft hbd hbf HT
      rw [← hps] at hft hus hpf HT
      clear hbs hps
      obtain ⟨⟨hp, ha, hb, ho, hcp, hts⟩, ba, bb, bo, bc, bls⟩ := r
      dsimp only [Ru.v, At.sl, encRu] at *
      rw [Nat.add_zero] at d0
      go_wp2_with (first
        | (go_at_call 30; refine hus.mono ?_; rintro e w1 ⟨ua, uc, rfl, hU, s1⟩; obtain ⟨g2, g3⟩ := HC3.out w1 s1; have hbd1 := hbd w1 s1; obtain ⟨va, vb, vc, hv, hUR, -⟩ := hU.form encPOk; simp only [Value.slice.injEq] at hv; obtain ⟨rfl, -, rfl⟩ := hv; have HU : Hid (OwnR 75 2 encP wr.heap.size w1 (.slice ua ps.length uc) ps ∧ RecS 2 encP w1 ua vb 0 ps ∧ Stay wr w1) := ⟨hU, hUR, s1⟩; clear hU hUR s1 hbd hus)
        | (go_at_call 13; refine hbd1.mono ?_; rintro e w2 ⟨na, nc, rfl, hN, s2⟩))
      have HI : Hid (FI w0 w1 ua vb F (i : Int) bs ps v0 (.slice na (onceN bs).length nc) 0 w2) := by
        obtain ⟨hU, hUR, s1⟩ := HU.out
        refine ⟨by simpa [lf_nil] using (HO.out.1.stay s1).stay s2, by simpa [lf_nil, namesP] using hN, (HO.out.2.trans s1).trans s2, s2.size, (HO.out.2.trans s1).size, hUR.stay s2, fun h0 => ?_, fun q hq e2 => ?_⟩
        · have h1 := hUR.1 h0
          have h2 := hU.lt vb (by rw [h1]; rfl)
          refine ⟨h2.2, fun e => ?_⟩
          have := (HO.out.1.lt vb e).2
          omega
        · have h1 := (HO.out.1.lt q hq).2
          have h2 := (hN.lt q e2).1
          have := s1.size
          omega
      have hua := HU.out.2.1.1
      clear HU HC3 hN s2 hbd1 g2 g3 d0 d1 d2 HO c2
      go_loopw [3, 6, 7] (fun vo vd u wr => ∃ (k : Nat) (v1 v2 : Value), v1 = vo ∧ v2 = vd ∧ k ≤ ps.length ∧ u = .int .i64 (k : Int) ∧ FI w0 w1 ua vb F (i : Int) bs ps v1 v2 k wr) (fun _ _ u _ => ps.length - (intOf u).toNat)
      case atStart => exact ⟨0, _, _, rfl, rfl, Nat.zero_le _, rfl, HI.out⟩
      case round =>
        clear HI
        obtain ⟨k, v1, v2, rfl, rfl, hk, rfl, hI⟩ := hrel
        by_cases hlt2 : k < ps.length
        · have hkk : (k : Int) < (ps.length : Int) := by omega
          obtain rfl := hua (by omega)
          have d0 := hI.uses.2 k hlt2 0 _ rfl
          have d1 := hI.uses.2 k hlt2 1 _ rfl
          rw [Nat.zero_add, Nat.add_zero] at d0
          rw [Nat.zero_add] at d1
          obtain ⟨oa2, ob2, oc2, rfl, hOR, -⟩ := hI.done.form encStOk
          have hlb : (onceN bs ++ namesP (lf bs (ps.take k))).length ≤ 4398046511104 := by
            have h1 := onceN_len bs
            have h2 := lf_sub bs (ps.take k)
            rw [List.length_take] at h2
            rw [List.length_append, namesP, List.length_map]
            omega
          have hhs := has_any wr oa2 ob2 0 oc2 (onceN bs ++ namesP (lf bs (ps.take k))) ps[k].2 hOR hlb
          cases hc : inB (onceN bs ++ namesP (lf bs (ps.take k))) ps[k].2
          · rw [hc] at hhs
            obtain ⟨a2, n2, c2, W2, a1, n1, c1, W3, r2, hU2, r3, hI3⟩ := hI.push hlt2 hc hft hbf 28 37
            have HN : Hid (FI w0 w1 (some ⟨vb, 0, none⟩) vb F (i : Int) bs ps (.slice a1 n1 c1) (.slice a2 n2 c2) (k + 1) W3) := hI3
            have g0 := hU2.2 k hlt2 0 _ rfl
            have g1 := hU2.2 k hlt2 1 _ rfl
            rw [Nat.zero_add, Nat.add_zero] at g0
            rw [Nat.zero_add] at g1
            generalize ps[k] = p at *
            obtain ⟨p1, p2⟩ := p
            dsimp only at *
            generalize (onceN bs ++ namesP (lf bs (ps.take k))).length = nn at *
            clear hI hI3 hOR hU2 hc HT
            go_wp2_with (first | (go_at_call 31; refine hhs.mono ?_; rintro e w9 ⟨rfl, rfl⟩) | (at_builtin; refine wpList_append_run rfl (.tmp 42) (.tmp 48) 28 28 rfl _ _ rfl rfl r2 ?_; clear r2))
            go_region_law (first
              | (refine step_append_run rfl _ _ _ _ rfl (by first | rfl | simp [Act.eval, Act.put]) (by first | rfl | simp [Act.eval, Act.put]) r3 ?_; clear r3))
            all_goals
              go_wp2_with fail
              go_roundw
              case rel => exact ⟨k + 1, _, _, rfl, rfl, by omega, by simp, HN.out⟩
              case measure => simp [intOf]; omega
          · rw [hc] at hhs
            have HN : Hid (FI w0 w1 (some ⟨vb, 0, none⟩) vb F (i : Int) bs ps v1 (.slice oa2 (onceN bs ++ namesP (lf bs (ps.take k))).length oc2) (k + 1) wr) := hI.skip hlt2 hc
            generalize ps[k] = p at *
            obtain ⟨p1, p2⟩ := p
            dsimp only at *
            generalize (onceN bs ++ namesP (lf bs (ps.take k))).length = nn at *
            clear hI hOR hc HT
            go_wp2_with (first | (go_at_call 31; refine hhs.mono ?_; rintro e w9 ⟨rfl, rfl⟩))
            go_roundw
            case rel => exact ⟨k + 1, _, _, rfl, rfl, by omega, by simp, HN.out⟩
            case measure => simp [intOf]; omega
        · obtain rfl : k = ps.length := by omega
          have HN : Hid (OwnR 45 3 encLo w0.heap.size wr v1 (faultsF 0 (rules.take (i + 1))) ∧ Stay w0 wr) := ⟨by rw [HT.out]; have := hI.out; rwa [List.take_of_length_le (Nat.le_refl _)] at this, hI.stay⟩
          clear hI HT
          go_wp2
          go_roundw
          case rel => exact ⟨i + 1, _, rfl, by omega, by simp, HN.out⟩
          case measure => simp [intOf]; omega
    · obtain rfl : i = rules.length := by omega
      rw [List.take_of_length_le (Nat.le_refl _)] at hO
      have HN : Hid (R (.returned v0) wr) := by
        show R _ _
        rw [HR.out]
        obtain ⟨a, b, c, rfl, -⟩ := hO.form encLoOk
        exact ⟨a, c, rfl, hO.base (by omega), s0.trans hS⟩
      clear hO hS HR
      go_wp2
      exact HN.out
end Go.Proofs.Ytpnjmldbohecdaa
