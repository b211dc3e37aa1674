/- The document's answers for layer 12: the places of a rule's variables, each once, those that a body binds. The document's answers for layer 12: a rule's variables each once, those that a body binds. The document's answers for layer 12: what a body binds. -/
import Derived.Test.YtpnjmldbohecdaaED
import Derived.Test.YtpnjmldbohecdaaEB
namespace Go.Proofs.Ytpnjmldbohecdaa
open Go.RowKit Go.Maps Go.Shelf

/-- Rules whose kinds are numbers. -/
def kindsOk (ls : List Li) : Prop := ∀ l ∈ ls, (Lit.int .i64 l.kind).wf = true

set_option maxRecDepth 100000 in
set_option maxHeartbeats 4000000 in
theorem uses_any (x : Ru) (w : World) (hM : x.In w) (hs : x.small) (hk : kindsOk x.body) : Calls Try.prog 30 #[x.v] w (NewR 75 2 encP w (placesR x)) := by
  have hfew := placesR_few hs
  obtain ⟨⟨hp, ha, hb, ho, hcp, hts⟩, ba, bb, bo, bc, bls⟩ := x
  obtain ⟨w0, hw0⟩ : ∃ w0, w0 = w.alloc (.cells #[.string hp, .slice ha hts.length hcp, .slice ba bls.length bc] 27) := ⟨_, rfl⟩
  have s0 : Stay w w0 := by rw [hw0]; exact Stay.new _ _
  have z0 : w0.heap.size = w.heap.size + 1 := by rw [hw0]; simp
  have b0 : w0.heap[w.heap.size]? = some (.cells #[.string hp, .slice ha hts.length hcp, .slice ba bls.length bc] 27 (0, 0)) := by rw [hw0]; exact heap_new _ _
  have hc : ∀ V, Stay w0 V → V.cell? ⟨w.heap.size, 1, none⟩ = some (.slice ha hts.length hcp) ∧ V.cell? ⟨w.heap.size, 2, none⟩ = some (.slice ba bls.length bc) := fun V hV => by
    have := (hV.block _ (by omega)).trans b0
    simp [World.cell?, this]
  obtain ⟨hM1, hM2⟩ := hM
  have hM1 : TmsS w ha hb ho hts := hM1
  have hM2 : LisS w ba bb bo bls := hM2
  obtain ⟨hs1, hs2, hs3⟩ := hs
  dsimp only at hs1 hs2 hs3 hk
  have HM : Hid (TmsS w0 ha hb ho hts ∧ LisS w0 ba bb bo bls ∧ kindsOk bls ∧ ∀ l ∈ bls, l.atom.ts.length ≤ 1048576) := ⟨hM1.stay s0, hM2.stay s0, hk, hs3⟩
  have HC : Hid (∀ V, Stay w0 V → V.cell? ⟨w.heap.size, 1, none⟩ = some (.slice ha hts.length hcp) ∧ V.cell? ⟨w.heap.size, 2, none⟩ = some (.slice ba bls.length bc)) := hc
  obtain ⟨R, hR⟩ : ∃ R, R = NewR 75 2 encP w (placesR ⟨⟨hp, ha, hb, ho, hcp, hts⟩, ba, bb, bo, bc, bls⟩) := ⟨_, rfl⟩
  rw [← hR]
  have HR : Hid (R = NewR 75 2 encP w (placesR ⟨⟨hp, ha, hb, ho, hcp, hts⟩, ba, bb, bo, bc, bls⟩)) := hR
  have hfew' : (varsT hts).length + (placesB 0 bls).length ≤ 1099514773504 := by simpa [placesR] using hfew
  have HF : Hid ((varsT hts).length + (placesB 0 bls).length ≤ 1099514773504) := hfew'
  clear hM1 hM2 hs3 hk hR hc hfew hfew' b0
  dsimp only [Ru.v, At.sl] at *
  go_enter Try.func30, Try.ntmps30
  go_wp2
  rw [← hw0]
  go_loopw [3, 4] (fun vv u wr => ∃ (j : Nat) (v0 : Value), v0 = vv ∧ j ≤ hts.length ∧ u = .int .i64 (j : Int) ∧ OwnR 75 2 encP w0.heap.size wr v0 ((varsT (hts.take j)).map (fun s => (-1, s))) ∧ Stay w0 wr) (fun _ u _ => hts.length - (intOf u).toNat)
  case atStart => exact ⟨0, _, rfl, Nat.zero_le _, rfl, by simpa [varsT] using OwnR.nil, Stay.refl _⟩
  case round =>
    obtain ⟨j, v0, rfl, hj, rfl, hO, hS⟩ := hrel
    obtain ⟨c1, c2⟩ := HC.out wr hS
    by_cases hlt : j < hts.length
    · have hki : (j : Int) < (hts.length : Int) := by omega
      obtain rfl := HM.out.1.1 (by omega)
      have d0 := hS.cell (HM.out.1.2 j hlt).1
      have d1 := hS.cell (HM.out.1.2 j hlt).2
      cases hv : hts[j].var
      · have e := varsT_no hlt hv
        have HO : Hid (OwnR 75 2 encP w0.heap.size wr v0 ((varsT (hts.take (j + 1))).map (fun s => (-1, s))) ∧ Stay w0 wr) := ⟨by rw [e]; exact hO, hS⟩
        rw [hv] at d0
        generalize hts[j].text = tx at *
        clear hv e hO hS
        go_wp2
        go_roundw
        case rel => exact ⟨j + 1, _, rfl, by omega, by simp, HO.out⟩
        case measure => simp [intOf]; omega
      · have e := varsT_yes hlt hv
        have hle : (varsT (hts.take j)).length ≤ j := by have := varsT_len (hts.take j); rw [List.length_take] at this; omega
        obtain ⟨a1, k1, w2, hap, hO2, hB2, -⟩ := own_push encPOk Try.underlying71 infoP rfl hO (-1, hts[j].text) (by rw [List.length_map]; unfold maxLen; omega) (by rw [List.length_map]; omega) hS.size 71
        have HN : Hid (OwnR 75 2 encP w0.heap.size w2 (.slice a1 (((varsT (hts.take j)).map (fun s => ((-1 : Int), s))).length + 1) k1) ((varsT (hts.take (j + 1))).map (fun s => (-1, s))) ∧ Stay w0 w2) := ⟨by rw [e, List.map_append]; exact hO2, Below.trans hS hB2⟩
        rw [hv] at d0
        generalize hts[j].text = tx at *
        dsimp only [encP] at hap
        generalize ((varsT (hts.take j)).map (fun s => ((-1 : Int), s))).length + 1 = nv at *
        clear hv e hO hS hO2 hB2 hle
        go_wp2_with (at_builtin; refine wpList_append_run rfl (.tmp 23) (.tmp 32) 71 71 rfl _ _ rfl rfl hap ?_; clear hap)
        go_roundw
        case rel => exact ⟨j + 1, _, rfl, by omega, by simp, HN.out⟩
        case measure => simp [intOf]; omega
    · obtain rfl : j = hts.length := by omega
      have HO : Hid (OwnR 75 2 encP w0.heap.size wr v0 ((varsT hts).map (fun s => (-1, s))) ∧ Stay w0 wr) := ⟨by rw [List.take_of_length_le (Nat.le_refl _)] at hO; exact hO, hS⟩
      clear hO hS
      clear hj hlt
      go_wp2
      go_loopw [3, 5] (fun vv u wr => ∃ (i : Nat) (v1 : Value), v1 = vv ∧ i ≤ bls.length ∧ u = .int .i64 (i : Int) ∧ OwnR 75 2 encP w0.heap.size wr v1 ((varsT hts).map (fun s => (-1, s)) ++ placesB 0 (bls.take i)) ∧ Stay w0 wr) (fun _ u _ => bls.length - (intOf u).toNat)
      case atStart => exact ⟨0, _, rfl, Nat.zero_le _, rfl, by simpa [placesB] using HO.out.1, HO.out.2⟩
      case round =>
        clear HO
        obtain ⟨i, v1, rfl, hi, rfl, hO, hS⟩ := hrel
        obtain ⟨-, c2⟩ := HC.out wr hS
        by_cases hlt : i < bls.length
        · have hki : (i : Int) < (bls.length : Int) := by omega
          obtain rfl := HM.out.2.1.1 (by omega)
          obtain ⟨d0, d1, d2, d3, d4, d5, d6, hin⟩ := HM.out.2.1.2 i hlt
          have d0 := hS.cell d0
          have d1 := hS.cell d1
          have d2 := hS.cell d2
          have d3 := hS.cell d3
          have d4 := hS.cell d4
          have d5 := hS.cell d5
          have d6 := hS.cell d6
          have hab : 0 < bls[i].atom.ts.length → bls[i].atom.b < w0.heap.size := fun h => World.block_lt_of_cell? w0 _ (hin.2 0 h).1
          have har := args_any bls[i] wr (TmsS.stay hin hS) (HM.out.2.2.1 _ (List.getElem_mem hlt))
          have hsp := placesB_split hlt
          have HT : Hid (placesB 0 (bls.take (i + 1)) = placesB 0 (bls.take i) ++ (varsT bls[i].terms).map (fun s => ((i : Int), s))) := placesB_take hlt
          have HL : Hid (((varsT hts).map (fun s => ((-1 : Int), s)) ++ placesB 0 (bls.take i)).length + (varsT bls[i].terms).length ≤ 1099514773504) := by
            have := HF.out
            rw [hsp] at this
            simp only [List.length_append, List.length_map] at this ⊢
            show _ ≤ _
            omega
          have hml : bls[i].terms.length ≤ 1048578 := by
            have := Li.terms_len bls[i]
            have := HM.out.2.2.2 _ (List.getElem_mem hlt)
            omega
          have HO : Hid (OwnR 75 2 encP w0.heap.size wr v1 ((varsT hts).map (fun s => (-1, s)) ++ placesB 0 (bls.take i)) ∧ Stay w0 wr) := ⟨hO, hS⟩
          obtain ⟨L, hL⟩ : ∃ L, L = (varsT hts).map (fun s => ((-1 : Int), s)) ++ placesB 0 (bls.take i) := ⟨_, rfl⟩
          have HLe : Hid (L = (varsT hts).map (fun s => ((-1 : Int), s)) ++ placesB 0 (bls.take i)) := hL
          rw [← hL] at HO HL
          clear hL
          clear hO hS hin hsp
          obtain ⟨li, hli⟩ : ∃ li, li = bls[i] := ⟨_, rfl⟩
          rw [← hli] at d0 d1 d2 d3 d4 d5 d6 hab har hml HL HT
          clear hli
          obtain ⟨T, hT⟩ : ∃ T, T = li.terms := ⟨_, rfl⟩
          unfold TermsAt at har
          rw [← hT] at har hml HL HT
          clear hT
          obtain ⟨kind, ⟨pred, aa, ab, aoff, acap, ats⟩, ⟨lv, lt⟩, ⟨rv, rt⟩⟩ := li
          dsimp only [Li.v, At.sl] at *
          go_wp2_with (go_at_call 37; refine har.mono ?_; rintro e wi ⟨a', b', off', c', rfl, hTm, hb', hst⟩)
          have HI : Hid (OwnR 75 2 encP w0.heap.size wi v1 L ∧ Stay w0 wi ∧ TmsS wi a' b' off' T ∧ (0 < T.length → v1.ownBlock ≠ some b' ∧ b' < wi.heap.size)) := ⟨HO.out.1.stay hst, HO.out.2.trans hst, hTm, fun h0 => by
            have hlt' := tms_lt hTm h0
            refine ⟨fun e => ?_, hlt'⟩
            have h1 := HO.out.1.lt b' e
            rcases hb' h0 with ⟨rfl, h2⟩ | h2
            · have := hab h2; omega
            · omega⟩
          have ha' := hTm.1
          clear HO hTm hb' hst hab har d0 d1 d2 d3 d4 d5 d6
          rename World => wj
          go_loopw [3, 7] (fun vv u wr => ∃ (k : Nat) (v2 : Value), v2 = vv ∧ k ≤ T.length ∧ u = .int .i64 (k : Int) ∧ OwnR 75 2 encP w0.heap.size wr v2 (L ++ (varsT (T.take k)).map (fun s => ((i : Int), s))) ∧ Stay w0 wr ∧ TmsS wr a' b' off' T ∧ (0 < T.length → v2.ownBlock ≠ some b' ∧ b' < wr.heap.size)) (fun _ u _ => T.length - (intOf u).toNat)
          case atStart => exact ⟨0, _, rfl, Nat.zero_le _, rfl, by simpa [varsT] using HI.out.1, HI.out.2⟩
          case round =>
            clear HI
            obtain ⟨k, v2, rfl, hk, rfl, hO, hS, hTm, hap2⟩ := hrel
            by_cases hlt2 : k < T.length
            · have hkk : (k : Int) < (T.length : Int) := by omega
              obtain rfl := ha' (by omega)
              obtain ⟨d0, d1⟩ := hTm.2 k hlt2
              cases hv : T[k].var
              · have e := varsT_no hlt2 hv
                have HN : Hid (OwnR 75 2 encP w0.heap.size wr v2 (L ++ (varsT (T.take (k + 1))).map (fun s => ((i : Int), s))) ∧ Stay w0 wr ∧ TmsS wr (some ⟨b', off', none⟩) b' off' T ∧ (0 < T.length → v2.ownBlock ≠ some b' ∧ b' < wr.heap.size)) := ⟨by rw [e]; exact hO, hS, hTm, hap2⟩
                rw [hv] at d0
                generalize T[k].text = tx at *
                clear hv e hO hS hTm hap2 HT HL
                go_wp2
                go_roundw
                case rel => exact ⟨k + 1, _, rfl, by omega, by simp, HN.out⟩
                case measure => simp [intOf]; omega
              · have e := varsT_yes hlt2 hv
                obtain ⟨hvl, -⟩ := varsT_at hlt2 hv
                have hln := HL.out
                obtain ⟨a1, k1, w2, hap, hO2, hB2, hkp, hob, hsz⟩ := own_push encPOk Try.underlying71 infoP rfl hO ((i : Int), T[k].text) (by rw [List.length_append, List.length_map]; unfold maxLen; omega) (by rw [List.length_append, List.length_map]; omega) hS.size 71
                have HN : Hid (OwnR 75 2 encP w0.heap.size w2 (.slice a1 ((L ++ (varsT (T.take k)).map (fun s => ((i : Int), s))).length + 1) k1) (L ++ (varsT (T.take (k + 1))).map (fun s => ((i : Int), s))) ∧ Stay w0 w2 ∧ TmsS w2 (some ⟨b', off', none⟩) b' off' T ∧ (0 < T.length → (Value.slice a1 ((L ++ (varsT (T.take k)).map (fun s => ((i : Int), s))).length + 1) k1).ownBlock ≠ some b' ∧ b' < w2.heap.size)) := by
                  obtain ⟨g1, g2⟩ := hap2 (by omega)
                  refine ⟨by rw [e, List.map_append, ← List.append_assoc]; exact hO2, Below.trans hS hB2, TmsS.holds hTm fun _ => hkp b' g2 g1, fun _ => ⟨fun e2 => ?_, by omega⟩⟩
                  rcases hob with h | h
                  · exact g1 (h ▸ e2)
                  · rw [h] at e2
                    have := Option.some.inj e2
                    omega
                rw [hv] at d0
                generalize T[k].text = tx at *
                dsimp only [encP] at hap
                generalize (L ++ (varsT (T.take k)).map (fun s => ((i : Int), s))).length + 1 = nv at *
                clear hv e hO hS hO2 hB2 hkp hob hTm hap2 HT HL hln hsz hvl
                go_wp2_with (at_builtin; refine wpList_append_run rfl (.tmp 58) (.tmp 66) 71 71 rfl _ _ rfl rfl hap ?_; clear hap)
                go_roundw
                case rel => exact ⟨k + 1, _, rfl, by omega, by simp, HN.out⟩
                case measure => simp [intOf]; omega
            · obtain rfl : k = T.length := by omega
              have HN : Hid (OwnR 75 2 encP w0.heap.size wr v2 (L ++ (varsT T).map (fun s => ((i : Int), s))) ∧ Stay w0 wr) := ⟨by rw [List.take_of_length_le (Nat.le_refl _)] at hO; exact hO, hS⟩
              clear hO hS hTm hap2
              go_wp2
              go_roundw
              case rel => exact ⟨i + 1, _, rfl, by omega, by simp, by rw [HT.out, ← List.append_assoc, ← HLe.out]; exact HN.out.1, HN.out.2⟩
              case measure => simp [intOf]; omega
        · obtain rfl : i = bls.length := by omega
          rw [List.take_of_length_le (Nat.le_refl _)] at hO
          have HN : Hid (R (.returned v1) wr) := by
            show R _ _
            rw [HR.out]
            obtain ⟨a, b, c, rfl, -⟩ := hO.form encPOk
            exact ⟨a, c, rfl, hO.base (by omega), s0.trans hS⟩
          clear hO hS HR
          go_wp2
          exact HN.out
end Go.Proofs.Ytpnjmldbohecdaa
namespace Go.Proofs.Ytpnjmldbohecdaa
open Go.RowKit Go.Maps Go.Shelf

/-- The names of places, each once. -/
def onceN (ps : List (Int × ByteArray)) : List ByteArray := namesP (sel newC ps)
theorem onceN_take {ps : List (Int × ByteArray)} {j : Nat} (h : j < ps.length) : onceN (ps.take (j + 1)) = onceN (ps.take j) ++ (if inB (onceN (ps.take j)) ps[j].2 then [] else [ps[j].2]) := by
  have hc : newC (ps.take j) ps[j] = !inB (onceN (ps.take j)) ps[j].2 := by
    unfold newC onceN
    congr 1
    rw [Bool.eq_iff_iff, inB_iff, inB_iff, new_names]
    rfl
  unfold onceN at *
  rw [sel_take newC h, hc]
  cases inB (namesP (sel newC (ps.take j))) ps[j].2 <;> simp [namesP]
theorem onceN_len (ps : List (Int × ByteArray)) : (onceN ps).length ≤ ps.length := by
  unfold onceN namesP
  rw [List.length_map]
  exact sel_len _ _

set_option maxRecDepth 100000 in
set_option maxHeartbeats 1000000 in
theorem yonce_any (w : World) (a : Option Addr) (b off c : Nat) (ps : List (Int × ByteArray)) (h : RecS 2 encP w a b off ps) (hn : ps.length ≤ 1099514773504) : Calls Try.prog 32 #[.slice a ps.length c] w (NewR 9 1 encSt w (onceN ps)) := by
  have HP : Hid (RecS 2 encP w a b off ps) := h
  obtain ⟨R, hR⟩ : ∃ R, R = NewR 9 1 encSt w (onceN ps) := ⟨_, rfl⟩
  rw [← hR]
  have HR : Hid (R = NewR 9 1 encSt w (onceN ps)) := hR
  clear h hR
  go_enter Try.func32, Try.ntmps32
  go_wp2
  go_loopw [3, 4] (fun vv u wr => ∃ (j : Nat) (v0 : Value), v0 = vv ∧ j ≤ ps.length ∧ u = .int .i64 (j : Int) ∧ OwnR 9 1 encSt w.heap.size wr v0 (onceN (ps.take j)) ∧ Stay w wr) (fun _ u _ => ps.length - (intOf u).toNat)
  case atStart => exact ⟨0, _, rfl, Nat.zero_le _, rfl, by simpa [onceN, sel, selF, namesP] using OwnR.nil, Stay.refl _⟩
  case round =>
    obtain ⟨j, v0, rfl, hj, rfl, hO, hS⟩ := hrel
    by_cases hlt : j < ps.length
    · have hki : (j : Int) < (ps.length : Int) := by omega
      obtain rfl := HP.out.1 (by omega)
      have d1 := hS.cell (HP.out.2 j hlt 1 _ rfl)
      have htk := onceN_take hlt
      have hle : (onceN (ps.take j)).length ≤ j := by have := onceN_len (ps.take j); rw [List.length_take] at this; omega
      obtain ⟨oa, ob, oc, rfl, hOR, -⟩ := hO.form encStOk
      have hhs := has_any wr oa ob 0 oc (onceN (ps.take j)) ps[j].2 hOR (by omega)
      cases hc : inB (onceN (ps.take j)) ps[j].2
      · rw [hc] at hhs htk
        obtain ⟨a1, k1, w2, hap, hO2, hB2, -⟩ := own_push encStOk Try.underlying28 infoSt rfl hO ps[j].2 (by unfold maxLen; omega) (by omega) hS.size 28
        have HN : Hid (OwnR 9 1 encSt w.heap.size w2 (.slice a1 ((onceN (ps.take j)).length + 1) k1) (onceN (ps.take (j + 1))) ∧ Stay w w2) := ⟨by rw [htk]; exact hO2, Below.trans hS hB2⟩
        generalize ps[j].2 = tx at *
        dsimp only [encSt] at hap
        generalize (onceN (ps.take j)).length = nv at *
        clear hc htk hO hS hOR hO2 hB2 hle
        go_wp2_with (first | (go_at_call 31; refine hhs.mono ?_; rintro e w9 ⟨rfl, rfl⟩) | (at_builtin; refine wpList_append_run rfl (.tmp 19) (.tmp 25) 28 28 rfl _ _ rfl rfl hap ?_; clear hap))
        go_roundw
        case rel => exact ⟨j + 1, _, rfl, by omega, by simp, HN.out⟩
        case measure => simp [intOf]; omega
      · rw [hc] at hhs htk
        have HN : Hid (OwnR 9 1 encSt w.heap.size wr (.slice oa (onceN (ps.take j)).length oc) (onceN (ps.take (j + 1))) ∧ Stay w wr) := ⟨by rw [htk]; simpa using hO, hS⟩
        generalize ps[j].2 = tx at *
        generalize (onceN (ps.take j)).length = nv at *
        clear hc htk hO hS hOR hle
        go_wp2_with (first | (go_at_call 31; refine hhs.mono ?_; rintro e w9 ⟨rfl, rfl⟩))
        go_roundw
        case rel => exact ⟨j + 1, _, rfl, by omega, by simp, HN.out⟩
        case measure => simp [intOf]; omega
    · obtain rfl : j = ps.length := by omega
      rw [List.take_of_length_le (Nat.le_refl _)] at hO
      have HN : Hid (R (.returned v0) wr) := by
        show R _ _
        rw [HR.out]
        obtain ⟨a, b, c, rfl, -⟩ := hO.form encStOk
        exact ⟨a, c, rfl, hO, hS⟩
      clear hO hS HR
      go_wp2
      exact HN.out

theorem yVars_any (x : Ru) (w : World) (hM : x.In w) (hs : x.small) (hk : kindsOk x.body) : Calls Try.prog 12 #[x.v] w (NewR 9 1 encSt w (onceN (placesR x))) := by
  have hu := fun V (hV : Stay w V) => uses_any x V (Ru.stay hM hV) hs hk
  have hfew := placesR_few hs
  have hcells : ∀ V, V = w.alloc (.cells #[.string x.head.pred, .slice x.head.a x.head.ts.length x.head.cap, .slice x.a x.body.length x.cap] 27) → Stay w V := fun V hV => by rw [hV]; exact Stay.new _ _
  have hst := hcells _ rfl
  have hu1 := hu _ hst
  have hu0 := hu _ (Stay.refl w)
  obtain ⟨ps, hps⟩ : ∃ ps, ps = placesR x := ⟨_, rfl⟩
  rw [← hps] at hu1 hu0 hfew ⊢
  clear hps hu hcells
  dsimp only [Ru.v, At.sl] at *
  go_enter Try.func12, Try.ntmps12
  go_wp2_with (first | (go_at_call 30; first | (refine hu0.mono ?_; rintro e w1 ⟨a, c, rfl, hO, s1⟩) | (refine hu1.mono ?_; rintro e w1 ⟨a, c, rfl, hO, s1⟩)) | (go_at_call 32; obtain ⟨oa, ob, oc, hv, hOR, -⟩ := hO.form encPOk; simp only [Value.slice.injEq] at hv; obtain ⟨rfl, -, rfl⟩ := hv; refine (yonce_any w1 _ ob 0 _ ps hOR hfew).mono ?_; rintro e w2 ⟨a2, c2, rfl, hO2, s2⟩))
  go_ret
  first | exact ⟨a2, c2, rfl, hO2.base s1.size, s1.trans s2⟩ | exact ⟨a2, c2, rfl, hO2.base (hst.trans s1).size, (hst.trans s1).trans s2⟩
end Go.Proofs.Ytpnjmldbohecdaa
namespace Go.Proofs.Ytpnjmldbohecdaa
open Go.RowKit Go.Maps Go.Shelf

set_option maxRecDepth 100000 in
set_option maxHeartbeats 1000000 in
theorem yBound_any (ls : List Li) (a : Option Addr) (b off cap : Nat) (w : World) (hM : LisS w a b off ls) (hs : (bodyRu a b off cap ls).small) (hk : kindsOk ls) : Calls Try.prog 13 #[.slice a ls.length cap] w (NewR 9 1 encSt w (onceN (bindP ls))) := by
  have hfew := placesB_few hs
  have hu := uses_any (bodyRu a b off cap ls) w ⟨TmsS.nil _ _ _ _, hM⟩ hs hk
  rw [bodyRu_places] at hu
  dsimp only [Ru.v, At.sl, bodyRu, List.length_nil] at hu
  obtain ⟨R, hR⟩ : ∃ R, R = NewR 9 1 encSt w (onceN (bindP ls)) := ⟨_, rfl⟩
  rw [← hR]
  have HR : Hid (R = NewR 9 1 encSt w (onceN (bindP ls))) := hR
  obtain ⟨ps, hps⟩ : ∃ ps, ps = placesB 0 ls := ⟨_, rfl⟩
  have hpl : ∀ p ∈ ps, ∃ j, ∃ h : j < ls.length, p.1 = (j : Int) := fun p hp => by
    rw [hps] at hp
    obtain ⟨j, hj, h1, -⟩ := placesB_mem 0 ls p hp
    exact ⟨j, hj, by rw [h1, Nat.zero_add]⟩
  have HS : Hid (sel (bindC ls) ps = bindP ls) := by show _ = _; rw [hps]; rfl
  have hln := hs.2.1
  have hln : ls.length ≤ 1048576 := hln
  rw [← hps] at hu hfew
  have HM : Hid (LisS w a b off ls ∧ (∀ p ∈ ps, ∃ j, ∃ h : j < ls.length, p.1 = (j : Int)) ∧ kindsOk ls) := ⟨hM, hpl, hk⟩
  clear hps hR hpl hM hs hk
  go_enter Try.func13, Try.ntmps13
  go_wp2_with (go_at_call 30; refine hu.mono ?_; rintro e w1 ⟨ua, uc, rfl, hU, s1⟩)
  obtain ⟨va, vb, vc, hv, hUR, -⟩ := hU.form encPOk
  simp only [Value.slice.injEq] at hv
  obtain ⟨rfl, -, rfl⟩ := hv
  have HU : Hid (RecS 2 encP w1 ua vb 0 ps ∧ Stay w w1) := ⟨hUR, s1⟩
  have hua := hUR.1
  clear hU hUR s1 hu
  go_loopw [3, 5] (fun vv u wr => ∃ (j : Nat) (v0 : Value), v0 = vv ∧ j ≤ ps.length ∧ u = .int .i64 (j : Int) ∧ OwnR 75 2 encP w1.heap.size wr v0 (sel (bindC ls) (ps.take j)) ∧ Stay w1 wr) (fun _ u _ => ps.length - (intOf u).toNat)
  case atStart => exact ⟨0, _, rfl, Nat.zero_le _, rfl, by simpa [sel, selF] using OwnR.nil, Stay.refl _⟩
  case round =>
    obtain ⟨j, v0, rfl, hj, rfl, hO, hS⟩ := hrel
    by_cases hlt : j < ps.length
    · have hki : (j : Int) < (ps.length : Int) := by omega
      obtain rfl := hua (by omega)
      have d0 := hS.cell (HU.out.1.2 j hlt 0 _ rfl)
      have d1 := hS.cell (HU.out.1.2 j hlt 1 _ rfl)
      rw [Nat.zero_add, Nat.add_zero] at d0
      rw [Nat.zero_add] at d1
      obtain ⟨i, hi, hpi⟩ := HM.out.2.1 _ (List.getElem_mem hlt)
      have htk := sel_take (bindC ls) hlt
      rw [bindC_at hi hpi] at htk
      obtain rfl := HM.out.1.1 (by omega)
      have k0 := hS.cell (HU.out.2.cell (HM.out.1.2 i hi).1)
      have hwf := HM.out.2.2 _ (List.getElem_mem hi)
      have hki2 : (i : Int) < (ls.length : Int) := by omega
      have hle : (sel (bindC ls) (ps.take j)).length ≤ j := by have := sel_len (bindC ls) (ps.take j); rw [List.length_take] at this; omega
      obtain ⟨a1, k1, w2, hap, hO2, hB2, -⟩ := own_push encPOk Try.underlying71 infoP rfl hO ps[j] (by unfold maxLen; omega) (by omega) hS.size 71
      have HB : Hid (Stay w1 wr ∧ Below w1.heap.size wr w2) := ⟨hS, hB2⟩
      have HO : Hid (OwnR 75 2 encP w1.heap.size wr v0 (sel (bindC ls) (ps.take j)) ∧ OwnR 75 2 encP w1.heap.size w2 (.slice a1 ((sel (bindC ls) (ps.take j)).length + 1) k1) (sel (bindC ls) (ps.take j) ++ [ps[j]])) := ⟨hO, hO2⟩
      clear hO hO2 hB2 hS
      generalize ls[i].kind = kd at *
      generalize hpp : ps[j] = p at *
      obtain ⟨p1, p2⟩ := p
      dsimp only [encP] at *
      subst hpi
      clear hpp
      generalize (sel (bindC ls) (ps.take j)).length = nv at *
      cases hc : (kd == 1)
      · rw [hc] at htk
        have HN : Hid (OwnR 75 2 encP w1.heap.size wr v0 (sel (bindC ls) (ps.take (j + 1))) ∧ Stay w1 wr) := ⟨by rw [htk]; simpa using HO.out.1, HB.out.1⟩
        clear htk HO HB
        go_wp2_with fail
        go_roundw
        case rel => exact ⟨j + 1, _, rfl, by omega, by simp, HN.out⟩
        case measure => simp [intOf]; omega
      · rw [hc] at htk
        have HN : Hid (OwnR 75 2 encP w1.heap.size w2 (.slice a1 (nv + 1) k1) (sel (bindC ls) (ps.take (j + 1))) ∧ Stay w1 w2) := ⟨by rw [htk]; simpa using HO.out.2, Below.trans HB.out.1 HB.out.2⟩
        clear htk HO HB
        go_wp2_with (at_builtin; refine wpList_append_run rfl (.tmp 25) (.tmp 30) 71 71 rfl _ _ rfl rfl hap ?_; clear hap)
        go_roundw
        case rel => exact ⟨j + 1, _, rfl, by omega, by simp, HN.out⟩
        case measure => simp [intOf]; omega
    · obtain rfl : j = ps.length := by omega
      rw [List.take_of_length_le (Nat.le_refl _), HS.out] at hO
      obtain ⟨oa, ob, oc, rfl, hOR, -⟩ := hO.form encPOk
      have hl2 : (bindP ls).length ≤ 1099514773504 := by rw [← HS.out]; have := sel_len (bindC ls) ps; omega
      have hon := yonce_any wr oa ob 0 oc (bindP ls) hOR hl2
      have HW : Hid (Stay w wr) := HU.out.2.trans hS
      clear hO hS hOR HU
      go_wp2_with (go_at_call 32; refine hon.mono ?_; rintro e w2 ⟨a2, c2, rfl, hO2, s2⟩)
      show R _ _
      rw [HR.out]
      exact ⟨a2, c2, rfl, hO2.base HW.out.size, HW.out.trans s2⟩
end Go.Proofs.Ytpnjmldbohecdaa
