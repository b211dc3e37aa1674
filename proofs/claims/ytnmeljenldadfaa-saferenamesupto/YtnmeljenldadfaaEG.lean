/- The document's answers for layer 12: what a body binds. -/
import Derived.Test.YtnmeljenldadfaaEF
namespace Go.Proofs.Ytnmeljenldadfaa
open Go.RowKit Go.Maps Go.Shelf

set_option maxRecDepth 100000 in
set_option maxHeartbeats 1000000 in
theorem yBound_any (ls : List Li) (a : Option Addr) (b off cap : Nat) (w : World) (hM : LisS w a b off ls) (hs : (bodyRu a b off cap ls).small) (hk : kindsOk ls) : Calls Try.prog 17 #[.slice a ls.length cap] w (NewR 9 1 encSt w (onceN (bindP ls))) := by
  have hfew := placesB_few hs
  have hu := uses_any (bodyRu a b off cap ls) w ⟨TmsS.nil _ _ _ _, hM⟩ hs hk
  rw [bodyRu_places] at hu
  dsimp only [Ru.v, At.sl, bodyRu, List.length_nil] at hu
  obtain ⟨R, hR⟩ : ∃ R, R = NewR 9 1 encSt w (onceN (bindP ls)) := ⟨_, rfl⟩
  rw [← hR]
  have HR : Hid (R = NewR 9 1 encSt w (onceN (bindP ls))) := hR
  obtain ⟨ps, hps⟩ : ∃ ps, ps = placesB 0 ls := ⟨_, rfl⟩
  have hpl : ∀ p ∈ ps, ∃ j, ∃ h : j < ls.length, p.1 = (j : Int) := fun p hp => by
    rw [hps] at hp
    obtain ⟨j, hj, h1, -⟩ := placesB_mem 0 ls p hp
    exact ⟨j, hj, by rw [h1, Nat.zero_add]⟩
  have HS : Hid (sel (bindC ls) ps = bindP ls) := by show _ = _; rw [hps]; rfl
  have hln := hs.2.1
  have hln : ls.length ≤ 1048576 := hln
  rw [← hps] at hu hfew
  have HM : Hid (LisS w a b off ls ∧ (∀ p ∈ ps, ∃ j, ∃ h : j < ls.length, p.1 = (j : Int)) ∧ kindsOk ls) := ⟨hM, hpl, hk⟩
  clear hps hR hpl hM hs hk
  go_enter Try.func17, Try.ntmps17
  go_wp2_with (go_at_call 41; refine hu.mono ?_; rintro e w1 ⟨ua, uc, rfl, hU, s1⟩)
  obtain ⟨va, vb, vc, hv, hUR, -⟩ := hU.form encPOk
  simp only [Value.slice.injEq] at hv
  obtain ⟨rfl, -, rfl⟩ := hv
  have HU : Hid (RecS 2 encP w1 ua vb 0 ps ∧ Stay w w1) := ⟨hUR, s1⟩
  have hua := hUR.1
  clear hU hUR s1 hu
  go_loopw [3, 5] (fun vv u wr => ∃ (j : Nat) (v0 : Value), v0 = vv ∧ j ≤ ps.length ∧ u = .int .i64 (j : Int) ∧ OwnR 87 2 encP w1.heap.size wr v0 (sel (bindC ls) (ps.take j)) ∧ Stay w1 wr) (fun _ u _ => ps.length - (intOf u).toNat)
  case atStart => exact ⟨0, _, rfl, Nat.zero_le _, rfl, by simpa [sel, selF] using OwnR.nil, Stay.refl _⟩
  case round =>
    obtain ⟨j, v0, rfl, hj, rfl, hO, hS⟩ := hrel
    by_cases hlt : j < ps.length
    · have hki : (j : Int) < (ps.length : Int) := by omega
      obtain rfl := hua (by omega)
      have d0 := hS.cell (HU.out.1.2 j hlt 0 _ rfl)
      have d1 := hS.cell (HU.out.1.2 j hlt 1 _ rfl)
      rw [Nat.zero_add, Nat.add_zero] at d0
      rw [Nat.zero_add] at d1
      obtain ⟨i, hi, hpi⟩ := HM.out.2.1 _ (List.getElem_mem hlt)
      have htk := sel_take (bindC ls) hlt
      rw [bindC_at hi hpi] at htk
      obtain rfl := HM.out.1.1 (by omega)
      have k0 := hS.cell (HU.out.2.cell (HM.out.1.2 i hi).1)
      have hwf := HM.out.2.2 _ (List.getElem_mem hi)
      have hki2 : (i : Int) < (ls.length : Int) := by omega
      have hle : (sel (bindC ls) (ps.take j)).length ≤ j := by have := sel_len (bindC ls) (ps.take j); rw [List.length_take] at this; omega
      obtain ⟨a1, k1, w2, hap, hO2, hB2, -⟩ := own_push encPOk Try.underlying84 infoP rfl hO ps[j] (by unfold maxLen; omega) (by omega) hS.size 84
      have HB : Hid (Stay w1 wr ∧ Below w1.heap.size wr w2) := ⟨hS, hB2⟩
      have HO : Hid (OwnR 87 2 encP w1.heap.size wr v0 (sel (bindC ls) (ps.take j)) ∧ OwnR 87 2 encP w1.heap.size w2 (.slice a1 ((sel (bindC ls) (ps.take j)).length + 1) k1) (sel (bindC ls) (ps.take j) ++ [ps[j]])) := ⟨hO, hO2⟩
      clear hO hO2 hB2 hS
      generalize ls[i].kind = kd at *
      generalize hpp : ps[j] = p at *
      obtain ⟨p1, p2⟩ := p
      dsimp only [encP] at *
      subst hpi
      clear hpp
      generalize (sel (bindC ls) (ps.take j)).length = nv at *
      cases hc : (kd == 1)
      · rw [hc] at htk
        have HN : Hid (OwnR 87 2 encP w1.heap.size wr v0 (sel (bindC ls) (ps.take (j + 1))) ∧ Stay w1 wr) := ⟨by rw [htk]; simpa using HO.out.1, HB.out.1⟩
        clear htk HO HB
        go_wp2_with fail
        go_roundw
        case rel => exact ⟨j + 1, _, rfl, by omega, by simp, HN.out⟩
        case measure => simp [intOf]; omega
      · rw [hc] at htk
        have HN : Hid (OwnR 87 2 encP w1.heap.size w2 (.slice a1 (nv + 1) k1) (sel (bindC ls) (ps.take (j + 1))) ∧ Stay w1 w2) := ⟨by rw [htk]; simpa using HO.out.2, Below.trans HB.out.1 HB.out.2⟩
        clear htk HO HB
        go_wp2_with (at_builtin; refine wpList_append_run rfl (.tmp 25) (.tmp 30) 84 84 rfl _ _ rfl rfl hap ?_; clear hap)
        go_roundw
        case rel => exact ⟨j + 1, _, rfl, by omega, by simp, HN.out⟩
        case measure => simp [intOf]; omega
    · obtain rfl : j = ps.length := by omega
      rw [List.take_of_length_le (Nat.le_refl _), HS.out] at hO
      obtain ⟨oa, ob, oc, rfl, hOR, -⟩ := hO.form encPOk
      have hl2 : (bindP ls).length ≤ 1099514773504 := by rw [← HS.out]; have := sel_len (bindC ls) ps; omega
      have hon := yonce_any wr oa ob 0 oc (bindP ls) hOR hl2
      have HW : Hid (Stay w wr) := HU.out.2.trans hS
      clear hO hS hOR HU
      go_wp2_with (go_at_call 43; refine hon.mono ?_; rintro e w2 ⟨a2, c2, rfl, hO2, s2⟩)
      show R _ _
      rw [HR.out]
      exact ⟨a2, c2, rfl, hO2.base HW.out.size, HW.out.trans s2⟩
end Go.Proofs.Ytnmeljenldadfaa
