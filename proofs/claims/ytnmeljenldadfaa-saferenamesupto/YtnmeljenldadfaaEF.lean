/- The document's answers for layer 12: a rule's variables each once, those that a body binds. -/
import Derived.Test.YtnmeljenldadfaaEE
namespace Go.Proofs.Ytnmeljenldadfaa
open Go.RowKit Go.Maps Go.Shelf

/-- The names of places, each once. -/
def onceN (ps : List (Int × ByteArray)) : List ByteArray := namesP (sel newC ps)
theorem onceN_take {ps : List (Int × ByteArray)} {j : Nat} (h : j < ps.length) : onceN (ps.take (j + 1)) = onceN (ps.take j) ++ (if inB (onceN (ps.take j)) ps[j].2 then [] else [ps[j].2]) := by
  have hc : newC (ps.take j) ps[j] = !inB (onceN (ps.take j)) ps[j].2 := by
    unfold newC onceN
    congr 1
    rw [Bool.eq_iff_iff, inB_iff, inB_iff, new_names]
    rfl
  unfold onceN at *
  rw [sel_take newC h, hc]
  cases inB (namesP (sel newC (ps.take j))) ps[j].2 <;> simp [namesP]
theorem onceN_len (ps : List (Int × ByteArray)) : (onceN ps).length ≤ ps.length := by
  unfold onceN namesP
  rw [List.length_map]
  exact sel_len _ _

set_option maxRecDepth 100000 in
set_option maxHeartbeats 1000000 in
theorem yonce_any (w : World) (a : Option Addr) (b off c : Nat) (ps : List (Int × ByteArray)) (h : RecS 2 encP w a b off ps) (hn : ps.length ≤ 1099514773504) : Calls Try.prog 43 #[.slice a ps.length c] w (NewR 9 1 encSt w (onceN ps)) := by
  have HP : Hid (RecS 2 encP w a b off ps) := h
  obtain ⟨R, hR⟩ : ∃ R, R = NewR 9 1 encSt w (onceN ps) := ⟨_, rfl⟩
  rw [← hR]
  have HR : Hid (R = NewR 9 1 encSt w (onceN ps)) := hR
  clear h hR
  go_enter Try.func43, Try.ntmps43
  go_wp2
  go_loopw [3, 4] (fun vv u wr => ∃ (j : Nat) (v0 : Value), v0 = vv ∧ j ≤ ps.length ∧ u = .int .i64 (j : Int) ∧ OwnR 9 1 encSt w.heap.size wr v0 (onceN (ps.take j)) ∧ Stay w wr) (fun _ u _ => ps.length - (intOf u).toNat)
  case atStart => exact ⟨0, _, rfl, Nat.zero_le _, rfl, by simpa [onceN, sel, selF, namesP] using OwnR.nil, Stay.refl _⟩
  case round =>
    obtain ⟨j, v0, rfl, hj, rfl, hO, hS⟩ := hrel
    by_cases hlt : j < ps.length
    · have hki : (j : Int) < (ps.length : Int) := by omega
      obtain rfl := HP.out.1 (by omega)
      have d1 := hS.cell (HP.out.2 j hlt 1 _ rfl)
      have htk := onceN_take hlt
      have hle : (onceN (ps.take j)).length ≤ j := by have := onceN_len (ps.take j); rw [List.length_take] at this; omega
      obtain ⟨oa, ob, oc, rfl, hOR, -⟩ := hO.form encStOk
      have hhs := has_any wr oa ob 0 oc (onceN (ps.take j)) ps[j].2 hOR (by omega)
      cases hc : inB (onceN (ps.take j)) ps[j].2
      · rw [hc] at hhs htk
        obtain ⟨a1, k1, w2, hap, hO2, hB2, -⟩ := own_push encStOk Try.underlying28 infoSt rfl hO ps[j].2 (by unfold maxLen; omega) (by omega) hS.size 28
        have HN : Hid (OwnR 9 1 encSt w.heap.size w2 (.slice a1 ((onceN (ps.take j)).length + 1) k1) (onceN (ps.take (j + 1))) ∧ Stay w w2) := ⟨by rw [htk]; exact hO2, Below.trans hS hB2⟩
        generalize ps[j].2 = tx at *
        dsimp only [encSt] at hap
        generalize (onceN (ps.take j)).length = nv at *
        clear hc htk hO hS hOR hO2 hB2 hle
        go_wp2_with (first | (go_at_call 42; refine hhs.mono ?_; rintro e w9 ⟨rfl, rfl⟩) | (at_builtin; refine wpList_append_run rfl (.tmp 19) (.tmp 25) 28 28 rfl _ _ rfl rfl hap ?_; clear hap))
        go_roundw
        case rel => exact ⟨j + 1, _, rfl, by omega, by simp, HN.out⟩
        case measure => simp [intOf]; omega
      · rw [hc] at hhs htk
        have HN : Hid (OwnR 9 1 encSt w.heap.size wr (.slice oa (onceN (ps.take j)).length oc) (onceN (ps.take (j + 1))) ∧ Stay w wr) := ⟨by rw [htk]; simpa using hO, hS⟩
        generalize ps[j].2 = tx at *
        generalize (onceN (ps.take j)).length = nv at *
        clear hc htk hO hS hOR hle
        go_wp2_with (first | (go_at_call 42; refine hhs.mono ?_; rintro e w9 ⟨rfl, rfl⟩))
        go_roundw
        case rel => exact ⟨j + 1, _, rfl, by omega, by simp, HN.out⟩
        case measure => simp [intOf]; omega
    · obtain rfl : j = ps.length := by omega
      rw [List.take_of_length_le (Nat.le_refl _)] at hO
      have HN : Hid (R (.returned v0) wr) := by
        show R _ _
        rw [HR.out]
        obtain ⟨a, b, c, rfl, -⟩ := hO.form encStOk
        exact ⟨a, c, rfl, hO, hS⟩
      clear hO hS HR
      go_wp2
      exact HN.out

theorem yVars_any (x : Ru) (w : World) (hM : x.In w) (hs : x.small) (hk : kindsOk x.body) : Calls Try.prog 16 #[x.v] w (NewR 9 1 encSt w (onceN (placesR x))) := by
  have hu := fun V (hV : Stay w V) => uses_any x V (Ru.stay hM hV) hs hk
  have hfew := placesR_few hs
  have hcells : ∀ V, V = w.alloc (.cells #[.string x.head.pred, .slice x.head.a x.head.ts.length x.head.cap, .slice x.a x.body.length x.cap] 27) → Stay w V := fun V hV => by rw [hV]; exact Stay.new _ _
  have hst := hcells _ rfl
  have hu1 := hu _ hst
  have hu0 := hu _ (Stay.refl w)
  obtain ⟨ps, hps⟩ : ∃ ps, ps = placesR x := ⟨_, rfl⟩
  rw [← hps] at hu1 hu0 hfew ⊢
  clear hps hu hcells
  dsimp only [Ru.v, At.sl] at *
  go_enter Try.func16, Try.ntmps16
  go_wp2_with (first | (go_at_call 41; first | (refine hu0.mono ?_; rintro e w1 ⟨a, c, rfl, hO, s1⟩) | (refine hu1.mono ?_; rintro e w1 ⟨a, c, rfl, hO, s1⟩)) | (go_at_call 43; obtain ⟨oa, ob, oc, hv, hOR, -⟩ := hO.form encPOk; simp only [Value.slice.injEq] at hv; obtain ⟨rfl, -, rfl⟩ := hv; refine (yonce_any w1 _ ob 0 _ ps hOR hfew).mono ?_; rintro e w2 ⟨a2, c2, rfl, hO2, s2⟩))
  go_ret
  first | exact ⟨a2, c2, rfl, hO2.base s1.size, s1.trans s2⟩ | exact ⟨a2, c2, rfl, hO2.base (hst.trans s1).size, (hst.trans s1).trans s2⟩
end Go.Proofs.Ytnmeljenldadfaa
