/- IndexWalks, walked. -/
import Derived.Test.YtdnophgcdnghkaaJ5s
import Derived.Test.YtdnophgcdnghkaaJ5w
import Derived.Test.YtdnophgcdnghkaaIS
namespace Go.Proofs.Ytdnophgcdnghkaa.I
open Go.RowKit Go.Maps Go.Shelf Go.Proofs.Ytdnophgcdnghkaa
attribute [local go_sem] Oper.semAt_some

theorem eql_seqI (g : Nat) (lb : Array Value) (w : World) : (binOp .eql 45 (.func (.func g) #[] lb) .nilFunc).run Try.prog w = .ok (.bool false) w := by kernel_rfl
set_option maxRecDepth 100000 in
set_option maxHeartbeats 8000000 in
theorem indexWalks_any (w : World) (way : Int) (hw : KeyOk way) (ka : Option Addr) (kb ko kc : Nat) (keys : List Int) (hK : IntsS w ka kb ko keys) (hKo : ∀ k ∈ keys, KeyOk k) (hkl : keys.length ≤ 1048576) (sa : Option Addr) (sb so sc : Nat) (ss : List St) (hS : RecS 5 encSt w sa sb so ss) (hok : ∀ s ∈ ss, s.Ok) (hsl : ss.length ≤ 1048576) :
    Calls Try.prog 4 #[.int .i64 way, .slice ka keys.length kc, .slice sa ss.length sc] w fun e w' => e = .returned (.bool true) ∧ Stay w w' := by
  have HS : Hid (RecS 5 encSt w sa sb so ss ∧ ∀ s ∈ ss, s.Ok) := ⟨hS, hok⟩
  have HK : Hid (IntsS w ka kb ko keys ∧ ∀ k ∈ keys, KeyOk k) := ⟨hK, hKo⟩
  clear hS hok hK hKo
  have hfn := eql_seqI
  refine callsIn_wide (n := 9) |>.1 ?_
  refine callsIn_of_wp_marks Try.func4 rfl trivial ?_ rfl
  simp only [Try.ntmps4, List.size_toArray, List.length_cons, List.length_nil, Nat.reduceAdd, Nat.reduceSub, Array.replicate_succ, Array.replicate_zero, List.push_toArray, List.append_toArray, List.nil_append, List.cons_append]
  gi_wp2_with fail
  refine ⟨trivial, ?_⟩
  refine CallsIn.mono (callsIn_wide.2 (hashes_any _ _)) ?_
  rintro e9 w2 ⟨rfl, rfl⟩
  gi_wp2_with fail
  refine ⟨trivial, ?_⟩
  refine CallsIn.mono (callsIn_wide.2 (sames_any _ _)) ?_
  rintro e9 w3 ⟨rfl, rfl⟩
  obtain ⟨W0, hW0⟩ : ∃ W0, (w.alloc (.cells #[.slice sa ss.length sc] 22)).alloc (.cells #[.bool false] 4) = W0 := ⟨_, rfl⟩
  have hs0 : Stay w W0 := by rw [← hW0]; exact (Stay.new _ _).alloc _
  have hb0 : Boxed W0 w.heap.size 22 (.slice sa ss.length sc) := by rw [← hW0]; exact (Boxed.new w _ _).alloc _
  have hq0 : Boxed W0 (w.heap.size + 1) 4 (.bool false) := by
    have := Boxed.new (w.alloc (.cells #[.slice sa ss.length sc] 22)) 4 (.bool false)
    rw [World.size_alloc] at this
    rw [← hW0]; exact this
  have hz0 : W0.heap.size = w.heap.size + 2 := by rw [← hW0]; simp
  have e0 : w.heap.size + 1 + 1 = W0.heap.size := by omega
  obtain ⟨X0, hX0⟩ : ∃ X0, (W0.alloc (.cells #[.int .i64 way] 3)).alloc (.cells #[.int .i64 way] 3) = X0 := ⟨_, rfl⟩
  have hF := fns_new W0 way hw
  rw [hX0] at hF
  have hsX : Stay W0 X0 := by rw [← hX0]; exact (Stay.new _ _).alloc _
  have hzX : X0.heap.size = W0.heap.size + 2 := by rw [← hX0]; simp
  simp only [World.size_alloc]
  simp only [e0]
  rw [hW0, hX0]
  have hnew := t_new hF (fun _ => 0)
  dsimp only at hnew
  have H0 : Hid (Stay w W0 ∧ Boxed W0 w.heap.size 22 (.slice sa ss.length sc) ∧ Boxed W0 (w.heap.size + 1) 4 (.bool false) ∧ W0.heap.size = w.heap.size + 2 ∧ Stay W0 X0 ∧ X0.heap.size = W0.heap.size + 2) := ⟨hs0, hb0, hq0, hz0, hsX, hzX⟩
  clear hW0 hs0 hb0 hq0 hz0 e0 hX0 hF hsX hzX
  gi_wp2_with fail
  refine ⟨trivial, ?_⟩
  refine CallsIn.mono (callsIn_wide.2 hnew) ?_
  rintro e9 X1 ⟨rfl, hT, hs1⟩
  have H1 : Hid _ := And.intro hT hs1
  clear hnew hT hs1
  gi_wp2_with fail
  refine ⟨trivial, ?_⟩
  refine CallsIn.mono (callsIn_wide.2 (r_new X1 way hw (lab X0 (fun _ => 0) (X0.heap.size + 1 + 1)))) ?_
  rintro e9 X2 ⟨rfl, hR, hs2⟩
  obtain ⟨o0, ho0⟩ : ∃ o0, lab X1 (lab X0 (fun _ => 0) (X0.heap.size + 1 + 1)) (X1.heap.size + 1) = o0 := ⟨_, rfl⟩
  have H2 : Hid (Mt X2 (W0.heap.size, W0.heap.size + 1, way) (X0.heap.size + 1) X1.heap.size way 0 o0 [] 8 ∧ (∀ k, k < W0.heap.size → o0 k = 0) ∧ Stay w X2 ∧ Boxed X2 w.heap.size 22 (.slice sa ss.length sc) ∧ Boxed X2 (w.heap.size + 1) 4 (.bool false)) := by
    obtain ⟨g1, g2, g3, g4, g5, g6⟩ := H0.out
    obtain ⟨hT, hs1⟩ := H1.out
    have hfa := hT.facts
    have z1 := hs1.size
    have z2 := hs2.size
    have hs : Stay W0 X2 := (g5.trans hs1).trans hs2
    refine ⟨⟨?_, ?_, rfl, by omega, fun k hk => ?_, by omega⟩, fun k hk => ?_, g1.trans hs, (hs.block _ (by omega)).trans g2, (hs.block _ (by omega)).trans g3⟩
    · exact hT.frame (S := fun _ => False) (Turn.of_stay hs2) (fun _ _ _ e => e) (fun _ _ e => e) (fun k hk => by rw [← ho0]; exact lab_old hk)
    · rw [← ho0]; exact hR
    · rw [← ho0]
      have : k < X0.heap.size := by rcases hk with rfl | rfl <;> (dsimp only; omega)
      rw [lab_old (by omega), lab_old this]
    · rw [← ho0, lab_old (by omega), lab_old (by omega)]
  clear hR hs2 ho0 H1
  obtain ⟨bt, hbt⟩ : ∃ bt, X0.heap.size + 1 = bt := ⟨_, rfl⟩
  obtain ⟨br, hbr⟩ : ∃ br, X1.heap.size = br := ⟨_, rfl⟩
  obtain ⟨fp, hfp⟩ : ∃ fp : Nat × Nat × Int, (W0.heap.size, W0.heap.size + 1, way) = fp := ⟨_, rfl⟩
  rw [hbt, hbr, hfp] at H2
  rw [hbr]
  simp only [hbt]
  have HZ : Hid (W0.heap.size = w.heap.size + 2 ∧ ∀ k, fnfoot fp k → k < W0.heap.size + 2) := ⟨H0.out.2.2.2.1, fun k hk => by rw [← hfp] at hk; rcases hk with rfl | rfl <;> (dsimp only; omega)⟩
  clear hbt hbr hfp H0
  gi_wp2_with fail
  have HKI : ∀ (W : World) (i : Nat), Turn (fun k => o0 k = bt + 1 ∨ o0 k = br + 1) X2 W → ∀ (h : i < keys.length), ka = some ⟨kb, ko, none⟩ ∧ W.cell? ⟨kb, ko + i, none⟩ = some (.int .i64 keys[i]) ∧ KeyOk keys[i] := fun W i tu h => by
    have h1 := HK.out.1.2 i h
    have h2 := World.block_lt_of_cell? w _ h1
    refine ⟨HK.out.1.1 (by omega), tu.cell (H2.out.2.2.1.cell h1) (fun e => ?_), HK.out.2 _ (List.getElem_mem h)⟩
    have := H2.out.2.1 kb (by have := HZ.out.1; dsimp only at h2; omega)
    dsimp only at e
    omega
  have HKC : Hid _ := HKI
  clear HKI
  gi_loopw [10] (fun ui wr => ∃ i : Nat, i ≤ keys.length ∧ ui = .int .i64 (i : Int) ∧ KI X2 wr fp bt br way o0 i) (fun ui _ => keys.length - (intOf ui).toNat)
  case atStart => exact ⟨0, Nat.zero_le _, rfl, o0, [], 8, H2.out.1, fun _ _ => rfl, Turn.refl _ _⟩
  case round =>
    obtain ⟨i, hi, rfl, hI⟩ := hrel
    by_cases hlt : i < keys.length
    · have hTu : Turn (fun k => o0 k = bt + 1 ∨ o0 k = br + 1) X2 wr := by obtain ⟨_, _, _, _, _, h⟩ := hI; exact h
      obtain ⟨rfl, hcell, hky⟩ := HKC.out wr i hTu hlt
      have hput := hI.put keys[i] (i : Int) hky (by unfold KeyOk; omega) (by omega)
      have hil : (i : Int) < (keys.length : Int) := by omega
      clear hI hTu hky
      gi_wp2_with fail
      refine ⟨trivial, ?_⟩
      refine CallsIn.mono (callsIn_wide.2 hput) ?_
      rintro e9 w9 ⟨⟨x, rfl⟩, hTu, hput2⟩
      clear hput hcell
      obtain ⟨-, hcell, -⟩ := HKC.out w9 i hTu hlt
      clear hTu
      gi_wp2_with fail
      refine ⟨trivial, ?_⟩
      refine CallsIn.mono (callsIn_wide.2 hput2) ?_
      rintro e9 wa ⟨⟨y, rfl⟩, hI9⟩
      clear hput2 hcell
      gi_wp2_with fail
      go_roundw
      case rel => exact ⟨i + 1, by omega, by simp, hI9⟩
      case measure => simp [intOf]; omega
    · obtain rfl : i = keys.length := by omega
      have HI : Hid (KI X2 wr fp bt br way o0 keys.length) := hI
      clear hI hlt HKC HK
      gi_wp2_with fail
      refine ⟨trivial, ?_⟩
      refine CallsIn.mono (callsIn_wide.2 (all_any _ _)) ?_
      rintro e9 w9 ⟨rfl, rfl⟩
      gi_wp2_with fail
      refine ⟨trivial, ?_⟩
      refine CallsIn.mono (callsIn_wide.2 (layout_any _ _)) ?_
      rintro e9 w9 ⟨rfl, rfl⟩
      gi_wp2_with fail
      obtain ⟨G0, hG⟩ : ∃ G, ((((wr.alloc (.cells #[.pointer (some ⟨bt, 0, none⟩)] 24)).alloc (.cells #[.pointer (some ⟨bt, 0, none⟩)] 24)).alloc (.cells #[.pointer (some ⟨bt, 0, none⟩), .pointer (some ⟨bt, 0, none⟩), .pointer (some ⟨br, 0, none⟩), .pointer (some ⟨br, 0, none⟩), .slice none 0 0, .slice none 0 0] 31)).alloc (.cells #[.pointer (some ⟨wr.heap.size + 1 + 1, 0, none⟩)] 23)).alloc (.cells #[.int .i64 0] 3) = G := ⟨_, rfl⟩
      rw [hG]
      have hwk : ∃ q0 ps0 N0 a0, a0 ≤ keys.length ∧ (Mt G0 fp bt br way keys.length q0 ps0 N0 ∧ WK w G0 bt br q0 (wr.heap.size + 1 + 1 + 1) (wr.heap.size + 1 + 1) wr.heap.size (wr.heap.size + 1) (wr.heap.size + 1 + 1 + 1 + 1) (.slice sa ss.length sc) ∧ Boxed G0 (wr.heap.size + 1 + 1 + 1 + 1) 3 (.int .i64 ((a0 : Nat) : Int)) ∧ Free1 fp q0 (wr.heap.size + 1 + 1 + 1 + 1) ∧ wr.heap.size + 5 ≤ G0.heap.size ∧ w.heap.size + 2 ≤ wr.heap.size) := by
        obtain ⟨o, ps, N, M, ho, tu⟩ := HI.out
        obtain ⟨h1, h2, h3, h4, h5⟩ := H2.out
        have z0 := HZ.out.1
        have z1 := h5.lt
        have z2 := tu.size
        have hno : ∀ k, k < w.heap.size + 2 → ¬ (o0 k = bt + 1 ∨ o0 k = br + 1) := fun k hk e => by have := h2 k (by omega); omega
        have h4' : Boxed wr w.heap.size 22 (.slice sa ss.length sc) := tu.heap h4 (hno _ (by omega))
        have h5' : Boxed wr (w.heap.size + 1) 4 (.bool false) := tu.heap h5 (hno _ (by omega))
        obtain ⟨g1, g2, g3, g4, g5⟩ := wk_begin M h4' h5' (tu.stay h3 (fun k hk => hno k (by omega))) (by omega) (fun k hk => (ho k (by omega)).trans (h2 k (by omega))) hG
        exact ⟨_, _, _, 0, Nat.zero_le _, g2, g3, g4, g5, by omega, by omega⟩
      obtain ⟨z, hz⟩ : ∃ z, wr.heap.size = z := ⟨_, rfl⟩
      rw [hz] at hwk
      simp only [hz]
      obtain ⟨q0, ps0, N0, aa0, ha0n, hwk⟩ := hwk
      have HA0 : Hid _ := hwk
      have HD0 : Hid (Defs w G0 []) := defs_nil
      have hn0 : keys.length ≤ 1048576 := hkl
      clear hwk hG hz HI H2 HZ hw
      refine wpIn_loop_rounds 3 ?_
      rw [roundsIn_succ]
      gi_wp2_with fail
      --@@
      obtain ⟨f, g, ks, vs, hcall, hvl, hml0, hkf, hvg, hseq⟩ := teld_all HA0.out.1
      have HT0 : Hid ((∀ i (h : i < ks.length), ks[i] = f i) ∧ (∀ i (h : i < vs.length), vs[i] = g i) ∧ vs.length = ks.length) := ⟨hkf, hvg, hvl⟩
      have HQ : Hid _ := hseq
      have hcl := hcall G0 (Stay.refl _)
      (try clear hkf); (try clear hvg); (try clear hseq); (try clear hcall)
      refine ⟨trivial, ?_⟩
      refine CallsIn.mono (callsIn_wide.2 hcl) ?_
      clear hcl
      rintro e9 Y0 ⟨a1, b1, c1, a2, b2, c2, rfl, hR1, hR2, hsY, hfr⟩
      rw [hvl]
      have HR : Hid _ := And.intro hR1 (And.intro hR2 (And.intro hsY hfr))
      (try clear hR1); (try clear hR2); (try clear hsY); (try clear hfr); (try clear hvl)
      gi_wp2_with fail
      obtain ⟨V0, hV⟩ : ∃ V, (Y0.alloc (.cells #[.slice a1 ks.length c1, .slice a2 ks.length c2] 49)).alloc (.cells #[.int .i64 0] 3) = V := ⟨_, rfl⟩
      obtain ⟨Bn0, hBn0⟩ : ∃ B, Y0.heap.size + 1 = B := ⟨_, rfl⟩
      rw [hV]
      simp only [hBn0]
      have HV0 : Hid ((Mt V0 fp bt br way keys.length (tid bt br V0 q0) ps0 N0 ∧ WK w V0 bt br (tid bt br V0 q0) (z + 1 + 1 + 1) (z + 1 + 1) z (z + 1) (z + 1 + 1 + 1 + 1) (.slice sa ss.length sc) ∧ Boxed V0 (z + 1 + 1 + 1 + 1) 3 (.int .i64 (aa0 : Int)) ∧ Free1 fp (tid bt br V0 q0) (z + 1 + 1 + 1 + 1) ∧ Free1 fp (tid bt br V0 q0) Bn0 ∧ ∀ k, ¬ MW bt br G0 k → (tid bt br V0 q0) k = 0) ∧ Boxed V0 Bn0 3 (.int .i64 0) ∧ Cnt w (z + 1 + 1 + 1) (z + 1 + 1) z (z + 1) (z + 1 + 1 + 1 + 1) Bn0 ∧ TL V0 (tid bt br V0 q0) Bn0 (z + 1 + 1 + 1 + 1) Y0.heap.size ks.length a1 a2 b1 b2 c1 c2 f g ∧ Turn (fun k => k = Bn0) G0 V0 ∧ (¬ MW bt br G0 Bn0 ∧ ¬ fnfoot fp Bn0) ∧ G0.heap.size ≤ V0.heap.size) := by
        obtain ⟨hR1, hR2, hsY, hfr⟩ := HR.out
        obtain ⟨hkf, hvg, hvl⟩ := HT0.out
        obtain ⟨M, K, t, ft, zX, zw⟩ := HA0.out
        have z1 := hsY.size
        have hsb : Stay Y0 (Y0.alloc (.cells #[.slice a1 ks.length c1, .slice a2 ks.length c2] 49)) := Stay.new _ _
        have tb : Turn (fun k => k = Bn0) (Y0.alloc (.cells #[.slice a1 ks.length c1, .slice a2 ks.length c2] 49)) V0 := by rw [← hV]; exact Turn.of_stay (Stay.new _ _)
        have hbn : Boxed V0 Bn0 3 (.int .i64 0) := by
          have := Boxed.new (Y0.alloc (.cells #[.slice a1 ks.length c1, .slice a2 ks.length c2] 49)) 3 (.int .i64 0)
          rw [World.size_alloc, hBn0] at this
          rw [← hV]; exact this
        have nb : Cnt w (z + 1 + 1 + 1) (z + 1 + 1) z (z + 1) (z + 1 + 1 + 1 + 1) Bn0 := by unfold Cnt; omega
        have hno : ¬ MW bt br G0 Bn0 ∧ ¬ fnfoot fp Bn0 := ⟨fun e => by have := (M.own _ e).2.1; omega, fun e => by have := M.t.facts.2.2.2.2.2.2.lt _ e; omega⟩
        have hgap : ∀ k, G0.heap.size ≤ k → k ≤ Y0.heap.size → k ≠ Bn0 := fun k _ _ => by omega
        have tX : Turn (fun k => k = Bn0) G0 V0 := (Turn.of_stay (hsY.trans hsb)).trans tb
        have hb := ws_begin M K t ft tX hno nb
        exact ⟨hb, hbn, nb, tl_new (fun k hk => hb.2.2.2.2.2 k (fun e => by have := (M.own k e).2.1; omega)) hsY hR1 hR2 hfr hvl hkf hvg tb hgap t.lt, tX, hno, tX.size⟩
      have hS := HQ.out _ V0 (z) HV0.out.2.2.2.2.1 (fun k hk e => hk.elim (fun h => HV0.out.2.2.2.2.2.1.1 (e ▸ h)) (fun h => HV0.out.2.2.2.2.2.1.2 (e ▸ h))) HV0.out.1.2.1.a.cell
      have hbc : G0.heap[Bn0]? = none ∨ ∃ v, Boxed G0 Bn0 3 v := .inl (Array.getElem?_eq_none (by have := HR.out.2.2.1.size; omega))
      have HC0 : Hid _ := hbc
      have hlw := HV0.out.1.1.t.facts
      have hrw := HV0.out.1.1.r.facts
      (try clear HR); (try clear HT0); (try clear hV); (try clear cbc); (try clear cbf); (try clear cbl); (try clear HQ); (try clear hbc); (try clear hBn0)
      obtain ⟨m0, hm⟩ : ∃ m, ks.length = m := ⟨_, rfl⟩
      rw [hm] at HV0 hS hml0
      simp only [hm]
      obtain ⟨oV0, hoV⟩ : ∃ oV, (tid bt br V0 q0) = oV := ⟨_, rfl⟩
      rw [hoV] at HV0
      clear hoV hm
      obtain ⟨B10, hB1⟩ : ∃ B, Y0.heap.size = B := ⟨_, rfl⟩
      rw [hB1] at HV0
      simp only [hB1]
      clear hB1
      refine' wpIn_rangeFunc_ownG (α := Nat) rfl (by decide) (gf := 35) (lb := #[.pointer (some ⟨z, 0, none⟩)]) rfl trivial (enters_of Try.func35 (by kernel_rfl) rfl)
        hS (fun h k => h.trans k) (mw_bump hlw.2.2.2.2.1 hrw.1) (Below.refl _ _) (fun _ => rfl)
        (fun pre X => RI V0 X fp bt br way oV0 Bn0 (z + 1 + 1 + 1 + 1) (keys.length) aa0 pre) (fun c pre _ => c = .ret ∧ ∃ q x, pre = q ++ [x] ∧ x ≠ q.length) RI.own (fun c _ _ _ _ hs _ _ => hs) (ri_begin HV0.out.1.1 HV0.out.2.1 HV0.out.1.2.2.1) _ ?assign0 ?body0 ?done0 ?stop0
      case assign0 =>
        intro l x Y K hK
        dsimp only [encF]
        gi_wp2
        exact hK
      case stop0 =>
        rintro D c pre Y hD ⟨k, hk, hpre⟩ hSt hKD
        obtain ⟨rfl, q, x, hq, hx⟩ := hSt
        exact absurd (snoc_range hpre hq) hx
      case body0 =>
        as_aux_lemma =>
        intro l pre x Y hI hlt
        clear hS hlw hrw
        obtain ⟨⟨rfl, rfl⟩, w0, w1, k1, k2, hq⟩ := HV0.out.2.2.2.1.see hI HV0.out.1.2.1 HV0.out.2.2.1 hlt
        obtain ⟨o, ps, N, a, M, ho, tu, hbn, hbt, ha⟩ := hI
        have hmid := fun (v : Value) (Y1 : World) (h : Y.setCell ⟨Bn0, 0, none⟩ v = Y1) => ri_mid M ho tu HV0.out.1.2.1 HV0.out.1.2.2.2.1 HV0.out.1.2.2.1.lt hbt HV0.out.1.2.2.2.2.1 HV0.out.2.1.lt HV0.out.2.2.1 h
        have hnx := fun (W : World) hd => ri_next (x := x) (W := W) M ho tu hbn hbt ha HV0.out.1.2.2.2.2.1 HV0.out.1.2.2.2.1 HV0.out.2.1.lt HV0.out.1.2.2.1.lt HV0.out.2.2.1.2.2.2.2.2 (by omega) hd
        have cn := hbn.cell
        have fn := hbn.frozen
        have ln := hbn.lt
        have cq := hq.cell
        have fq := hq.frozen
        have lq := hq.lt
        have hil : (pre.length : Int) < (m0 : Int) := by omega
        have hil2 : ¬ (m0 : Int) ≤ (pre.length : Int) := by omega
        have hpw : IntKind.i64.wrap ((pre.length : Int) + 1) = (pre.length : Int) + 1 := by rw [IntKind.wrap_i64]; omega
        have haw : IntKind.i64.wrap ((a : Int) + 1) = (a : Int) + 1 := by rw [IntKind.wrap_i64]; omega
        have HMD : Hid _ := hmid
        have HNX : Hid _ := hnx
        have HX : Hid (x = pre.length → f x = f pre.length ∧ g x = g pre.length) := fun e => by rw [e]; exact ⟨rfl, rfl⟩
        clear hmid hnx M ho tu hbn hbt hq ha
        try dsimp only [encF] at ⊢
        generalize f x = fx at HX ⊢
        generalize g x = gx at HX ⊢
        generalize f pre.length = f0 at HX k1 ⊢
        generalize g pre.length = g0 at HX k2 ⊢
        by_cases hpe : fx = f0
        · subst hpe
          by_cases hke : gx = g0
          · subst hke
            gi_wp2
            obtain ⟨Y1, hY1⟩ : ∃ Y1, Y.setCell ⟨Bn0, 0, none⟩ (.int .i64 ((pre.length : Int) + 1)) = Y1 := ⟨_, rfl⟩
            rw [hY1]
            have hmid := HMD.out _ _ hY1
            have HN : Hid (∀ W, Done Y1 fp bt br way (keys.length + pre.length + 1) o W → KeepsFrom V0.heap.size Y (W.setCell ⟨z + 1 + 1 + 1 + 1, 0, none⟩ (.int .i64 ((a : Int) + 1))) ∧ Keep V0.heap.size (MW bt br) Y (W.setCell ⟨z + 1 + 1 + 1 + 1, 0, none⟩ (.int .i64 ((a : Int) + 1))) ∧ RI V0 (W.setCell ⟨z + 1 + 1 + 1 + 1, 0, none⟩ (.int .i64 ((a : Int) + 1))) fp bt br way oV0 Bn0 (z + 1 + 1 + 1 + 1) (keys.length) aa0 (pre ++ [x])) := fun W hd => HNX.out W (by rw [hY1]; exact hd)
            have HM : Hid (Mt Y1 fp bt br way (keys.length + pre.length) o ps N ∧ WK w Y1 bt br o (z + 1 + 1 + 1) (z + 1 + 1) z (z + 1) (z + 1 + 1 + 1 + 1) (.slice sa ss.length sc) ∧ Boxed Y1 (z + 1 + 1 + 1 + 1) 3 (.int .i64 (a : Int)) ∧ Free1 fp o (z + 1 + 1 + 1 + 1)) := hmid
            have cs := hmid.2.1.s.cell
            have cp := hmid.2.1.p.cell
            have ct := hmid.2.2.1.cell
            have ls := hmid.2.1.s.lt
            have lt1 := hmid.2.2.1.lt
            have lp := hmid.2.1.p.lt
            clear hmid HMD HNX hY1 w0 w1 k1 k2 cn fn ln cq fq lq hil hil2 hpw
            by_cases hal : a < ss.length
            · have hai : (a : Int) < (ss.length : Int) := by omega
              obtain rfl := HS.out.1.1 (by omega)
              have hsx := HS.out.2 _ (List.getElem_mem hal)
              have r0 := HS.out.1.2 a hal 0 _ rfl
              have r1 := HS.out.1.2 a hal 1 _ rfl
              have r2 := HS.out.1.2 a hal 2 _ rfl
              have r3 := HS.out.1.2 a hal 3 _ rfl
              have r4 := HS.out.1.2 a hal 4 _ rfl
              generalize ss[a] = sk at *
              obtain ⟨kind, on, key, val, leave⟩ := sk
              dsimp only at r0 r1 r2 r3 r4
              rw [Nat.add_zero] at r0
              have s0 := HM.out.2.1.stay.cell r0
              have s1 := HM.out.2.1.stay.cell r1
              have s2 := HM.out.2.1.stay.cell r2
              have s3 := HM.out.2.1.stay.cell r3
              have s4 := HM.out.2.1.stay.cell r4
              by_cases h8 : kind = 8
              · subst h8
                clear hsx r0 r1 r2 r3 r4
                gi_wp2
                refine round_quiet_lit (F := Fence.wide) rfl (by kernel_rfl) (by kernel_rfl) (by kernel_rfl) ?_
                repeat (first | gi_big_quiet_step (fail) | (refine BigFrame.wpQuietIn_skip (fun _ _ _ _ => True.intro) (by kernel_rfl) ?_; simp only [Act.put, List.setIfInBounds_toArray, List.set_cons_zero, List.set_cons_succ]))
                refine wpQuietIn_nil ?_
                intro _ hw'
                obtain ⟨nq, hw''⟩ := hw'
                subst hw''
                have HD9 : Hid _ := And.intro (show Boxed (Y1.drewN nq) _ _ _ from HM.out.2.2.1) (HM.out.1.same (Stay.drewN Y1 nq))
                have c9 := HD9.out.1.cell
                have f9 := HD9.out.1.frozen
                have l9 := HD9.out.1.lt
                gi_wp2
                exact HN.out _ HD9.out.2
              · obtain ⟨i9, hask⟩ := (HM.out.2.1.turn (S := fun _ => False) (Turn.of_stay (Stay.drew Y1)) (fun _ e _ => e.elim) (fun _ _ h => h)).ask hsx
                have hstep := step_8 (HM.out.1.stay (Stay.drew Y1)) hask h8
                clear hask hsx
                gi_wp2
                have hSS : (fun W : World => W.cell? ⟨z + 1 + 1 + 1 + 1, 0, none⟩ = some (.int .i64 (a : Int)) ∧ W.cell? ⟨w.heap.size, 0, none⟩ = some (.slice (some ⟨sb, so, none⟩) ss.length sc) ∧ W.cell? ⟨z + 1 + 1 + 1, 0, none⟩ = some (.pointer (some ⟨z + 1 + 1, 0, none⟩)) ∧ W.cell? ⟨sb, so + a * 5, none⟩ = some (.int .i64 kind) ∧ W.cell? ⟨sb, so + a * 5 + 1, none⟩ = some (.int .i64 on) ∧ W.cell? ⟨sb, so + a * 5 + 2, none⟩ = some (.int .i64 key) ∧ W.cell? ⟨sb, so + a * 5 + 3, none⟩ = some (.int .i64 val) ∧ W.cell? ⟨sb, so + a * 5 + 4, none⟩ = some (.int .i64 leave)) Y1.drew := ⟨ct, cs, cp, s0, s1, s2, s3, s4⟩
                clear ct cs cp s0 s1 s2 s3 s4
                refine reg26 (R := fun W => Done Y1 fp bt br way (keys.length + pre.length + 1) o W ∧ Boxed W (z + 1 + 1 + 1 + 1) 3 (.int .i64 (a : Int)) ∧ WK w W bt br o (z + 1 + 1 + 1) (z + 1 + 1) z (z + 1) (z + 1 + 1 + 1 + 1) (.slice (some ⟨sb, so, none⟩) ss.length sc)) hai h8 (by rintro ⟨a, w, h⟩; exact h) (fun _ _ _ _ _ h => h) hSS (hstep.mono ?_) (fun W hR => ⟨hR.2.1.cell, hR.2.2.s.cell, hR.2.2.p.cell, hR.2.2.stay.cell r0, hR.2.2.stay.cell r1, hR.2.2.stay.cell r2, hR.2.2.stay.cell r3, hR.2.2.stay.cell r4⟩) ?_
                · rintro e9 W9 ⟨rfl, hd0⟩
                  obtain ⟨K9, b9, hd⟩ := done_see HM.out.1 HM.out.2.1 HM.out.2.2.1 HM.out.2.2.2 (Stay.drew Y1) hd0
                  exact ⟨rfl, hd, b9, K9⟩
                intro z0 z1 z2 z3 z4 z5 z6 z7 z8 z9 z10 z11 z12 z13 z14 z15 z16 z17 z18 z19 W9 hR
                have HD9 : Hid _ := And.intro hR.2.1 hR.1
                clear hR hSS hstep r0 r1 r2 r3 r4
                have c9 := HD9.out.1.cell
                have f9 := HD9.out.1.frozen
                have l9 := HD9.out.1.lt
                gi_wp2
                exact HN.out _ HD9.out.2
            · have hai : ¬ (a : Int) < (ss.length : Int) := by omega
              gi_wp2
              refine round_quiet_lit (F := Fence.wide) rfl (by kernel_rfl) (by kernel_rfl) (by kernel_rfl) ?_
              repeat (first | gi_big_quiet_step (fail) | (refine BigFrame.wpQuietIn_skip (fun _ _ _ _ => True.intro) (by kernel_rfl) ?_; simp only [Act.put, List.setIfInBounds_toArray, List.set_cons_zero, List.set_cons_succ]))
              refine wpQuietIn_nil ?_
              intro _ hw'
              obtain ⟨nq, hw''⟩ := hw'
              subst hw''
              have HD9 : Hid _ := And.intro (show Boxed (Y1.drewN nq) _ _ _ from HM.out.2.2.1) (HM.out.1.same (Stay.drewN Y1 nq))
              have c9 := HD9.out.1.cell
              have f9 := HD9.out.1.frozen
              have l9 := HD9.out.1.lt
              gi_wp2
              exact HN.out _ HD9.out.2
          · gi_wp2
            exact ⟨set_from _ _ _, rfl, pre, x, rfl, fun e => hke (HX.out e).2⟩
        · gi_wp2
          exact ⟨set_from _ _ _, rfl, pre, x, rfl, fun e => hpe (HX.out e).1⟩
      case done0 =>
        rintro D0 ys G1 hDl rfl hI hKD
        clear hS hlw hrw
        obtain ⟨q1, ps1, N1, aa1, M, K, t, ft, bn, fnn, ha1⟩ := ri_end hI HV0.out.1.2.1 HV0.out.1.2.2.2.1 HV0.out.1.2.2.2.2.1 HV0.out.1.2.2.1.lt HV0.out.2.1.lt HV0.out.2.2.1
        have w0 := HV0.out.2.2.2.1.last hI
        have HD1 : Hid (Defs w G1 [D0]) := defs_next HD0.out HA0.out.2.1.stay HA0.out.1 HV0.out.2.2.2.2.1 HV0.out.2.2.2.2.2.1.1 HC0.out HV0.out.1.1 HV0.out.1.2.2.2.2.2 HV0.out.2.1 HV0.out.1.2.2.1 hI hDl hKD
        rw [List.length_range] at M bn ha1
        obtain ⟨n1, hn1e⟩ : ∃ n, keys.length + m0 = n := ⟨_, rfl⟩
        rw [hn1e] at M
        have hn1 : n1 ≤ 2097152 := by omega
        have ha1n : aa1 ≤ n1 := by omega
        have HA1 : Hid (Mt G1 fp bt br way n1 q1 ps1 N1 ∧ WK w G1 bt br q1 (z + 1 + 1 + 1) (z + 1 + 1) z (z + 1) (z + 1 + 1 + 1 + 1) (.slice sa ss.length sc) ∧ Boxed G1 (z + 1 + 1 + 1 + 1) 3 (.int .i64 (aa1 : Int)) ∧ Free1 fp q1 (z + 1 + 1 + 1 + 1) ∧ z + 5 ≤ G1.heap.size ∧ w.heap.size + 2 ≤ z) := ⟨M, K, t, ft, by have := t.lt; omega, HA0.out.2.2.2.2.2⟩
        have cn := bn.cell
        have HB1 : Hid (Boxed G1 Bn0 3 (.int .i64 (m0 : Int)) ∧ Free1 fp q1 Bn0 ∧ Cnt w (z + 1 + 1 + 1) (z + 1 + 1) z (z + 1) (z + 1 + 1 + 1 + 1) Bn0) := ⟨bn, fnn, HV0.out.2.2.1⟩
        (try clear M); (try clear K); (try clear t); (try clear ft); (try clear bn); (try clear fnn); (try clear hI); (try clear hKD); (try clear hDl); (try clear HV0); (try clear HA0); (try clear HD0); (try clear HC0); (try clear HB0); (try clear hn1e); (try clear ha1); (try clear hn0); (try clear ha0n); (try clear hml0)
        gi_wp2_with fail
        (try clear cn); (try clear w0)
        obtain ⟨f, g, ks, vs, hcall, hvl, hml1, hkf, hvg, hseq⟩ := teld_lay HA1.out.1
        have HT0 : Hid ((∀ i (h : i < ks.length), ks[i] = f i) ∧ (∀ i (h : i < vs.length), vs[i] = g i) ∧ vs.length = ks.length) := ⟨hkf, hvg, hvl⟩
        have HQ : Hid _ := hseq
        have hcl := hcall G1 (Stay.refl _)
        (try clear hkf); (try clear hvg); (try clear hseq); (try clear hcall)
        refine ⟨trivial, ?_⟩
        refine CallsIn.mono (callsIn_wide.2 hcl) ?_
        clear hcl
        rintro e9 Y1 ⟨a1, b1, c1, a2, b2, c2, rfl, hR1, hR2, hsY, hfr⟩
        rw [hvl]
        have HR : Hid _ := And.intro hR1 (And.intro hR2 (And.intro hsY hfr))
        have cb : Boxed Y1 Bn0 3 _ := (hsY.block _ HB1.out.1.lt).trans HB1.out.1
        have cbc := cb.cell
        have cbf := cb.frozen
        have cbl := cb.lt
        clear cb
        (try clear hR1); (try clear hR2); (try clear hsY); (try clear hfr); (try clear hvl)
        gi_wp2_with fail
        have hcm := World.setCell_alloc_past (w := Y1) (.cells #[.slice a1 ks.length c1, .slice a2 ks.length c2] 49) Bn0 0 (.int .i64 0) cbl
        rw [← hcm]
        obtain ⟨V1, hV⟩ : ∃ V, (Y1.alloc (.cells #[.slice a1 ks.length c1, .slice a2 ks.length c2] 49)).setCell ⟨Bn0, 0, none⟩ (.int .i64 0) = V := ⟨_, rfl⟩
        rw [hV]
        clear hcm
        have HV1 : Hid ((Mt V1 fp bt br way n1 (tid bt br V1 q1) ps1 N1 ∧ WK w V1 bt br (tid bt br V1 q1) (z + 1 + 1 + 1) (z + 1 + 1) z (z + 1) (z + 1 + 1 + 1 + 1) (.slice sa ss.length sc) ∧ Boxed V1 (z + 1 + 1 + 1 + 1) 3 (.int .i64 (aa1 : Int)) ∧ Free1 fp (tid bt br V1 q1) (z + 1 + 1 + 1 + 1) ∧ Free1 fp (tid bt br V1 q1) Bn0 ∧ ∀ k, ¬ MW bt br G1 k → (tid bt br V1 q1) k = 0) ∧ Boxed V1 Bn0 3 (.int .i64 0) ∧ Cnt w (z + 1 + 1 + 1) (z + 1 + 1) z (z + 1) (z + 1 + 1 + 1 + 1) Bn0 ∧ TL V1 (tid bt br V1 q1) Bn0 (z + 1 + 1 + 1 + 1) Y1.heap.size ks.length a1 a2 b1 b2 c1 c2 f g ∧ Turn (fun k => k = Bn0) G1 V1 ∧ (¬ MW bt br G1 Bn0 ∧ ¬ fnfoot fp Bn0) ∧ G1.heap.size ≤ V1.heap.size) := by
          obtain ⟨hR1, hR2, hsY, hfr⟩ := HR.out
          obtain ⟨hkf, hvg, hvl⟩ := HT0.out
          obtain ⟨M, K, t, ft, zX, zw⟩ := HA1.out
          have z1 := hsY.size
          have hsb : Stay Y1 (Y1.alloc (.cells #[.slice a1 ks.length c1, .slice a2 ks.length c2] 49)) := Stay.new _ _
          obtain ⟨hb0, hbf, nb⟩ := HB1.out
          have tb : Turn (fun k => k = Bn0) (Y1.alloc (.cells #[.slice a1 ks.length c1, .slice a2 ks.length c2] 49)) V1 := by rw [← hV]; exact (Turn.refl (fun k => k = Bn0) _).set rfl _ _
          have hbn : Boxed V1 Bn0 3 (.int .i64 0) := by
            have h1 : Boxed (Y1.alloc (.cells #[.slice a1 ks.length c1, .slice a2 ks.length c2] 49)) Bn0 3 _ := ((hsY.trans hsb).block _ hb0.lt).trans hb0
            rw [← hV]; exact h1.set _
          have hno : ¬ MW bt br G1 Bn0 ∧ ¬ fnfoot fp Bn0 := ⟨M.not_mw hbf.1, hbf.2⟩
          have hgap : ∀ k, G1.heap.size ≤ k → k ≤ Y1.heap.size → k ≠ Bn0 := fun k _ _ => by have := hb0.lt; omega
          have tX : Turn (fun k => k = Bn0) G1 V1 := (Turn.of_stay (hsY.trans hsb)).trans tb
          have hb := ws_begin M K t ft tX hno nb
          exact ⟨hb, hbn, nb, tl_new (fun k hk => hb.2.2.2.2.2 k (fun e => by have := (M.own k e).2.1; omega)) hsY hR1 hR2 hfr hvl hkf hvg tb hgap t.lt, tX, hno, tX.size⟩
        have hS := HQ.out _ V1 (z + 1) HV1.out.2.2.2.2.1 (fun k hk e => hk.elim (fun h => HV1.out.2.2.2.2.2.1.1 (e ▸ h)) (fun h => HV1.out.2.2.2.2.2.1.2 (e ▸ h))) HV1.out.1.2.1.l.cell
        have hbc : G1.heap[Bn0]? = none ∨ ∃ v, Boxed G1 Bn0 3 v := .inr ⟨_, HB1.out.1⟩
        have HC1 : Hid _ := hbc
        have hlw := HV1.out.1.1.t.facts
        have hrw := HV1.out.1.1.r.facts
        (try clear HR); (try clear HT0); (try clear hV); (try clear cbc); (try clear cbf); (try clear cbl); (try clear HQ); (try clear hbc); (try clear hBn0)
        obtain ⟨m1, hm⟩ : ∃ m, ks.length = m := ⟨_, rfl⟩
        rw [hm] at HV1 hS hml1
        simp only [hm]
        obtain ⟨oV1, hoV⟩ : ∃ oV, (tid bt br V1 q1) = oV := ⟨_, rfl⟩
        rw [hoV] at HV1
        clear hoV hm
        obtain ⟨B11, hB1⟩ : ∃ B, Y1.heap.size = B := ⟨_, rfl⟩
        rw [hB1] at HV1
        simp only [hB1]
        clear hB1
        refine' wpIn_rangeFunc_ownG (α := Nat) rfl (by decide) (gf := 37) (lb := #[.pointer (some ⟨z + 1, 0, none⟩)]) rfl trivial (enters_of Try.func37 (by kernel_rfl) rfl)
          hS (fun h k => h.trans k) (mw_bump hlw.2.2.2.2.1 hrw.1) (Below.refl _ _) (fun _ => rfl)
          (fun pre X => RI V1 X fp bt br way oV1 Bn0 (z + 1 + 1 + 1 + 1) (n1) aa1 pre) (fun c pre _ => c = .ret ∧ ∃ q x, pre = q ++ [x] ∧ x ≠ q.length) RI.own (fun c _ _ _ _ hs _ _ => hs) (ri_begin HV1.out.1.1 HV1.out.2.1 HV1.out.1.2.2.1) _ ?assign1 ?body1 ?done1 ?stop1
        case assign1 =>
          intro l x Y K hK
          dsimp only [encF]
          gi_wp2
          exact hK
        case stop1 =>
          rintro D c pre Y hD ⟨k, hk, hpre⟩ hSt hKD
          obtain ⟨rfl, q, x, hq, hx⟩ := hSt
          exact absurd (snoc_range hpre hq) hx
        case body1 =>
          as_aux_lemma =>
          intro l pre x Y hI hlt
          clear hS hlw hrw
          obtain ⟨⟨rfl, rfl⟩, w0, w1, k1, k2, hq⟩ := HV1.out.2.2.2.1.see hI HV1.out.1.2.1 HV1.out.2.2.1 hlt
          obtain ⟨o, ps, N, a, M, ho, tu, hbn, hbt, ha⟩ := hI
          have hmid := fun (v : Value) (Y1 : World) (h : Y.setCell ⟨Bn0, 0, none⟩ v = Y1) => ri_mid M ho tu HV1.out.1.2.1 HV1.out.1.2.2.2.1 HV1.out.1.2.2.1.lt hbt HV1.out.1.2.2.2.2.1 HV1.out.2.1.lt HV1.out.2.2.1 h
          have hnx := fun (W : World) hd => ri_next (x := x) (W := W) M ho tu hbn hbt ha HV1.out.1.2.2.2.2.1 HV1.out.1.2.2.2.1 HV1.out.2.1.lt HV1.out.1.2.2.1.lt HV1.out.2.2.1.2.2.2.2.2 (by omega) hd
          have cn := hbn.cell
          have fn := hbn.frozen
          have ln := hbn.lt
          have cq := hq.cell
          have fq := hq.frozen
          have lq := hq.lt
          have hil : (pre.length : Int) < (m1 : Int) := by omega
          have hil2 : ¬ (m1 : Int) ≤ (pre.length : Int) := by omega
          have hpw : IntKind.i64.wrap ((pre.length : Int) + 1) = (pre.length : Int) + 1 := by rw [IntKind.wrap_i64]; omega
          have haw : IntKind.i64.wrap ((a : Int) + 1) = (a : Int) + 1 := by rw [IntKind.wrap_i64]; omega
          have HMD : Hid _ := hmid
          have HNX : Hid _ := hnx
          have HX : Hid (x = pre.length → f x = f pre.length ∧ g x = g pre.length) := fun e => by rw [e]; exact ⟨rfl, rfl⟩
          clear hmid hnx M ho tu hbn hbt hq ha
          try dsimp only [encF] at ⊢
          generalize f x = fx at HX ⊢
          generalize g x = gx at HX ⊢
          generalize f pre.length = f0 at HX k1 ⊢
          generalize g pre.length = g0 at HX k2 ⊢
          by_cases hpe : fx = f0
          · subst hpe
            by_cases hke : gx = g0
            · subst hke
              gi_wp2
              obtain ⟨Y1, hY1⟩ : ∃ Y1, Y.setCell ⟨Bn0, 0, none⟩ (.int .i64 ((pre.length : Int) + 1)) = Y1 := ⟨_, rfl⟩
              rw [hY1]
              have hmid := HMD.out _ _ hY1
              have HN : Hid (∀ W, Done Y1 fp bt br way (n1 + pre.length + 1) o W → KeepsFrom V1.heap.size Y (W.setCell ⟨z + 1 + 1 + 1 + 1, 0, none⟩ (.int .i64 ((a : Int) + 1))) ∧ Keep V1.heap.size (MW bt br) Y (W.setCell ⟨z + 1 + 1 + 1 + 1, 0, none⟩ (.int .i64 ((a : Int) + 1))) ∧ RI V1 (W.setCell ⟨z + 1 + 1 + 1 + 1, 0, none⟩ (.int .i64 ((a : Int) + 1))) fp bt br way oV1 Bn0 (z + 1 + 1 + 1 + 1) (n1) aa1 (pre ++ [x])) := fun W hd => HNX.out W (by rw [hY1]; exact hd)
              have HM : Hid (Mt Y1 fp bt br way (n1 + pre.length) o ps N ∧ WK w Y1 bt br o (z + 1 + 1 + 1) (z + 1 + 1) z (z + 1) (z + 1 + 1 + 1 + 1) (.slice sa ss.length sc) ∧ Boxed Y1 (z + 1 + 1 + 1 + 1) 3 (.int .i64 (a : Int)) ∧ Free1 fp o (z + 1 + 1 + 1 + 1)) := hmid
              have cs := hmid.2.1.s.cell
              have cp := hmid.2.1.p.cell
              have ct := hmid.2.2.1.cell
              have ls := hmid.2.1.s.lt
              have lt1 := hmid.2.2.1.lt
              have lp := hmid.2.1.p.lt
              clear hmid HMD HNX hY1 w0 w1 k1 k2 cn fn ln cq fq lq hil hil2 hpw
              by_cases hal : a < ss.length
              · have hai : (a : Int) < (ss.length : Int) := by omega
                obtain rfl := HS.out.1.1 (by omega)
                have hsx := HS.out.2 _ (List.getElem_mem hal)
                have r0 := HS.out.1.2 a hal 0 _ rfl
                have r1 := HS.out.1.2 a hal 1 _ rfl
                have r2 := HS.out.1.2 a hal 2 _ rfl
                have r3 := HS.out.1.2 a hal 3 _ rfl
                have r4 := HS.out.1.2 a hal 4 _ rfl
                generalize ss[a] = sk at *
                obtain ⟨kind, on, key, val, leave⟩ := sk
                dsimp only at r0 r1 r2 r3 r4
                rw [Nat.add_zero] at r0
                have s0 := HM.out.2.1.stay.cell r0
                have s1 := HM.out.2.1.stay.cell r1
                have s2 := HM.out.2.1.stay.cell r2
                have s3 := HM.out.2.1.stay.cell r3
                have s4 := HM.out.2.1.stay.cell r4
                by_cases h8 : kind = 8
                · subst h8
                  clear hsx r0 r1 r2 r3 r4
                  gi_wp2
                  refine round_quiet_lit (F := Fence.wide) rfl (by kernel_rfl) (by kernel_rfl) (by kernel_rfl) ?_
                  repeat (first | gi_big_quiet_step (fail) | (refine BigFrame.wpQuietIn_skip (fun _ _ _ _ => True.intro) (by kernel_rfl) ?_; simp only [Act.put, List.setIfInBounds_toArray, List.set_cons_zero, List.set_cons_succ]))
                  refine wpQuietIn_nil ?_
                  intro _ hw'
                  obtain ⟨nq, hw''⟩ := hw'
                  subst hw''
                  have HD9 : Hid _ := And.intro (show Boxed (Y1.drewN nq) _ _ _ from HM.out.2.2.1) (HM.out.1.same (Stay.drewN Y1 nq))
                  have c9 := HD9.out.1.cell
                  have f9 := HD9.out.1.frozen
                  have l9 := HD9.out.1.lt
                  gi_wp2
                  exact HN.out _ HD9.out.2
                · obtain ⟨i9, hask⟩ := (HM.out.2.1.turn (S := fun _ => False) (Turn.of_stay (Stay.drew Y1)) (fun _ e _ => e.elim) (fun _ _ h => h)).ask hsx
                  have hstep := step_8 (HM.out.1.stay (Stay.drew Y1)) hask h8
                  clear hask hsx
                  gi_wp2
                  have hSS : (fun W : World => W.cell? ⟨z + 1 + 1 + 1 + 1, 0, none⟩ = some (.int .i64 (a : Int)) ∧ W.cell? ⟨w.heap.size, 0, none⟩ = some (.slice (some ⟨sb, so, none⟩) ss.length sc) ∧ W.cell? ⟨z + 1 + 1 + 1, 0, none⟩ = some (.pointer (some ⟨z + 1 + 1, 0, none⟩)) ∧ W.cell? ⟨sb, so + a * 5, none⟩ = some (.int .i64 kind) ∧ W.cell? ⟨sb, so + a * 5 + 1, none⟩ = some (.int .i64 on) ∧ W.cell? ⟨sb, so + a * 5 + 2, none⟩ = some (.int .i64 key) ∧ W.cell? ⟨sb, so + a * 5 + 3, none⟩ = some (.int .i64 val) ∧ W.cell? ⟨sb, so + a * 5 + 4, none⟩ = some (.int .i64 leave)) Y1.drew := ⟨ct, cs, cp, s0, s1, s2, s3, s4⟩
                  clear ct cs cp s0 s1 s2 s3 s4
                  refine reg39 (R := fun W => Done Y1 fp bt br way (n1 + pre.length + 1) o W ∧ Boxed W (z + 1 + 1 + 1 + 1) 3 (.int .i64 (a : Int)) ∧ WK w W bt br o (z + 1 + 1 + 1) (z + 1 + 1) z (z + 1) (z + 1 + 1 + 1 + 1) (.slice (some ⟨sb, so, none⟩) ss.length sc)) hai h8 (by rintro ⟨a, w, h⟩; exact h) (fun _ _ _ _ _ h => h) hSS (hstep.mono ?_) (fun W hR => ⟨hR.2.1.cell, hR.2.2.s.cell, hR.2.2.p.cell, hR.2.2.stay.cell r0, hR.2.2.stay.cell r1, hR.2.2.stay.cell r2, hR.2.2.stay.cell r3, hR.2.2.stay.cell r4⟩) ?_
                  · rintro e9 W9 ⟨rfl, hd0⟩
                    obtain ⟨K9, b9, hd⟩ := done_see HM.out.1 HM.out.2.1 HM.out.2.2.1 HM.out.2.2.2 (Stay.drew Y1) hd0
                    exact ⟨rfl, hd, b9, K9⟩
                  intro z0 z1 z2 z3 z4 z5 z6 z7 z8 z9 z10 z11 z12 z13 z14 z15 z16 z17 z18 z19 W9 hR
                  have HD9 : Hid _ := And.intro hR.2.1 hR.1
                  clear hR hSS hstep r0 r1 r2 r3 r4
                  have c9 := HD9.out.1.cell
                  have f9 := HD9.out.1.frozen
                  have l9 := HD9.out.1.lt
                  gi_wp2
                  exact HN.out _ HD9.out.2
              · have hai : ¬ (a : Int) < (ss.length : Int) := by omega
                gi_wp2
                refine round_quiet_lit (F := Fence.wide) rfl (by kernel_rfl) (by kernel_rfl) (by kernel_rfl) ?_
                repeat (first | gi_big_quiet_step (fail) | (refine BigFrame.wpQuietIn_skip (fun _ _ _ _ => True.intro) (by kernel_rfl) ?_; simp only [Act.put, List.setIfInBounds_toArray, List.set_cons_zero, List.set_cons_succ]))
                refine wpQuietIn_nil ?_
                intro _ hw'
                obtain ⟨nq, hw''⟩ := hw'
                subst hw''
                have HD9 : Hid _ := And.intro (show Boxed (Y1.drewN nq) _ _ _ from HM.out.2.2.1) (HM.out.1.same (Stay.drewN Y1 nq))
                have c9 := HD9.out.1.cell
                have f9 := HD9.out.1.frozen
                have l9 := HD9.out.1.lt
                gi_wp2
                exact HN.out _ HD9.out.2
            · gi_wp2
              exact ⟨set_from _ _ _, rfl, pre, x, rfl, fun e => hke (HX.out e).2⟩
          · gi_wp2
            exact ⟨set_from _ _ _, rfl, pre, x, rfl, fun e => hpe (HX.out e).1⟩
        case done1 =>
          rintro D1 ys G2 hDl rfl hI hKD
          clear hS hlw hrw
          obtain ⟨q2, ps2, N2, aa2, M, K, t, ft, bn, fnn, ha2⟩ := ri_end hI HV1.out.1.2.1 HV1.out.1.2.2.2.1 HV1.out.1.2.2.2.2.1 HV1.out.1.2.2.1.lt HV1.out.2.1.lt HV1.out.2.2.1
          have w0 := HV1.out.2.2.2.1.last hI
          have HD2 : Hid (Defs w G2 [D1, D0]) := defs_next HD1.out HA1.out.2.1.stay HA1.out.1 HV1.out.2.2.2.2.1 HV1.out.2.2.2.2.2.1.1 HC1.out HV1.out.1.1 HV1.out.1.2.2.2.2.2 HV1.out.2.1 HV1.out.1.2.2.1 hI hDl hKD
          rw [List.length_range] at M bn ha2
          obtain ⟨n2, hn2e⟩ : ∃ n, n1 + m1 = n := ⟨_, rfl⟩
          rw [hn2e] at M
          have hn2 : n2 ≤ 4194304 := by omega
          have ha2n : aa2 ≤ n2 := by omega
          have HA2 : Hid (Mt G2 fp bt br way n2 q2 ps2 N2 ∧ WK w G2 bt br q2 (z + 1 + 1 + 1) (z + 1 + 1) z (z + 1) (z + 1 + 1 + 1 + 1) (.slice sa ss.length sc) ∧ Boxed G2 (z + 1 + 1 + 1 + 1) 3 (.int .i64 (aa2 : Int)) ∧ Free1 fp q2 (z + 1 + 1 + 1 + 1) ∧ z + 5 ≤ G2.heap.size ∧ w.heap.size + 2 ≤ z) := ⟨M, K, t, ft, by have := t.lt; omega, HA1.out.2.2.2.2.2⟩
          have cn := bn.cell
          (try clear M); (try clear K); (try clear t); (try clear ft); (try clear bn); (try clear fnn); (try clear hI); (try clear hKD); (try clear hDl); (try clear HV1); (try clear HA1); (try clear HD1); (try clear HC1); (try clear HB1); (try clear hn2e); (try clear ha2); (try clear hn1); (try clear ha1n); (try clear hml1)
          gi_wp2_with fail
          (try clear cn); (try clear w0)
          rw [roundsIn_succ]
          gi_wp2_with fail
          obtain ⟨f, g, ks, vs, hcall, hvl, hml2, hkf, hvg, hseq⟩ := teld_all HA2.out.1
          have HT0 : Hid ((∀ i (h : i < ks.length), ks[i] = f i) ∧ (∀ i (h : i < vs.length), vs[i] = g i) ∧ vs.length = ks.length) := ⟨hkf, hvg, hvl⟩
          have HQ : Hid _ := hseq
          have hcl := hcall G2 (Stay.refl _)
          (try clear hkf); (try clear hvg); (try clear hseq); (try clear hcall)
          refine ⟨trivial, ?_⟩
          refine CallsIn.mono (callsIn_wide.2 hcl) ?_
          clear hcl
          rintro e9 Y2 ⟨a1, b1, c1, a2, b2, c2, rfl, hR1, hR2, hsY, hfr⟩
          rw [hvl]
          have HR : Hid _ := And.intro hR1 (And.intro hR2 (And.intro hsY hfr))
          (try clear hR1); (try clear hR2); (try clear hsY); (try clear hfr); (try clear hvl)
          gi_wp2_with fail
          obtain ⟨V2, hV⟩ : ∃ V, (Y2.alloc (.cells #[.slice a1 ks.length c1, .slice a2 ks.length c2] 49)).alloc (.cells #[.int .i64 0] 3) = V := ⟨_, rfl⟩
          obtain ⟨Bn1, hBn1⟩ : ∃ B, Y2.heap.size + 1 = B := ⟨_, rfl⟩
          rw [hV]
          simp only [hBn1]
          have HV2 : Hid ((Mt V2 fp bt br way n2 (tid bt br V2 q2) ps2 N2 ∧ WK w V2 bt br (tid bt br V2 q2) (z + 1 + 1 + 1) (z + 1 + 1) z (z + 1) (z + 1 + 1 + 1 + 1) (.slice sa ss.length sc) ∧ Boxed V2 (z + 1 + 1 + 1 + 1) 3 (.int .i64 (aa2 : Int)) ∧ Free1 fp (tid bt br V2 q2) (z + 1 + 1 + 1 + 1) ∧ Free1 fp (tid bt br V2 q2) Bn1 ∧ ∀ k, ¬ MW bt br G2 k → (tid bt br V2 q2) k = 0) ∧ Boxed V2 Bn1 3 (.int .i64 0) ∧ Cnt w (z + 1 + 1 + 1) (z + 1 + 1) z (z + 1) (z + 1 + 1 + 1 + 1) Bn1 ∧ TL V2 (tid bt br V2 q2) Bn1 (z + 1 + 1 + 1 + 1) Y2.heap.size ks.length a1 a2 b1 b2 c1 c2 f g ∧ Turn (fun k => k = Bn1) G2 V2 ∧ (¬ MW bt br G2 Bn1 ∧ ¬ fnfoot fp Bn1) ∧ G2.heap.size ≤ V2.heap.size) := by
            obtain ⟨hR1, hR2, hsY, hfr⟩ := HR.out
            obtain ⟨hkf, hvg, hvl⟩ := HT0.out
            obtain ⟨M, K, t, ft, zX, zw⟩ := HA2.out
            have z1 := hsY.size
            have hsb : Stay Y2 (Y2.alloc (.cells #[.slice a1 ks.length c1, .slice a2 ks.length c2] 49)) := Stay.new _ _
            have tb : Turn (fun k => k = Bn1) (Y2.alloc (.cells #[.slice a1 ks.length c1, .slice a2 ks.length c2] 49)) V2 := by rw [← hV]; exact Turn.of_stay (Stay.new _ _)
            have hbn : Boxed V2 Bn1 3 (.int .i64 0) := by
              have := Boxed.new (Y2.alloc (.cells #[.slice a1 ks.length c1, .slice a2 ks.length c2] 49)) 3 (.int .i64 0)
              rw [World.size_alloc, hBn1] at this
              rw [← hV]; exact this
            have nb : Cnt w (z + 1 + 1 + 1) (z + 1 + 1) z (z + 1) (z + 1 + 1 + 1 + 1) Bn1 := by unfold Cnt; omega
            have hno : ¬ MW bt br G2 Bn1 ∧ ¬ fnfoot fp Bn1 := ⟨fun e => by have := (M.own _ e).2.1; omega, fun e => by have := M.t.facts.2.2.2.2.2.2.lt _ e; omega⟩
            have hgap : ∀ k, G2.heap.size ≤ k → k ≤ Y2.heap.size → k ≠ Bn1 := fun k _ _ => by omega
            have tX : Turn (fun k => k = Bn1) G2 V2 := (Turn.of_stay (hsY.trans hsb)).trans tb
            have hb := ws_begin M K t ft tX hno nb
            exact ⟨hb, hbn, nb, tl_new (fun k hk => hb.2.2.2.2.2 k (fun e => by have := (M.own k e).2.1; omega)) hsY hR1 hR2 hfr hvl hkf hvg tb hgap t.lt, tX, hno, tX.size⟩
          have hS := HQ.out _ V2 (z) HV2.out.2.2.2.2.1 (fun k hk e => hk.elim (fun h => HV2.out.2.2.2.2.2.1.1 (e ▸ h)) (fun h => HV2.out.2.2.2.2.2.1.2 (e ▸ h))) HV2.out.1.2.1.a.cell
          have hbc : G2.heap[Bn1]? = none ∨ ∃ v, Boxed G2 Bn1 3 v := .inl (Array.getElem?_eq_none (by have := HR.out.2.2.1.size; omega))
          have HC2 : Hid _ := hbc
          have hlw := HV2.out.1.1.t.facts
          have hrw := HV2.out.1.1.r.facts
          (try clear HR); (try clear HT0); (try clear hV); (try clear cbc); (try clear cbf); (try clear cbl); (try clear HQ); (try clear hbc); (try clear hBn1)
          obtain ⟨m2, hm⟩ : ∃ m, ks.length = m := ⟨_, rfl⟩
          rw [hm] at HV2 hS hml2
          simp only [hm]
          obtain ⟨oV2, hoV⟩ : ∃ oV, (tid bt br V2 q2) = oV := ⟨_, rfl⟩
          rw [hoV] at HV2
          clear hoV hm
          obtain ⟨B12, hB1⟩ : ∃ B, Y2.heap.size = B := ⟨_, rfl⟩
          rw [hB1] at HV2
          simp only [hB1]
          clear hB1
          refine' wpIn_rangeFunc_ownG (α := Nat) rfl (by decide) (gf := 35) (lb := #[.pointer (some ⟨z, 0, none⟩)]) rfl trivial (enters_of Try.func35 (by kernel_rfl) rfl)
            hS (fun h k => h.trans k) (mw_bump hlw.2.2.2.2.1 hrw.1) (Below.refl _ _) (fun _ => rfl)
            (fun pre X => RI V2 X fp bt br way oV2 Bn1 (z + 1 + 1 + 1 + 1) (n2) aa2 pre) (fun c pre _ => c = .ret ∧ ∃ q x, pre = q ++ [x] ∧ x ≠ q.length) RI.own (fun c _ _ _ _ hs _ _ => hs) (ri_begin HV2.out.1.1 HV2.out.2.1 HV2.out.1.2.2.1) _ ?assign2 ?body2 ?done2 ?stop2
          case assign2 =>
            intro l x Y K hK
            dsimp only [encF]
            gi_wp2
            exact hK
          case stop2 =>
            rintro D c pre Y hD ⟨k, hk, hpre⟩ hSt hKD
            obtain ⟨rfl, q, x, hq, hx⟩ := hSt
            exact absurd (snoc_range hpre hq) hx
          case body2 =>
            as_aux_lemma =>
            intro l pre x Y hI hlt
            clear hS hlw hrw
            obtain ⟨⟨rfl, rfl⟩, w0, w1, k1, k2, hq⟩ := HV2.out.2.2.2.1.see hI HV2.out.1.2.1 HV2.out.2.2.1 hlt
            obtain ⟨o, ps, N, a, M, ho, tu, hbn, hbt, ha⟩ := hI
            have hmid := fun (v : Value) (Y1 : World) (h : Y.setCell ⟨Bn1, 0, none⟩ v = Y1) => ri_mid M ho tu HV2.out.1.2.1 HV2.out.1.2.2.2.1 HV2.out.1.2.2.1.lt hbt HV2.out.1.2.2.2.2.1 HV2.out.2.1.lt HV2.out.2.2.1 h
            have hnx := fun (W : World) hd => ri_next (x := x) (W := W) M ho tu hbn hbt ha HV2.out.1.2.2.2.2.1 HV2.out.1.2.2.2.1 HV2.out.2.1.lt HV2.out.1.2.2.1.lt HV2.out.2.2.1.2.2.2.2.2 (by omega) hd
            have cn := hbn.cell
            have fn := hbn.frozen
            have ln := hbn.lt
            have cq := hq.cell
            have fq := hq.frozen
            have lq := hq.lt
            have hil : (pre.length : Int) < (m2 : Int) := by omega
            have hil2 : ¬ (m2 : Int) ≤ (pre.length : Int) := by omega
            have hpw : IntKind.i64.wrap ((pre.length : Int) + 1) = (pre.length : Int) + 1 := by rw [IntKind.wrap_i64]; omega
            have haw : IntKind.i64.wrap ((a : Int) + 1) = (a : Int) + 1 := by rw [IntKind.wrap_i64]; omega
            have HMD : Hid _ := hmid
            have HNX : Hid _ := hnx
            have HX : Hid (x = pre.length → f x = f pre.length ∧ g x = g pre.length) := fun e => by rw [e]; exact ⟨rfl, rfl⟩
            clear hmid hnx M ho tu hbn hbt hq ha
            try dsimp only [encF] at ⊢
            generalize f x = fx at HX ⊢
            generalize g x = gx at HX ⊢
            generalize f pre.length = f0 at HX k1 ⊢
            generalize g pre.length = g0 at HX k2 ⊢
            by_cases hpe : fx = f0
            · subst hpe
              by_cases hke : gx = g0
              · subst hke
                gi_wp2
                obtain ⟨Y1, hY1⟩ : ∃ Y1, Y.setCell ⟨Bn1, 0, none⟩ (.int .i64 ((pre.length : Int) + 1)) = Y1 := ⟨_, rfl⟩
                rw [hY1]
                have hmid := HMD.out _ _ hY1
                have HN : Hid (∀ W, Done Y1 fp bt br way (n2 + pre.length + 1) o W → KeepsFrom V2.heap.size Y (W.setCell ⟨z + 1 + 1 + 1 + 1, 0, none⟩ (.int .i64 ((a : Int) + 1))) ∧ Keep V2.heap.size (MW bt br) Y (W.setCell ⟨z + 1 + 1 + 1 + 1, 0, none⟩ (.int .i64 ((a : Int) + 1))) ∧ RI V2 (W.setCell ⟨z + 1 + 1 + 1 + 1, 0, none⟩ (.int .i64 ((a : Int) + 1))) fp bt br way oV2 Bn1 (z + 1 + 1 + 1 + 1) (n2) aa2 (pre ++ [x])) := fun W hd => HNX.out W (by rw [hY1]; exact hd)
                have HM : Hid (Mt Y1 fp bt br way (n2 + pre.length) o ps N ∧ WK w Y1 bt br o (z + 1 + 1 + 1) (z + 1 + 1) z (z + 1) (z + 1 + 1 + 1 + 1) (.slice sa ss.length sc) ∧ Boxed Y1 (z + 1 + 1 + 1 + 1) 3 (.int .i64 (a : Int)) ∧ Free1 fp o (z + 1 + 1 + 1 + 1)) := hmid
                have cs := hmid.2.1.s.cell
                have cp := hmid.2.1.p.cell
                have ct := hmid.2.2.1.cell
                have ls := hmid.2.1.s.lt
                have lt1 := hmid.2.2.1.lt
                have lp := hmid.2.1.p.lt
                clear hmid HMD HNX hY1 w0 w1 k1 k2 cn fn ln cq fq lq hil hil2 hpw
                by_cases hal : a < ss.length
                · have hai : (a : Int) < (ss.length : Int) := by omega
                  obtain rfl := HS.out.1.1 (by omega)
                  have hsx := HS.out.2 _ (List.getElem_mem hal)
                  have r0 := HS.out.1.2 a hal 0 _ rfl
                  have r1 := HS.out.1.2 a hal 1 _ rfl
                  have r2 := HS.out.1.2 a hal 2 _ rfl
                  have r3 := HS.out.1.2 a hal 3 _ rfl
                  have r4 := HS.out.1.2 a hal 4 _ rfl
                  generalize ss[a] = sk at *
                  obtain ⟨kind, on, key, val, leave⟩ := sk
                  dsimp only at r0 r1 r2 r3 r4
                  rw [Nat.add_zero] at r0
                  have s0 := HM.out.2.1.stay.cell r0
                  have s1 := HM.out.2.1.stay.cell r1
                  have s2 := HM.out.2.1.stay.cell r2
                  have s3 := HM.out.2.1.stay.cell r3
                  have s4 := HM.out.2.1.stay.cell r4
                  by_cases h8 : kind = 8
                  · subst h8
                    clear hsx r0 r1 r2 r3 r4
                    gi_wp2
                    refine round_quiet_lit (F := Fence.wide) rfl (by kernel_rfl) (by kernel_rfl) (by kernel_rfl) ?_
                    repeat (first | gi_big_quiet_step (fail) | (refine BigFrame.wpQuietIn_skip (fun _ _ _ _ => True.intro) (by kernel_rfl) ?_; simp only [Act.put, List.setIfInBounds_toArray, List.set_cons_zero, List.set_cons_succ]))
                    refine wpQuietIn_nil ?_
                    intro _ hw'
                    obtain ⟨nq, hw''⟩ := hw'
                    subst hw''
                    have HD9 : Hid _ := And.intro (show Boxed (Y1.drewN nq) _ _ _ from HM.out.2.2.1) (HM.out.1.same (Stay.drewN Y1 nq))
                    have c9 := HD9.out.1.cell
                    have f9 := HD9.out.1.frozen
                    have l9 := HD9.out.1.lt
                    gi_wp2
                    exact HN.out _ HD9.out.2
                  · obtain ⟨i9, hask⟩ := (HM.out.2.1.turn (S := fun _ => False) (Turn.of_stay (Stay.drew Y1)) (fun _ e _ => e.elim) (fun _ _ h => h)).ask hsx
                    have hstep := step_8 (HM.out.1.stay (Stay.drew Y1)) hask h8
                    clear hask hsx
                    gi_wp2
                    have hSS : (fun W : World => W.cell? ⟨z + 1 + 1 + 1 + 1, 0, none⟩ = some (.int .i64 (a : Int)) ∧ W.cell? ⟨w.heap.size, 0, none⟩ = some (.slice (some ⟨sb, so, none⟩) ss.length sc) ∧ W.cell? ⟨z + 1 + 1 + 1, 0, none⟩ = some (.pointer (some ⟨z + 1 + 1, 0, none⟩)) ∧ W.cell? ⟨sb, so + a * 5, none⟩ = some (.int .i64 kind) ∧ W.cell? ⟨sb, so + a * 5 + 1, none⟩ = some (.int .i64 on) ∧ W.cell? ⟨sb, so + a * 5 + 2, none⟩ = some (.int .i64 key) ∧ W.cell? ⟨sb, so + a * 5 + 3, none⟩ = some (.int .i64 val) ∧ W.cell? ⟨sb, so + a * 5 + 4, none⟩ = some (.int .i64 leave)) Y1.drew := ⟨ct, cs, cp, s0, s1, s2, s3, s4⟩
                    clear ct cs cp s0 s1 s2 s3 s4
                    refine reg26 (R := fun W => Done Y1 fp bt br way (n2 + pre.length + 1) o W ∧ Boxed W (z + 1 + 1 + 1 + 1) 3 (.int .i64 (a : Int)) ∧ WK w W bt br o (z + 1 + 1 + 1) (z + 1 + 1) z (z + 1) (z + 1 + 1 + 1 + 1) (.slice (some ⟨sb, so, none⟩) ss.length sc)) hai h8 (by rintro ⟨a, w, h⟩; exact h) (fun _ _ _ _ _ h => h) hSS (hstep.mono ?_) (fun W hR => ⟨hR.2.1.cell, hR.2.2.s.cell, hR.2.2.p.cell, hR.2.2.stay.cell r0, hR.2.2.stay.cell r1, hR.2.2.stay.cell r2, hR.2.2.stay.cell r3, hR.2.2.stay.cell r4⟩) ?_
                    · rintro e9 W9 ⟨rfl, hd0⟩
                      obtain ⟨K9, b9, hd⟩ := done_see HM.out.1 HM.out.2.1 HM.out.2.2.1 HM.out.2.2.2 (Stay.drew Y1) hd0
                      exact ⟨rfl, hd, b9, K9⟩
                    intro z0 z1 z2 z3 z4 z5 z6 z7 z8 z9 z10 z11 z12 z13 z14 z15 z16 z17 z18 z19 W9 hR
                    have HD9 : Hid _ := And.intro hR.2.1 hR.1
                    clear hR hSS hstep r0 r1 r2 r3 r4
                    have c9 := HD9.out.1.cell
                    have f9 := HD9.out.1.frozen
                    have l9 := HD9.out.1.lt
                    gi_wp2
                    exact HN.out _ HD9.out.2
                · have hai : ¬ (a : Int) < (ss.length : Int) := by omega
                  gi_wp2
                  refine round_quiet_lit (F := Fence.wide) rfl (by kernel_rfl) (by kernel_rfl) (by kernel_rfl) ?_
                  repeat (first | gi_big_quiet_step (fail) | (refine BigFrame.wpQuietIn_skip (fun _ _ _ _ => True.intro) (by kernel_rfl) ?_; simp only [Act.put, List.setIfInBounds_toArray, List.set_cons_zero, List.set_cons_succ]))
                  refine wpQuietIn_nil ?_
                  intro _ hw'
                  obtain ⟨nq, hw''⟩ := hw'
                  subst hw''
                  have HD9 : Hid _ := And.intro (show Boxed (Y1.drewN nq) _ _ _ from HM.out.2.2.1) (HM.out.1.same (Stay.drewN Y1 nq))
                  have c9 := HD9.out.1.cell
                  have f9 := HD9.out.1.frozen
                  have l9 := HD9.out.1.lt
                  gi_wp2
                  exact HN.out _ HD9.out.2
              · gi_wp2
                exact ⟨set_from _ _ _, rfl, pre, x, rfl, fun e => hke (HX.out e).2⟩
            · gi_wp2
              exact ⟨set_from _ _ _, rfl, pre, x, rfl, fun e => hpe (HX.out e).1⟩
          case done2 =>
            rintro D2 ys G3 hDl rfl hI hKD
            clear hS hlw hrw
            obtain ⟨q3, ps3, N3, aa3, M, K, t, ft, bn, fnn, ha3⟩ := ri_end hI HV2.out.1.2.1 HV2.out.1.2.2.2.1 HV2.out.1.2.2.2.2.1 HV2.out.1.2.2.1.lt HV2.out.2.1.lt HV2.out.2.2.1
            have w0 := HV2.out.2.2.2.1.last hI
            have HD3 : Hid (Defs w G3 [D2, D1, D0]) := defs_next HD2.out HA2.out.2.1.stay HA2.out.1 HV2.out.2.2.2.2.1 HV2.out.2.2.2.2.2.1.1 HC2.out HV2.out.1.1 HV2.out.1.2.2.2.2.2 HV2.out.2.1 HV2.out.1.2.2.1 hI hDl hKD
            rw [List.length_range] at M bn ha3
            obtain ⟨n3, hn3e⟩ : ∃ n, n2 + m2 = n := ⟨_, rfl⟩
            rw [hn3e] at M
            have hn3 : n3 ≤ 8388608 := by omega
            have ha3n : aa3 ≤ n3 := by omega
            have HA3 : Hid (Mt G3 fp bt br way n3 q3 ps3 N3 ∧ WK w G3 bt br q3 (z + 1 + 1 + 1) (z + 1 + 1) z (z + 1) (z + 1 + 1 + 1 + 1) (.slice sa ss.length sc) ∧ Boxed G3 (z + 1 + 1 + 1 + 1) 3 (.int .i64 (aa3 : Int)) ∧ Free1 fp q3 (z + 1 + 1 + 1 + 1) ∧ z + 5 ≤ G3.heap.size ∧ w.heap.size + 2 ≤ z) := ⟨M, K, t, ft, by have := t.lt; omega, HA2.out.2.2.2.2.2⟩
            have cn := bn.cell
            have HB3 : Hid (Boxed G3 Bn1 3 (.int .i64 (m2 : Int)) ∧ Free1 fp q3 Bn1 ∧ Cnt w (z + 1 + 1 + 1) (z + 1 + 1) z (z + 1) (z + 1 + 1 + 1 + 1) Bn1) := ⟨bn, fnn, HV2.out.2.2.1⟩
            (try clear M); (try clear K); (try clear t); (try clear ft); (try clear bn); (try clear fnn); (try clear hI); (try clear hKD); (try clear hDl); (try clear HV2); (try clear HA2); (try clear HD2); (try clear HC2); (try clear HB2); (try clear hn3e); (try clear ha3); (try clear hn2); (try clear ha2n); (try clear hml2)
            gi_wp2_with fail
            (try clear cn); (try clear w0)
            obtain ⟨f, g, ks, vs, hcall, hvl, hml3, hkf, hvg, hseq⟩ := teld_lay HA3.out.1
            have HT0 : Hid ((∀ i (h : i < ks.length), ks[i] = f i) ∧ (∀ i (h : i < vs.length), vs[i] = g i) ∧ vs.length = ks.length) := ⟨hkf, hvg, hvl⟩
            have HQ : Hid _ := hseq
            have hcl := hcall G3 (Stay.refl _)
            (try clear hkf); (try clear hvg); (try clear hseq); (try clear hcall)
            refine ⟨trivial, ?_⟩
            refine CallsIn.mono (callsIn_wide.2 hcl) ?_
            clear hcl
            rintro e9 Y3 ⟨a1, b1, c1, a2, b2, c2, rfl, hR1, hR2, hsY, hfr⟩
            rw [hvl]
            have HR : Hid _ := And.intro hR1 (And.intro hR2 (And.intro hsY hfr))
            have cb : Boxed Y3 Bn1 3 _ := (hsY.block _ HB3.out.1.lt).trans HB3.out.1
            have cbc := cb.cell
            have cbf := cb.frozen
            have cbl := cb.lt
            clear cb
            (try clear hR1); (try clear hR2); (try clear hsY); (try clear hfr); (try clear hvl)
            gi_wp2_with fail
            have hcm := World.setCell_alloc_past (w := Y3) (.cells #[.slice a1 ks.length c1, .slice a2 ks.length c2] 49) Bn1 0 (.int .i64 0) cbl
            rw [← hcm]
            obtain ⟨V3, hV⟩ : ∃ V, (Y3.alloc (.cells #[.slice a1 ks.length c1, .slice a2 ks.length c2] 49)).setCell ⟨Bn1, 0, none⟩ (.int .i64 0) = V := ⟨_, rfl⟩
            rw [hV]
            clear hcm
            have HV3 : Hid ((Mt V3 fp bt br way n3 (tid bt br V3 q3) ps3 N3 ∧ WK w V3 bt br (tid bt br V3 q3) (z + 1 + 1 + 1) (z + 1 + 1) z (z + 1) (z + 1 + 1 + 1 + 1) (.slice sa ss.length sc) ∧ Boxed V3 (z + 1 + 1 + 1 + 1) 3 (.int .i64 (aa3 : Int)) ∧ Free1 fp (tid bt br V3 q3) (z + 1 + 1 + 1 + 1) ∧ Free1 fp (tid bt br V3 q3) Bn1 ∧ ∀ k, ¬ MW bt br G3 k → (tid bt br V3 q3) k = 0) ∧ Boxed V3 Bn1 3 (.int .i64 0) ∧ Cnt w (z + 1 + 1 + 1) (z + 1 + 1) z (z + 1) (z + 1 + 1 + 1 + 1) Bn1 ∧ TL V3 (tid bt br V3 q3) Bn1 (z + 1 + 1 + 1 + 1) Y3.heap.size ks.length a1 a2 b1 b2 c1 c2 f g ∧ Turn (fun k => k = Bn1) G3 V3 ∧ (¬ MW bt br G3 Bn1 ∧ ¬ fnfoot fp Bn1) ∧ G3.heap.size ≤ V3.heap.size) := by
              obtain ⟨hR1, hR2, hsY, hfr⟩ := HR.out
              obtain ⟨hkf, hvg, hvl⟩ := HT0.out
              obtain ⟨M, K, t, ft, zX, zw⟩ := HA3.out
              have z1 := hsY.size
              have hsb : Stay Y3 (Y3.alloc (.cells #[.slice a1 ks.length c1, .slice a2 ks.length c2] 49)) := Stay.new _ _
              obtain ⟨hb0, hbf, nb⟩ := HB3.out
              have tb : Turn (fun k => k = Bn1) (Y3.alloc (.cells #[.slice a1 ks.length c1, .slice a2 ks.length c2] 49)) V3 := by rw [← hV]; exact (Turn.refl (fun k => k = Bn1) _).set rfl _ _
              have hbn : Boxed V3 Bn1 3 (.int .i64 0) := by
                have h1 : Boxed (Y3.alloc (.cells #[.slice a1 ks.length c1, .slice a2 ks.length c2] 49)) Bn1 3 _ := ((hsY.trans hsb).block _ hb0.lt).trans hb0
                rw [← hV]; exact h1.set _
              have hno : ¬ MW bt br G3 Bn1 ∧ ¬ fnfoot fp Bn1 := ⟨M.not_mw hbf.1, hbf.2⟩
              have hgap : ∀ k, G3.heap.size ≤ k → k ≤ Y3.heap.size → k ≠ Bn1 := fun k _ _ => by have := hb0.lt; omega
              have tX : Turn (fun k => k = Bn1) G3 V3 := (Turn.of_stay (hsY.trans hsb)).trans tb
              have hb := ws_begin M K t ft tX hno nb
              exact ⟨hb, hbn, nb, tl_new (fun k hk => hb.2.2.2.2.2 k (fun e => by have := (M.own k e).2.1; omega)) hsY hR1 hR2 hfr hvl hkf hvg tb hgap t.lt, tX, hno, tX.size⟩
            have hS := HQ.out _ V3 (z + 1) HV3.out.2.2.2.2.1 (fun k hk e => hk.elim (fun h => HV3.out.2.2.2.2.2.1.1 (e ▸ h)) (fun h => HV3.out.2.2.2.2.2.1.2 (e ▸ h))) HV3.out.1.2.1.l.cell
            have hbc : G3.heap[Bn1]? = none ∨ ∃ v, Boxed G3 Bn1 3 v := .inr ⟨_, HB3.out.1⟩
            have HC3 : Hid _ := hbc
            have hlw := HV3.out.1.1.t.facts
            have hrw := HV3.out.1.1.r.facts
            (try clear HR); (try clear HT0); (try clear hV); (try clear cbc); (try clear cbf); (try clear cbl); (try clear HQ); (try clear hbc); (try clear hBn1)
            obtain ⟨m3, hm⟩ : ∃ m, ks.length = m := ⟨_, rfl⟩
            rw [hm] at HV3 hS hml3
            simp only [hm]
            obtain ⟨oV3, hoV⟩ : ∃ oV, (tid bt br V3 q3) = oV := ⟨_, rfl⟩
            rw [hoV] at HV3
            clear hoV hm
            obtain ⟨B13, hB1⟩ : ∃ B, Y3.heap.size = B := ⟨_, rfl⟩
            rw [hB1] at HV3
            simp only [hB1]
            clear hB1
            refine' wpIn_rangeFunc_ownG (α := Nat) rfl (by decide) (gf := 37) (lb := #[.pointer (some ⟨z + 1, 0, none⟩)]) rfl trivial (enters_of Try.func37 (by kernel_rfl) rfl)
              hS (fun h k => h.trans k) (mw_bump hlw.2.2.2.2.1 hrw.1) (Below.refl _ _) (fun _ => rfl)
              (fun pre X => RI V3 X fp bt br way oV3 Bn1 (z + 1 + 1 + 1 + 1) (n3) aa3 pre) (fun c pre _ => c = .ret ∧ ∃ q x, pre = q ++ [x] ∧ x ≠ q.length) RI.own (fun c _ _ _ _ hs _ _ => hs) (ri_begin HV3.out.1.1 HV3.out.2.1 HV3.out.1.2.2.1) _ ?assign3 ?body3 ?done3 ?stop3
            case assign3 =>
              intro l x Y K hK
              dsimp only [encF]
              gi_wp2
              exact hK
            case stop3 =>
              rintro D c pre Y hD ⟨k, hk, hpre⟩ hSt hKD
              obtain ⟨rfl, q, x, hq, hx⟩ := hSt
              exact absurd (snoc_range hpre hq) hx
            case body3 =>
              as_aux_lemma =>
              intro l pre x Y hI hlt
              clear hS hlw hrw
              obtain ⟨⟨rfl, rfl⟩, w0, w1, k1, k2, hq⟩ := HV3.out.2.2.2.1.see hI HV3.out.1.2.1 HV3.out.2.2.1 hlt
              obtain ⟨o, ps, N, a, M, ho, tu, hbn, hbt, ha⟩ := hI
              have hmid := fun (v : Value) (Y1 : World) (h : Y.setCell ⟨Bn1, 0, none⟩ v = Y1) => ri_mid M ho tu HV3.out.1.2.1 HV3.out.1.2.2.2.1 HV3.out.1.2.2.1.lt hbt HV3.out.1.2.2.2.2.1 HV3.out.2.1.lt HV3.out.2.2.1 h
              have hnx := fun (W : World) hd => ri_next (x := x) (W := W) M ho tu hbn hbt ha HV3.out.1.2.2.2.2.1 HV3.out.1.2.2.2.1 HV3.out.2.1.lt HV3.out.1.2.2.1.lt HV3.out.2.2.1.2.2.2.2.2 (by omega) hd
              have cn := hbn.cell
              have fn := hbn.frozen
              have ln := hbn.lt
              have cq := hq.cell
              have fq := hq.frozen
              have lq := hq.lt
              have hil : (pre.length : Int) < (m3 : Int) := by omega
              have hil2 : ¬ (m3 : Int) ≤ (pre.length : Int) := by omega
              have hpw : IntKind.i64.wrap ((pre.length : Int) + 1) = (pre.length : Int) + 1 := by rw [IntKind.wrap_i64]; omega
              have haw : IntKind.i64.wrap ((a : Int) + 1) = (a : Int) + 1 := by rw [IntKind.wrap_i64]; omega
              have HMD : Hid _ := hmid
              have HNX : Hid _ := hnx
              have HX : Hid (x = pre.length → f x = f pre.length ∧ g x = g pre.length) := fun e => by rw [e]; exact ⟨rfl, rfl⟩
              clear hmid hnx M ho tu hbn hbt hq ha
              try dsimp only [encF] at ⊢
              generalize f x = fx at HX ⊢
              generalize g x = gx at HX ⊢
              generalize f pre.length = f0 at HX k1 ⊢
              generalize g pre.length = g0 at HX k2 ⊢
              by_cases hpe : fx = f0
              · subst hpe
                by_cases hke : gx = g0
                · subst hke
                  gi_wp2
                  obtain ⟨Y1, hY1⟩ : ∃ Y1, Y.setCell ⟨Bn1, 0, none⟩ (.int .i64 ((pre.length : Int) + 1)) = Y1 := ⟨_, rfl⟩
                  rw [hY1]
                  have hmid := HMD.out _ _ hY1
                  have HN : Hid (∀ W, Done Y1 fp bt br way (n3 + pre.length + 1) o W → KeepsFrom V3.heap.size Y (W.setCell ⟨z + 1 + 1 + 1 + 1, 0, none⟩ (.int .i64 ((a : Int) + 1))) ∧ Keep V3.heap.size (MW bt br) Y (W.setCell ⟨z + 1 + 1 + 1 + 1, 0, none⟩ (.int .i64 ((a : Int) + 1))) ∧ RI V3 (W.setCell ⟨z + 1 + 1 + 1 + 1, 0, none⟩ (.int .i64 ((a : Int) + 1))) fp bt br way oV3 Bn1 (z + 1 + 1 + 1 + 1) (n3) aa3 (pre ++ [x])) := fun W hd => HNX.out W (by rw [hY1]; exact hd)
                  have HM : Hid (Mt Y1 fp bt br way (n3 + pre.length) o ps N ∧ WK w Y1 bt br o (z + 1 + 1 + 1) (z + 1 + 1) z (z + 1) (z + 1 + 1 + 1 + 1) (.slice sa ss.length sc) ∧ Boxed Y1 (z + 1 + 1 + 1 + 1) 3 (.int .i64 (a : Int)) ∧ Free1 fp o (z + 1 + 1 + 1 + 1)) := hmid
                  have cs := hmid.2.1.s.cell
                  have cp := hmid.2.1.p.cell
                  have ct := hmid.2.2.1.cell
                  have ls := hmid.2.1.s.lt
                  have lt1 := hmid.2.2.1.lt
                  have lp := hmid.2.1.p.lt
                  clear hmid HMD HNX hY1 w0 w1 k1 k2 cn fn ln cq fq lq hil hil2 hpw
                  by_cases hal : a < ss.length
                  · have hai : (a : Int) < (ss.length : Int) := by omega
                    obtain rfl := HS.out.1.1 (by omega)
                    have hsx := HS.out.2 _ (List.getElem_mem hal)
                    have r0 := HS.out.1.2 a hal 0 _ rfl
                    have r1 := HS.out.1.2 a hal 1 _ rfl
                    have r2 := HS.out.1.2 a hal 2 _ rfl
                    have r3 := HS.out.1.2 a hal 3 _ rfl
                    have r4 := HS.out.1.2 a hal 4 _ rfl
                    generalize ss[a] = sk at *
                    obtain ⟨kind, on, key, val, leave⟩ := sk
                    dsimp only at r0 r1 r2 r3 r4
                    rw [Nat.add_zero] at r0
                    have s0 := HM.out.2.1.stay.cell r0
                    have s1 := HM.out.2.1.stay.cell r1
                    have s2 := HM.out.2.1.stay.cell r2
                    have s3 := HM.out.2.1.stay.cell r3
                    have s4 := HM.out.2.1.stay.cell r4
                    by_cases h8 : kind = 8
                    · subst h8
                      clear hsx r0 r1 r2 r3 r4
                      gi_wp2
                      refine round_quiet_lit (F := Fence.wide) rfl (by kernel_rfl) (by kernel_rfl) (by kernel_rfl) ?_
                      repeat (first | gi_big_quiet_step (fail) | (refine BigFrame.wpQuietIn_skip (fun _ _ _ _ => True.intro) (by kernel_rfl) ?_; simp only [Act.put, List.setIfInBounds_toArray, List.set_cons_zero, List.set_cons_succ]))
                      refine wpQuietIn_nil ?_
                      intro _ hw'
                      obtain ⟨nq, hw''⟩ := hw'
                      subst hw''
                      have HD9 : Hid _ := And.intro (show Boxed (Y1.drewN nq) _ _ _ from HM.out.2.2.1) (HM.out.1.same (Stay.drewN Y1 nq))
                      have c9 := HD9.out.1.cell
                      have f9 := HD9.out.1.frozen
                      have l9 := HD9.out.1.lt
                      gi_wp2
                      exact HN.out _ HD9.out.2
                    · obtain ⟨i9, hask⟩ := (HM.out.2.1.turn (S := fun _ => False) (Turn.of_stay (Stay.drew Y1)) (fun _ e _ => e.elim) (fun _ _ h => h)).ask hsx
                      have hstep := step_8 (HM.out.1.stay (Stay.drew Y1)) hask h8
                      clear hask hsx
                      gi_wp2
                      have hSS : (fun W : World => W.cell? ⟨z + 1 + 1 + 1 + 1, 0, none⟩ = some (.int .i64 (a : Int)) ∧ W.cell? ⟨w.heap.size, 0, none⟩ = some (.slice (some ⟨sb, so, none⟩) ss.length sc) ∧ W.cell? ⟨z + 1 + 1 + 1, 0, none⟩ = some (.pointer (some ⟨z + 1 + 1, 0, none⟩)) ∧ W.cell? ⟨sb, so + a * 5, none⟩ = some (.int .i64 kind) ∧ W.cell? ⟨sb, so + a * 5 + 1, none⟩ = some (.int .i64 on) ∧ W.cell? ⟨sb, so + a * 5 + 2, none⟩ = some (.int .i64 key) ∧ W.cell? ⟨sb, so + a * 5 + 3, none⟩ = some (.int .i64 val) ∧ W.cell? ⟨sb, so + a * 5 + 4, none⟩ = some (.int .i64 leave)) Y1.drew := ⟨ct, cs, cp, s0, s1, s2, s3, s4⟩
                      clear ct cs cp s0 s1 s2 s3 s4
                      refine reg39 (R := fun W => Done Y1 fp bt br way (n3 + pre.length + 1) o W ∧ Boxed W (z + 1 + 1 + 1 + 1) 3 (.int .i64 (a : Int)) ∧ WK w W bt br o (z + 1 + 1 + 1) (z + 1 + 1) z (z + 1) (z + 1 + 1 + 1 + 1) (.slice (some ⟨sb, so, none⟩) ss.length sc)) hai h8 (by rintro ⟨a, w, h⟩; exact h) (fun _ _ _ _ _ h => h) hSS (hstep.mono ?_) (fun W hR => ⟨hR.2.1.cell, hR.2.2.s.cell, hR.2.2.p.cell, hR.2.2.stay.cell r0, hR.2.2.stay.cell r1, hR.2.2.stay.cell r2, hR.2.2.stay.cell r3, hR.2.2.stay.cell r4⟩) ?_
                      · rintro e9 W9 ⟨rfl, hd0⟩
                        obtain ⟨K9, b9, hd⟩ := done_see HM.out.1 HM.out.2.1 HM.out.2.2.1 HM.out.2.2.2 (Stay.drew Y1) hd0
                        exact ⟨rfl, hd, b9, K9⟩
                      intro z0 z1 z2 z3 z4 z5 z6 z7 z8 z9 z10 z11 z12 z13 z14 z15 z16 z17 z18 z19 W9 hR
                      have HD9 : Hid _ := And.intro hR.2.1 hR.1
                      clear hR hSS hstep r0 r1 r2 r3 r4
                      have c9 := HD9.out.1.cell
                      have f9 := HD9.out.1.frozen
                      have l9 := HD9.out.1.lt
                      gi_wp2
                      exact HN.out _ HD9.out.2
                  · have hai : ¬ (a : Int) < (ss.length : Int) := by omega
                    gi_wp2
                    refine round_quiet_lit (F := Fence.wide) rfl (by kernel_rfl) (by kernel_rfl) (by kernel_rfl) ?_
                    repeat (first | gi_big_quiet_step (fail) | (refine BigFrame.wpQuietIn_skip (fun _ _ _ _ => True.intro) (by kernel_rfl) ?_; simp only [Act.put, List.setIfInBounds_toArray, List.set_cons_zero, List.set_cons_succ]))
                    refine wpQuietIn_nil ?_
                    intro _ hw'
                    obtain ⟨nq, hw''⟩ := hw'
                    subst hw''
                    have HD9 : Hid _ := And.intro (show Boxed (Y1.drewN nq) _ _ _ from HM.out.2.2.1) (HM.out.1.same (Stay.drewN Y1 nq))
                    have c9 := HD9.out.1.cell
                    have f9 := HD9.out.1.frozen
                    have l9 := HD9.out.1.lt
                    gi_wp2
                    exact HN.out _ HD9.out.2
                · gi_wp2
                  exact ⟨set_from _ _ _, rfl, pre, x, rfl, fun e => hke (HX.out e).2⟩
              · gi_wp2
                exact ⟨set_from _ _ _, rfl, pre, x, rfl, fun e => hpe (HX.out e).1⟩
            case done3 =>
              rintro D3 ys G4 hDl rfl hI hKD
              clear hS hlw hrw
              obtain ⟨q4, ps4, N4, aa4, M, K, t, ft, bn, fnn, ha4⟩ := ri_end hI HV3.out.1.2.1 HV3.out.1.2.2.2.1 HV3.out.1.2.2.2.2.1 HV3.out.1.2.2.1.lt HV3.out.2.1.lt HV3.out.2.2.1
              have w0 := HV3.out.2.2.2.1.last hI
              have HD4 : Hid (Defs w G4 [D3, D2, D1, D0]) := defs_next HD3.out HA3.out.2.1.stay HA3.out.1 HV3.out.2.2.2.2.1 HV3.out.2.2.2.2.2.1.1 HC3.out HV3.out.1.1 HV3.out.1.2.2.2.2.2 HV3.out.2.1 HV3.out.1.2.2.1 hI hDl hKD
              rw [List.length_range] at M bn ha4
              obtain ⟨n4, hn4e⟩ : ∃ n, n3 + m3 = n := ⟨_, rfl⟩
              rw [hn4e] at M
              have hn4 : n4 ≤ 16777216 := by omega
              have ha4n : aa4 ≤ n4 := by omega
              have HA4 : Hid (Mt G4 fp bt br way n4 q4 ps4 N4 ∧ WK w G4 bt br q4 (z + 1 + 1 + 1) (z + 1 + 1) z (z + 1) (z + 1 + 1 + 1 + 1) (.slice sa ss.length sc) ∧ Boxed G4 (z + 1 + 1 + 1 + 1) 3 (.int .i64 (aa4 : Int)) ∧ Free1 fp q4 (z + 1 + 1 + 1 + 1) ∧ z + 5 ≤ G4.heap.size ∧ w.heap.size + 2 ≤ z) := ⟨M, K, t, ft, by have := t.lt; omega, HA3.out.2.2.2.2.2⟩
              have cn := bn.cell
              (try clear M); (try clear K); (try clear t); (try clear ft); (try clear bn); (try clear fnn); (try clear hI); (try clear hKD); (try clear hDl); (try clear HV3); (try clear HA3); (try clear HD3); (try clear HC3); (try clear HB3); (try clear hn4e); (try clear ha4); (try clear hn3); (try clear ha3n); (try clear hml3)
              gi_wp2_with fail
              (try clear cn); (try clear w0)
              rw [roundsIn_succ]
              gi_wp2_with fail
              refine ⟨trivial, ?_⟩
              refine CallsIn.mono (callsIn_wide.2 (known_any _)) ?_
              rintro e9 W2 ⟨rfl, hS2⟩
              have hq2 : Boxed W2 (w.heap.size + 1) 4 (.bool false) := (hS2.block _ HA4.out.2.1.q.lt).trans HA4.out.2.1.q
              have hfin := fun W1 W2 W3 W4 W5 e1 e2 e3 e4 e5 => gi_end4 HD4.out hS2 hq2 (HA4.out.2.1.stay.trans hS2) (by omega) (v := .bool true) (W1 := W1) (W2 := W2) (W3 := W3) (W4 := W4) (W5 := W5) e1 e2 e3 e4 e5
              have HF : Hid _ := hfin _ _ _ _ _ rfl rfl rfl rfl rfl
              have cq := hq2.cell
              have fq := hq2.frozen
              clear hfin hq2 hS2
              gi_wp2
              refine ⟨by simp, .inl ⟨_, _, rfl, run_takeDeferred HF.out.1, ⟨by simp, .inl ⟨_, _, rfl, run_takeDeferred HF.out.2.1, ⟨by simp, .inl ⟨_, _, rfl, run_takeDeferred HF.out.2.2.1, ⟨by simp, .inl ⟨_, _, rfl, run_takeDeferred HF.out.2.2.2.1, ?_⟩⟩⟩⟩⟩⟩⟩⟩
              refine ⟨.bool true, ?_, rfl, HF.out.2.2.2.2.2⟩
              simp [results, Try.results4, go_sem, HF.out.2.2.2.2.1]
end Go.Proofs.Ytdnophgcdnghkaa.I
