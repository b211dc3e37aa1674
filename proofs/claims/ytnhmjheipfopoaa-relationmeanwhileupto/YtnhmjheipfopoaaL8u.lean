/- RelationMeanwhile's walk (written by tools/l8u.py). -/
import Derived.Test.YtnhmjheipfopoaaL8t
import Derived.Test.YtnhmjheipfopoaaL5q
namespace Go.Proofs.Ytnhmjheipfopoaa.L
open Go.RowKit Go.Maps Go.Shelf Go.Proofs.Ytnhmjheipfopoaa
attribute [local go_sem] Oper.semAt_some

theorem bad_fin {w w1 Y : World} {v7 : Value} (hw : w1 = (w.alloc (.cells #[v7] 22)).alloc (.cells #[.bool false] 4)) (hs : Stay w1 Y) :
    Y.cell? ⟨w.heap.size + 1, 0, none⟩ = some (.bool false) ∧ Y.frozen? ⟨w.heap.size + 1, 0, none⟩ = false ∧ ∀ w', Turn (fun i => i ∈ ([] : List Nat)) (Y.setCell ⟨w.heap.size + 1, 0, none⟩ (.bool true)) w' → w'.cell? ⟨w.heap.size + 1, 0, none⟩ = some (.bool true) ∧ Stay w w' := by
  have h1 : w1.heap[w.heap.size + 1]? = some (.cells #[.bool false] 4 (0, 0)) := by
    have := heap_new (w.alloc (.cells #[v7] 22)) (.cells #[.bool false] 4)
    rw [World.size_alloc] at this
    rw [hw]; exact this
  have hs1 : Stay w w1 := by rw [hw]; exact (Stay.new _ _).alloc _
  have hY := hs.heap h1
  have hset : Turn (fun i => i = w.heap.size + 1) Y (Y.setCell ⟨w.heap.size + 1, 0, none⟩ (.bool true)) := by exact Turn.set (g := w.heap.size + 1) (Turn.refl (fun i => i = w.heap.size + 1) Y) rfl 0 _
  exact ⟨cell_of hY rfl, by simp [World.frozen?, hY], fun w' ht => ⟨ht.cell (cell_of (heap_setCell_same _ _ _ _ _ _ hY) rfl) (by simp), stay_turn' (stay_turn' (hs1.trans hs) hset (fun k e => by omega)) ht (fun k e => by cases e)⟩⟩

set_option maxRecDepth 100000 in
set_option maxHeartbeats 4000000 in
theorem mean_bad (w : World) (x : Int) (hx : x < 0 ∨ 16 < x) (a0 : Option Addr) (n0 c0 : Nat) (hn : n0 ≤ 1048576) (a2 : Option Addr) (n2 c2 : Nat) (v3 v4 : Value) :
    Calls Try.prog 3 #[.int .i64 x, .slice a0 n0 c0, .slice a2 n2 c2, v3, v4] w fun e w' => e = .returned (.bool true) ∧ Stay w w' := by
  have p2 := qtr_nil
  have hfil : Hid (∀ w1, w1 = (w.alloc (.cells #[.slice a2 n2 c2] 22)).alloc (.cells #[.bool false] 4) → Calls Try.prog 6 #[.int .i64 x, .slice a0 n0 c0] w1 fun e A => e = .returned (.tuple #[.pointer none, .pointer none, .bool true]) ∧ Hid (Stay w1 A)) := fun w1 _ => filled_bad w1 x hx a0 n0 c0 hn
  have hknown := known_any
  clear hx hn
  refine (callsIn_wide (n := 9)).1 (callsIn_of_wp_marks Try.func3 rfl trivial ?_ rfl)
  simp only [Try.ntmps3, List.size_toArray, List.length_cons, List.length_nil, Nat.reduceAdd, Nat.reduceSub, Array.replicate_succ, Array.replicate_zero, List.push_toArray, List.append_toArray, List.nil_append, List.cons_append]
  gi_wp2_with (first
    | (refine ⟨trivial, ?_⟩; gi_at_call 6; refine CallsIn.mono (callsIn_wide.2 (hfil.out _ rfl)) ?_; rintro e A ⟨rfl, hFI⟩; clear hfil)
    | (refine ⟨trivial, ?_⟩; gi_at_call 7; refine CallsIn.mono (callsIn_wide.2 (hknown _)) ?_; rintro e Y ⟨rfl, hs9⟩; have HF : Hid _ := bad_fin rfl ((hFI.out.trans (((Stay.new _ _).alloc _))).trans hs9); have cf := HF.out.1; have ff := HF.out.2.1; clear hs9 hknown hFI))
  refine leaves_turn [] _ List.nodup_nil (fun m hm => by cases hm) fun w' hw' => ?_
  obtain ⟨h8, h9⟩ := HF.out.2.2 w' hw'
  exact ⟨.bool true, by simp [results, Try.results3, go_sem, h8], rfl, h9⟩

set_option maxRecDepth 100000 in
set_option maxHeartbeats 16000000 in
theorem mean_any (w : World) {ar : Nat} (har : ar ≤ 16) (a1 : Option Addr) (b1 o1 c1 : Nat) (us : List Tup) (hu : TupsA w a1 b1 o1 us) (a2 : Option Addr) (b2 o2 c2 : Nat) (ms : List Tup) (hm : TupsA w a2 b2 o2 ms)
    (ca : Option Addr) (cb co cc : Nat) (C : List Int) (hC : IntsS w ca cb co C) (hlC : C.length ≤ 1048576) (ka : Option Addr) (kb ko kc : Nat) (KL : List Int) (hKL : IntsS w ka kb ko KL) (hlK : KL.length ≤ 1048576) :
    Calls Try.prog 3 #[.int .i64 ar, .slice a1 us.length c1, .slice a2 ms.length c2, .slice ca C.length cc, .slice ka KL.length kc] w fun e w' => e = .returned (.bool true) ∧ Stay w w' := by
  have hne := eql_seq32
  have p2 := qtr_some
  have hT0 : (foldT ar (us.map Tup.xs)).length ≤ 1048576 := by
    have := foldT_len ar (us.map Tup.xs)
    rw [List.length_map] at this
    have := hu.len
    omega
  have hml := hm.len
  have hfil : Hid (∀ w1, w1 = (w.alloc (.cells #[.slice a2 ms.length c2] 22)).alloc (.cells #[.bool false] 4) → Calls Try.prog 6 #[.int .i64 ar, .slice a1 us.length c1] w1 fun e A => ∃ rb qb, e = .returned (.tuple #[.pointer (some ⟨rb, 0, none⟩), .pointer (some ⟨qb, 0, none⟩), .bool true]) ∧ FilI w1 rb qb ar (foldT ar (us.map Tup.xs)) A) := fun w1 h1 => filled_any w1 har a1 b1 o1 c1 us (hu.stay (by rw [h1]; exact (Stay.new _ _).alloc _))
  have HA : Hid (TupsA w a2 b2 o2 ms ∧ IntsS w ca cb co C ∧ IntsS w ka kb ko KL) := ⟨hm, hC, hKL⟩
  have hknown := known_any
  clear hu hm hC hKL
  generalize hTT : foldT ar (us.map Tup.xs) = T at hT0 hfil
  clear hTT
  refine (callsIn_wide (n := 9)).1 (callsIn_of_wp_marks Try.func3 rfl trivial ?_ rfl)
  simp only [Try.ntmps3, List.size_toArray, List.length_cons, List.length_nil, Nat.reduceAdd, Nat.reduceSub, Array.replicate_succ, Array.replicate_zero, List.push_toArray, List.append_toArray, List.nil_append, List.cons_append]
  gi_wp2_with (refine ⟨trivial, ?_⟩; gi_at_call 6; refine CallsIn.mono (callsIn_wide.2 (hfil.out _ rfl)) ?_; rintro e A ⟨rb, qb, rfl, hFI⟩; have HFI : Hid _ := hFI; clear hFI hfil)
  refine wpIn_wide.2 ?_
  obtain ⟨B0, hB0⟩ : ∃ B0, B0 = (A.alloc (.cells #[.pointer (some ⟨rb, 0, none⟩)] 24)).alloc (.cells #[.pointer (some ⟨qb, 0, none⟩)] 25) := ⟨_, rfl⟩
  rw [← hB0]
  obtain ⟨U, hSt0, hMB⟩ := mw_base rfl HFI.out hB0 (Stay.refl B0)
  obtain ⟨b7, e7⟩ : ∃ b, w.heap.size = b := ⟨_, rfl⟩
  rw [e7] at hMB
  simp only [e7]
  obtain ⟨b10, e10⟩ : ∃ b, b7 + 1 = b := ⟨_, rfl⟩
  rw [e10] at hMB
  simp only [e10]
  obtain ⟨b11, e11⟩ : ∃ b, A.heap.size = b := ⟨_, rfl⟩
  rw [e11] at hMB
  simp only [e11]
  obtain ⟨b12, e12⟩ : ∃ b, b11 + 1 = b := ⟨_, rfl⟩
  rw [e12] at hMB
  simp only [e12]
  obtain ⟨G4, R4, lv4, us4, hQ4⟩ : ∃ G R lv us, Rf B0 G R qb ar T lv us := by
    obtain ⟨F, G, R, h1, ⟨lv, us, h2⟩, _⟩ := hSt0
    exact ⟨G, R, lv, us, h2⟩
  refine mw4 ⟨hMB.x12, hMB.x7⟩ hQ4 hT0 hml ?_
  intro z1 z2 z3 z4 z5
  clear hQ4
  obtain ⟨B, hB⟩ : ∃ B, B = B0.drew := ⟨_, rfl⟩
  rw [← hB]
  have HB : Hid (MwB w B U rb qb b7 b10 b11 b12 (.slice a2 ms.length c2)) := by rw [hB]; exact hMB.later (Stay.drew B0)
  have HG0 : Hid (MwI B U rb qb ar T [] U B) := by rw [hB]; exact MwI.begin (hSt0.stay (Stay.drew B0))
  clear hB hB0 hMB hSt0 e7 e10 e11 e12 HFI
  generalize hto : (T.length : Int) + (ms.length : Int) = to
  try dsimp only
  gi_wp2_with fail
  refine wpIn_loop_rounds 3 ?_
  rw [roundsIn_succ]
  have cx11 : B.cell? ⟨b11, 0, none⟩ = some (.pointer (some ⟨rb, 0, none⟩)) := old_cell HG0.out.old0 HB.out.x11 HB.out.n11
  have cx12 : B.cell? ⟨b12, 0, none⟩ = some (.pointer (some ⟨qb, 0, none⟩)) := old_cell HG0.out.old0 HB.out.x12 HB.out.n12
  obtain ⟨L0, hL0⟩ : ∃ L', mtL ar T [] [] 0 to = L' := ⟨_, rfl⟩
  obtain ⟨G5, R5, lv5, us5, hQ5⟩ : ∃ G R lv us, Rf B G R qb ar T lv us := by
    obtain ⟨F, G, R, h1, ⟨lv, us, h2⟩, _⟩ := HG0.out.st
    exact ⟨G, R, lv, us, h2⟩
  have hmt : Calls Try.prog 9 #[.pointer (some ⟨qb, 0, none⟩), .slice none 0 0, .slice none 0 0, .int .i64 0, .int .i64 to] B fun e w' => ∃ v, e = .returned v ∧ OwnI B.heap.size w' v (intsN (mtL ar T [] [] 0 to)) ∧ Stay B w' := y4Match_any hQ5 (by omega) none none 0 0 0 0 0 0 [] [] (ints_nil B) (ints_nil B) (by simp) 0 to
  rw [hL0] at hmt
  clear hQ5
  gi_wp2_with (refine ⟨trivial, ?_⟩; gi_at_call 9; refine CallsIn.mono (callsIn_wide.2 hmt) ?_; rintro e W1 ⟨v1, rfl, hO1, hs1⟩; obtain ⟨pa, pb0, pc, rfl, hI1⟩ := hO1.ints; clear hI1; rw [intsN_len] at hO1 ⊢; have HO1 : Hid _ := hO1; have HS1 : Hid _ := hs1; clear hO1 hs1 hmt)
  refine wpIn_wide.2 ?_
  obtain ⟨W2, hW2⟩ : ∃ W2, W2 = W1.alloc (.cells #[.slice pa L0.length pc] 23) := ⟨_, rfl⟩
  rw [← hW2]
  have hs12 : Stay W1 W2 := by rw [hW2]; exact Stay.new _ _
  have HS2 : Hid (Stay B W2) := Stay.trans HS1.out hs12
  clear hs12
  obtain ⟨b18, e18⟩ : ∃ b, W1.heap.size = b := ⟨_, rfl⟩
  simp only [e18]
  obtain ⟨vv, mb, hbox⟩ : ∃ vv mb, RBox W2 rb ar T.length vv mb := by
    obtain ⟨_, _, _, ⟨_, _, _, _, q⟩, _⟩ := HG0.out.st
    exact ⟨_, _, q.rl.box.stay HS2.out⟩
  refine mw12 (ca := none) (cb := 0) (co := 0) (cc := 0) (ka := none) (kb := 0) (ko := 0) (kc := 0) (C := []) (KL := []) ⟨HS2.out.cell cx11, trivial⟩ hbox har ((ints_nil B).stay HS2.out) (Nat.zero_le _) ((ints_nil B).stay HS2.out) (Nat.zero_le _) ?_
  intro z58 z59 z60 z61 z62 z63 z64 gf lb Bx W3 hh
  have HC3 : Hid (Stay W2 W3 ∧ Clo gf lb rb ar [] [] 0 to Bx W3 ∧ ∀ i, Bx i → W2.heap.size ≤ i ∧ i < W3.heap.size) := hh
  clear hh hbox
  have cy11 : W3.cell? ⟨b11, 0, none⟩ = some (.pointer (some ⟨rb, 0, none⟩)) := HC3.out.1.cell (HS2.out.cell cx11)
  clear cx11 cx12
  try dsimp only
  have hall := all_any W3 rb ar 0 to
  gi_wp2_with (refine ⟨trivial, ?_⟩; gi_at_call 12; refine CallsIn.mono (callsIn_wide.2 hall) ?_; rintro e W4 ⟨gf4, lb4, Bx4, rfl, hs4, hC4, hB4⟩; have HC4 : Hid (Stay W2 W4 ∧ Clo gf4 lb4 rb ar [] [] 0 to Bx4 W4 ∧ ∀ i, Bx4 i → W2.heap.size ≤ i ∧ i < W4.heap.size) := ⟨HC3.out.1.trans hs4, hC4, fun i hi => ⟨Nat.le_trans HC3.out.1.size (hB4 i hi).1, (hB4 i hi).2⟩⟩; clear hs4 hC4 hB4 hall cy11)
  obtain ⟨w0, hw0⟩ : ∃ w', w' = W4.alloc (.cells #[.int .i64 0] 3) := ⟨_, rfl⟩
  obtain ⟨n0, hn0⟩ : ∃ b, W4.heap.size = b := ⟨_, rfl⟩
  rw [← hw0]
  simp only [hn0]
  have hin := mw_in HG0.out HO1.out HS1.out hW2 HC4.out.1 HC4.out.2.1 HC4.out.2.2 hw0 hn0
  rw [e18] at hin
  obtain ⟨hp1, hp2, hp3, hp4, hp5, hp6, hp7, pa', pb, pc', hv, hp8, hp9⟩ := hin
  cases hv
  have HP0 : Hid (Stay B w0 ∧ w0.heap.size = n0 + 1 ∧ B.heap.size < n0 ∧ b18 < n0 ∧ ¬ U b18 ∧ w0.cell? ⟨b18, 0, none⟩ = some (.slice pa L0.length pc) ∧ IntsS w0 pa pb 0 (intsN L0) ∧ (0 < L0.length → ¬ U pb ∧ pb < n0)) := ⟨hp2, hp3, hp4, hp5, hp6, hp7, hp8, hp9⟩
  have HQ0 : Hid _ := hp1
  clear hp1 hp2 hp3 hp4 hp5 hp6 hp7 hp8 hp9 hw0 hn0 e18 hW2 HO1 HS1 HS2 HC3 HC4
  refine' range_rel (n := 9) (by decide) (gf := gf4) (lb := lb4) (C := []) (K := []) (x := 0) (y := to) rfl HQ0.out.1 HQ0.out.2.1 HQ0.out.2.2.1 (by omega) (by omega) (by simp) hL0 n0 HQ0.out.2.2.2.1 HQ0.out.2.2.2.2.1 HQ0.out.2.2.2.2.2 rfl (fun k => foldA ar T ((ms.take k).map Tup.xs)) (by simp [foldA]) (fun k _ => ?pre0) _ ?assign0 ?body0 ?done0
  case pre0 =>
    obtain ⟨M, hM, hMl⟩ := foldA_pre ar T ((ms.take k).map Tup.xs)
    rw [List.length_map, List.length_take] at hMl
    exact ⟨M, hM, by rw [List.length_append]; omega⟩
  case assign0 =>
    intro l' k v W' K' hK
    unfold mkR
    gi_wp2
    exact hK
  case body0 =>
    intro l' s k hk Us v t X hSt hO hTp hnv hbU hbs hcn htX hsub
    have hp0 : L0.getD k 0 = L0[k] := by simp [hk]
    have hp1 : (L0[k]?).getD 0 = L0[k] := by simp [hk]
    have hll : L0.length ≤ 68719476736 := by
      rw [← hL0]
      unfold mtL
      split
      · have := mtP_len T [] [] 0 to T.length; omega
      · simp
    obtain ⟨va, vc, c9, g, ua, uc, tl, rfl, cq, hpl, ct, d20, d18, dp, d12, d11, d7, hsame⟩ := mw_round HG0.out HB.out HA.out.1 (by omega) HP0.out.1 HP0.out.2.1 HP0.out.2.2.1 HP0.out.2.2.2.2.1 HP0.out.2.2.2.1 HP0.out.2.2.2.2.2.1 HP0.out.2.2.2.2.2.2.1 HP0.out.2.2.2.2.2.2.2 hk hSt hO hTp hbU hbs hcn htX hsub
    rw [Nat.zero_add] at dp
    have hge : decide ((L0.length : Int) ≤ (k : Int)) = false := by rw [decide_eq_false_iff_not]; omega
    have hge' : decide (L0.length ≤ k) = false := by rw [decide_eq_false_iff_not]; omega
    have hki : (k : Int) < (L0.length : Int) := by omega
    have hpi : (L0[k] : Int) < (tl : Int) := by omega
    have hkb : (k : Int) ≤ 68719476736 := by omega
    have hHsame : Hid _ := hsame
    obtain ⟨p, hp⟩ : ∃ p, p = L0[k] := ⟨_, rfl⟩
    rw [← hp] at dp ct hpi hp1
    simp only [hp1]
    clear hSt hO hTp hnv hbU hbs hcn htX hsub hpl hp0 hp1 hp hll hsame
    gi_wp2_with (refine ⟨trivial, ?_⟩; gi_at_call 13; refine (CallsIn.inRound l' (callsIn_wide.2 hHsame.out)).mono ?_; rintro e Y ⟨rfl, y20, yf, y7, y11, y12, hy, hno⟩; have HY : Hid _ := hy; have HN : Hid _ := hno; clear hHsame hy hno d20 d18 dp d12 d11 d7 cq ct)
    by_cases hkm : k < ms.length
    · obtain ⟨ha2, cm, had⟩ := HY.out hkm
      rw [ha2] at y7
      have hkmi : (k : Int) < (ms.length : Int) := by omega
      refine mw23 (RR := MwR rb qb ar (foldA ar T ((ms.take (k + 1)).map Tup.xs)) s k n0 Us (.slice va t.length vc) X) hkmi (by rintro ⟨a, w, h⟩; exact h) (fun _ _ _ _ _ h => h) ⟨y20, y7, y11, y12, cm⟩ had ?_
      intro z99 z100 z101 z102 z103 z104 z105 z106 z107 z108 z109 z110 z111 Z hR
      have HR : Hid _ := hR.2.2
      have g1 := hR.1
      have g2 := hR.2.1
      clear hR y20 yf y7 y11 y12 cm had HY HN
      gi_wp2
      exact HR.out
    · have hkm' : ms.length ≤ k := by omega
      have hkmi : ¬ (k : Int) < (ms.length : Int) := by omega
      have hkmd : decide ((k : Int) < (ms.length : Int)) = false := by rw [decide_eq_false_iff_not]; omega
      have hkmd' : decide (k < ms.length) = false := by rw [decide_eq_false_iff_not]; omega
      refine round_quiet_lit (F := Fence.wide) rfl (by kernel_rfl) (by kernel_rfl) (by kernel_rfl) ?_
      repeat (first | gi_big_quiet_step (fail) | (refine BigFrame.wpQuietIn_skip (fun _ _ _ _ => True.intro) (by kernel_rfl) ?_; simp only [Act.put, List.setIfInBounds_toArray, List.set_cons_zero, List.set_cons_succ]))
      refine wpQuietIn_nil ?_
      intro _ hw'
      obtain ⟨nq, hw''⟩ := hw'
      subst hw''
      have hR := (HN.out hkm' (Y.drewN nq) (Stay.drewN Y nq)).2.2
      simp only [List.map_take] at hR
      have HR : Hid _ := hR
      clear hR
      gi_wp2
      exact HR.out
  case done0 =>
    intro U9 V9 hSt hsub htu hcn hb hm hnm
    obtain ⟨T1, hT1⟩ : ∃ T', foldA ar T ((ms.take L0.length).map Tup.xs) = T' := ⟨_, rfl⟩
    have hT1l : T1.length ≤ 2097152 := by
      obtain ⟨M, hM, hMl⟩ := foldA_pre ar T ((ms.take L0.length).map Tup.xs)
      rw [List.length_map, List.length_take] at hMl
      rw [← hT1, hM, List.length_append]
      omega
    have hSt' : St V9 U9 rb qb ar T1 qb 0 := by rw [← hT1]; exact hSt
    obtain ⟨hSS, hnn, hold⟩ := mw_done HG0.out HB.out HP0.out.1 HP0.out.2.1 HP0.out.2.2.1 HP0.out.2.2.2.2.1 HP0.out.2.2.2.1 HP0.out.2.2.2.2.2.1 hsub htu hcn hb
    have HD : Hid (∀ U2 V2, St V2 U2 rb qb ar T1 qb 0 → (∀ i, U2 i → U9 i ∨ V9.heap.size ≤ i) → Turn U9 V9 V2 → MwI B U rb qb ar T1 (w0.heap.size :: []) U2 V2) := fun U2 V2 k1 k2 k3 => mw_out HG0.out HP0.out.1 HP0.out.2.1 HP0.out.2.2.1 k1 hsub htu hm hnm k2 k3
    have HE : Hid (IntsS V9 none 0 0 [] ∧ IntsS V9 none 0 0 []) := ⟨(ints_nil V9), (ints_nil V9)⟩
    clear hSt hsub htu hcn hb hm hnm hold
    gi_wp2_with fail
    refine wpIn_wide.2 ?_
    refine mw26 (ca := none) (cb := 0) (co := 0) (cc := 0) (ka := none) (kb := 0) (ko := 0) (kc := 0) (C := []) (KL := []) hSS hSt' hnn (by omega) HE.out.1 (Nat.zero_le _) HE.out.2 (Nat.zero_le _) ?_
    intro z115 z116 z117 z118 z119 z120 z121 z122 z123 z124 z125 z126 z127 z128 z129 z130 z131 z132 V1 hh
    obtain ⟨U1, hk1, hk2, hk3⟩ := hh
    obtain ⟨m0, hm0⟩ : ∃ m, w0.heap.size = m := ⟨_, rfl⟩
    have HG1 : Hid (MwI B U rb qb ar T1 [m0] U1 V1) := by rw [← hm0]; exact HD.out _ _ hk1 hk2 hk3
    simp only [hm0]
    clear hk1 hk2 hk3 hm0 HD HE hSS hnn hSt' hT1 HP0 HQ0
    try dsimp only
    gi_wp2_with fail
    rw [roundsIn_succ]
    have cx11 : V1.cell? ⟨b11, 0, none⟩ = some (.pointer (some ⟨rb, 0, none⟩)) := old_cell HG1.out.old0 HB.out.x11 HB.out.n11
    have cx12 : V1.cell? ⟨b12, 0, none⟩ = some (.pointer (some ⟨qb, 0, none⟩)) := old_cell HG1.out.old0 HB.out.x12 HB.out.n12
    obtain ⟨L1, hL1⟩ : ∃ L', mtL ar T1 C KL 0 to = L' := ⟨_, rfl⟩
    obtain ⟨G5, R5, lv5, us5, hQ5⟩ : ∃ G R lv us, Rf V1 G R qb ar T1 lv us := by
      obtain ⟨F, G, R, h1, ⟨lv, us, h2⟩, _⟩ := HG1.out.st
      exact ⟨G, R, lv, us, h2⟩
    have hmt : Calls Try.prog 9 #[.pointer (some ⟨qb, 0, none⟩), .slice ca C.length cc, .slice ka KL.length kc, .int .i64 0, .int .i64 to] V1 fun e w' => ∃ v, e = .returned v ∧ OwnI V1.heap.size w' v (intsN (mtL ar T1 C KL 0 to)) ∧ Stay V1 w' := y4Match_any hQ5 (by omega) ca ka cb co cc kb ko kc C KL (HB.out.ints HG1.out.old0 HA.out.2.1) (HB.out.ints HG1.out.old0 HA.out.2.2) (by unfold maxLen; omega) 0 to
    rw [hL1] at hmt
    clear hQ5
    gi_wp2_with (refine ⟨trivial, ?_⟩; gi_at_call 9; refine CallsIn.mono (callsIn_wide.2 hmt) ?_; rintro e W1 ⟨v1, rfl, hO1, hs1⟩; obtain ⟨pa, pb0, pc, rfl, hI1⟩ := hO1.ints; clear hI1; rw [intsN_len] at hO1 ⊢; have HO1 : Hid _ := hO1; have HS1 : Hid _ := hs1; clear hO1 hs1 hmt)
    refine wpIn_wide.2 ?_
    obtain ⟨W2, hW2⟩ : ∃ W2, W2 = W1.alloc (.cells #[.slice pa L1.length pc] 23) := ⟨_, rfl⟩
    rw [← hW2]
    have hs12 : Stay W1 W2 := by rw [hW2]; exact Stay.new _ _
    have HS2 : Hid (Stay V1 W2) := Stay.trans HS1.out hs12
    clear hs12
    obtain ⟨b18, e18⟩ : ∃ b, W1.heap.size = b := ⟨_, rfl⟩
    simp only [e18]
    obtain ⟨vv, mb, hbox⟩ : ∃ vv mb, RBox W2 rb ar T1.length vv mb := by
      obtain ⟨_, _, _, ⟨_, _, _, _, q⟩, _⟩ := HG1.out.st
      exact ⟨_, _, q.rl.box.stay HS2.out⟩
    refine mw12 (ca := ca) (cb := cb) (co := co) (cc := cc) (ka := ka) (kb := kb) (ko := ko) (kc := kc) (C := C) (KL := KL) ⟨HS2.out.cell cx11, trivial⟩ hbox har ((HB.out.ints HG1.out.old0 HA.out.2.1).stay HS2.out) hlC ((HB.out.ints HG1.out.old0 HA.out.2.2).stay HS2.out) hlK ?_
    intro z58 z59 z60 z61 z62 z63 z64 gf lb Bx W3 hh
    have HC3 : Hid (Stay W2 W3 ∧ Clo gf lb rb ar C KL 0 to Bx W3 ∧ ∀ i, Bx i → W2.heap.size ≤ i ∧ i < W3.heap.size) := hh
    clear hh hbox
    have cy11 : W3.cell? ⟨b11, 0, none⟩ = some (.pointer (some ⟨rb, 0, none⟩)) := HC3.out.1.cell (HS2.out.cell cx11)
    clear cx11 cx12
    try dsimp only
    clear cy11
    gi_wp2_with fail
    obtain ⟨w1, hw1⟩ : ∃ w', w' = W3.alloc (.cells #[.int .i64 0] 3) := ⟨_, rfl⟩
    obtain ⟨n1, hn1⟩ : ∃ b, W3.heap.size = b := ⟨_, rfl⟩
    rw [← hw1]
    simp only [hn1]
    have hin := mw_in HG1.out HO1.out HS1.out hW2 HC3.out.1 HC3.out.2.1 HC3.out.2.2 hw1 hn1
    rw [e18] at hin
    obtain ⟨hp1, hp2, hp3, hp4, hp5, hp6, hp7, pa', pb, pc', hv, hp8, hp9⟩ := hin
    cases hv
    have HP1 : Hid (Stay V1 w1 ∧ w1.heap.size = n1 + 1 ∧ V1.heap.size < n1 ∧ b18 < n1 ∧ ¬ U1 b18 ∧ w1.cell? ⟨b18, 0, none⟩ = some (.slice pa L1.length pc) ∧ IntsS w1 pa pb 0 (intsN L1) ∧ (0 < L1.length → ¬ U1 pb ∧ pb < n1)) := ⟨hp2, hp3, hp4, hp5, hp6, hp7, hp8, hp9⟩
    have HQ1 : Hid _ := hp1
    clear hp1 hp2 hp3 hp4 hp5 hp6 hp7 hp8 hp9 hw1 hn1 e18 hW2 HO1 HS1 HS2 HC3
    refine' range_rel (n := 9) (by decide) (gf := gf) (lb := lb) (C := C) (K := KL) (x := 0) (y := to) rfl HQ1.out.1 HQ1.out.2.1 HQ1.out.2.2.1 (by omega) (by omega) (by unfold maxLen; omega) hL1 n1 HQ1.out.2.2.2.1 HQ1.out.2.2.2.2.1 HQ1.out.2.2.2.2.2 rfl (fun k => foldA ar T1 ((ms.take k).map Tup.xs)) (by simp [foldA]) (fun k _ => ?pre1) _ ?assign1 ?body1 ?done1
    case pre1 =>
      obtain ⟨M, hM, hMl⟩ := foldA_pre ar T1 ((ms.take k).map Tup.xs)
      rw [List.length_map, List.length_take] at hMl
      exact ⟨M, hM, by rw [List.length_append]; omega⟩
    case assign1 =>
      intro l' k v W' K' hK
      unfold mkR
      gi_wp2
      exact hK
    case body1 =>
      intro l' s k hk Us v t X hSt hO hTp hnv hbU hbs hcn htX hsub
      have hp0 : L1.getD k 0 = L1[k] := by simp [hk]
      have hp1 : (L1[k]?).getD 0 = L1[k] := by simp [hk]
      have hll : L1.length ≤ 68719476736 := by
        rw [← hL1]
        unfold mtL
        split
        · have := mtP_len T1 C KL 0 to T1.length; omega
        · simp
      obtain ⟨va, vc, c9, g, ua, uc, tl, rfl, cq, hpl, ct, d20, d18, dp, d12, d11, d7, hsame⟩ := mw_round HG1.out HB.out HA.out.1 (by omega) HP1.out.1 HP1.out.2.1 HP1.out.2.2.1 HP1.out.2.2.2.2.1 HP1.out.2.2.2.1 HP1.out.2.2.2.2.2.1 HP1.out.2.2.2.2.2.2.1 HP1.out.2.2.2.2.2.2.2 hk hSt hO hTp hbU hbs hcn htX hsub
      rw [Nat.zero_add] at dp
      have hge : decide ((L1.length : Int) ≤ (k : Int)) = false := by rw [decide_eq_false_iff_not]; omega
      have hge' : decide (L1.length ≤ k) = false := by rw [decide_eq_false_iff_not]; omega
      have hki : (k : Int) < (L1.length : Int) := by omega
      have hpi : (L1[k] : Int) < (tl : Int) := by omega
      have hkb : (k : Int) ≤ 68719476736 := by omega
      have hHsame : Hid _ := hsame
      obtain ⟨p, hp⟩ : ∃ p, p = L1[k] := ⟨_, rfl⟩
      rw [← hp] at dp ct hpi hp1
      simp only [hp1]
      clear hSt hO hTp hnv hbU hbs hcn htX hsub hpl hp0 hp1 hp hll hsame
      gi_wp2_with (refine ⟨trivial, ?_⟩; gi_at_call 13; refine (CallsIn.inRound l' (callsIn_wide.2 hHsame.out)).mono ?_; rintro e Y ⟨rfl, y20, yf, y7, y11, y12, hy, hno⟩; have HY : Hid _ := hy; have HN : Hid _ := hno; clear hHsame hy hno d20 d18 dp d12 d11 d7 cq ct)
      by_cases hkm : k < ms.length
      · obtain ⟨ha2, cm, had⟩ := HY.out hkm
        rw [ha2] at y7
        have hkmi : (k : Int) < (ms.length : Int) := by omega
        refine mw23 (RR := MwR rb qb ar (foldA ar T1 ((ms.take (k + 1)).map Tup.xs)) s k n1 Us (.slice va t.length vc) X) hkmi (by rintro ⟨a, w, h⟩; exact h) (fun _ _ _ _ _ h => h) ⟨y20, y7, y11, y12, cm⟩ had ?_
        intro z99 z100 z101 z102 z103 z104 z105 z106 z107 z108 z109 z110 z111 Z hR
        have HR : Hid _ := hR.2.2
        have g1 := hR.1
        have g2 := hR.2.1
        clear hR y20 yf y7 y11 y12 cm had HY HN
        gi_wp2
        exact HR.out
      · have hkm' : ms.length ≤ k := by omega
        have hkmi : ¬ (k : Int) < (ms.length : Int) := by omega
        have hkmd : decide ((k : Int) < (ms.length : Int)) = false := by rw [decide_eq_false_iff_not]; omega
        have hkmd' : decide (k < ms.length) = false := by rw [decide_eq_false_iff_not]; omega
        refine round_quiet_lit (F := Fence.wide) rfl (by kernel_rfl) (by kernel_rfl) (by kernel_rfl) ?_
        repeat (first | gi_big_quiet_step (fail) | (refine BigFrame.wpQuietIn_skip (fun _ _ _ _ => True.intro) (by kernel_rfl) ?_; simp only [Act.put, List.setIfInBounds_toArray, List.set_cons_zero, List.set_cons_succ]))
        refine wpQuietIn_nil ?_
        intro _ hw'
        obtain ⟨nq, hw''⟩ := hw'
        subst hw''
        have hR := (HN.out hkm' (Y.drewN nq) (Stay.drewN Y nq)).2.2
        simp only [List.map_take] at hR
        have HR : Hid _ := hR
        clear hR
        gi_wp2
        exact HR.out
    case done1 =>
      intro U9 V9 hSt hsub htu hcn hb hm hnm
      obtain ⟨T2, hT2⟩ : ∃ T', foldA ar T1 ((ms.take L1.length).map Tup.xs) = T' := ⟨_, rfl⟩
      have hT2l : T2.length ≤ 3145728 := by
        obtain ⟨M, hM, hMl⟩ := foldA_pre ar T1 ((ms.take L1.length).map Tup.xs)
        rw [List.length_map, List.length_take] at hMl
        rw [← hT2, hM, List.length_append]
        omega
      have hSt' : St V9 U9 rb qb ar T2 qb 0 := by rw [← hT2]; exact hSt
      obtain ⟨hSS, hnn, hold⟩ := mw_done HG1.out HB.out HP1.out.1 HP1.out.2.1 HP1.out.2.2.1 HP1.out.2.2.2.2.1 HP1.out.2.2.2.1 HP1.out.2.2.2.2.2.1 hsub htu hcn hb
      have HD : Hid (∀ U2 V2, St V2 U2 rb qb ar T2 qb 0 → (∀ i, U2 i → U9 i ∨ V9.heap.size ≤ i) → Turn U9 V9 V2 → MwI B U rb qb ar T2 (w1.heap.size :: [m0]) U2 V2) := fun U2 V2 k1 k2 k3 => mw_out HG1.out HP1.out.1 HP1.out.2.1 HP1.out.2.2.1 k1 hsub htu hm hnm k2 k3
      have HE : Hid (IntsS V9 ca cb co C ∧ IntsS V9 ka kb ko KL) := ⟨(HB.out.ints hold HA.out.2.1), (HB.out.ints hold HA.out.2.2)⟩
      clear hSt hsub htu hcn hb hm hnm hold
      gi_wp2_with fail
      refine wpIn_wide.2 ?_
      refine mw26 (ca := ca) (cb := cb) (co := co) (cc := cc) (ka := ka) (kb := kb) (ko := ko) (kc := kc) (C := C) (KL := KL) hSS hSt' hnn (by omega) HE.out.1 hlC HE.out.2 hlK ?_
      intro z115 z116 z117 z118 z119 z120 z121 z122 z123 z124 z125 z126 z127 z128 z129 z130 z131 z132 V2 hh
      obtain ⟨U2, hk1, hk2, hk3⟩ := hh
      obtain ⟨m1, hm1⟩ : ∃ m, w1.heap.size = m := ⟨_, rfl⟩
      have HG2 : Hid (MwI B U rb qb ar T2 [m1, m0] U2 V2) := by rw [← hm1]; exact HD.out _ _ hk1 hk2 hk3
      simp only [hm1]
      clear hk1 hk2 hk3 hm1 HD HE hSS hnn hSt' hT2 HP1 HQ1
      try dsimp only
      gi_wp2_with fail
      rw [roundsIn_succ]
      have hkn := hknown V2
      gi_wp2_with (refine ⟨trivial, ?_⟩; gi_at_call 7; refine CallsIn.mono (callsIn_wide.2 hkn) ?_; rintro e Y ⟨rfl, hs9⟩; have hfin := mw_fin HG2.out HB.out hs9; have HF : Hid _ := hfin; have cf := hfin.2.2.1; have ff := hfin.2.2.2.1; clear hs9 hfin hkn)
      refine leaves_turn [m1, m0] _ HF.out.2.1 HF.out.1 fun w' hw' => ?_
      obtain ⟨h8, h9⟩ := HF.out.2.2.2.2 w' hw'
      exact ⟨.bool true, by simp [results, Try.results3, go_sem, h8], rfl, h9⟩
end Go.Proofs.Ytnhmjheipfopoaa.L
