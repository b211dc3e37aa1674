/- ask, Count. -/
import Derived.Test.YtnhmjheipfopoaaL5i
namespace Go.Proofs.Ytnhmjheipfopoaa.L
open Go.RowKit Go.Maps Go.Shelf Go.Proofs.Ytnhmjheipfopoaa

/-- The row that is asked for, if it is one and the key fits. -/
def askL (ar : Nat) (C : List Int) (m : Nat) : Option Nat := if m = C.length then rowL ar C (-1) 0 else none

theorem rowL_lt {ar : Nat} : ∀ (C : List Int) (last : Int) (acc : Nat), -1 ≤ last → acc < 2 ^ ar → ∀ c, rowL ar C last acc = some c → c < 2 ^ ar
  | [], _, acc, _, ha, c, h => by simp only [rowL, Option.some.injEq] at h; subst h; exact ha
  | x :: xs, last, acc, hl, ha, c, h => by
    unfold rowL at h
    split at h
    · cases h
    · rename_i hx
      refine rowL_lt xs x _ (by omega) ?_ c h
      refine Nat.or_lt_two_pow ha ?_
      exact Nat.pow_lt_pow_right (by decide) (by omega)

section
variable {W W' : World} {F : Nat → Prop} {rb ar : Nat} {T : List (List Int)} {vv : Value} {mb n : Nat} {L : List (Nat × Nat)} {Fs : Nat → Nat → Prop}

theorem rowR_two (r : Option Nat) : ∃ c b, rowR r = #[.agg (rowV c), .bool b] := by
  cases r with
  | none => exact ⟨_, _, rfl⟩
  | some c => exact ⟨_, _, rfl⟩

set_option maxRecDepth 100000 in
set_option maxHeartbeats 1000000 in
theorem ask_any (h : RBox W rb ar n vv mb) (har : ar ≤ 16) (a : Option Addr) (b o cap : Nat) (C : List Int) (hI : IntsS W a b o C) (hl : C.length ≤ maxLen) (ak : Option Addr) (ck m : Nat) :
    Calls Try.prog 28 #[.pointer (some ⟨rb, 0, none⟩), .slice a C.length cap, .slice ak m ck] W fun e w' => e = .returned (.tuple (rowR (askL ar C m))) ∧ Stay W w' := by
  have hz := zeroRow
  obtain ⟨Z, hZ⟩ : ∃ Z, Z = rowV 0 := ⟨_, rfl⟩
  rw [← hZ] at hz
  have H0 : Hid (Z = rowV 0) := hZ
  clear hZ
  have hs0 : Stay W (W.alloc (.cells Z 64)) := Stay.new W _
  have HB : Hid ((W.alloc (.cells Z 64)).heap[W.heap.size]? = some (.cells Z 64 (0, 0)) ∧ Stay W (W.alloc (.cells Z 64))) := ⟨heap_alloc_new _ _, hs0⟩
  have hm := rmade_yes (h.stay hs0)
  have c0 := (h.stay hs0).c0
  have hrow := rowOf_any _ a b o cap C (hI.stay hs0) hl ar har
  obtain ⟨c1, b1, hr⟩ := rowR_two (rowL ar C (-1) 0)
  unfold askL
  rw [hr] at hrow
  have HR : Hid (rowR (rowL ar C (-1) 0) = #[.agg (rowV c1), .bool b1]) := hr
  clear hr h hI hs0
  by_cases he : m = C.length
  · have he2 : (m : Int) = (C.length : Int) := by omega
    rw [if_pos he, HR.out]
    clear he
    go_enter Try.func28, Try.ntmps28
    go_wp2_with (first
      | (go_at_call 40; refine hm.mono ?_; rintro e w9 ⟨rfl, hw⟩; have hw' := hw.symm; subst hw'; clear hm)
      | (go_at_call 44; refine hrow.mono ?_; rintro e w1 ⟨rfl, hs1⟩; have HS1 : Hid (Stay W w1 ∧ w1.heap[W.heap.size]? = some (.cells Z 64 (0, 0))) := ⟨HB.out.2.trans hs1, hs1.heap HB.out.1⟩; clear hs1 hrow)
      | (refine wpList_store_row rfl 64 (.tmp 6) (.tmp 25) rfl W.heap.size (rowV c1) rfl rfl 64 Z HS1.out.2 (sizeRow' _) (by rw [H0.out, rowV_size, rowV_size]) (rowV_one _) ?_))
    try simp only [Exit.inBlock, Exit.then]
    refine bodyPost_ret (results_cell_tmp rfl _ _ W.heap.size 64 (rowV c1) (0, 0) (.array 16 4) rfl (setRow_heap _ _ _ _ _ _ HS1.out.2) Try.underlying64 rfl (sizeRow' _)) rfl ?_
    exact ⟨rfl, stay_setRow HS1.out.1 (Nat.le_refl _) _⟩
  · have he2 : ¬ (m : Int) = (C.length : Int) := by omega
    rw [if_neg he]
    clear he hrow
    go_enter Try.func28, Try.ntmps28
    go_wp2_with (first
      | (go_at_call 40; refine hm.mono ?_; rintro e w9 ⟨rfl, hw⟩; have hw' := hw.symm; subst hw'; clear hm)
      | (refine wpList_store_row rfl 64 (.tmp 6) (.tmp 18) rfl W.heap.size Z rfl rfl 64 Z HB.out.1 (by rw [H0.out]; exact sizeRow' _) rfl (by rw [H0.out]; exact rowV_one _) ?_))
    try simp only [Exit.inBlock, Exit.then]
    refine bodyPost_ret (results_cell_tmp rfl _ _ W.heap.size 64 Z (0, 0) (.array 16 4) rfl (setRow_heap _ _ _ _ _ _ HB.out.1) Try.underlying64 rfl (by rw [H0.out]; exact sizeRow' _)) rfl ?_
    exact ⟨by rw [H0.out]; rfl, stay_setRow HB.out.2 (Nat.le_refl _) _⟩

/-- What Count answers. -/
def countV (ar : Nat) (T : List (List Int)) (C K : List Int) (x y : Int) : Array Value := match askL ar C K.length with
  | none => #[.int .i64 0, .int .i64 2]
  | some c => #[.int .i64 (if C = [] then bE x y T.length - bF x else ((mid (plc c T K) x y).length : Int)), .int .i64 0]

set_option maxRecDepth 100000 in
set_option maxHeartbeats 1000000 in
theorem count_any (h : Rl W F rb ar T vv mb L Fs) (hT : T.length ≤ 68719476736) (a : Option Addr) (b o cap : Nat) (C : List Int) (hI : IntsS W a b o C) (hl : C.length ≤ maxLen)
    (a2 : Option Addr) (b2 o2 cap2 : Nat) (K : List Int) (hK : IntsS W a2 b2 o2 K) (hlK : K.length ≤ maxLen) (hn : 0 < K.length → ¬ F b2) (x y : Int) :
    Calls Try.prog 23 #[.pointer (some ⟨rb, 0, none⟩), .slice a C.length cap, .slice a2 K.length cap2, .int .i64 x, .int .i64 y] W fun e w' => e = .returned (.tuple (countV ar T C K x y)) ∧ RelS w' (Grow F W.heap.size w') rb ar T ∧ Turn F W w' := by
  have hz := zeroRow
  obtain ⟨Z, hZ⟩ : ∃ Z, Z = rowV 0 := ⟨_, rfl⟩
  rw [← hZ] at hz
  have H0 : Hid (Z = rowV 0) := hZ
  clear hZ
  have hm := rmade_yes h.box
  have hask := ask_any h.box h.arle a b o cap C hI hl a2 cap2 K.length
  have HG : Hid (∀ Y, Stay W Y → RelS Y (Grow F W.heap.size Y) rb ar T ∧ Turn F W Y) := fun Y hY =>
    ⟨⟨_, _, _, _, (h.stay hY).grow (fun k hk => .inl hk) (fun k hk => by
      rcases hk with hk | hk
      · have := h.lt k hk; have := hY.size; omega
      · exact hk.2)⟩, Turn.of_stay hY⟩
  have HBo : Hid (∀ Y, Stay W Y → Calls Try.prog 46 #[.pointer (some ⟨rb, 0, none⟩), .int .i64 x, .int .i64 y] Y fun e w' => e = .returned (.tuple #[.int .i64 (bF x), .int .i64 (bE x y T.length)]) ∧ Stay Y w') := fun Y hY =>
    (bounds_yes (h.stay hY).box x y).mono fun e w' ⟨h1, d, h2⟩ => ⟨h1, by rw [h2]; exact (Stay.drewN Y d)⟩
  have HW : Hid (∀ c, askL ar C K.length = some c → ∀ Y, Stay W Y → Calls Try.prog 32 #[.pointer (some ⟨rb, 0, none⟩), .agg (rowV c)] Y fun e w' => ∃ x', e = .returned (.pointer (some ⟨x', 0, none⟩)) ∧ RelS w' (Grow F W.heap.size w') rb ar T ∧ Turn F W w' ∧
      Calls Try.prog 33 #[.pointer (some ⟨x', 0, none⟩), .slice a2 K.length cap2, .int .i64 x, .int .i64 y] w' fun e w2 => ∃ a b off cap, e = .returned (.slice a (mid (plc c T K) x y).length cap) ∧ IntsS w2 a b off ((mid (plc c T K) x y).map Int.ofNat) ∧ Stay w' w2) := fun c hc Y hY => by
    have hc2 : c < 2 ^ ar := by
      unfold askL at hc
      split at hc
      · exact rowL_lt C (-1) 0 (by omega) (Nat.two_pow_pos ar) c hc
      · cases hc
    refine (lookup_any (h.stay hY) hT hc2).mono ?_
    rintro e w' ⟨x', L', Fs', rfl, hR, hx, ht⟩
    have hFg : ∀ k, Grow F Y.heap.size w' k → Grow F W.heap.size w' k := fun k hk => hk.imp id (fun hk => ⟨Nat.le_trans hY.size hk.1, hk.2⟩)
    have hR2 : Rl w' (Grow F W.heap.size w') rb ar T vv mb L' Fs' := hR.grow hFg (fun k hk => by
      rcases hk with hk | hk
      · have := h.lt k hk; have := hY.size; have := ht.size; omega
      · exact hk.2)
    refine ⟨x', rfl, ⟨_, _, _, _, hR2⟩, (Turn.of_stay hY).trans ht, ?_⟩
    obtain ⟨tb, fp, cv, pb, N, len, reach, came, places, lv, vs, ls, kd, hk⟩ := hR.looks _ _ hx
    have hI2 : IntsS w' a2 b2 o2 K := ints_turn (hK.stay hY) ht hn
    have hnb : 0 < K.length → ¬ Fs' x' b2 := fun h0 hf => by
      have hg := hR.foot.2.2.2 _ _ hx b2 hf
      rcases hg with hg | hg
      · exact hn h0 hg
      · have := ints_lt (hK.stay hY) h0; omega
    exact within_any hk hT ⟨a2, b2, o2, cap2, K⟩ hI2 hlK hnb x y
  have hbl : bF x ≤ bE x y T.length ∧ 0 ≤ bF x ∧ bE x y T.length ≤ 68719476736 ∨ T.length < bF x ∧ bE x y T.length = bF x := by unfold bF bE; omega
  clear h hI hK hn
  unfold countV
  cases hA : askL ar C K.length with
  | none =>
    rw [hA] at hask
    dsimp only [rowR] at hask ⊢
    obtain ⟨V0, hV0⟩ : ∃ V, V = rowV 0 := ⟨_, rfl⟩
    rw [← hV0] at hask
    have HV : Hid (V0 = rowV 0) := hV0
    clear hV0 hA
    go_enter Try.func23, Try.ntmps23
    go_wp2_with (first
      | (go_at_call 40; refine hm.mono ?_; rintro e w9 ⟨rfl, hw⟩; have hw' := hw.symm; subst hw'; clear hm)
      | (go_at_call 28; refine hask.mono ?_; rintro e w1 ⟨rfl, hs1⟩; have HS1 : Hid (Stay W w1) := hs1; clear hs1 hask)
      | (refine wpList_store_fresh rfl 64 (.tmp 12) (.tmp 24) rfl V0 Z rfl rfl 64 (by rw [HV.out]; exact sizeRow' _) (by simp only [H0.out, HV.out, rowV_size]) (by rw [HV.out]; exact rowV_one _) ?_))
    go_ret2
    exact ⟨rfl, HG.out _ (HS1.out.alloc _)⟩
  | some c =>
    have HW2 := HW.out c hA
    rw [hA] at hask
    dsimp only [rowR] at hask ⊢
    obtain ⟨V0, hV0⟩ : ∃ V, V = rowV c := ⟨_, rfl⟩
    rw [← hV0] at hask HW2
    have HV : Hid (V0 = rowV c) := hV0
    have HW3 : Hid _ := HW2
    clear hV0 hA HW HW2
    by_cases hC : C = []
    · rw [if_pos hC]
      have hlen : (C.length : Int) = 0 := by rw [hC]; rfl
      have HC : Hid (C = []) := hC
      clear hC HW3
      go_enter Try.func23, Try.ntmps23
      go_wp2_with (first
        | (go_at_call 40; refine hm.mono ?_; rintro e w9 ⟨rfl, hw⟩; have hw' := hw.symm; subst hw'; clear hm)
        | (go_at_call 28; refine hask.mono ?_; rintro e w1 ⟨rfl, hs1⟩; have HS1 : Hid (Stay W w1) := hs1; clear hs1 hask)
        | (refine wpList_store_fresh rfl 64 (.tmp 12) (.tmp 24) rfl V0 Z rfl rfl 64 (by rw [HV.out]; exact sizeRow' _) (by simp only [H0.out, HV.out, rowV_size]) (by rw [HV.out]; exact rowV_one _) ?_)
        | (go_at_call 46; refine (HBo.out _ (HS1.out.alloc _)).mono ?_; rintro e w2 ⟨rfl, hs2⟩; have HS2 : Hid (Stay W w2) := (HS1.out.alloc _).trans hs2; clear hs2))
      go_ret2
      exact ⟨two_eq (by omega) rfl, HG.out _ HS2.out⟩
    · rw [if_neg hC]
      have hlen : 0 < (C.length : Int) := by
        have := List.length_pos_iff.2 hC
        omega
      have HC : Hid (C ≠ []) := hC
      clear hC
      generalize mid (plc c T K) x y = M at HW3
      go_enter Try.func23, Try.ntmps23
      go_wp2_with (first
        | (go_at_call 40; refine hm.mono ?_; rintro e w9 ⟨rfl, hw⟩; have hw' := hw.symm; subst hw'; clear hm)
        | (go_at_call 28; refine hask.mono ?_; rintro e w1 ⟨rfl, hs1⟩; have HS1 : Hid (Stay W w1) := hs1; clear hs1 hask)
        | (refine wpList_store_fresh rfl 64 (.tmp 12) (.tmp 24) rfl V0 Z rfl rfl 64 (by rw [HV.out]; exact sizeRow' _) (by simp only [H0.out, HV.out, rowV_size]) (by rw [HV.out]; exact rowV_one _) ?_)
        | (refine wpList_load_row rfl 64 (.tmp 12) rfl _ rfl 64 V0 (0, 0) (.array 16 4) (heap_alloc_new _ _) Try.underlying64 rfl (by rw [HV.out]; exact sizeRow' _) ?_)
        | (go_at_call 32; refine (HW3.out _ (HS1.out.alloc _)).mono ?_; rintro e w2 ⟨x', rfl, hR2, ht2, hwi⟩; have H2 : Hid (RelS w2 (Grow F W.heap.size w2) rb ar T ∧ Turn F W w2) := ⟨hR2, ht2⟩; clear hR2 ht2)
        | (go_at_call 33; refine hwi.mono ?_; rintro e w3 ⟨a3, b3, o3, c3, rfl, hI3, hs3⟩; have H3 : Hid (Stay w2 w3) := hs3; clear hs3 hwi hI3))
      go_ret2
      exact ⟨rfl, H2.out.1.grow_to H3.out, H2.out.2.trans (Turn.of_stay H3.out)⟩
end
end Go.Proofs.Ytnhmjheipfopoaa.L
