/- The document's relation: keyed, Match. -/
import Derived.Test.YtnhmjheipfopoaaL7c
namespace Go.Proofs.Ytnhmjheipfopoaa.L
open Go.RowKit Go.Maps Go.Shelf Go.Proofs.Ytnhmjheipfopoaa

set_option maxRecDepth 100000 in
set_option maxHeartbeats 2000000 in
theorem y4keyed_any (w : World) (a1 a2 a3 : Option Addr) (b1 o1 c1 b2 o2 c2 b3 o3 c3 : Nat) (t C K : List Int) (ht : IntsS w a1 b1 o1 t) (hC : IntsS w a2 b2 o2 C) (hK : IntsS w a3 b3 o3 K) (hlt : t.length ≤ 16) (hlC : C.length ≤ 16) (hl : K.length = C.length) (hin : ∀ x ∈ C, 0 ≤ x ∧ x < (t.length : Int)) :
    Calls Try.prog 27 #[.slice a1 t.length c1, .slice a2 C.length c2, .slice a3 K.length c3] w fun e w' => e = .returned (.bool (decide (cutC t C = K))) ∧ ∃ n, w' = w.drewN n := by
  have H : Hid (IntsS w a1 b1 o1 t ∧ IntsS w a2 b2 o2 C ∧ IntsS w a3 b3 o3 K) := ⟨ht, hC, hK⟩
  have HI : Hid (∀ x ∈ C, 0 ≤ x ∧ x < (t.length : Int)) := hin
  have HL : Hid (K.length = C.length) := hl
  clear ht hC hK hin hl
  go_enter Try.func27, Try.ntmps27
  go_wp2
  go_loopw [7] (fun i wr => ∃ k : Nat, k ≤ C.length ∧ i = .int .i64 k ∧ (∀ j (h : j < C.length) (h2 : j < K.length), j < k → t.getD C[j].toNat 0 = K[j]) ∧ ∃ n, wr = w.drewN n) (fun i _ => C.length - (intOf i).toNat)
  case atStart => exact ⟨0, Nat.zero_le _, rfl, fun j _ _ hj => absurd hj (Nat.not_lt_zero _), 0, rfl⟩
  case round =>
    obtain ⟨k, hk, rfl, hh, n, rfl⟩ := hrel
    by_cases hkl : k < C.length
    · have hkK : k < K.length := by have := HL.out; omega
      obtain rfl := H.out.2.1.1 (by omega)
      obtain rfl := H.out.2.2.1 (by omega)
      have hc2 := H.out.2.1.2 k hkl
      have hc3 := H.out.2.2.2 k hkK
      have hb2 : (k : Int) < (C.length : Int) := by omega
      have hb3 : (k : Int) < (K.length : Int) := by omega
      have hin := HI.out _ (List.getElem_mem hkl)
      obtain ⟨q, hq⟩ : ∃ q : Nat, C[k] = q := ⟨C[k].toNat, by omega⟩
      rw [hq] at hc2 hin
      have hqt : q < t.length := by omega
      obtain rfl := H.out.1.1 (by omega)
      have hc1 := H.out.1.2 q hqt
      have hb1 : (q : Int) < (t.length : Int) := by omega
      have HY : Hid (t[q] = K[k] → ∀ j (h : j < C.length) (h2 : j < K.length), j < k + 1 → t.getD C[j].toNat 0 = K[j]) := fun e j h h2 hj => by
        by_cases e2 : j = k
        · subst e2; rw [hq, ← e]; simp [hqt]
        · exact hh j h h2 (by omega)
      have HN : Hid (t[q] ≠ K[k] → decide (cutC t C = K) = false) := fun e => by
        rw [decide_eq_false_iff_not]
        rintro rfl
        apply e
        simp [cutC, hq, hqt]
      generalize t[q] = x at hc1 HY HN
      generalize K[k] = y at hc3 HY HN
      clear hh hin hq
      by_cases he : x = y
      · have he' : (x != y) = false := by simp [he]
        have HZ : Hid _ := HY.out he
        clear HY HN he
        go_wp2
        go_quiet (fail)
        go_wp2
        go_roundw
        case rel => exact ⟨k + 1, by omega, by go_num, HZ.out, _, rfl⟩
        case measure => simp [intOf]; omega
      · have he' : (x != y) = true := by simp [he]
        have HZ : Hid _ := HN.out he
        clear HY HN he
        go_wp2
        go_quiet (fail)
        go_wp2
        go_ret
        exact ⟨by simp [HZ.out], _, World.drewN_drewN _ _ _⟩
    · have hkb : ¬ (k : Int) < (C.length : Int) := by omega
      have HZ : Hid (decide (cutC t C = K) = true) := by
        show _ = _
        rw [decide_eq_true_eq]
        have hl := HL.out
        apply List.ext_getElem (by rw [cutC_len, hl])
        intro i h1 h2
        rw [cutC_len] at h1
        have := hh i h1 h2 (by omega)
        simpa [cutC] using this
      clear hh
      go_wp2
      go_ret
      exact ⟨by simp [HZ.out], n, rfl⟩

/-- What Match tells: the places below k. -/
def mtP (T : List (List Int)) (C K : List Int) (x y : Int) (k : Nat) : List Nat := (List.range k).filter fun p => decide (x ≤ (p : Int)) && decide ((p : Int) < y) && decide (cutC (T.getD p []) C = K)
def mtL (ar : Nat) (T : List (List Int)) (C K : List Int) (x y : Int) : List Nat := if rowB ar C = true ∧ K.length = C.length then mtP T C K x y T.length else []
theorem mtP_succ (T : List (List Int)) (C K : List Int) (x y : Int) (k : Nat) : mtP T C K x y (k + 1) = mtP T C K x y k ++ (if x ≤ (k : Int) ∧ (k : Int) < y ∧ cutC (T.getD k []) C = K then [k] else []) := by
  unfold mtP
  rw [List.range_succ, List.filter_append]
  congr 1
  by_cases h : x ≤ (k : Int) ∧ (k : Int) < y ∧ cutC (T.getD k []) C = K
  · obtain ⟨h1, h2, h3⟩ := h
    rw [if_pos ⟨h1, h2, h3⟩]
    rw [List.getD_eq_getElem?_getD] at h3
    simp [h1, h2, h3]
  · rw [if_neg h, List.filter_eq_nil_iff]
    intro a ha
    rw [List.mem_singleton] at ha
    subst ha
    simpa [and_assoc] using h
theorem mtP_len (T : List (List Int)) (C K : List Int) (x y : Int) (k : Nat) : (mtP T C K x y k).length ≤ k := by
  have := List.length_filter_le (fun p => decide (x ≤ ((p : Nat) : Int)) && decide ((p : Int) < y) && decide (cutC (T.getD p []) C = K)) (List.range k)
  simpa [mtP] using this
/-- Numbers as they stand in memory. -/
def intsN (l : List Nat) : List Int := l.map fun (p : Nat) => (p : Int)
theorem intsN_len (l : List Nat) : (intsN l).length = l.length := by simp [intsN]
theorem intsN_snoc (l : List Nat) (k : Nat) : intsN (l ++ [k]) = intsN l ++ [(k : Int)] := by simp [intsN]

section
variable {W W' : World} {G R : Nat → Prop} {qb ar : Nat} {T : List (List Int)} {lv : Value} {us : List Tup}
set_option maxRecDepth 100000 in
theorem rowB_in {C : List Int} (h : rowB ar C = true) : C.length ≤ ar ∧ ∀ x ∈ C, 0 ≤ x ∧ x < (ar : Int) := by
  have h1 := (rowB_iff ar C).1 h
  have h3 : ∀ x ∈ C, 0 ≤ x ∧ x < (ar : Int) := by
    intro x hx
    obtain ⟨j, hj, rfl⟩ := List.mem_iff_getElem.1 hx
    have := h1 j hj
    simp [colOk, hj] at this
    omega
  have h2 : ∀ j (hj : j < C.length), (j : Int) ≤ C[j] := by
    intro j
    induction j with
    | zero => intro hj; have := h3 _ (List.getElem_mem hj); omega
    | succ j ih =>
      intro hj
      have := ih (by omega)
      have h4 := h1 (j + 1) hj
      have hj' : j < C.length := by omega
      simp [colOk, hj, hj'] at h4
      omega
  refine ⟨?_, h3⟩
  by_cases e : C.length = 0
  · omega
  · have h4 := h2 (C.length - 1) (by omega)
    have h5 := h3 _ (List.getElem_mem (show C.length - 1 < C.length by omega))
    omega

set_option maxRecDepth 100000 in
set_option maxHeartbeats 4000000 in
theorem y4Match_any (h : Rf W G R qb ar T lv us) (hT : T.length ≤ 68719476736) (a2 a3 : Option Addr) (b2 o2 c2 b3 o3 c3 : Nat) (C K : List Int) (hC : IntsS W a2 b2 o2 C) (hK : IntsS W a3 b3 o3 K) (hlC : C.length ≤ maxLen) (x y : Int) :
    Calls Try.prog 9 #[.pointer (some ⟨qb, 0, none⟩), .slice a2 C.length c2, .slice a3 K.length c3, .int .i64 x, .int .i64 y] W fun e w' => ∃ v, e = .returned v ∧ OwnI W.heap.size w' v (intsN (mtL ar T C K x y)) ∧ Stay W w' := by
  obtain ⟨i0, hi, hz0, hz1, hz2⟩ := info_parts infoInt
  have hrow := y4row_any h.c0 a2 b2 o2 c2 C hC hlC
  have HO : Hid (OwnI W.heap.size W (.slice none 0 0) []) := World.ownsRow_nil _ _ _ _
  by_cases hr : rowB ar C = true
  · rw [hr] at hrow
    by_cases hl : K.length = C.length
    · have hne : ((K.length : Int) != (C.length : Int)) = false := by simp [hl]
      have HM : Hid (mtL ar T C K x y = mtP T C K x y T.length) := if_pos ⟨hr, hl⟩
      obtain ⟨hCar, hCin⟩ := rowB_in hr
      have har := h.arle
      have hlC16 : C.length ≤ 16 := by omega
      obtain ⟨a9, c9, rfl, hm, hcell⟩ := h.slice
      have c1 := h.c1
      have hul := h.len
      have H : Hid (Rf W G R qb ar T (.slice a9 T.length c9) us ∧ IntsS W a2 b2 o2 C ∧ IntsS W a3 b3 o3 K ∧ ∀ (i : Nat) (u : Tup), us[i]? = some u → ∃ g, a9 = some ⟨g, 0, none⟩ ∧ W.cell? ⟨g, i, none⟩ = some u.v) := ⟨h, hC, hK, hcell⟩
      have HX : Hid (K.length = C.length ∧ ∀ x ∈ C, 0 ≤ x ∧ x < (ar : Int)) := ⟨hl, hCin⟩
      clear h hC hK hcell hr hl hCin hCar
      go_enter Try.func9, Try.ntmps9
      go_wp2_with (go_at_call 26; refine hrow.mono ?_; rintro e w' ⟨rfl, n0, rfl⟩; clear hrow)
      have HS0 : Hid (Stay W (W.drewN n0)) := Stay.drewN W n0
      generalize W.drewN n0 = W0 at HS0
      go_loopw [11, 12] (fun v i wr => ∃ k : Nat, k ≤ T.length ∧ i = .int .i64 k ∧ OwnI W.heap.size wr v (intsN (mtP T C K x y k)) ∧ Stay W wr) (fun _ i _ => T.length - (intOf i).toNat)
      case atStart => exact ⟨0, Nat.zero_le _, rfl, World.ownsRow_nil _ _ _ _, HS0.out⟩
      case round =>
        obtain ⟨k, hk, rfl, hown, hst⟩ := hrel
        have c1k := hst.cell c1
        by_cases hlt : k < T.length
        · have hkb : (k : Int) < (T.length : Int) := by omega
          obtain ⟨u, hu⟩ : ∃ u, us[k]? = some u := ⟨_, List.getElem?_eq_getElem (by omega)⟩
          have hTk := H.out.1.at hu
          obtain ⟨g, rfl, hc⟩ := H.out.2.2.2 k u hu
          have hc' := hst.cell hc
          have hxl := H.out.1.rows _ (List.mem_of_getElem? hTk)
          have hkd := y4keyed_any wr u.a a2 a3 u.b u.o u.c b2 o2 c2 b3 o3 c3 u.xs C K ((H.out.1.each u (List.mem_of_getElem? hu)).stay hst) (H.out.2.1.stay hst) (H.out.2.2.1.stay hst) (by omega) hlC16 HX.out.1 (by rw [hxl]; exact HX.out.2)
          have hsu := mtP_succ T C K x y k
          rw [show T.getD k [] = u.xs by rw [List.getD_eq_getElem?_getD, hTk]; rfl] at hsu
          have hml := mtP_len T C K x y k
          have HO2 : Hid (OwnI W.heap.size wr u11 (intsN (mtP T C K x y k)) ∧ Stay W wr) := ⟨hown, hst⟩
          have HSU : Hid _ := hsu
          have HML : Hid _ := hml
          clear hu hTk hc hxl hown hst hsu hml
          unfold Tup.v at hc'
          generalize u.xs.length = ul at hc' hkd
          generalize u.xs = ux at hkd HSU
          by_cases h1 : x ≤ (k : Int)
          · by_cases h2 : (k : Int) < y
            · by_cases h3 : cutC ux C = K
              · rw [show decide (cutC ux C = K) = true by simpa using h3] at hkd
                have HN : Hid (mtP T C K x y (k + 1) = mtP T C K x y k ++ [k]) := by show _ = _; rw [HSU.out, if_pos ⟨h1, h2, h3⟩]
                clear HSU h3
                go_wp2_with (first | (go_at_call 27; refine hkd.mono ?_; rintro e w' ⟨rfl, n1, rfl⟩; clear hkd) | (at_builtin; refine wpList_append_own _ rfl _ _ 23 rfl W.heap.size 3 i0 _ 1 8 Try.underlying23 hi hz0 hz1 hz2 rfl (by decide) u11 (intsN (mtP T C K x y k)).length ((intsN (mtP T C K x y k)).map (Value.int .i64)) rfl ((HO2.out.1.stay (Stay.drewN _ _)).alloc _) ⟨(wr.drewN n1).heap.size, 0, none⟩ 1 1 [.int .i64 k] rfl rfl (new_cells (wr.drewN n1) [.int .i64 k] 3) (by simp [Value.oneCell']) (by rw [intsN_len]; have := HML.out; unfold maxLen; omega) (by rw [intsN_len]; have := HML.out; omega) (by rw [World.size_alloc]; have := (HO2.out.2.trans (Stay.drewN wr n1)).size; omega) ?_; intro v2 w2 hown2 hg2 hn2; have HR : Hid (OwnI W.heap.size w2 v2 (intsN (mtP T C K x y (k + 1))) ∧ Stay W w2) := ⟨(by rw [HN.out, intsN_snoc]; unfold OwnI; rw [List.length_append, List.map_append]; exact hown2), ((HO2.out.2.trans (Stay.drewN wr n1)).alloc _).grown hg2 (by rw [World.size_alloc]; have := (HO2.out.2.trans (Stay.drewN wr n1)).size; omega) (fun k e => (HO2.out.1.lt k e).1)⟩; clear hown2 hg2 hn2))
                go_roundw
                case rel => exact ⟨k + 1, by omega, by go_num, HR.out.1, HR.out.2⟩
                case measure => simp [intOf]; omega
              · rw [show decide (cutC ux C = K) = false by simpa using h3] at hkd
                have HN : Hid (mtP T C K x y (k + 1) = mtP T C K x y k) := by show _ = _; rw [HSU.out, if_neg (fun e => h3 e.2.2), List.append_nil]
                clear HSU h3
                go_wp2_with (first | (go_at_call 27; refine hkd.mono ?_; rintro e w' ⟨rfl, n1, rfl⟩; clear hkd))
                go_roundw
                case rel => exact ⟨k + 1, by omega, by go_num, by rw [HN.out]; exact HO2.out.1.stay (Stay.drewN _ _), HO2.out.2.trans (Stay.drewN _ _)⟩
                case measure => simp [intOf]; omega
            · have HN : Hid (mtP T C K x y (k + 1) = mtP T C K x y k) := by show _ = _; rw [HSU.out, if_neg (fun e => h2 e.2.1), List.append_nil]
              clear HSU
              go_wp2
              go_roundw
              case rel => exact ⟨k + 1, by omega, by go_num, by rw [HN.out]; exact HO2.out.1, HO2.out.2⟩
              case measure => simp [intOf]; omega
          · have HN : Hid (mtP T C K x y (k + 1) = mtP T C K x y k) := by show _ = _; rw [HSU.out, if_neg (fun e => h1 e.1), List.append_nil]
            clear HSU
            go_wp2
            go_roundw
            case rel => exact ⟨k + 1, by omega, by go_num, by rw [HN.out]; exact HO2.out.1, HO2.out.2⟩
            case measure => simp [intOf]; omega
        · have hkb : ¬ (k : Int) < (T.length : Int) := by omega
          obtain rfl : k = T.length := by omega
          have HR : Hid (OwnI W.heap.size wr u11 (intsN (mtP T C K x y T.length)) ∧ Stay W wr) := ⟨hown, hst⟩
          clear hown hst
          go_wp2
          go_ret
          exact ⟨_, rfl, by rw [HM.out]; exact HR.out.1, HR.out.2⟩
    · have hne : ((K.length : Int) != (C.length : Int)) = true := by simp; omega
      have HM : Hid (mtL ar T C K x y = []) := if_neg (fun e => hl e.2)
      clear h hC hK hr hl
      go_enter Try.func9, Try.ntmps9
      go_wp2_with (go_at_call 26; refine hrow.mono ?_; rintro e w' ⟨rfl, n0, rfl⟩; clear hrow)
      go_ret
      exact ⟨_, rfl, by rw [HM.out]; exact HO.out.stay (Stay.drewN _ _), Stay.drewN _ _⟩
  · have hr' : rowB ar C = false := by simpa using hr
    rw [hr'] at hrow
    have HM : Hid (mtL ar T C K x y = []) := if_neg (fun e => hr e.1)
    clear h hC hK hr hr'
    go_enter Try.func9, Try.ntmps9
    go_wp2_with (go_at_call 26; refine hrow.mono ?_; rintro e w' ⟨rfl, n0, rfl⟩; clear hrow)
    go_ret
    exact ⟨_, rfl, by rw [HM.out]; exact HO.out.stay (Stay.drewN _ _), Stay.drewN _ _⟩
end
end Go.Proofs.Ytnhmjheipfopoaa.L
