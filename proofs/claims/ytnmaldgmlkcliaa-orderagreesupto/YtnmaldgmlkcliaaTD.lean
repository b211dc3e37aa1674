/- The document's Sort, has, Find. -/
import Derived.Test.YtnmaldgmlkcliaaTB
import Derived.Test.YtnmaldgmlkcliaaTC
namespace Go.Proofs.Ytnmaldgmlkcliaa
open Go.RowKit Go.Maps Go.Sort

set_option maxRecDepth 100000 in
set_option maxHeartbeats 4000000 in
theorem rsort_any (w : World) (a : Option Addr) (b off c : Nat) (l : List (Int × Int)) (hS : ThS w a b off l) (hb : l.length * 16 ≤ 140737488355328) :
    Calls Try.prog 5 #[.slice a l.length c] w fun e w' => ∃ v, e = .returned v ∧ OwnT w.heap.size w' v (sortR l) ∧ Stay w w' := by
  have HX : Hid (ThS w a b off l) := hS
  clear hS
  go_enter Try.func5, Try.ntmps5
  go_wp2
  go_loopw [3, 4] (fun v i wr => ∃ k : Nat, k ≤ l.length ∧ i = .int .i64 k ∧ OwnT w.heap.size wr v (sortR (l.take k)) ∧ Stay w wr) (fun v i _ => l.length - (intOf i).toNat)
  case atStart => exact ⟨0, Nat.zero_le _, rfl, OwnT.nil, Stay.refl _⟩
  case round =>
    obtain ⟨k, hk, rfl, hown, hst⟩ := hrel
    by_cases hlt : k < l.length
    · have hi1 : (k : Int) < (l.length : Int) := by omega
      obtain rfl := HX.out.1 (by omega)
      obtain ⟨x, hx⟩ : ∃ x, x = l[k] := ⟨_, rfl⟩
      obtain ⟨out, hout⟩ : ∃ out, out = sortR (l.take k) := ⟨_, rfl⟩
      have hol : out.length = k := by rw [hout, sortR_len, List.length_take]; omega
      rw [← hout] at hown
      have HK : Hid (x = l[k] ∧ Rises out ∧ sortR (l.take (k + 1)) = insR out x ∧ OwnT w.heap.size wr u3 out ∧ Stay w wr ∧ out.length = k ∧ OwnT w.heap.size wr u3 out) := ⟨hx, by rw [hout]; exact sortR_rises _, by rw [hout, hx]; exact sortR_take l k hlt, hown, hst, hol, hown⟩
      obtain ⟨oa, ob, oc, hv, hoS, hon, hom, _⟩ := hown.form
      rw [hol] at hv
      have HO : Hid (u3 = .slice oa k oc ∧ ThS wr oa ob 0 out) := ⟨hv, hoS⟩
      rw [hv]
      have hol1 : out.length ≤ k := by omega
      have hol2 : k ≤ out.length := by omega
      clear hown hst hx hout hv hoS hon hom hol
      obtain ⟨x1, x2⟩ := x
      rename World => W1
      have hk60 : (k : Int) ≤ 8796093022208 := by omega
      go_wp2
      go_loopw [5] (fun vt wr => ∃ t : Nat, t ≤ k ∧ vt = .int .i64 t ∧ (∀ j (h : j < out.length), t ≤ j → x1 < out[j].1) ∧ Stay W1 wr) (fun vt _ => (intOf vt).toNat)
      case atStart => exact ⟨k, Nat.le_refl _, rfl, fun j h hj => by omega, Stay.refl _⟩
      case round =>
        obtain ⟨t, ht, rfl, hgt, hst⟩ := hrel
        have HG : Hid (∀ j (h : j < out.length), t ≤ j → x1 < out[j].1) := hgt
        have HS : Hid (Stay W1 wr) := hst
        clear hgt
        have hcx := ((HX.out.stay (HK.out.2.2.2.2.1.trans hst)).2 k hlt).1
        rw [← HK.out.1] at hcx
        have hoo := HO.out.2.stay hst
        clear hst
        by_cases ht0 : 0 < t
        · obtain ⟨s, rfl⟩ : ∃ s, t = s + 1 := ⟨t - 1, by omega⟩
          obtain ⟨y, hy⟩ : ∃ y, y = out[s]'(by omega) := ⟨_, rfl⟩
          have hcy := (hoo.2 s (by omega)).1
          rw [← hy, Nat.zero_add] at hcy
          have hoa := HO.out.2.1 (by omega)
          subst hoa
          have HY : Hid (y = out[s]'(by omega)) := hy
          obtain ⟨y1, y2⟩ := y
          have hw1 : IntKind.i64.wrap (s : Int) = (s : Int) := by rw [IntKind.wrap_i64]; omega
          have ls : (s : Int) < (k : Int) := by omega
          have ht1 : (0 : Int) < (s : Int) + 1 := by omega
          clear hy hoo
          by_cases hyx : x1 < y1
          · go_wp2_with fail
            go_quiet (fail)
            go_wp2
            go_roundw
            case rel => exact ⟨s, by omega, by go_num, fun j h hj => by
              by_cases e : j = s
              · subst e; have := HY.out; rw [← this]; exact hyx
              · exact HG.out j h (by omega), HS.out.trans (Stay.drewN _ _)⟩
            case measure => simp [intOf]
          · go_wp2_with fail
            go_quiet (fail)
            have HSq : Hid (Stay W1 (wr.drewN nq)) := HS.out.trans (Stay.drewN _ _)
            obtain ⟨t, htt⟩ : ∃ t, t = s + 1 := ⟨_, rfl⟩
            have HT0 : Hid (t = 0 ∨ ∃ h : t - 1 < out.length, (out[t - 1]).1 ≤ x1) := by
              refine .inr ⟨by omega, ?_⟩
              have h5 := HY.out
              have h6 : (out[s]'(by omega)).1 ≤ x1 := by rw [← h5]; show y1 ≤ x1; omega
              have e : t - 1 = s := by omega
              simp only [e]
              exact h6
            have HG2 : Hid (∀ j (h : j < out.length), t ≤ j → x1 < out[j].1) := fun j h hj => HG.out j h (by omega)
            have ht2 : t ≤ k := by omega
            have et : (s : Int) + 1 = (t : Int) := by omega
            rw [et]
            clear hcx hcy HY HG hw1 ls ht1 ht0 ht et htt
            rename Hid (∀ j (h : j < out.length), t ≤ j → x1 < out[j].1) => HG
            generalize (some (⟨ob, 0, none⟩ : Addr)) = oa at HO ⊢
            rename t ≤ k => ht
            generalize wr.drewN nq = Wq at HSq ⊢
            obtain ⟨v3, w3, hr, h2, h3, h4, _⟩ := append_thing 23 (HK.out.2.2.2.1.stay HSq.out) 0 0 (by rw [HK.out.2.2.2.2.2.1]; omega) (Nat.le_trans HK.out.2.2.2.2.1.size HSq.out.size)
            rw [HO.out.1] at hr
            obtain ⟨g, cap, hv3, hR, hgb⟩ := h2.row h4
            have hl3 : (out ++ [((0 : Int), (0 : Int))]).length = k + 1 := by rw [List.length_append, HK.out.2.2.2.2.2.1]; rfl
            rw [hl3] at hv3
            subst hv3
            have hcap := hR.len
            rw [hl3] at hcap
            unfold maxLen at hcap
            have HA : Hid ((Builtin.append_ #[23, 23] 23 #[.slice oa k oc, .slice (some ⟨Wq.heap.size, 0, none⟩) 1 1]).run Try.prog (Wq.alloc (.cells #[.int .i64 0, .int .i64 0] 26)) = .ok (.slice (some ⟨g, 0, none⟩) (k + 1) cap) w3 ∧ RowT w3 g cap (shiftR out k) ∧ Stay w w3) := ⟨hr, by have e := shift_start out; rw [HK.out.2.2.2.2.2.1] at e; rw [e]; exact hR, own_grow ((HK.out.2.2.2.2.1.trans HSq.out).alloc _) (Nat.le_refl _) ((HK.out.2.2.2.1.stay HSq.out).alloc _) h3⟩
            clear hr h2 h3 h4 hR hl3
            go_wp2_with (at_builtin; refine wpList_append_by rfl (.tmp 33) (.tmp 35) 23 23 rfl _ _ rfl rfl HA.out.1 ?_)
            go_loopw [6] (fun vq wr => ∃ q : Nat, t ≤ q ∧ q ≤ k ∧ vq = .int .i64 q ∧ RowT wr g cap (shiftR out q) ∧ Turn (fun j => j = g) w3 wr) (fun vq _ => (intOf vq).toNat)
            case atStart => exact ⟨k, ht, Nat.le_refl _, rfl, HA.out.2.1, Turn.refl _ _⟩
            case round =>
              obtain ⟨q, hq1, hq2, rfl, hR, hT⟩ := hrel
              have HRT : Hid (RowT wr g cap (shiftR out q) ∧ Turn (fun j => j = g) w3 wr) := ⟨hR, hT⟩
              have fz := hR.free
              by_cases hqt : t < q
              · have hqi : (t : Int) < (q : Int) := by omega
                obtain ⟨p, rfl⟩ : ∃ p, q = p + 1 := ⟨q - 1, by omega⟩
                obtain ⟨y, hy⟩ : ∃ y, out[p]? = some y := ⟨_, List.getElem?_eq_getElem (by rw [HK.out.2.2.2.2.2.1]; omega)⟩
                have hsl := shift_len out (p + 1) (by rw [HK.out.2.2.2.2.2.1]; omega)
                rw [HK.out.2.2.2.2.2.1] at hsl
                have hcy := hR.cells p y (by rw [shift_get out (p + 1) p (by rw [HK.out.2.2.2.2.2.1]; omega) (by omega)]; exact hy)
                obtain ⟨z, hz⟩ : ∃ z, (shiftR out (p + 1))[p + 1]? = some z := ⟨_, List.getElem?_eq_getElem (by rw [hsl]; omega)⟩
                have hcz := hR.cells (p + 1) z hz
                have HP : Hid (RowT (putT wr g (p + 1) y) g cap (shiftR out p) ∧ Turn (fun j => j = g) w3 (putT wr g (p + 1) y)) := by
                  have h1 := hR.store (p + 1) y (by rw [hsl]; omega)
                  have e1 : y = out[p]'(by rw [HK.out.2.2.2.2.2.1]; omega) := by obtain ⟨h, e⟩ := List.getElem?_eq_some_iff.1 hy; exact e.symm
                  rw [e1, shift_step out p (by rw [HK.out.2.2.2.2.2.1]; omega), ← e1] at h1
                  exact ⟨h1, putT_turn hT rfl _ _⟩
                obtain ⟨y1, y2⟩ := y
                obtain ⟨z1, z2⟩ := z
                obtain ⟨hy1, hy2⟩ := hcy
                obtain ⟨hz1, hz2⟩ := hcz
                have lq : (p : Int) + 1 < (k : Int) + 1 := by omega
                have lp : (p : Int) < (k : Int) + 1 := by omega
                clear hR hT hy hz hsl
                go_wp2
                exact ⟨⟨p, by omega, by omega, by go_num, HP.out.1, HP.out.2⟩, by simp [intOf]⟩
              · have hqi : ¬ (t : Int) < (q : Int) := by omega
                obtain rfl : q = t := by omega
                have hsl := shift_len out q (by rw [HK.out.2.2.2.2.2.1]; omega)
                rw [HK.out.2.2.2.2.2.1] at hsl
                obtain ⟨z, hz⟩ : ∃ z, (shiftR out q)[q]? = some z := ⟨_, List.getElem?_eq_getElem (by rw [hsl]; omega)⟩
                obtain ⟨hz1, hz2⟩ := hR.cells q z hz
                have hsw : Stay w wr := hT.stay HA.out.2.2 (fun j hj e => by omega)
                have hc2 := (HX.out.stay hsw).2 k hlt
                rw [← HK.out.1] at hc2
                obtain ⟨hx1, hx2⟩ := hc2
                have HP : Hid (OwnT w.heap.size (putT wr g q (x1, x2)) (.slice (some ⟨g, 0, none⟩) (k + 1) cap) (sortR (l.take (k + 1))) ∧ Stay w (putT wr g q (x1, x2))) := by
                  have h1 := hR.store q (x1, x2) (by rw [hsl]; omega)
                  have hpl := rises_place HK.out.2.1 (x1, x2) q HT0.out
                  rw [shift_end out q (by rw [HK.out.2.2.2.2.2.1]; omega), ← insR_at (by rw [HK.out.2.2.2.2.2.1]; omega) hpl HG.out, ← HK.out.2.2.1] at h1
                  have hlen : (sortR (l.take (k + 1))).length = k + 1 := by rw [sortR_len, List.length_take]; omega
                  have h3 := h1.own hgb
                  rw [hlen] at h3
                  exact ⟨h3, (putT_turn hT rfl q (x1, x2)).stay HA.out.2.2 (fun j hj e => by omega)⟩
                obtain ⟨z1, z2⟩ := z
                have lq : (q : Int) < (k : Int) + 1 := by omega
                clear hR hT hz hsl hsw
                go_wp2
                go_roundw
                case rel => exact ⟨k + 1, by omega, by go_num, HP.out.1, HP.out.2⟩
                case measure => simp [intOf]; omega
        · have hb0 : decide (0 < t) = false := decide_eq_false (by omega)
          have HT0 : Hid (t = 0 ∨ ∃ h : t - 1 < out.length, (out[t - 1]).1 ≤ x1) := .inl (by omega)
          clear hoo hcx ht0
          go_wp2_with fail
          go_quiet (fail)
          have HSq : Hid (Stay W1 (wr.drewN nq)) := HS.out.trans (Stay.drewN _ _)
          generalize wr.drewN nq = Wq at HSq ⊢
          obtain ⟨v3, w3, hr, h2, h3, h4, _⟩ := append_thing 23 (HK.out.2.2.2.1.stay HSq.out) 0 0 (by rw [HK.out.2.2.2.2.2.1]; omega) (Nat.le_trans HK.out.2.2.2.2.1.size HSq.out.size)
          rw [HO.out.1] at hr
          obtain ⟨g, cap, hv3, hR, hgb⟩ := h2.row h4
          have hl3 : (out ++ [((0 : Int), (0 : Int))]).length = k + 1 := by rw [List.length_append, HK.out.2.2.2.2.2.1]; rfl
          rw [hl3] at hv3
          subst hv3
          have hcap := hR.len
          rw [hl3] at hcap
          unfold maxLen at hcap
          have HA : Hid ((Builtin.append_ #[23, 23] 23 #[.slice oa k oc, .slice (some ⟨Wq.heap.size, 0, none⟩) 1 1]).run Try.prog (Wq.alloc (.cells #[.int .i64 0, .int .i64 0] 26)) = .ok (.slice (some ⟨g, 0, none⟩) (k + 1) cap) w3 ∧ RowT w3 g cap (shiftR out k) ∧ Stay w w3) := ⟨hr, by have e := shift_start out; rw [HK.out.2.2.2.2.2.1] at e; rw [e]; exact hR, own_grow ((HK.out.2.2.2.2.1.trans HSq.out).alloc _) (Nat.le_refl _) ((HK.out.2.2.2.1.stay HSq.out).alloc _) h3⟩
          clear hr h2 h3 h4 hR hl3
          go_wp2_with (at_builtin; refine wpList_append_by rfl (.tmp 33) (.tmp 35) 23 23 rfl _ _ rfl rfl HA.out.1 ?_)
          go_loopw [6] (fun vq wr => ∃ q : Nat, t ≤ q ∧ q ≤ k ∧ vq = .int .i64 q ∧ RowT wr g cap (shiftR out q) ∧ Turn (fun j => j = g) w3 wr) (fun vq _ => (intOf vq).toNat)
          case atStart => exact ⟨k, ht, Nat.le_refl _, rfl, HA.out.2.1, Turn.refl _ _⟩
          case round =>
            obtain ⟨q, hq1, hq2, rfl, hR, hT⟩ := hrel
            have HRT : Hid (RowT wr g cap (shiftR out q) ∧ Turn (fun j => j = g) w3 wr) := ⟨hR, hT⟩
            have fz := hR.free
            by_cases hqt : t < q
            · have hqi : (t : Int) < (q : Int) := by omega
              obtain ⟨p, rfl⟩ : ∃ p, q = p + 1 := ⟨q - 1, by omega⟩
              obtain ⟨y, hy⟩ : ∃ y, out[p]? = some y := ⟨_, List.getElem?_eq_getElem (by rw [HK.out.2.2.2.2.2.1]; omega)⟩
              have hsl := shift_len out (p + 1) (by rw [HK.out.2.2.2.2.2.1]; omega)
              rw [HK.out.2.2.2.2.2.1] at hsl
              have hcy := hR.cells p y (by rw [shift_get out (p + 1) p (by rw [HK.out.2.2.2.2.2.1]; omega) (by omega)]; exact hy)
              obtain ⟨z, hz⟩ : ∃ z, (shiftR out (p + 1))[p + 1]? = some z := ⟨_, List.getElem?_eq_getElem (by rw [hsl]; omega)⟩
              have hcz := hR.cells (p + 1) z hz
              have HP : Hid (RowT (putT wr g (p + 1) y) g cap (shiftR out p) ∧ Turn (fun j => j = g) w3 (putT wr g (p + 1) y)) := by
                have h1 := hR.store (p + 1) y (by rw [hsl]; omega)
                have e1 : y = out[p]'(by rw [HK.out.2.2.2.2.2.1]; omega) := by obtain ⟨h, e⟩ := List.getElem?_eq_some_iff.1 hy; exact e.symm
                rw [e1, shift_step out p (by rw [HK.out.2.2.2.2.2.1]; omega), ← e1] at h1
                exact ⟨h1, putT_turn hT rfl _ _⟩
              obtain ⟨y1, y2⟩ := y
              obtain ⟨z1, z2⟩ := z
              obtain ⟨hy1, hy2⟩ := hcy
              obtain ⟨hz1, hz2⟩ := hcz
              have lq : (p : Int) + 1 < (k : Int) + 1 := by omega
              have lp : (p : Int) < (k : Int) + 1 := by omega
              clear hR hT hy hz hsl
              go_wp2
              exact ⟨⟨p, by omega, by omega, by go_num, HP.out.1, HP.out.2⟩, by simp [intOf]⟩
            · have hqi : ¬ (t : Int) < (q : Int) := by omega
              obtain rfl : q = t := by omega
              have hsl := shift_len out q (by rw [HK.out.2.2.2.2.2.1]; omega)
              rw [HK.out.2.2.2.2.2.1] at hsl
              obtain ⟨z, hz⟩ : ∃ z, (shiftR out q)[q]? = some z := ⟨_, List.getElem?_eq_getElem (by rw [hsl]; omega)⟩
              obtain ⟨hz1, hz2⟩ := hR.cells q z hz
              have hsw : Stay w wr := hT.stay HA.out.2.2 (fun j hj e => by omega)
              have hc2 := (HX.out.stay hsw).2 k hlt
              rw [← HK.out.1] at hc2
              obtain ⟨hx1, hx2⟩ := hc2
              have HP : Hid (OwnT w.heap.size (putT wr g q (x1, x2)) (.slice (some ⟨g, 0, none⟩) (k + 1) cap) (sortR (l.take (k + 1))) ∧ Stay w (putT wr g q (x1, x2))) := by
                have h1 := hR.store q (x1, x2) (by rw [hsl]; omega)
                have hpl := rises_place HK.out.2.1 (x1, x2) q HT0.out
                rw [shift_end out q (by rw [HK.out.2.2.2.2.2.1]; omega), ← insR_at (by rw [HK.out.2.2.2.2.2.1]; omega) hpl HG.out, ← HK.out.2.2.1] at h1
                have hlen : (sortR (l.take (k + 1))).length = k + 1 := by rw [sortR_len, List.length_take]; omega
                have h3 := h1.own hgb
                rw [hlen] at h3
                exact ⟨h3, (putT_turn hT rfl q (x1, x2)).stay HA.out.2.2 (fun j hj e => by omega)⟩
              obtain ⟨z1, z2⟩ := z
              have lq : (q : Int) < (k : Int) + 1 := by omega
              clear hR hT hz hsl hsw
              go_wp2
              go_roundw
              case rel => exact ⟨k + 1, by omega, by go_num, HP.out.1, HP.out.2⟩
              case measure => simp [intOf]; omega
    · have hi1 : ¬ (k : Int) < (l.length : Int) := by omega
      obtain rfl : k = l.length := by omega
      rw [List.take_length] at hown
      have HN : Hid (OwnT w.heap.size wr u3 (sortR l) ∧ Stay w wr) := ⟨hown, hst⟩
      clear hown hst
      go_wp2
      go_ret
      exact ⟨u3, rfl, HN.out.1, HN.out.2⟩
end Go.Proofs.Ytnmaldgmlkcliaa
