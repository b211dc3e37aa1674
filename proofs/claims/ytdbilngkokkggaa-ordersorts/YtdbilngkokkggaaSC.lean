/- order.Meet, order.Minus. -/
import Derived.Test.YtdbilngkokkggaaSA
import Derived.Test.YtdbilngkokkggaaHBT
import Derived.Test.YtdbilngkokkggaaTG
import Derived.Deep.RegionHeld3
namespace Go.Proofs.Ytdbilngkokkggaa
open Go.RowKit Go.Maps Go.Sort

theorem byS (x1 x2 y1 y2 : Int) (w : World) : Calls Try.prog 18 #[.agg #[.int .i64 x1, .int .i64 x2], .agg #[.int .i64 y1, .int .i64 y2]] w fun e w' => e = .returned (.int .i64 (HT.byC (x1, x2) (y1, y2))) ∧ Stay w w' :=
  (HT.byG (x1, x2) (y1, y2) w).mono fun e w' ⟨h1, q, os, h2⟩ => ⟨h1, by rw [h2]; exact HT.stay_grow w q os⟩
theorem things_size (W : World) : (sizeOf (Try.prog.elem 29)).run Try.prog W = .ok 2 W ∧ Try.prog.underlying 29 = some (.slice (Try.prog.elem 29)) := by
  obtain ⟨i0, hi, hz0, hz1, hz2⟩ := info_parts infoTh
  have he : Try.prog.elem 29 = 33 := by simp [Program.elem, Try.underlying29]
  rw [he]
  exact ⟨by simp [sizeOf, typeInfo, hi, hz1], Try.underlying29⟩
/-- l[1:]. -/
theorem cut_one {b off n c : Nat} (hc : n + 1 ≤ c) : ∃ a', (∀ W, (Instr.slice 29 (.slice (some ⟨b, off, none⟩) (n + 1) c) (some (.int .i64 1)) none none).run Try.prog W = .ok (.slice a' n (c - 1)) W) ∧ (0 < n → a' = some ⟨b, off + 2, none⟩) := by
  refine ⟨if c = 1 then some ⟨b, off, none⟩ else some ⟨b, off + 2, none⟩, fun W => ?_, fun h => by rw [if_neg (by omega)]⟩
  have hs := things_size W
  rw [run_slice_l W 29 _ _ _ hs.2 .i64 1 (by omega) (by omega), hs.1]
  simp [sliced, Result.andThen, add_at]

theorem four_keep {Z W W' : World} {g o B : Nat} {z1 z2 x1 x2 : Int} (hs : Stay W W') (h : W.cell? ⟨g, o, none⟩ = some (.int .i64 z1) ∧ W.cell? ⟨g, o + 1, none⟩ = some (.int .i64 z2) ∧ W.cell? ⟨B, 0, none⟩ = some (.int .i64 x1) ∧ W.cell? ⟨B, 1, none⟩ = some (.int .i64 x2) ∧ Hid (Stay Z W)) :
    W'.cell? ⟨g, o, none⟩ = some (.int .i64 z1) ∧ W'.cell? ⟨g, o + 1, none⟩ = some (.int .i64 z2) ∧ W'.cell? ⟨B, 0, none⟩ = some (.int .i64 x1) ∧ W'.cell? ⟨B, 1, none⟩ = some (.int .i64 x2) ∧ Hid (Stay Z W') :=
  ⟨hs.cell h.1, hs.cell h.2.1, hs.cell h.2.2.1, hs.cell h.2.2.2.1, h.2.2.2.2.out.trans hs⟩
/-- What is kept of one. -/
def siftR (al : Bool) (l m : List (Int × Int)) : List (Int × Int) := l.filter fun x => hasR m x.1 == al
theorem sift_meet (l m : List (Int × Int)) : siftR true l m = meetR l m := by simp [siftR, meetR]
theorem sift_minus (l m : List (Int × Int)) : siftR false l m = minusR l m := by simp [siftR, minusR]
/-- What is left of b: the last r of m. -/
def Rest (v : Value) (m : List (Int × Int)) (j r : Nat) (g o : Nat) : Prop :=
  ∃ aj cj, v = .slice aj r cj ∧ j + r = m.length ∧ r ≤ cj ∧ (0 < r → aj = some ⟨g, o + j * 2, none⟩)

theorem four_stay {Z W : World} {g o B : Nat} {z1 z2 x1 x2 : Int} (h : W.cell? ⟨g, o, none⟩ = some (.int .i64 z1) ∧ W.cell? ⟨g, o + 1, none⟩ = some (.int .i64 z2) ∧ W.cell? ⟨B, 0, none⟩ = some (.int .i64 x1) ∧ W.cell? ⟨B, 1, none⟩ = some (.int .i64 x2) ∧ Hid (Stay Z W)) : Stay Z W := h.2.2.2.2.out
def lenV : Value → Nat
  | .slice _ n _ => n
  | _ => 0
theorem has_no {m : List (Int × Int)} {j : Nat} {y : Int} (hj : ∀ t (h : t < m.length), t < j → m[t].1 < y) (hm : Rises m) (he : ∀ (h : j < m.length), y < m[j].1) : hasR m y = false := by
  unfold hasR
  rw [List.any_eq_false]
  intro x hx
  obtain ⟨t, ht, rfl⟩ := List.mem_iff_getElem.1 hx
  have h1 : ¬ m[t].1 = y := by
    intro e
    by_cases htj : t < j
    · have := hj t ht htj; omega
    · have hjm : j < m.length := by omega
      have h2 := he hjm
      by_cases e2 : j = t
      · subst e2; omega
      · have := List.pairwise_iff_getElem.1 hm j t hjm ht (by omega)
        omega
  simpa using h1
theorem sift_step (al : Bool) (l m : List (Int × Int)) (k : Nat) (h : k < l.length) : siftR al (l.take (k + 1)) m = siftR al (l.take k) m ++ (if hasR m l[k].1 == al then [l[k]] else []) := filter_step _ l k h
theorem sift_len (al : Bool) (l m : List (Int × Int)) (k : Nat) : (siftR al (l.take k) m).length ≤ k := filter_take_le _ l k

set_option maxRecDepth 100000 in
set_option maxHeartbeats 4000000 in
theorem sift_any (al : Bool) (w : World) (a1 a2 : Option Addr) (b1 o1 b2 o2 c1 c2 : Nat) (l m : List (Int × Int)) (h1 : ThS w a1 b1 o1 l) (h2 : ThS w a2 b2 o2 m) (hr1 : Rises l) (hr2 : Rises m) (hl : (l.length + 1) * 16 ≤ 140737488355328) (hm : m.length ≤ c2) (hm2 : m.length ≤ 8796093022208) :
    Calls Try.prog 66 #[.slice a1 l.length c1, .slice a2 m.length c2, .func (.func 18) #[] #[], .bool al] w fun e w' => ∃ v, e = .returned v ∧ OwnT w.heap.size w' v (siftR al l m) ∧ Stay w w' := by
  have HX : Hid (ThS w a1 b1 o1 l ∧ ThS w a2 b2 o2 m ∧ Rises l ∧ Rises m ∧ (l.length + 1) * 16 ≤ 140737488355328 ∧ m.length ≤ c2) := ⟨h1, h2, hr1, hr2, hl, hm⟩
  have hl60 : (l.length : Int) ≤ 8796093022208 := by omega
  have hm60 : (m.length : Int) ≤ 8796093022208 := by omega
  have ho := HT.orderOf_yes w
  clear h1 h2 hr1 hr2 hl hm hm2
  go_enter Try.func66, Try.ntmps66
  go_wp2_with fail
  refine ho.mono ?_
  rintro e9 w9 ⟨rfl, hw9⟩
  have hw9' := hw9.symm; subst hw9'
  clear hw9 ho
  go_wp2_with fail
  go_loopw [1, 9, 17] (fun vb vk vi wr => ∃ k j r : Nat, k ≤ l.length ∧ vi = .int .i64 k ∧ Rest vb m j r b2 o2 ∧ (∀ t (h : t < m.length) (hk : k < l.length), t < j → m[t].1 < l[k].1) ∧ OwnT w.heap.size wr vk (siftR al (l.take k) m) ∧ Stay w wr) (fun _ _ vi _ => l.length - (intOf vi).toNat)
  case atStart => exact ⟨0, 0, m.length, Nat.zero_le _, rfl, ⟨a2, c2, rfl, by omega, HX.out.2.2.2.2.2, fun h => by rw [HX.out.2.1.1 h]; simp⟩, fun t h hk ht => by omega, OwnT.nil, Stay.refl _⟩
  case round =>
    obtain ⟨k, j, r, hk, rfl, hR, hj, hown, hst⟩ := hrel
    by_cases hlt : k < l.length
    · have hi1 : (k : Int) < (l.length : Int) := by omega
      obtain rfl := HX.out.1.1 (by omega)
      obtain ⟨hc1, hc2⟩ := (HX.out.1.stay hst).2 k hlt
      obtain ⟨y, hy⟩ : ∃ y, y = l[k] := ⟨_, rfl⟩
      rw [← hy] at hc1 hc2
      have HJ : Hid ((∀ t (h : t < m.length), t < j → m[t].1 < y.1) ∧ y = l[k]) := ⟨fun t h ht => by rw [hy]; exact hj t h hlt ht, hy⟩
      obtain ⟨y1, y2⟩ := y
      dsimp only at hc1 hc2
      have HW : Hid (OwnT w.heap.size wr u9 (siftR al (l.take k) m) ∧ Stay w wr ∧ Rest u1 m j r b2 o2) := ⟨hown, hst, hR⟩
      clear hy hj hown hst hR
      go_wp2_with fail
      have HG0 : Hid (OwnT w.heap.size (wr.alloc (.cells #[.int .i64 y1, .int .i64 y2] 33)) u9 (siftR al (l.take k) m) ∧ Stay w (wr.alloc (.cells #[.int .i64 y1, .int .i64 y2] 33)) ∧ (wr.alloc (.cells #[.int .i64 y1, .int .i64 y2] 33)).cell? ⟨wr.heap.size, 0, none⟩ = some (.int .i64 y1) ∧ (wr.alloc (.cells #[.int .i64 y1, .int .i64 y2] 33)).cell? ⟨wr.heap.size, 1, none⟩ = some (.int .i64 y2)) := ⟨HW.out.1.alloc _, HW.out.2.1.alloc _, by simp, by simp⟩
      generalize wr.alloc (.cells #[.int .i64 y1, .int .i64 y2] 33) = W0 at HG0 ⊢
      generalize wr.heap.size = B at HG0 ⊢
      have HG := HG0
      clear HG0 hc1 hc2
      go_loopw [1] (fun vb wx => ∃ j r : Nat, Rest vb m j r b2 o2 ∧ (∀ t (h : t < m.length), t < j → m[t].1 < y1) ∧ Stay W0 wx) (fun vb _ => lenV vb)
      case atStart => exact ⟨j, r, HW.out.2.2, HJ.out.1, Stay.refl _⟩
      case round =>
        obtain ⟨jN, rN, hR, hj, hst⟩ := hrel
        clear HW
        have HRS : Hid (Rest u1 m jN rN b2 o2) := hR
        have HNX : Hid (∀ t (h : t < m.length) (hk : k + 1 < l.length), t < jN → m[t].1 < l[k + 1].1) := fun t h hk ht => by
          have h1 := hj t h ht
          have h2 := List.pairwise_iff_getElem.1 HX.out.2.2.1 k (k + 1) hlt hk (by omega)
          rw [← HJ.out.2] at h2
          dsimp only at h2
          omega
        obtain ⟨aj, cj, rfl, hjr, hrc, haj⟩ := hR
        have hx1 := hst.cell HG.out.2.2.1
        have hx2 := hst.cell HG.out.2.2.2
        rcases Nat.eq_zero_or_pos rN with rfl | hrp
        · have HQ : Hid (hasR m y1 = false) := has_no hj HX.out.2.2.2.1 (fun h => by omega)
          have HS : Hid (Stay W0 wr) := hst
          clear hst hj haj hrc hjr
          go_wp2_with fail
          go_quiet (fail)
          have HS2 : Hid (Stay W0 (wr.drewN nq)) := HS.out.trans (Stay.drewN _ _)
          generalize wr.drewN nq = W1 at HS2 ⊢
          clear HS hx1 hx2
          go_wp2_with fail
          go_quiet (fail)
          have HVS : Hid (Stay W0 (W1.drewN nq)) := HS2.out.trans (Stay.drewN _ _)
          clear HS2
          have HV : Hid (OwnT w.heap.size (W1.drewN nq) u9 (siftR al (l.take k) m) ∧ Stay w (W1.drewN nq)) := ⟨HG.out.1.stay HVS.out, HG.out.2.1.trans HVS.out⟩
          have hx5 := HVS.out.cell HG.out.2.2.1
          have hx6 := HVS.out.cell HG.out.2.2.2
          clear HVS
          generalize W1.drewN nq = V at HV hx5 hx6 ⊢
          cases al
          case true =>
            have HN : Hid (siftR true (l.take (k + 1)) m = siftR true (l.take k) m) := by
              have := sift_step true l m k hlt
              rw [← HJ.out.2, HQ.out] at this
              simpa [Hid] using this
            go_wp2
            go_roundw
            case rel => exact ⟨k + 1, jN, 0, by omega, by go_num, HRS.out, HNX.out, by rw [HN.out]; exact HV.out.1, HV.out.2⟩
            case measure => simp [intOf]; omega
          case false =>
            have hN : siftR false (l.take (k + 1)) m = siftR false (l.take k) m ++ [(y1, y2)] := by
              have := sift_step false l m k hlt
              rw [← HJ.out.2, HQ.out] at this
              simpa using this
            obtain ⟨v3, w3, hr, g2, g3, _, _⟩ := append_thing 29 HV.out.1 y1 y2 (by have := sift_len false l m k; have := HX.out.2.2.2.2.1; omega) HV.out.2.size
            have HR : Hid ((Builtin.append_ #[29, 29] 29 #[u9, .slice (some ⟨V.heap.size, 0, none⟩) 1 1]).run Try.prog (V.alloc (.cells #[.int .i64 y1, .int .i64 y2] 33)) = .ok v3 w3 ∧ OwnT w.heap.size w3 v3 (siftR false (l.take (k + 1)) m) ∧ Stay w w3) := ⟨hr, by rw [hN]; exact g2, own_grow (HV.out.2.alloc _) (Nat.le_refl _) (HV.out.1.alloc _) g3⟩
            clear hr g2 g3 hN
            go_wp2_with (at_builtin; refine wpList_append_by rfl (.tmp 50) (.tmp 52) 29 29 rfl _ _ rfl rfl HR.out.1 ?_)
            go_roundw
            case rel => exact ⟨k + 1, jN, 0, by omega, by go_num, HRS.out, HNX.out, HR.out.2.1, HR.out.2.2⟩
            case measure => simp [intOf]; omega
        · obtain ⟨r', rfl⟩ : ∃ r', rN = r' + 1 := ⟨rN - 1, by omega⟩
          obtain rfl := haj (by omega)
          have hjm : jN < m.length := by omega
          obtain ⟨hz1, hz2⟩ := (HX.out.2.1.stay (HG.out.2.1.trans hst)).2 jN hjm
          obtain ⟨z, hz⟩ : ∃ z, z = m[jN] := ⟨_, rfl⟩
          rw [← hz] at hz1 hz2
          obtain ⟨z1, z2⟩ := z
          dsimp only at hz1 hz2
          have HZ : Hid (∀ h : jN < m.length, m[jN].1 = z1) := fun h => by rw [← hz]
          obtain ⟨a', hcut, ha'⟩ := cut_one (b := b2) (off := o2 + jN * 2) (n := r') (c := cj) (by omega)
          have hrpos : (0 : Int) < (r' : Int) + 1 := by omega
          have hS0 := four_keep (Z := W0) (Stay.drew wr) ⟨hz1, hz2, hx1, hx2, hst⟩
          have HC : Hid ((∀ t (h : t < m.length), t < jN → m[t].1 < y1) ∧ jN + (r' + 1) = m.length ∧ r' + 1 ≤ cj ∧ (0 < r' → a' = some ⟨b2, o2 + jN * 2 + 2, none⟩) ∧ jN < m.length) := ⟨hj, hjr, hrc, ha', hjm⟩
          clear hz hj hjr hrc ha' hjm haj hrp hst
          by_cases hlt2 : z1 < y1
          · have hby : ∀ W, Calls Try.prog 18 #[.agg #[.int .i64 z1, .int .i64 z2], .agg #[.int .i64 y1, .int .i64 y2]] W fun e w' => e = .returned (.int .i64 (-5)) ∧ Stay W w' := fun W => by
              have := byS z1 z2 y1 y2 W
              rwa [show HT.byC (z1, z2) (y1, y2) = -5 by simp [HT.byC, hlt2]] at this
            go_wp2_with fail
            go_region_held3 (fun W => W.cell? ⟨b2, o2 + jN * 2, none⟩ = some (.int .i64 z1) ∧ W.cell? ⟨b2, o2 + jN * 2 + 1, none⟩ = some (.int .i64 z2) ∧ W.cell? ⟨B, 0, none⟩ = some (.int .i64 y1) ∧ W.cell? ⟨B, 1, none⟩ = some (.int .i64 y2) ∧ Hid (Stay W0 W)) (first | assumption | (exact four_keep (by assumption) (by assumption))) (first | (go_at_call 18; refine (hby _).mono ?_; rintro e8 w8 ⟨rfl, hs8⟩))
            have HS8 : Hid (Stay W0 w8) := four_stay (B := B) (z1 := z1) (z2 := z2) (x1 := y1) (x2 := y2) (g := b2) (o := o2 + jN * 2) (by assumption)
            clear hS0 hby hs8 hx1 hx2 hz1 hz2 hrpos
            go_wp2_with fail
            go_roundw
            case rel => exact ⟨jN + 1, r', ⟨a', cj - 1, rfl, by have := HC.out.2.1; omega, by have := HC.out.2.2.1; omega, fun h => by rw [HC.out.2.2.2.1 h]; congr 2; omega⟩, fun t h ht => by
              by_cases e : t = jN
              · subst e; rw [HZ.out h]; exact hlt2
              · exact HC.out.1 t h (by omega), HS8.out⟩
            case measure => simp [lenV]
          · by_cases heq : z1 = y1
            · have hby : ∀ W, Calls Try.prog 18 #[.agg #[.int .i64 z1, .int .i64 z2], .agg #[.int .i64 y1, .int .i64 y2]] W fun e w' => e = .returned (.int .i64 0) ∧ Stay W w' := fun W => by
                have := byS z1 z2 y1 y2 W
                rwa [show HT.byC (z1, z2) (y1, y2) = 0 by simp [HT.byC]; omega] at this
              have HQ : Hid (hasR m y1 = true) := by show hasR m y1 = true; exact has_true m y1 jN HC.out.2.2.2.2 (by rw [HZ.out]; exact heq)
              clear hlt2 heq hcut
              go_wp2_with fail
              go_region_held3 (fun W => W.cell? ⟨b2, o2 + jN * 2, none⟩ = some (.int .i64 z1) ∧ W.cell? ⟨b2, o2 + jN * 2 + 1, none⟩ = some (.int .i64 z2) ∧ W.cell? ⟨B, 0, none⟩ = some (.int .i64 y1) ∧ W.cell? ⟨B, 1, none⟩ = some (.int .i64 y2) ∧ Hid (Stay W0 W)) (first | assumption | (exact four_keep (by assumption) (by assumption))) (first | (go_at_call 18; refine (hby _).mono ?_; rintro e8 w8 ⟨rfl, hs8⟩))
              have hS1 := four_keep (Z := W0) (B := B) (z1 := z1) (z2 := z2) (x1 := y1) (x2 := y2) (g := b2) (o := o2 + jN * 2) (Stay.drew w8) (by assumption)
              clear hS0 hs8 hx1 hx2 hz1 hz2
              go_wp2_with fail
              go_region_held3 (fun W => W.cell? ⟨b2, o2 + jN * 2, none⟩ = some (.int .i64 z1) ∧ W.cell? ⟨b2, o2 + jN * 2 + 1, none⟩ = some (.int .i64 z2) ∧ W.cell? ⟨B, 0, none⟩ = some (.int .i64 y1) ∧ W.cell? ⟨B, 1, none⟩ = some (.int .i64 y2) ∧ Hid (Stay W0 W)) (first | assumption | (exact four_keep (by assumption) (by assumption))) (first | (go_at_call 18; refine (hby _).mono ?_; rintro e7 w7 ⟨rfl, hs7⟩))
              have HVS : Hid (Stay W0 w7) := four_stay (B := B) (z1 := z1) (z2 := z2) (x1 := y1) (x2 := y2) (g := b2) (o := o2 + jN * 2) (by assumption)
              clear hS1 hby hs7
              have HV : Hid (OwnT w.heap.size (w7) u9 (siftR al (l.take k) m) ∧ Stay w (w7)) := ⟨HG.out.1.stay HVS.out, HG.out.2.1.trans HVS.out⟩
              have hx5 := HVS.out.cell HG.out.2.2.1
              have hx6 := HVS.out.cell HG.out.2.2.2
              clear HVS
              generalize w7 = V at HV hx5 hx6 ⊢
              cases al
              case false =>
                have HN : Hid (siftR false (l.take (k + 1)) m = siftR false (l.take k) m) := by
                  have := sift_step false l m k hlt
                  rw [← HJ.out.2, HQ.out] at this
                  simpa [Hid] using this
                go_wp2
                go_roundw
                case rel => exact ⟨k + 1, jN, (r' + 1), by omega, by go_num, HRS.out, HNX.out, by rw [HN.out]; exact HV.out.1, HV.out.2⟩
                case measure => simp [intOf]; omega
              case true =>
                have hN : siftR true (l.take (k + 1)) m = siftR true (l.take k) m ++ [(y1, y2)] := by
                  have := sift_step true l m k hlt
                  rw [← HJ.out.2, HQ.out] at this
                  simpa using this
                obtain ⟨v3, w3, hr, g2, g3, _, _⟩ := append_thing 29 HV.out.1 y1 y2 (by have := sift_len true l m k; have := HX.out.2.2.2.2.1; omega) HV.out.2.size
                have HR : Hid ((Builtin.append_ #[29, 29] 29 #[u9, .slice (some ⟨V.heap.size, 0, none⟩) 1 1]).run Try.prog (V.alloc (.cells #[.int .i64 y1, .int .i64 y2] 33)) = .ok v3 w3 ∧ OwnT w.heap.size w3 v3 (siftR true (l.take (k + 1)) m) ∧ Stay w w3) := ⟨hr, by rw [hN]; exact g2, own_grow (HV.out.2.alloc _) (Nat.le_refl _) (HV.out.1.alloc _) g3⟩
                clear hr g2 g3 hN
                go_wp2_with (at_builtin; refine wpList_append_by rfl (.tmp 50) (.tmp 52) 29 29 rfl _ _ rfl rfl HR.out.1 ?_)
                go_roundw
                case rel => exact ⟨k + 1, jN, (r' + 1), by omega, by go_num, HRS.out, HNX.out, HR.out.2.1, HR.out.2.2⟩
                case measure => simp [intOf]; omega
            · have hby : ∀ W, Calls Try.prog 18 #[.agg #[.int .i64 z1, .int .i64 z2], .agg #[.int .i64 y1, .int .i64 y2]] W fun e w' => e = .returned (.int .i64 7) ∧ Stay W w' := fun W => by
                have := byS z1 z2 y1 y2 W
                rwa [show HT.byC (z1, z2) (y1, y2) = 7 by simp [HT.byC]; omega] at this
              have HQ : Hid (hasR m y1 = false) := has_no HC.out.1 HX.out.2.2.2.1 (fun h => by rw [HZ.out h]; omega)
              clear hlt2 heq hcut
              go_wp2_with fail
              go_region_held3 (fun W => W.cell? ⟨b2, o2 + jN * 2, none⟩ = some (.int .i64 z1) ∧ W.cell? ⟨b2, o2 + jN * 2 + 1, none⟩ = some (.int .i64 z2) ∧ W.cell? ⟨B, 0, none⟩ = some (.int .i64 y1) ∧ W.cell? ⟨B, 1, none⟩ = some (.int .i64 y2) ∧ Hid (Stay W0 W)) (first | assumption | (exact four_keep (by assumption) (by assumption))) (first | (go_at_call 18; refine (hby _).mono ?_; rintro e8 w8 ⟨rfl, hs8⟩))
              have hS1 := four_keep (Z := W0) (B := B) (z1 := z1) (z2 := z2) (x1 := y1) (x2 := y2) (g := b2) (o := o2 + jN * 2) (Stay.drew w8) (by assumption)
              clear hS0 hs8 hx1 hx2 hz1 hz2
              go_wp2_with fail
              go_region_held3 (fun W => W.cell? ⟨b2, o2 + jN * 2, none⟩ = some (.int .i64 z1) ∧ W.cell? ⟨b2, o2 + jN * 2 + 1, none⟩ = some (.int .i64 z2) ∧ W.cell? ⟨B, 0, none⟩ = some (.int .i64 y1) ∧ W.cell? ⟨B, 1, none⟩ = some (.int .i64 y2) ∧ Hid (Stay W0 W)) (first | assumption | (exact four_keep (by assumption) (by assumption))) (first | (go_at_call 18; refine (hby _).mono ?_; rintro e7 w7 ⟨rfl, hs7⟩))
              have HVS : Hid (Stay W0 w7) := four_stay (B := B) (z1 := z1) (z2 := z2) (x1 := y1) (x2 := y2) (g := b2) (o := o2 + jN * 2) (by assumption)
              clear hS1 hby hs7
              have HV : Hid (OwnT w.heap.size (w7) u9 (siftR al (l.take k) m) ∧ Stay w (w7)) := ⟨HG.out.1.stay HVS.out, HG.out.2.1.trans HVS.out⟩
              have hx5 := HVS.out.cell HG.out.2.2.1
              have hx6 := HVS.out.cell HG.out.2.2.2
              clear HVS
              generalize w7 = V at HV hx5 hx6 ⊢
              cases al
              case true =>
                have HN : Hid (siftR true (l.take (k + 1)) m = siftR true (l.take k) m) := by
                  have := sift_step true l m k hlt
                  rw [← HJ.out.2, HQ.out] at this
                  simpa [Hid] using this
                go_wp2
                go_roundw
                case rel => exact ⟨k + 1, jN, (r' + 1), by omega, by go_num, HRS.out, HNX.out, by rw [HN.out]; exact HV.out.1, HV.out.2⟩
                case measure => simp [intOf]; omega
              case false =>
                have hN : siftR false (l.take (k + 1)) m = siftR false (l.take k) m ++ [(y1, y2)] := by
                  have := sift_step false l m k hlt
                  rw [← HJ.out.2, HQ.out] at this
                  simpa using this
                obtain ⟨v3, w3, hr, g2, g3, _, _⟩ := append_thing 29 HV.out.1 y1 y2 (by have := sift_len false l m k; have := HX.out.2.2.2.2.1; omega) HV.out.2.size
                have HR : Hid ((Builtin.append_ #[29, 29] 29 #[u9, .slice (some ⟨V.heap.size, 0, none⟩) 1 1]).run Try.prog (V.alloc (.cells #[.int .i64 y1, .int .i64 y2] 33)) = .ok v3 w3 ∧ OwnT w.heap.size w3 v3 (siftR false (l.take (k + 1)) m) ∧ Stay w w3) := ⟨hr, by rw [hN]; exact g2, own_grow (HV.out.2.alloc _) (Nat.le_refl _) (HV.out.1.alloc _) g3⟩
                clear hr g2 g3 hN
                go_wp2_with (at_builtin; refine wpList_append_by rfl (.tmp 50) (.tmp 52) 29 29 rfl _ _ rfl rfl HR.out.1 ?_)
                go_roundw
                case rel => exact ⟨k + 1, jN, (r' + 1), by omega, by go_num, HRS.out, HNX.out, HR.out.2.1, HR.out.2.2⟩
                case measure => simp [intOf]; omega
    · have hi1 : ¬ (k : Int) < (l.length : Int) := by omega
      have HW : Hid (OwnT w.heap.size wr u9 (siftR al l m) ∧ Stay w wr) := by
        rw [List.take_of_length_le (by omega)] at hown
        exact ⟨hown, hst⟩
      clear hown hst hR hj
      go_wp2
      go_ret
      exact ⟨_, rfl, HW.out.1, HW.out.2⟩
end Go.Proofs.Ytdbilngkokkggaa
