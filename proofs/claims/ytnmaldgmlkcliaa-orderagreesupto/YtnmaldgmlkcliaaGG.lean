/- The library's symMerge: both stretches are more than one thing. -/
import Derived.Test.YtnmaldgmlkcliaaGF
import Derived.Deep.Cut
namespace Go.Proofs.Ytnmaldgmlkcliaa
open Go.RowKit Go.Maps Go.Shelf Go.Sort Go.Proofs.Ytnmaldgmlkcliaa.HT

/-- What symMerge is asked to do with stretches of at most N things. -/
def SymOk (g : Nat) (κ : Int × Int → Int) (N : Nat) : Prop := ∀ (W : World) (G cap n a m b : Nat) (P X Y Q : List (Int × Int)), n = P.length + X.length + Y.length + Q.length → a = P.length → m = a + X.length → b = m + Y.length → 0 < X.length → 0 < Y.length → X.length + Y.length ≤ N → n < 4611686018427387904 → RisK κ X → RisK κ Y → InT W G (P ++ (X ++ (Y ++ Q))) →
  Calls Try.prog 59 #[.slice (some ⟨G, 0, none⟩) n cap, .int .i64 (a : Int), .int .i64 (m : Int), .int .i64 (b : Int), .func (.func g) #[] #[]] W fun e w' => e = .returned (.tuple #[]) ∧ ∃ Z, Merg κ X Y Z ∧ InT w' G (P ++ (Z ++ Q)) ∧ Turn (fun j => j = G) W w'

/-- The bounds of the search. -/
def Bnd (a m b nn lo hi : Nat) : Prop := lo ≤ hi ∧ a ≤ lo ∧ hi ≤ m ∧ nn ≤ lo + b ∧ hi + m ≤ nn ∧ (lo = a ∨ nn = lo + b) ∧ (hi = m ∨ nn = hi + m)
/-- What the search has found. -/
def Fnd (κ : Int × Int → Int) (L : List (Int × Int)) (nn lo hi s r : Nat) : Prop :=
  (lo < s → ∃ u v, L[s - 1]? = some u ∧ L[nn - s]? = some v ∧ κ u ≤ κ v) ∧ (r < hi → ∃ u v, L[r]? = some u ∧ L[nn - 1 - r]? = some v ∧ κ v < κ u)
/-- The two stretches, parted. -/
structure Part (κ : Int × Int → Int) (a m b s en : Nat) (X Y X1 X2 Y1 Y2 : List (Int × Int)) : Prop where
  x : X = X1 ++ X2
  y : Y = Y1 ++ Y2
  x1 : a + X1.length = s
  x2 : s + X2.length = m
  y1 : m + Y1.length = en
  y2 : en + Y2.length = b
  lt : ∀ (hx : 0 < X2.length) (hy : 0 < Y1.length), κ (Y1[Y1.length - 1]'(by omega)) < κ X2[0]
  le : ∀ (hx : 0 < X1.length) (hy : 0 < Y2.length), κ (X1[X1.length - 1]'(by omega)) ≤ κ Y2[0]
theorem part_of {κ : Int × Int → Int} {a m b nn lo hi s en : Nat} {P X Y Q L : List (Int × Int)} (hL : L = P ++ (X ++ (Y ++ Q))) (ha : a = P.length) (hm : m = a + X.length) (hb : b = m + Y.length) (hB : Bnd a m b nn lo hi) (hF : Fnd κ L nn lo hi s s) (h1 : lo ≤ s) (h2 : s ≤ hi) (he : en + s = nn) :
    ∃ X1 X2 Y1 Y2, Part κ a m b s en X Y X1 X2 Y1 Y2 := by
  obtain ⟨_, b2, b3, b4, b5, b6, b7⟩ := hB
  have hx : ∀ k, k < X.length → L[a + k]? = X[k]? := fun k hk => by
    rw [hL, List.getElem?_append_right (by omega), List.getElem?_append_left (by omega)]; congr 1; omega
  have hy : ∀ k, k < Y.length → L[m + k]? = Y[k]? := fun k hk => by
    rw [hL, List.getElem?_append_right (by omega), List.getElem?_append_right (by omega), List.getElem?_append_left (by omega)]; congr 1; omega
  refine ⟨X.take (s - a), X.drop (s - a), Y.take (en - m), Y.drop (en - m), (List.take_append_drop _ _).symm, (List.take_append_drop _ _).symm, by rw [List.length_take]; omega, by rw [List.length_drop]; omega, by rw [List.length_take]; omega, by rw [List.length_drop]; omega, fun h3 h4 => ?_, fun h3 h4 => ?_⟩
  · rw [List.length_drop] at h3
    rw [List.length_take] at h4
    obtain ⟨u, v, e1, e2, e3⟩ := hF.2 (by omega)
    rw [show s = a + (s - a) by omega, hx _ (by omega), List.getElem?_eq_getElem (by omega)] at e1
    rw [show nn - 1 - s = m + (en - m - 1) by omega, hy _ (by omega), List.getElem?_eq_getElem (by omega)] at e2
    have e1 := Option.some.inj e1
    have e2 := Option.some.inj e2
    rw [List.getElem_drop, List.getElem_take]
    simp only [Nat.add_zero, List.length_take]
    have : min (en - m) Y.length - 1 = en - m - 1 := by omega
    simp only [this]
    rw [e1, e2]
    exact e3
  · rw [List.length_take] at h3
    rw [List.length_drop] at h4
    obtain ⟨u, v, e1, e2, e3⟩ := hF.1 (by omega)
    rw [show s - 1 = a + (s - a - 1) by omega, hx _ (by omega), List.getElem?_eq_getElem (by omega)] at e1
    rw [show nn - s = m + (en - m) by omega, hy _ (by omega), List.getElem?_eq_getElem (by omega)] at e2
    have e1 := Option.some.inj e1
    have e2 := Option.some.inj e2
    rw [List.getElem_drop, List.getElem_take]
    simp only [Nat.add_zero, List.length_take]
    have : min (s - a) X.length - 1 = s - a - 1 := by omega
    simp only [this]
    rw [e1, e2]
    exact e3

set_option maxRecDepth 100000 in
set_option maxHeartbeats 16000000 in
theorem sym_mid {g : Nat} {κ : Int × Int → Int} {cf : Int × Int → Int × Int → Int} (h : Ord g κ cf) (N : Nat) (IH : SymOk g κ N) (W : World) (G cap n a m b : Nat) (P X Y Q : List (Int × Int)) (hn : n = P.length + X.length + Y.length + Q.length) (ha : a = P.length) (hm : m = a + X.length) (hb : b = m + Y.length) (hX : 2 ≤ X.length) (hY : 2 ≤ Y.length) (hN : X.length + Y.length ≤ N + 1) (hsz : n < 4611686018427387904) (rX : RisK κ X) (rY : RisK κ Y) (hI : InT W G (P ++ (X ++ (Y ++ Q)))) :
    Calls Try.prog 59 #[.slice (some ⟨G, 0, none⟩) n cap, .int .i64 (a : Int), .int .i64 (m : Int), .int .i64 (b : Int), .func (.func g) #[] #[]] W fun e w' => e = .returned (.tuple #[]) ∧ ∃ Z, Merg κ X Y Z ∧ InT w' G (P ++ (Z ++ Q)) ∧ Turn (fun j => j = G) W w' := by
  obtain ⟨L, hL⟩ : ∃ L, L = P ++ (X ++ (Y ++ Q)) := ⟨_, rfl⟩
  obtain ⟨kx, hkx⟩ : ∃ kx, kx = X.length := ⟨_, rfl⟩
  obtain ⟨ky, hky⟩ : ∃ ky, ky = Y.length := ⟨_, rfl⟩
  obtain ⟨mid, hmid0⟩ : ∃ mid, mid = (a + b) / 2 := ⟨_, rfl⟩
  obtain ⟨nn, hnn⟩ : ∃ nn, nn = mid + m := ⟨_, rfl⟩
  rw [← hL] at hI
  have hLen : L.length = n := by rw [hL, hn]; simp; omega
  have HX : Hid (Ord g κ cf ∧ InT W G L ∧ L.length = n ∧ L = P ++ (X ++ (Y ++ Q)) ∧ RisK κ X ∧ RisK κ Y ∧ SymOk g κ N ∧ X.length + Y.length ≤ N + 1) := ⟨h, hI, hLen, hL, rX, rY, IH, hN⟩
  have HN : Hid (n = P.length + X.length + Y.length + Q.length ∧ a = P.length ∧ m = a + X.length ∧ b = m + Y.length ∧ mid = (a + b) / 2 ∧ nn = mid + m ∧ 2 ≤ X.length ∧ 2 ≤ Y.length) := ⟨hn, ha, hm, hb, hmid0, hnn, hX, hY⟩
  have hbn : b ≤ n := by omega
  have hbnI : (b : Int) ≤ (n : Int) := by omega
  have hamI : (a : Int) < (m : Int) := by omega
  have hmbI : (m : Int) < (b : Int) := by omega
  have hmid : ((a : Int) + (b : Int)) / 2 = (mid : Int) := by omega
  have w1 : IntKind.i64.wrap ((m : Int) - (a : Int)) = (kx : Int) := by rw [IntKind.wrap_i64]; omega
  have w2 : IntKind.i64.wrap ((b : Int) - (m : Int)) = (ky : Int) := by rw [IntKind.wrap_i64]; omega
  have w3 : IntKind.i64.wrap ((mid : Int) + (m : Int)) = (nn : Int) := by rw [IntKind.wrap_i64]; omega
  have hkx1 : ((kx : Int) == 1) = false := by simp; omega
  have hky1 : ((ky : Int) == 1) = false := by simp; omega
  have hkx2 : ¬ (kx : Int) = 1 := by omega
  have hky2 : ¬ (ky : Int) = 1 := by omega
  have hnb : nn < 9223372036854775807 := by omega
  clear h IH hI hn ha hm hb hX hY hN rX rY hL hLen hkx hky hmid0 hnn
  have mixed : Try.prog.follows .mixedOrders = true := by kernel_rfl
  go_enter Try.func59, Try.ntmps59
  go_upto_if 140 with fail
  go_cut [20, 21] from 25 (fun vs vr wx => ∃ lo hi : Nat, vs = .int .i64 lo ∧ vr = .int .i64 hi ∧ Bnd a m b nn lo hi ∧ wx = W)
  case first =>
    as_aux_lemma =>
      by_cases hgt : mid < m
      · have hgt2 : (mid : Int) < (m : Int) := by omega
        have h9 := HN.out
        obtain ⟨lo, hlo⟩ : ∃ lo, lo = nn - b := ⟨_, rfl⟩
        have w4 : IntKind.i64.wrap ((nn : Int) - (b : Int)) = (lo : Int) := by rw [IntKind.wrap_i64]; omega
        have HB : Hid (Bnd a m b nn lo mid) := ⟨by omega, by omega, by omega, by omega, by omega, .inr (by omega), .inr (by omega)⟩
        clear h9 hlo
        go_wp2
        go_meet
        case rel => exact ⟨lo, mid, rfl, rfl, HB.out, rfl⟩
      · have hgt2 : ¬ (mid : Int) < (m : Int) := by omega
        have h9 := HN.out
        have HB : Hid (Bnd a m b nn a m) := ⟨by omega, by omega, by omega, by omega, by omega, .inl rfl, .inl rfl⟩
        clear h9
        go_wp2
        go_meet
        case rel => exact ⟨a, m, rfl, rfl, HB.out, rfl⟩
  case rest =>
    as_aux_lemma =>
      obtain ⟨lo, hi, rfl, rfl, hB, rfl⟩ := hcut
      have HB : Hid (Bnd a m b nn lo hi) := hB
      clear hB w1 w2 w3 hmid hkx1 hky1 hkx2 hky2
      obtain ⟨pp, hpp⟩ : ∃ pp, pp = nn - 1 := ⟨_, rfl⟩
      have w5 : IntKind.i64.wrap ((nn : Int) - 1) = (pp : Int) := by have := HN.out; rw [IntKind.wrap_i64]; omega
      have HP : Hid (pp + 1 = nn) := by have := HN.out; show pp + 1 = nn; omega
      clear hpp
      go_wp2
      go_loopw [20, 21] (fun vs vr wr => ∃ s r : Nat, lo ≤ s ∧ s ≤ r ∧ r ≤ hi ∧ vs = .int .i64 s ∧ vr = .int .i64 r ∧ Fnd κ L nn lo hi s r ∧ Stay wc wr) (fun vs vr _ => (intOf vr).toNat - (intOf vs).toNat)
      case atStart => exact ⟨lo, hi, Nat.le_refl _, HB.out.1, Nat.le_refl _, rfl, rfl, ⟨fun h => absurd h (by omega), fun h => absurd h (by omega)⟩, Stay.refl _⟩
      case round =>
        as_aux_lemma =>
          obtain ⟨s, r, hs, hsr, hr, rfl, rfl, hF, hst⟩ := hrel
          clear w5
          by_cases hlt : s < r
          · have hlt2 : (s : Int) < (r : Int) := by omega
            obtain ⟨q, hq⟩ : ∃ q, q = (s + r) / 2 := ⟨_, rfl⟩
            have hqm : ((s : Int) + (r : Int)) / 2 = (q : Int) := by omega
            have hq1 : s ≤ q := by omega
            have hq2 : q < r := by omega
            clear hq
            obtain ⟨pc, hpc⟩ : ∃ pc, pc = pp - q := ⟨_, rfl⟩
            have h9 : q < n ∧ pc < n ∧ pc + q = pp ∧ r ≤ n := by have h1 := HB.out; unfold Bnd at h1; have h2 := HP.out; have h3 := HN.out; omega
            have w6 : IntKind.i64.wrap ((pp : Int) - (q : Int)) = (pc : Int) := by rw [IntKind.wrap_i64]; omega
            obtain ⟨u, hu⟩ : ∃ u, L[q]? = some u := ⟨_, List.getElem?_eq_getElem (by rw [HX.out.2.2.1]; omega)⟩
            obtain ⟨v, hv⟩ : ∃ v, L[pc]? = some v := ⟨_, List.getElem?_eq_getElem (by rw [HX.out.2.2.1]; omega)⟩
            have hIr := HX.out.2.1.stay hst
            obtain ⟨u0, u1, _, _⟩ := hIr.spot q u hu
            obtain ⟨v0, v1, _, _⟩ := hIr.spot pc v hv
            have lG := hIr.1
            obtain ⟨u1v, u2v⟩ := u
            obtain ⟨v1v, v2v⟩ := v
            dsimp only at u0 u1 v0 v1
            obtain ⟨c, hc⟩ : ∃ c, c = cf (v1v, v2v) (u1v, u2v) := ⟨_, rfl⟩
            have eg := HX.out.1.eg
            have hcg := HX.out.1.grown v1v v2v u1v u2v wr c hc
            have HK : Hid (c < 0 ↔ κ (v1v, v2v) < κ (u1v, u2v)) := by rw [hc]; exact HX.out.1.key _ _
            have m0 : ∀ n os, (grow (wr.drewN n) os).cell? ⟨G, q * 2, none⟩ = some (.int .i64 u1v) := fun n os => cell_grown lG u0 n os
            have m1 : ∀ n os, (grow (wr.drewN n) os).cell? ⟨G, q * 2 + 1, none⟩ = some (.int .i64 u2v) := fun n os => cell_grown lG u1 n os
            have m2 : ∀ n os, (grow (wr.drewN n) os).cell? ⟨G, pc * 2, none⟩ = some (.int .i64 v1v) := fun n os => cell_grown lG v0 n os
            have m3 : ∀ n os, (grow (wr.drewN n) os).cell? ⟨G, pc * 2 + 1, none⟩ = some (.int .i64 v2v) := fun n os => cell_grown lG v1 n os
            have lq : (q : Int) < (n : Int) := by omega
            have lp : (pc : Int) < (n : Int) := by omega
            have hrn : (r : Int) ≤ (n : Int) := by omega
            have HS : Hid (Stay wc wr ∧ Fnd κ L nn lo hi s r ∧ L[q]? = some (u1v, u2v) ∧ L[pc]? = some (v1v, v2v) ∧ pc + q = pp) := ⟨hst, hF, hu, hv, h9.2.2.1⟩
            clear hst hF hu hv hIr u0 u1 v0 v1 lG hc hpc h9
            by_cases hlv : c < 0
            · go_wp2_with fail
              refine wp_region_quiet_grown (by assumption) (by kernel_rfl) ?_
              repeat (first | go_big_quiet_step (first | (go_at_fn g; refine Calls.grown_of (hcg _ _))) | quiet_step (first | (go_at_fn g; refine Calls.grown_of (hcg _ _))))
              refine wpQuiet_nil ?_
              intro _ hw'
              obtain ⟨⟨nq, osq⟩, hw''⟩ := hw'
              subst hw''
              have HS2 : Hid (Stay wc (grow (wr.drewN nq) osq)) := stay_grow HS.out.1 _ _
              clear hcg m0 m1 m2 m3 eg
              go_wp2
              exact ⟨⟨s, q, hs, hq1, by omega, rfl, rfl, ⟨HS.out.2.1.1, fun _ => ⟨_, _, HS.out.2.2.1, by rw [show nn - 1 - q = pc by have := HS.out.2.2.2.2; have := HP.out; omega]; exact HS.out.2.2.2.1, HK.out.1 hlv⟩⟩, HS2.out⟩, by simp [intOf]; omega⟩
            · have hlv3 : 0 ≤ c := by omega
              have hd1 : decide (c < 0) = false := decide_eq_false hlv
              have hd2 : decide (0 ≤ c) = true := decide_eq_true hlv3
              go_wp2_with fail
              refine wp_region_quiet_grown (by assumption) (by kernel_rfl) ?_
              repeat (first | go_big_quiet_step (first | (go_at_fn g; refine Calls.grown_of (hcg _ _))) | quiet_step (first | (go_at_fn g; refine Calls.grown_of (hcg _ _))))
              refine wpQuiet_nil ?_
              intro _ hw'
              obtain ⟨⟨nq, osq⟩, hw''⟩ := hw'
              subst hw''
              have HS2 : Hid (Stay wc (grow (wr.drewN nq) osq)) := stay_grow HS.out.1 _ _
              clear hcg m0 m1 m2 m3 eg
              go_wp2
              exact ⟨⟨q + 1, r, by omega, by omega, hr, by first | rfl | go_num, rfl, ⟨fun _ => ⟨_, _, HS.out.2.2.1, by rw [show nn - (q + 1) = pc by have := HS.out.2.2.2.2; have := HP.out; omega]; exact HS.out.2.2.2.1, Int.not_lt.1 (fun e => absurd (HK.out.2 e) (by omega))⟩, HS.out.2.1.2⟩, HS2.out⟩, by simp [intOf]; omega⟩
          · have hlt2 : ¬ (s : Int) < (r : Int) := by omega
            obtain rfl : s = r := by omega
            obtain ⟨en, hen⟩ : ∃ en, en = nn - s := ⟨_, rfl⟩
            have h9 : en + s = nn ∧ m ≤ en ∧ en ≤ b ∧ a ≤ s ∧ s ≤ m ∧ s + en = mid + m := by have h1 := HB.out; unfold Bnd at h1; have h3 := HN.out; omega
            have w7 : IntKind.i64.wrap ((nn : Int) - (s : Int)) = (en : Int) := by rw [IntKind.wrap_i64]; omega
            obtain ⟨X1, X2, Y1, Y2, hPt⟩ := part_of HX.out.2.2.2.1 HN.out.2.1 HN.out.2.2.1 HN.out.2.2.2.1 HB.out hF hs hr h9.1
            have HI : Hid (InT wr G (P ++ (X1 ++ (X2 ++ (Y1 ++ (Y2 ++ Q))))) ∧ Turn (fun j => j = G) wc wr) := by
              have h1 := HX.out.2.1.stay hst
              rw [HX.out.2.2.2.1, hPt.x, hPt.y] at h1
              exact ⟨by simpa only [List.append_assoc] using h1, Turn.of_stay hst⟩
            have HPt : Hid (Part κ a m b s en X Y X1 X2 Y1 Y2) := hPt
            have hle : m ≤ en ∧ en ≤ b ∧ a ≤ s ∧ s ≤ m ∧ s + en = mid + m := h9.2
            clear hF hst hPt hen h9
            have HT0 : Hid (Turn (fun j => j = G) wc wr) := HI.out.2
            obtain ⟨T, hT⟩ : ∃ T : World → Prop, T = Turn (fun j => j = G) wc := ⟨_, rfl⟩
            have HT : Hid (T wr ∧ (∀ W1 W2, T W1 → Turn (fun j => j = G) W1 W2 → T W2) ∧ (∀ W', T W' → Turn (fun j => j = G) wc W')) := by
              rw [hT]; exact ⟨HT0.out, fun _ _ h1 h2 => h1.trans h2, fun _ h => h⟩
            clear hT HT0
            go_upto_region 39 with fail
            go_cut [185] from 25 (fun vc wx => ∃ c : Bool, vc = .bool c ∧ (c = true ↔ s < m ∧ m < en) ∧ InT wx G (P ++ (X1 ++ (X2 ++ (Y1 ++ (Y2 ++ Q))))) ∧ T wx)
            case first =>
              as_aux_lemma =>
                by_cases c1 : s < m
                · have c1I : (s : Int) < (m : Int) := by omega
                  by_cases c2 : m < en
                  · have c2I : (m : Int) < (en : Int) := by omega
                    go_wp2
                    go_meet
                    case rel => exact ⟨true, rfl, ⟨fun _ => ⟨c1, c2⟩, fun _ => rfl⟩, HI.out.1, HT.out.1⟩
                  · have c2I : ¬ (m : Int) < (en : Int) := by omega
                    go_wp2
                    go_meet
                    case rel => exact ⟨false, rfl, ⟨fun h => (by cases h), fun h => absurd h.2 (by omega)⟩, HI.out.1, HT.out.1⟩
                · have c1I : ¬ (s : Int) < (m : Int) := by omega
                  go_wp2
                  go_meet
                  case rel => exact ⟨false, rfl, ⟨fun h => (by cases h), fun h => absurd h.1 (by omega)⟩, HI.out.1, HT.out.1⟩
            case rest =>
              as_aux_lemma =>
                obtain ⟨c, rfl, hc, hIc, hTc⟩ := hcut
                have HC : Hid ((c = true ↔ s < m ∧ m < en) ∧ InT wc G (P ++ (X1 ++ (X2 ++ (Y1 ++ (Y2 ++ Q))))) ∧ T wc) := ⟨hc, hIc, hTc⟩
                clear hc hIc hTc HI w7
                go_upto_if 185 with fail
                go_cut [] from 25 (fun wx => InT wx G (P ++ (X1 ++ (Y1 ++ (X2 ++ (Y2 ++ Q))))) ∧ T wx)
                case first =>
                  as_aux_lemma =>
                    cases c with
                    | true =>
                      obtain ⟨h1, h2⟩ := HC.out.1.1 rfl
                      have hp := HPt.out
                      have hc := rotate_any wc G cap n (.func (.func g) #[] #[]) (P ++ X1) X2 Y1 (Y2 ++ Q) (by have := HN.out; have := hp.x1; have := hp.x2; have := hp.y1; have := hp.y2; simp only [List.length_append]; omega) (by have := hp.x2; omega) (by have := hp.y1; omega) hsz (by simpa only [List.append_assoc] using HC.out.2.1)
                      rw [show (P ++ X1).length = s by rw [List.length_append]; have := HN.out; have := hp.x1; omega, show s + X2.length = m from hp.x2, show m + Y1.length = en from hp.y1] at hc
                      clear hp
                      go_wp2_with fail
                      refine hc.mono ?_
                      rintro e w1 ⟨rfl, hI1, hT1⟩
                      have H1 : Hid (InT w1 G (P ++ (X1 ++ (Y1 ++ (X2 ++ (Y2 ++ Q))))) ∧ T w1) := ⟨by simpa only [List.append_assoc] using hI1, HT.out.2.1 _ _ HC.out.2.2 hT1⟩
                      clear hI1 hT1 hc
                      go_wp2
                      go_meet
                      case rel => exact H1.out
                    | false =>
                      have hnot : ¬ (s < m ∧ m < en) := fun h => by have := HC.out.1.2 h; cases this
                      have HE : Hid (InT wc G (P ++ (X1 ++ (Y1 ++ (X2 ++ (Y2 ++ Q))))) ∧ T wc) := by
                        refine ⟨?_, HC.out.2.2⟩
                        have hp := HPt.out
                        have h1 := HC.out.2.1
                        by_cases e : s < m
                        · obtain rfl : Y1 = [] := List.eq_nil_of_length_eq_zero (by have := hp.y1; omega)
                          simpa using h1
                        · obtain rfl : X2 = [] := List.eq_nil_of_length_eq_zero (by have := hp.x2; omega)
                          simpa using h1
                      clear hnot
                      go_wp2
                      go_meet
                      case rel => exact HE.out
                case rest =>
                  as_aux_lemma =>
                    have HC2 : Hid (InT wc G (P ++ (X1 ++ (Y1 ++ (X2 ++ (Y2 ++ Q))))) ∧ T wc) := hcut
                    clear hcut HC
                    go_upto_region 41 with fail
                    go_cut [199] from 25 (fun vc wx => ∃ c : Bool, vc = .bool c ∧ (c = true ↔ a < s ∧ s < mid) ∧ InT wx G (P ++ (X1 ++ (Y1 ++ (X2 ++ (Y2 ++ Q))))) ∧ T wx)
                    case first =>
                      as_aux_lemma =>
                        by_cases c1 : a < s
                        · have c1I : (a : Int) < (s : Int) := by omega
                          by_cases c2 : s < mid
                          · have c2I : (s : Int) < (mid : Int) := by omega
                            go_wp2
                            go_meet
                            case rel => exact ⟨true, rfl, ⟨fun _ => ⟨c1, c2⟩, fun _ => rfl⟩, HC2.out.1, HC2.out.2⟩
                          · have c2I : ¬ (s : Int) < (mid : Int) := by omega
                            go_wp2
                            go_meet
                            case rel => exact ⟨false, rfl, ⟨fun h => (by cases h), fun h => absurd h.2 (by omega)⟩, HC2.out.1, HC2.out.2⟩
                        · have c1I : ¬ (a : Int) < (s : Int) := by omega
                          go_wp2
                          go_meet
                          case rel => exact ⟨false, rfl, ⟨fun h => (by cases h), fun h => absurd h.1 (by omega)⟩, HC2.out.1, HC2.out.2⟩
                    case rest =>
                      as_aux_lemma =>
                        obtain ⟨c, rfl, hc, hIc, hTc⟩ := hcut
                        have HC : Hid ((c = true ↔ a < s ∧ s < mid) ∧ InT wc G (P ++ (X1 ++ (Y1 ++ (X2 ++ (Y2 ++ Q))))) ∧ T wc) := ⟨hc, hIc, hTc⟩
                        clear hc hIc hTc HC2
                        go_upto_if 199 with fail
                        go_cut [] from 25 (fun wx => ∃ Z1, Merg κ X1 Y1 Z1 ∧ InT wx G (P ++ (Z1 ++ (X2 ++ (Y2 ++ Q)))) ∧ T wx)
                        case first =>
                          as_aux_lemma =>
                            cases c with
                            | true =>
                              obtain ⟨h1, h2⟩ := HC.out.1.1 rfl
                              have hp := HPt.out
                              have hc := HX.out.2.2.2.2.2.2.1 wc G cap n a s mid P X1 Y1 (X2 ++ (Y2 ++ Q)) (by have := HN.out; have := hp.x1; have := hp.x2; have := hp.y1; have := hp.y2; simp only [List.length_append]; omega) HN.out.2.1 hp.x1.symm (by have := hp.y1; have := hp.x1; omega) (by have := hp.x1; omega) (by have := hp.y1; omega) (by have := hp.x1; have := hp.x2; have := hp.y1; have := hp.y2; have := HN.out; have := HX.out.2.2.2.2.2.2.2; omega) hsz (by have h9 := HX.out.2.2.2.2.1; rw [hp.x] at h9; exact h9.left) (by have h9 := HX.out.2.2.2.2.2.1; rw [hp.y] at h9; exact h9.left) HC.out.2.1
                              clear hp
                              go_wp2_with fail
                              refine hc.mono ?_
                              rintro e w1 ⟨rfl, Z1, hM1, hI1, hT1⟩
                              have H1 : Hid (Merg κ X1 Y1 Z1 ∧ InT w1 G (P ++ (Z1 ++ (X2 ++ (Y2 ++ Q)))) ∧ T w1) := ⟨hM1, hI1, HT.out.2.1 _ _ HC.out.2.2 hT1⟩
                              clear hM1 hI1 hT1 hc
                              go_wp2
                              go_meet
                              case rel => exact ⟨Z1, H1.out⟩
                            | false =>
                              have hnot : ¬ (a < s ∧ s < mid) := fun h => by have := HC.out.1.2 h; cases this
                              have HE : Hid (∃ Z1, Merg κ X1 Y1 Z1 ∧ InT wc G (P ++ (Z1 ++ (X2 ++ (Y2 ++ Q)))) ∧ T wc) := by
                                have hp := HPt.out
                                have h1 := HC.out.2.1
                                have rx := HX.out.2.2.2.2.1
                                have ry := HX.out.2.2.2.2.2.1
                                rw [hp.x] at rx
                                rw [hp.y] at ry
                                by_cases e : a < s
                                · obtain rfl : Y1 = [] := List.eq_nil_of_length_eq_zero (by have := hp.y1; omega)
                                  exact ⟨X1, Merg.nil_right rx.left, by simpa using h1, HC.out.2.2⟩
                                · obtain rfl : X1 = [] := List.eq_nil_of_length_eq_zero (by have := hp.x1; omega)
                                  exact ⟨Y1, Merg.nil_left ry.left, by simpa using h1, HC.out.2.2⟩
                              clear hnot
                              go_wp2
                              go_meet
                              case rel => exact HE.out
                        case rest =>
                          as_aux_lemma =>
                            obtain ⟨Z1, hM1, hI1, hT1⟩ := hcut
                            have HC2 : Hid (Merg κ X1 Y1 Z1 ∧ InT wc G (P ++ (Z1 ++ (X2 ++ (Y2 ++ Q)))) ∧ T wc) := ⟨hM1, hI1, hT1⟩
                            clear hM1 hI1 hT1 HC
                            go_upto_region 43 with fail
                            go_cut [213] from 25 (fun vc wx => ∃ c : Bool, vc = .bool c ∧ (c = true ↔ mid < en ∧ en < b) ∧ InT wx G (P ++ (Z1 ++ (X2 ++ (Y2 ++ Q)))) ∧ T wx)
                            case first =>
                              as_aux_lemma =>
                                by_cases c1 : mid < en
                                · have c1I : (mid : Int) < (en : Int) := by omega
                                  by_cases c2 : en < b
                                  · have c2I : (en : Int) < (b : Int) := by omega
                                    go_wp2
                                    go_meet
                                    case rel => exact ⟨true, rfl, ⟨fun _ => ⟨c1, c2⟩, fun _ => rfl⟩, HC2.out.2.1, HC2.out.2.2⟩
                                  · have c2I : ¬ (en : Int) < (b : Int) := by omega
                                    go_wp2
                                    go_meet
                                    case rel => exact ⟨false, rfl, ⟨fun h => (by cases h), fun h => absurd h.2 (by omega)⟩, HC2.out.2.1, HC2.out.2.2⟩
                                · have c1I : ¬ (mid : Int) < (en : Int) := by omega
                                  go_wp2
                                  go_meet
                                  case rel => exact ⟨false, rfl, ⟨fun h => (by cases h), fun h => absurd h.1 (by omega)⟩, HC2.out.2.1, HC2.out.2.2⟩
                            case rest =>
                              as_aux_lemma =>
                                obtain ⟨c, rfl, hc, hIc, hTc⟩ := hcut
                                have HC : Hid ((c = true ↔ mid < en ∧ en < b) ∧ InT wc G (P ++ (Z1 ++ (X2 ++ (Y2 ++ Q)))) ∧ T wc) := ⟨hc, hIc, hTc⟩
                                have HM1 : Hid (Merg κ X1 Y1 Z1) := HC2.out.1
                                clear hc hIc hTc HC2
                                cases c with
                                | true =>
                                  obtain ⟨h1, h2⟩ := HC.out.1.1 rfl
                                  have hp := HPt.out
                                  have hz := HM1.out.2.2
                                  have hc := HX.out.2.2.2.2.2.2.1 wc G cap n mid en b (P ++ Z1) X2 Y2 Q (by have := HN.out; have := hp.x1; have := hp.x2; have := hp.y1; have := hp.y2; simp only [List.length_append]; omega) (by rw [List.length_append]; have := HN.out; have := hp.x1; have := hp.y1; omega) (by have := hp.x2; omega) hp.y2.symm (by have := hp.x2; omega) (by have := hp.y2; omega) (by have := hp.x1; have := hp.x2; have := hp.y1; have := hp.y2; have := HN.out; have := HX.out.2.2.2.2.2.2.2; omega) hsz (by have h9 := HX.out.2.2.2.2.1; rw [hp.x] at h9; exact h9.right) (by have h9 := HX.out.2.2.2.2.2.1; rw [hp.y] at h9; exact h9.right) (by simpa only [List.append_assoc] using HC.out.2.1)
                                  clear hp hz
                                  go_wp2_with fail
                                  refine hc.mono ?_
                                  rintro e w1 ⟨rfl, Z2, hM2, hI2, hT2⟩
                                  have H1 : Hid (Merg κ X2 Y2 Z2 ∧ InT w1 G (P ++ (Z1 ++ (Z2 ++ Q))) ∧ T w1) := ⟨hM2, by simpa only [List.append_assoc] using hI2, HT.out.2.1 _ _ HC.out.2.2 hT2⟩
                                  clear hM2 hI2 hT2 hc
                                  go_wp2
                                  go_end0
                                  have hp := HPt.out
                                  refine ⟨rfl, Z1 ++ Z2, ?_, by simpa only [List.append_assoc] using H1.out.2.1, HT.out.2.2 _ H1.out.2.2⟩
                                  have rx := HX.out.2.2.2.2.1
                                  have ry := HX.out.2.2.2.2.2.1
                                  rw [hp.x, hp.y]
                                  rw [hp.x] at rx
                                  rw [hp.y] at ry
                                  exact Merg.parts rx ry hp.lt hp.le HM1.out H1.out.1
                                | false =>
                                  have hnot : ¬ (mid < en ∧ en < b) := fun h => by have := HC.out.1.2 h; cases this
                                  have HE : Hid (∃ Z2, Merg κ X2 Y2 Z2 ∧ InT wc G (P ++ (Z1 ++ (Z2 ++ Q))) ∧ T wc) := by
                                    have hp := HPt.out
                                    have h1 := HC.out.2.1
                                    have rx := HX.out.2.2.2.2.1
                                    have ry := HX.out.2.2.2.2.2.1
                                    rw [hp.x] at rx
                                    rw [hp.y] at ry
                                    by_cases e : mid < en
                                    · obtain rfl : Y2 = [] := List.eq_nil_of_length_eq_zero (by have := hp.y2; omega)
                                      exact ⟨X2, Merg.nil_right rx.right, by simpa using h1, HC.out.2.2⟩
                                    · obtain rfl : X2 = [] := List.eq_nil_of_length_eq_zero (by have := hp.x2; omega)
                                      exact ⟨Y2, Merg.nil_left ry.right, by simpa using h1, HC.out.2.2⟩
                                  clear hnot
                                  go_wp2
                                  go_end0
                                  obtain ⟨Z2, hM2, hI2, hT2⟩ := HE.out
                                  have hp := HPt.out
                                  refine ⟨rfl, Z1 ++ Z2, ?_, by simpa only [List.append_assoc] using hI2, HT.out.2.2 _ hT2⟩
                                  have rx := HX.out.2.2.2.2.1
                                  have ry := HX.out.2.2.2.2.2.1
                                  rw [hp.x, hp.y]
                                  rw [hp.x] at rx
                                  rw [hp.y] at ry
                                  exact Merg.parts rx ry hp.lt hp.le HM1.out hM2
end Go.Proofs.Ytnmaldgmlkcliaa
