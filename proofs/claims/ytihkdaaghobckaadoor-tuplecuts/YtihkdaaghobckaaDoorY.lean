/- TupleCuts: its walk. -/
import Derived.Test.YtihkdaaghobckaaDoorV
import Derived.Test.YtihkdaaghobckaaDoorX
namespace Go.Proofs.YtihkdaaghobckaaDoor
open Go.RowKit Go.Maps

theorem Lent.turn {S : Nat → Prop} {base : Nat} {w w' : World} {g cap : Nat} {xs : List Int} (h : Lent base w g cap xs) (ht : Turn S w w') (hn : ¬ S g) : Lent base w' g cap xs :=
  own_turn h ht (fun k e => by simp [Value.ownBlock] at e; subst e; exact hn)

theorem agr_cut (xs ys : List Int) (c : Nat) : (cutE xs c = 0 ∧ cutE ys c = 0 ∧ agr xs ys c = decide (cutLst xs c = cutLst ys c)) ∨ (cutE xs c = 0 ∧ cutE ys c = 2 ∧ agr xs ys c = false) ∨ (cutE xs c = 2 ∧ (cutE ys c = 0 ∨ cutE ys c = 2) ∧ agr xs ys c = false) := by
  unfold cutE cutLst
  by_cases h1 : Lib.bitLen c ≤ xs.length
  · by_cases h2 : Lib.bitLen c ≤ ys.length
    · left
      rw [if_pos h1, if_pos h2, if_pos h1, if_pos h2]
      refine ⟨rfl, rfl, ?_⟩
      unfold agr
      rw [decide_eq_decide]
      exact ⟨fun h => h.2.2, fun h => ⟨h1, h2, h⟩⟩
    · right; left
      rw [if_pos h1, if_neg h2]
      exact ⟨rfl, rfl, agr_short (fun h => h2 h.2)⟩
  · right; right
    rw [if_neg h1]
    refine ⟨rfl, ?_, agr_short (fun h => h1 h.1)⟩
    split
    · exact .inl rfl
    · exact .inr rfl

/-- Where TupleCuts stands: the cuts, the two lent tuples. -/
def Cst (w W : World) (A B C : Ans) (n1 n2 n3 g1 k1 g2 k2 : Nat) (xs ys P Q : List Int) : Prop :=
  Three w W A B C n1 n2 n3 P P Q ∧ Lent w.heap.size W g1 k1 xs ∧ Lent w.heap.size W g2 k2 ys ∧ g1 < n1 ∧ g2 < n1
theorem Cst.stay {w W W' : World} {A B C : Ans} {n1 n2 n3 g1 k1 g2 k2 : Nat} {xs ys P Q : List Int} (h : Cst w W A B C n1 n2 n3 g1 k1 g2 k2 xs ys P Q) (hs : Stay W W') : Cst w W' A B C n1 n2 n3 g1 k1 g2 k2 xs ys P Q :=
  ⟨h.1.stay hs, h.2.1.stay hs, h.2.2.1.stay hs, h.2.2.2⟩
theorem Cst.all {w W : World} {A B C : Ans} {n1 n2 n3 g1 k1 g2 k2 : Nat} {xs ys P Q : List Int} (h : Cst w W A B C n1 n2 n3 g1 k1 g2 k2 xs ys P Q) : Stay w W := h.1.2.2.2.2.2.2.2.2.2

set_option maxRecDepth 100000 in
set_option maxHeartbeats 16000000 in
theorem cuts_walk (w : World) (a1 a2 : Option Addr) (b1 o1 b2 o2 c1 c2 : Nat) (xs ys : List Int) (c : Nat) (hc : c < 65536) (hx : IntsS w a1 b1 o1 xs) (hy : IntsS w a2 b2 o2 ys) (ha1 : a1 = none → c1 = 0 ∧ xs = []) (ha2 : a2 = none → c2 = 0 ∧ ys = [])
    (hb1 : (xs.length + 9) * 8 ≤ 140737488355328) (hb2 : (ys.length + 9) * 8 ≤ 140737488355328) :
    Calls Tryd.prog 5 #[.slice a1 xs.length c1, .slice a2 ys.length c2, .int .u16 c] w fun e w' => e = .returned (.bool true) ∧ Stay w w' := by
  have hlx : xs.length ≤ maxLen := by unfold maxLen; omega
  have hly : ys.length ≤ maxLen := by unfold maxLen; omega
  have HA : Hid ((IntsS w a1 b1 o1 xs ∧ IntsS w a2 b2 o2 ys) ∧ xs.length ≤ maxLen ∧ ys.length ≤ maxLen) := ⟨⟨hx, hy⟩, hlx, hly⟩
  have HAG : Hid ((cutE xs c = 0 ∧ cutE ys c = 0 ∧ agr xs ys c = decide (cutLst xs c = cutLst ys c)) ∨ (cutE xs c = 0 ∧ cutE ys c = 2 ∧ agr xs ys c = false) ∨ (cutE xs c = 2 ∧ (cutE ys c = 0 ∨ cutE ys c = 2) ∧ agr xs ys c = false)) := agr_cut xs ys c
  have HC1 : Hid (∀ (W : World) (a : Option Addr) (b o k : Nat), IntsS W a b o xs → Calls Tryd.prog 21 #[.slice a xs.length k, .int .u16 c] W fun e w' => ∃ v, e = .returned (.tuple #[v, .int .i64 (cutE xs c)]) ∧ OwnI W.heap.size w' v (cutLst xs c) ∧ Stay W w') := fun W a b o k h => cut_all W a b o k c xs h hlx hc
  have HC2 : Hid (∀ (W : World) (a : Option Addr) (b o k : Nat), IntsS W a b o ys → Calls Tryd.prog 21 #[.slice a ys.length k, .int .u16 c] W fun e w' => ∃ v, e = .returned (.tuple #[v, .int .i64 (cutE ys c)]) ∧ OwnI W.heap.size w' v (cutLst ys c) ∧ Stay W w') := fun W a b o k h => cut_all W a b o k c ys h hly hc
  have HR1 : Hid (∀ (W : World) (a : Option Addr) (b o k : Nat), IntsS W a b o xs → Calls Tryd.prog 22 #[.slice a xs.length k, .int .u16 c] W fun e w' => ∃ v, e = .returned (.tuple #[v, .int .i64 (cutE xs c)]) ∧ OwnI W.heap.size w' v (cutLst xs c) ∧ Stay W w') := fun W a b o k h => rcut_any W a b o k c xs h hlx hc
  have HR2 : Hid (∀ (W : World) (a : Option Addr) (b o k : Nat), IntsS W a b o ys → Calls Tryd.prog 22 #[.slice a ys.length k, .int .u16 c] W fun e w' => ∃ v, e = .returned (.tuple #[v, .int .i64 (cutE ys c)]) ∧ OwnI W.heap.size w' v (cutLst ys c) ∧ Stay W w') := fun W a b o k h => rcut_any W a b o k c ys h hly hc
  have HGA : Hid (∀ (W : World) (a a' : Option Addr) (b o b' o' k k' : Nat), IntsS W a b o xs → IntsS W a' b' o' ys → Calls Tryd.prog 23 #[.slice a xs.length k, .slice a' ys.length k', .int .u16 c] W fun e w' => e = .returned (.bool (agr xs ys c)) ∧ Stay W w') := fun W a a' b o b' o' k k' h1 h2 => agree_any W a a' b o b' o' k k' c xs ys h1 h2 hlx hly hc
  have HGR : Hid (∀ (W : World) (a a' : Option Addr) (b o b' o' k k' : Nat), IntsS W a b o xs → IntsS W a' b' o' ys → Calls Tryd.prog 24 #[.slice a xs.length k, .slice a' ys.length k', .int .u16 c] W fun e w' => e = .returned (.bool (agr xs ys c)) ∧ Stay W w') := fun W a a' b o b' o' k k' h1 h2 => ragree_any W a a' b o b' o' k k' c xs ys h1 h2 hlx hly hc
  have HLN : Hid ((cutLst xs c).length ≤ 16 ∧ (cutLst ys c).length ≤ 16) := ⟨cutLst_len xs c, cutLst_len ys c⟩
  have HINT : Hid (∀ (W : World) (zs us : List Int) (a a' : Option Addr) (b b' k k' : Nat), zs.length ≤ 16 → us.length ≤ 16 → IntsS W a b 0 zs → IntsS W a' b' 0 us → Calls Tryd.prog 14 #[.slice a zs.length k, .slice a' us.length k'] W fun e w' => e = .returned (.bool (decide (zs = us))) ∧ Stay W w') := fun W zs us a a' b b' k k' e1 e2 h1 h2 => (ints_any W a a' b 0 b' 0 k k' zs us h1 h2 (by unfold maxLen; omega) (by unfold maxLen; omega)).mono (fun e w' ⟨h3, q, h4⟩ => ⟨h3, by rw [h4]; exact Stay.drewN _ _⟩)
  generalize cutE xs c = E1 at HAG HC1 HR1
  generalize cutE ys c = E2 at HAG HC2 HR2
  generalize cutLst xs c = P at HAG HC1 HR1 HLN
  generalize cutLst ys c = Q at HAG HC2 HR2 HLN
  generalize agr xs ys c = G at HAG HGA HGR
  clear hx hy hlx hly
  go_enter Tryd.func5, Tryd.ntmps5
  go_wp2_with fail
  refine (lend_any w a1 b1 o1 c1 xs HA.out.1.1 ha1 hb1).mono ?_
  rintro e w1 ⟨g1, k1, rfl, hl1, hs1⟩
  have S1 : Hid (Lent w.heap.size w1 g1 k1 xs ∧ Stay w w1) := ⟨hl1, hs1⟩
  clear hl1 hs1 ha1
  go_wp2_with fail
  refine (lend_any w1 a2 b2 o2 c2 ys (HA.out.1.2.stay S1.out.2) ha2 hb2).mono ?_
  rintro e w2 ⟨g2, k2, rfl, hl2, hs2⟩
  have S2 : Hid ((Lent w.heap.size w2 g1 k1 xs ∧ Lent w.heap.size w2 g2 k2 ys) ∧ Stay w w2) := ⟨⟨S1.out.1.stay hs2, hl2.mono S1.out.2.size⟩, S1.out.2.trans hs2⟩
  clear hl2 hs2 S1 ha2
  go_wp2_with fail
  refine (HC1.out w2 _ _ _ k1 S2.out.1.1.ints).mono ?_
  rintro e w3 ⟨v1, rfl, hown, hs⟩
  obtain ⟨A1, rfl, hA1l, hA1, hI1⟩ := hown.ans
  have S3 : Hid (((Lent w.heap.size w3 g1 k1 xs ∧ Lent w.heap.size w3 g2 k2 ys) ∧ g1 < w2.heap.size ∧ g2 < w2.heap.size) ∧ Stay w w3 ∧ w.heap.size ≤ w2.heap.size ∧ w2.heap.size ≤ w3.heap.size ∧ A1.len = P.length ∧ IsAns w2.heap.size w3 A1 ∧ IntsS w3 A1.a A1.g 0 P) :=
    ⟨⟨⟨S2.out.1.1.stay hs, S2.out.1.2.stay hs⟩, S2.out.1.1.bound.2.2.2, S2.out.1.2.bound.2.2.2⟩, S2.out.2.trans hs, S2.out.2.size, hs.size, hA1l, hA1, hI1⟩
  clear hs hown hA1l hA1 hI1 S2
  go_wp2_with fail
  refine (HC1.out w3 _ _ _ k1 S3.out.1.1.1.ints).mono ?_
  rintro e w4 ⟨v2, rfl, hown, hs⟩
  obtain ⟨A2, rfl, hA2l, hA2, hI2⟩ := hown.ans
  have S4 : Hid ((((Lent w.heap.size w4 g1 k1 xs ∧ Lent w.heap.size w4 g2 k2 ys) ∧ g1 < w2.heap.size ∧ g2 < w2.heap.size) ∧ Stay w w4 ∧ w.heap.size ≤ w2.heap.size ∧ w2.heap.size ≤ w3.heap.size ∧ A1.len = P.length ∧ IsAns w2.heap.size w4 A1 ∧ IntsS w4 A1.a A1.g 0 P) ∧ (A1.a ≠ none → A1.g < w3.heap.size) ∧ w3.heap.size ≤ w4.heap.size ∧ A2.len = P.length ∧ IsAns w3.heap.size w4 A2 ∧ IntsS w4 A2.a A2.g 0 P) :=
    ⟨⟨⟨⟨S3.out.1.1.1.stay hs, S3.out.1.1.2.stay hs⟩, S3.out.1.2⟩, S3.out.2.1.trans hs, S3.out.2.2.1, S3.out.2.2.2.1, S3.out.2.2.2.2.1, S3.out.2.2.2.2.2.1.stay hs, S3.out.2.2.2.2.2.2.stay hs⟩, fun h => (S3.out.2.2.2.2.2.1.2 h).2.2.2.2.1, hs.size, hA2l, hA2, hI2⟩
  clear hs hown hA2l hA2 hI2 S3
  go_wp2_with fail
  refine (HC2.out w4 _ _ _ k2 S4.out.1.1.1.2.ints).mono ?_
  rintro e w5 ⟨v3, rfl, hown, hs⟩
  obtain ⟨A3, rfl, hA3l, hA3, hI3⟩ := hown.ans
  have S5 : Hid (Cst w w5 A1 A2 A3 w2.heap.size w3.heap.size w4.heap.size g1 k1 g2 k2 xs ys P Q) :=
    ⟨⟨⟨S4.out.1.2.2.2.2.1, S4.out.1.2.2.2.2.2.1.stay hs, S4.out.1.2.2.2.2.2.2.stay hs⟩, ⟨S4.out.2.2.2.1, S4.out.2.2.2.2.1.stay hs, S4.out.2.2.2.2.2.stay hs⟩, ⟨hA3l, hA3, hI3⟩, S4.out.2.1, fun h => (S4.out.2.2.2.2.1.2 h).2.2.2.2.1, S4.out.1.2.2.1, S4.out.1.2.2.2.1, S4.out.2.2.1, hs.size, S4.out.1.2.1.trans hs⟩, S4.out.1.1.1.1.stay hs, S4.out.1.1.1.2.stay hs, S4.out.1.1.2⟩
  generalize w2.heap.size = n1 at S5 S4
  generalize w3.heap.size = n2 at S5 S4
  generalize w4.heap.size = n3 at S5 S4
  clear hs hown hA3l hA3 hI3 S4
  go_wp2_with fail
  refine (HR1.out w5 a1 b1 o1 c1 (HA.out.1.1.stay S5.out.all)).mono ?_
  rintro e w6 ⟨v4, rfl, hown, hs⟩
  obtain ⟨aw, bw, cw, rfl, hIw⟩ := hown.ints
  have S6 : Hid (Cst w w6 A1 A2 A3 n1 n2 n3 g1 k1 g2 k2 xs ys P Q ∧ IntsS w6 aw bw 0 P) := ⟨S5.out.stay hs, hIw⟩
  clear hs hown hIw S5
  go_wp2_with fail
  refine (HR2.out w6 a2 b2 o2 c2 (HA.out.1.2.stay S6.out.1.all)).mono ?_
  rintro e w7 ⟨v5, rfl, hown, hs⟩
  obtain ⟨au, bu, cu, rfl, hIu⟩ := hown.ints
  have S7 : Hid (Cst w w7 A1 A2 A3 n1 n2 n3 g1 k1 g2 k2 xs ys P Q ∧ IntsS w7 aw bw 0 P ∧ IntsS w7 au bu 0 Q) := ⟨S6.out.1.stay hs, S6.out.2.stay hs, hIu⟩
  clear hs hown hIu S6 HC1 HC2 HR1 HR2
  go_upto_region 8 with fail
  go_cut [93] (fun b wx => b = .bool false ∧ Stay w7 wx)
  case first =>
    go_wp2_with (go_at_call 10; refine Calls.mono (num_any _ _) ?_; rintro e w9 ⟨rfl, hw9⟩; subst w9)
    refine (HINT.out w7 P P A1.a aw A1.g bw A1.cap cw HLN.out.1 HLN.out.1 S7.out.1.1.1.2.2 S7.out.2.1).mono ?_
    rw [show decide (P = P) = true by simp]
    rintro e w8 ⟨rfl, hs⟩
    have S8 : Hid (Stay w7 w8) := hs
    clear hs
    go_wp2_with fail
    refine (HINT.out w8 P P A2.a aw A2.g bw A2.cap cw HLN.out.1 HLN.out.1 (S7.out.1.1.2.1.2.2.stay S8.out) (S7.out.2.1.stay S8.out)).mono ?_
    rw [show decide (P = P) = true by simp]
    rintro e w9 ⟨rfl, hs⟩
    have S9 : Hid (Stay w7 w9) := S8.out.trans hs
    clear hs S8
    go_wp2_with fail
    refine (HINT.out w9 Q Q A3.a au A3.g bu A3.cap cu HLN.out.2 HLN.out.2 (S7.out.1.1.2.2.1.2.2.stay S9.out) (S7.out.2.2.stay S9.out)).mono ?_
    rw [show decide (Q = Q) = true by simp]
    rintro e w10 ⟨rfl, hs⟩
    have S10 : Hid (Stay w7 w10) := S9.out.trans hs
    clear hs S9
    go_wp2_with fail
    refine (kept_any w10 g1 k1 a1 b1 o1 c1 _ xs (S7.out.1.2.1.stay S10.out) (HA.out.1.1.stay (S7.out.1.all.trans S10.out))).mono ?_
    rintro e w11 ⟨rfl, q, hq⟩
    have S11 : Hid (Stay w7 w11) := by rw [hq]; exact S10.out.trans (Stay.drewN _ _)
    clear hq S10
    go_wp2_with fail
    refine (kept_any w11 g2 k2 a2 b2 o2 c2 _ ys (S7.out.1.2.2.1.stay S11.out) (HA.out.1.2.stay (S7.out.1.all.trans S11.out))).mono ?_
    rintro e w12 ⟨rfl, q, hq⟩
    have S12 : Hid (Stay w7 w12) := by rw [hq]; exact S11.out.trans (Stay.drewN _ _)
    clear hq S11
    go_wp2_with fail
    go_meet
    exact ⟨rfl, S12.out⟩
  case rest =>
    obtain ⟨rfl, hst⟩ := hcut
    have S13 : Hid (Cst w wc A1 A2 A3 n1 n2 n3 g1 k1 g2 k2 xs ys P Q ∧ IntsS wc aw bw 0 P ∧ IntsS wc au bu 0 Q) := ⟨S7.out.1.stay hst, S7.out.2.1.stay hst, S7.out.2.2.stay hst⟩
    clear hst S7
    obtain ⟨w13, hw13⟩ : ∃ w13, w13 = wc := ⟨_, rfl⟩
    subst hw13
    go_upto_region 10 with fail
    go_cut [120] (fun b wx => b = .bool false ∧ Stay w13 wx)
    case first =>
      go_wp2_with fail
      refine (HGA.out w13 _ _ _ _ _ _ k1 k2 S13.out.1.2.1.ints S13.out.1.2.2.1.ints).mono ?_
      rintro e w14 ⟨rfl, hs⟩
      have S14 : Hid (Stay w13 w14) := hs
      clear hs
      go_wp2_with fail
      refine (HGR.out w14 a1 a2 b1 o1 b2 o2 c1 c2 (HA.out.1.1.stay (S13.out.1.all.trans S14.out)) (HA.out.1.2.stay (S13.out.1.all.trans S14.out))).mono ?_
      rintro e w15 ⟨rfl, hs⟩
      have S15 : Hid (Stay w13 w15) := S14.out.trans hs
      clear hs S14
      go_wp2_with fail
      refine (HGA.out w15 _ _ _ _ _ _ k1 k2 (S13.out.1.2.1.ints.stay S15.out) (S13.out.1.2.2.1.ints.stay S15.out)).mono ?_
      rintro e w16 ⟨rfl, hs⟩
      have S16 : Hid (Stay w13 w16) := S15.out.trans hs
      clear hs S15 HGA HGR
      rcases HAG.out with ⟨rfl, rfl, rfl⟩ | ⟨rfl, rfl, rfl⟩ | ⟨rfl, hE2, rfl⟩
      · go_wp2_with fail
        refine (HINT.out w16 P Q aw au bw bu cw cu HLN.out.1 HLN.out.2 (S13.out.2.1.stay S16.out) (S13.out.2.2.stay S16.out)).mono ?_
        rintro e w17 ⟨rfl, hs⟩
        have S17 : Hid (Stay w13 w17) := S16.out.trans hs
        clear hs S16
        go_wp2_with fail
        all_goals go_meet
        all_goals exact ⟨by first | rfl | simp, S17.out⟩
      · go_wp2_with fail
        go_meet
        exact ⟨by first | rfl | simp, S16.out⟩
      · rcases hE2 with rfl | rfl
        · go_wp2_with fail
          go_meet
          exact ⟨by first | rfl | simp, S16.out⟩
        · go_wp2_with fail
          go_meet
          exact ⟨by first | rfl | simp, S16.out⟩
    case rest =>
      obtain ⟨rfl, hst⟩ := hcut
      have S14 : Hid (Cst w wc A1 A2 A3 n1 n2 n3 g1 k1 g2 k2 xs ys P Q) := S13.out.1.stay hst
      clear hst S13
      go_wp2_with fail
      refine (three_book S14.out.1 (by have := HLN.out; omega)).mono ?_
      rintro e w15 ⟨rfl, hap⟩
      have HAP : Hid (Calls Tryd.prog 16 #[.pointer (some ⟨wc.heap.size, 0, none⟩)] w15 fun e w'' => e = .returned (.bool true) ∧ Stay w w'' ∧ Turn (fun k => n1 ≤ k) wc w'') := hap
      clear hap
      go_wp2_with fail
      refine HAP.out.mono ?_
      rintro e w16 ⟨rfl, hs, ht⟩
      have S16 : Hid (Stay w w16 ∧ Lent w.heap.size w16 g1 k1 xs ∧ Lent w.heap.size w16 g2 k2 ys) := ⟨hs, S14.out.2.1.turn ht (by have := S14.out.2.2.2.1; omega), S14.out.2.2.1.turn ht (by have := S14.out.2.2.2.2; omega)⟩
      clear hs ht HAP S14
      go_wp2_with fail
      refine (kept_any w16 g1 k1 a1 b1 o1 c1 _ xs S16.out.2.1 (HA.out.1.1.stay S16.out.1)).mono ?_
      rintro e w17 ⟨rfl, q, hq⟩
      have S17 : Hid (Stay w w17 ∧ Lent w.heap.size w17 g2 k2 ys) := by rw [hq]; exact ⟨S16.out.1.trans (Stay.drewN _ _), S16.out.2.2.stay (Stay.drewN _ _)⟩
      clear hq S16
      go_wp2_with fail
      refine (kept_any w17 g2 k2 a2 b2 o2 c2 _ ys S17.out.2 (HA.out.1.2.stay S17.out.1)).mono ?_
      rintro e w18 ⟨rfl, q, hq⟩
      have S18 : Hid (Stay w w18) := by rw [hq]; exact S17.out.1.trans (Stay.drewN _ _)
      clear hq S17
      go_wp2_with fail
      refine (works_any w18).mono ?_
      rintro e w19 ⟨rfl, hs⟩
      have S19 : Hid (Stay w w19) := S18.out.trans hs
      clear hs
      go_wp2_with fail
      go_ret
      exact ⟨rfl, S19.out⟩
end Go.Proofs.YtihkdaaghobckaaDoor
