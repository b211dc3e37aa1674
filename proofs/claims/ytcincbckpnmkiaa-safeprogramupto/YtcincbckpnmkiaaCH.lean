/- KeptBody, KeptRule. -/
import Derived.Test.YtcincbckpnmkiaaCG
namespace Go.Proofs.Ytcincbckpnmkiaa
open Go.RowKit Go.Maps

set_option maxRecDepth 100000 in
set_option maxHeartbeats 4000000 in
theorem keptBody_yes (w : World) (a2 : Option Addr) (b1 b2 o1 o2 c1 c2 : Nat) (cs ls : List Li) (hl : likes cs ls) (h1 : RecS 7 encLi w (some ⟨b1, o1, none⟩) b1 o1 (cs ++ [markL, markL])) (hk : ∀ y ∈ cs, y.atom.Kept w) (h2 : LisS w a2 b2 o2 ls) (hc : ls.length + 2 ≤ c1) (hn : ls.length ≤ 140737488355328) (hb : ∀ x ∈ ls, x.atom.ts.length ≤ 140737488355328) :
    Calls Try.prog 50 #[.slice (some ⟨b1, o1, none⟩) ls.length c1, .slice a2 ls.length c2] w fun e w' => e = .returned (.bool true) ∧ Stay w w' := by
  have hL1 : LisS w (some ⟨b1, o1, none⟩) b1 o1 cs := h1.left.lis (fun y hy => (hk y hy).in)
  have hsb := sameBody_yes w (some ⟨b1, o1, none⟩) a2 b1 b2 o1 o2 c1 c2 cs ls hl hL1 h2 hn hb
  have HH : Hid (LisS w (some ⟨b1, o1, none⟩) b1 o1 cs ∧ LisS w a2 b2 o2 ls ∧ likes cs ls ∧ (∀ x ∈ ls, x.atom.ts.length ≤ 140737488355328) ∧ ∀ y ∈ cs, y.atom.Kept w) := ⟨hL1, h2, hl, hb, hk⟩
  have HA2 : Hid (0 < ls.length → a2 = some ⟨b2, o2, none⟩) := h2.1
  have HM : Hid (∀ W, Stay w W → W.cell? ⟨b1, o1 + ls.length * 7, none⟩ = some (.int .i64 77) ∧ W.cell? ⟨b1, o1 + (ls.length + 1) * 7, none⟩ = some (.int .i64 77)) := fun W hW => by
    have e := hl.1
    have g1 := (h1.stay hW).2 cs.length (by simp) 0 (.int .i64 77) (by simp [encLi, markL])
    have g2 := (h1.stay hW).2 (cs.length + 1) (by simp) 0 (.int .i64 77) (by rw [List.getElem_append_right (by omega)]; simp [encLi, markL])
    rw [e] at g1 g2
    exact ⟨g1, g2⟩
  clear h1 h2 hl hb hk hL1
  generalize hm : ls.length = n at *
  have HN : Hid (ls.length = n) := hm
  clear hm
  have hci : (n : Int) + 2 ≤ (c1 : Int) := by omega
  go_enter Try.func50, Try.ntmps50
  go_wp2_with (first | (go_at_call 63; refine hsb.mono ?_; rintro e W0 ⟨rfl, hs0⟩; have HS0 : Hid (Stay w W0) := hs0; clear hs0 hsb))
  go_loopw [6] (fun i wr => Stay w wr ∧ ∃ k : Nat, k ≤ n ∧ i = .int .i64 (k : Int)) (fun i _ => n - (intOf i).toNat)
  case atStart => exact ⟨HS0.out, 0, Nat.zero_le _, rfl⟩
  case round =>
    obtain ⟨hst, k, hk, rfl⟩ := hrel
    by_cases hlt : k < n
    · have hkl : k < ls.length := by rw [HN.out]; exact hlt
      have hkc : k < cs.length := by rw [HH.out.2.2.1.1]; exact hkl
      have hki : (k : Int) < (n : Int) := by omega
      have hki0 : (0 : Int) ≤ (k : Int) := by omega
      obtain rfl := HA2.out (by omega)
      have hsl := fun (V : World) (hV : Stay w V) => keptAtom_yes V cs[k].atom ls[k].atom (likes_at HH.out.2.2.1 k hkc hkl).2.1 ((HH.out.2.2.2.2 _ (List.getElem_mem hkc)).stay hV) ((HH.out.2.1.stay hV).2 k hkl).2.2.2.2.2.2.2 (HH.out.2.2.2.1 _ (List.getElem_mem hkl))
      obtain ⟨p0, p1, p2, p3, p4, p5, p6, _⟩ := (HH.out.1.stay hst).2 k hkc
      obtain ⟨q0, q1, q2, q3, q4, q5, q6, _⟩ := (HH.out.2.1.stay hst).2 k hkl
      generalize cs[k] = x at *
      generalize ls[k] = y at *
      obtain ⟨xk, ⟨xp, xa, xb, xo, xc, xs⟩, ⟨xl1, xl2⟩, ⟨xr1, xr2⟩⟩ := x
      obtain ⟨yk, ⟨yp, ya, yb, yo, yc, ys⟩, ⟨yl1, yl2⟩, ⟨yr1, yr2⟩⟩ := y
      unfold At.v At.sl at hsl
      unfold At.sl at p2 q2
      dsimp only at p0 p1 p2 p3 p4 p5 p6 q0 q1 q2 q3 q4 q5 q6 hsl
      generalize xs.length = xm at *
      generalize ys.length = ym at *
      have HS : Hid (Stay w wr) := hst
      clear hst p0 p3 p4 p5 p6 q0 q3 q4 q5 q6
      go_upto_region 7 with fail
      go_region_with (first | (go_at_call 49; refine (hsl _ (Below.drew HS.out)).mono ?_; rintro e W1 ⟨rfl, hs1⟩))
      all_goals
        go_wp2_with fail
        go_roundw
        case rel => exact ⟨Below.trans (Below.drew HS.out) (hs1.mono HS.out.size), k + 1, by omega, by simp⟩
        case measure => simp [intOf]; omega
    · obtain rfl : k = n := by omega
      have hge : ¬ (k : Int) < (k : Int) := by omega
      obtain ⟨m0, m1⟩ := HM.out wr hst
      have HS : Hid (Stay w wr) := hst
      clear hst
      go_wp2
      go_ret
      exact ⟨rfl, HS.out⟩
theorem Ru.Kept.same {x y : Ru} (h : x.like y) : x.body.length = y.body.length := h.2.1
set_option maxRecDepth 100000 in
set_option maxHeartbeats 2000000 in
theorem keptRule_yes (w : World) (x y : Ru) (h : x.like y) (h1 : x.Kept w) (h2 : y.In w) (hf : y.fair) :
    Calls Try.prog 21 #[x.v, y.v] w fun e w' => e = .returned (.bool true) ∧ Stay w w' := by
  have hs0 : Stay w ((w.alloc (.cells #[.string x.head.pred, x.head.sl, .slice x.a x.body.length x.cap] 27)).alloc (.cells #[.string y.head.pred, y.head.sl, .slice y.a y.body.length y.cap] 27)) := (Stay.new w _).trans (Stay.new _ _)
  have hka := keptAtom_yes _ x.head y.head h.1 (h1.1.stay hs0) (TmsS.stay h2.1 hs0) (by have := hf.2.1; omega)
  have hR := h1.2.2.2.2.1
  rw [h1.2.1] at hR
  have hkb := fun (V : World) (hV : Stay w V) => keptBody_yes V y.a x.b y.b x.off y.off x.cap y.cap x.body y.body h.2 (hR.stay hV) (fun z hz => (h1.2.2.2.2.2 z hz).stay hV) (h2.2.stay hV) (by rw [← h.2.1]; exact h1.2.2.1) (by have := hf.2.2.2.1; omega) (fun z hz => by have := (hf.2.2.2.2 z hz).2; omega)
  have ha := h1.2.1
  have hbl := h.2.1
  have HC : Hid (∀ W, Stay ((w.alloc (.cells #[.string x.head.pred, x.head.sl, .slice x.a x.body.length x.cap] 27)).alloc (.cells #[.string y.head.pred, y.head.sl, .slice y.a y.body.length y.cap] 27)) W → W.cell? ⟨w.heap.size, 2, none⟩ = some (.slice x.a x.body.length x.cap) ∧ W.cell? ⟨w.heap.size + 1, 2, none⟩ = some (.slice y.a y.body.length y.cap)) := fun W hW =>
    ⟨hW.cell (by simp), hW.cell (by simp)⟩
  have HS : Hid (Stay w ((w.alloc (.cells #[.string x.head.pred, x.head.sl, .slice x.a x.body.length x.cap] 27)).alloc (.cells #[.string y.head.pred, y.head.sl, .slice y.a y.body.length y.cap] 27))) := hs0
  obtain ⟨⟨p, ha1, hb1, ho1, hc1, hts⟩, a1, b1, o1, c1, cs⟩ := x
  obtain ⟨⟨q, ha2, hb2, ho2, hc2, hus⟩, a2, b2, o2, c2, ls⟩ := y
  unfold Ru.v
  unfold At.v At.sl at *
  dsimp only at *
  subst ha
  rw [hbl] at HC HS hka ⊢
  clear h h1 h2 hf hs0 hR hbl
  generalize ls.length = n at *
  generalize hts.length = m1 at *
  generalize hus.length = m2 at *
  go_enter Try.func21, Try.ntmps21
  go_wp2_with (first
    | (go_at_call 49; refine hka.mono ?_; rintro e W1 ⟨rfl, hs1⟩; obtain ⟨d0, d1⟩ := HC.out W1 hs1; have hkb1 := hkb W1 (HS.out.trans hs1); have HS1 : Hid (Stay w W1) := HS.out.trans hs1; clear hka hkb hs1)
    | (go_at_call 50; refine hkb1.mono ?_; rintro e W2 ⟨rfl, hs2⟩))
  go_ret
  exact ⟨rfl, HS1.out.trans hs2⟩
end Go.Proofs.Ytcincbckpnmkiaa
