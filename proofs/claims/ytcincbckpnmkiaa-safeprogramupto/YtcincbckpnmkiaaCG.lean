/- Copies held against what they are copies of: SameBody, keptAtom, KeptBody, KeptRule. -/
import Derived.Test.YtcincbckpnmkiaaCF
namespace Go.Proofs.Ytcincbckpnmkiaa
open Go.RowKit Go.Maps

theorem likes_at {cs ls : List Li} (h : likes cs ls) (j : Nat) (h1 : j < cs.length) (h2 : j < ls.length) : cs[j].like ls[j] := h.2 j h1 h2
/-- A literal's cells at a place. -/
def L7 (W : World) (b o : Nat) (x : Li) : Prop := W.cell? ⟨b, o, none⟩ = some (.int .i64 x.kind) ∧ W.cell? ⟨b, o + 1, none⟩ = some (.string x.atom.pred) ∧ W.cell? ⟨b, o + 2, none⟩ = some x.atom.sl ∧ W.cell? ⟨b, o + 3, none⟩ = some (.bool x.left.var) ∧ W.cell? ⟨b, o + 4, none⟩ = some (.string x.left.text) ∧ W.cell? ⟨b, o + 5, none⟩ = some (.bool x.right.var) ∧ W.cell? ⟨b, o + 6, none⟩ = some (.string x.right.text)
set_option maxRecDepth 100000 in
set_option maxHeartbeats 4000000 in
theorem sameBody_yes (w : World) (a1 a2 : Option Addr) (b1 b2 o1 o2 c1 c2 : Nat) (cs ls : List Li) (hl : likes cs ls) (h1 : LisS w a1 b1 o1 cs) (h2 : LisS w a2 b2 o2 ls) (hn : ls.length ≤ 140737488355328) (hb : ∀ x ∈ ls, x.atom.ts.length ≤ 140737488355328) :
    Calls Try.prog 63 #[.slice a1 ls.length c1, .slice a2 ls.length c2] w fun e w' => e = .returned (.bool true) ∧ Stay w w' := by
  have HH : Hid (LisS w a1 b1 o1 cs ∧ LisS w a2 b2 o2 ls ∧ likes cs ls ∧ ∀ x ∈ ls, x.atom.ts.length ≤ 140737488355328) := ⟨h1, h2, hl, hb⟩
  have HA1 : Hid (0 < ls.length → a1 = some ⟨b1, o1, none⟩) := by rw [← hl.1]; exact h1.1
  have HA2 : Hid (0 < ls.length → a2 = some ⟨b2, o2, none⟩) := h2.1
  clear h1 h2 hl hb
  generalize hm : ls.length = n at *
  have HN : Hid (ls.length = n) := hm
  clear hm
  have hnn : ((n : Int) != (n : Int)) = false := by simp
  go_enter Try.func63, Try.ntmps63
  go_wp2
  go_loopw [5] (fun i wr => Stay w wr ∧ ∃ k : Nat, k ≤ n ∧ i = .int .i64 (k : Int)) (fun i _ => n - (intOf i).toNat)
  case atStart => exact ⟨Stay.refl _, 0, Nat.zero_le _, rfl⟩
  case round =>
    obtain ⟨hst, k, hk, rfl⟩ := hrel
    by_cases hlt : k < n
    · have hkl : k < ls.length := by rw [HN.out]; exact hlt
      have hkc : k < cs.length := by rw [HH.out.2.2.1.1]; exact hkl
      have hki : (k : Int) < (n : Int) := by omega
      have hki0 : (0 : Int) ≤ (k : Int) := by omega
      obtain rfl := HA1.out (by omega)
      obtain rfl := HA2.out (by omega)
      have hsl := fun (V : World) (hV : Stay w V) => sameLiteral_yes V cs[k] ls[k] (likes_at HH.out.2.2.1 k hkc hkl) ((HH.out.1.stay hV).2 k hkc).2.2.2.2.2.2.2 ((HH.out.2.1.stay hV).2 k hkl).2.2.2.2.2.2.2 (HH.out.2.2.2 _ (List.getElem_mem hkl))
      obtain ⟨p0, p1, p2, p3, p4, p5, p6, _⟩ := (HH.out.1.stay hst).2 k hkc
      obtain ⟨q0, q1, q2, q3, q4, q5, q6, _⟩ := (HH.out.2.1.stay hst).2 k hkl
      generalize cs[k] = x at *
      generalize ls[k] = y at *
      obtain ⟨xk, ⟨xp, xa, xb, xo, xc, xs⟩, ⟨xl1, xl2⟩, ⟨xr1, xr2⟩⟩ := x
      obtain ⟨yk, ⟨yp, ya, yb, yo, yc, ys⟩, ⟨yl1, yl2⟩, ⟨yr1, yr2⟩⟩ := y
      unfold Li.v At.sl at hsl
      unfold At.sl at p2 q2
      dsimp only at p0 p1 p2 p3 p4 p5 p6 q0 q1 q2 q3 q4 q5 q6 hsl
      generalize xs.length = xm at *
      generalize ys.length = ym at *
      have HS : Hid (Stay w wr) := hst
      clear hst
      go_upto_region 6 with fail
      go_region_with (first | (go_at_call 66; refine (hsl _ (Below.drew HS.out)).mono ?_; rintro e W1 ⟨rfl, hs1⟩))
      all_goals
        go_wp2_with fail
        go_roundw
        case rel => exact ⟨Below.trans (Below.drew HS.out) (hs1.mono HS.out.size), k + 1, by omega, by simp⟩
        case measure => simp [intOf]; omega
    · obtain rfl : k = n := by omega
      have hge : ¬ (k : Int) < (k : Int) := by omega
      have HS : Hid (Stay w wr) := hst
      clear hst
      go_wp2
      go_ret
      exact ⟨rfl, HS.out⟩
set_option maxRecDepth 100000 in
set_option maxHeartbeats 2000000 in
theorem keptAtom_yes (w : World) (x y : At) (h : x.like y) (h1 : x.Kept w) (h2 : y.In w) (hn : y.ts.length ≤ 140737488355328) :
    Calls Try.prog 49 #[x.v, y.v] w fun e w' => e = .returned (.bool true) ∧ Stay w w' := by
  have hs0 : Stay w ((w.alloc (.cells #[.string x.pred, x.sl] 24)).alloc (.cells #[.string y.pred, y.sl] 24)) := (Stay.new w _).trans (Stay.new _ _)
  have hss := sameAtom_yes _ x y h (TmsS.stay h1.in hs0) (TmsS.stay h2 hs0) hn
  have hcap := h1.2.1
  have hR := h1.2.2.2
  have hmx := h1.2.2.1
  have ha := h1.1
  obtain ⟨p, a1, b1, o1, c1, ts⟩ := x
  obtain ⟨q, a2, b2, o2, c2, us⟩ := y
  obtain rfl : p = q := h.1
  obtain rfl : ts = us := h.2
  obtain rfl : a1 = some ⟨b1, o1, none⟩ := ha
  unfold At.v At.sl at *
  dsimp only at *
  have HK : Hid (∀ W, Stay w W → W.cell? ⟨b1, o1 + ts.length * 2 + 1, none⟩ = some (.string ⟨#[109, 97, 114, 107]⟩) ∧ W.cell? ⟨b1, o1 + (ts.length + 1) * 2 + 1, none⟩ = some (.string ⟨#[109, 97, 114, 107]⟩)) := fun W hW =>
    ⟨(hR.stay hW).2 ts.length (by simp) 1 _ (by simp [encTm, markT]), (hR.stay hW).2 (ts.length + 1) (by simp) 1 _ (by rw [List.getElem_append_right (by omega)]; simp [encTm, markT])⟩
  have HS : Hid (Stay w ((w.alloc (.cells #[.string p, .slice (some ⟨b1, o1, none⟩) ts.length c1] 24)).alloc (.cells #[.string p, .slice a2 ts.length c2] 24))) := hs0
  unfold maxLen at hmx
  clear h h1 h2 hs0 hR
  generalize ts.length = n at *
  have hc1 : n + 2 ≤ c1 := hcap
  have hc1i : (n : Int) + 2 ≤ (c1 : Int) := by omega
  go_enter Try.func49, Try.ntmps49
  go_wp2_with (first | (go_at_call 62; refine hss.mono ?_; rintro e W1 ⟨rfl, hs1⟩; obtain ⟨d0, d1⟩ := HK.out W1 (HS.out.trans hs1); have HW1 : Hid (Stay w W1) := HS.out.trans hs1; clear hs1))
  go_ret
  exact ⟨rfl, HW1.out⟩
end Go.Proofs.Ytcincbckpnmkiaa
