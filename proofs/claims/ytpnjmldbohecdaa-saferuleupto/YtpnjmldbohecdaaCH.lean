/- Terms, atoms, literals held against their like: SameTerms, SameAtom, SameLiteral, SameBody. Copies held against what they are copies of: SameBody, keptAtom, KeptBody, KeptRule. KeptBody, KeptRule. -/
import Derived.Test.YtpnjmldbohecdaaCE
namespace Go.Proofs.Ytpnjmldbohecdaa
open Go.RowKit Go.Maps

theorem neqTm (x1 : Bool) (x2 : ByteArray) (w : World) : (binOp .neq 51 (.agg #[.bool x1, .string x2]) (.agg #[.bool x1, .string x2])).run Try.prog w = .ok (.bool false) w := by
  have u3 := Try.underlying4
  have a3 := Try.isAgg4
  have z3 := Try.sizeOf4
  have u9 := Try.underlying9
  have a9 := Try.isAgg9
  have z9 := Try.sizeOf9
  rw [run_neq_struct, show (10000 : Nat) = 9999 + 1 from rfl, run_equalIn_agg w 9999 51 _ _ fieldsTm heldTm]
  simp only [Program.fieldsOf, Try.underlying51]
  go_simp
theorem eqlTm_yes (x1 : Bool) (x2 : ByteArray) (w : World) : (binOp .eql 51 (.agg #[.bool x1, .string x2]) (.agg #[.bool x1, .string x2])).run Try.prog w = .ok (.bool true) w := by
  rw [eqlTm]; simp
set_option maxRecDepth 100000 in
set_option maxHeartbeats 2000000 in
theorem sameTerms_yes (w : World) (a1 a2 : Option Addr) (b1 b2 o1 o2 c1 c2 : Nat) (ts : List Tm) (h1 : TmsS w a1 b1 o1 ts) (h2 : TmsS w a2 b2 o2 ts) (hn : ts.length ≤ 140737488355328) :
    Calls Try.prog 51 #[.slice a1 ts.length c1, .slice a2 ts.length c2] w fun e w' => e = .returned (.bool true) ∧ Stay w w' := by
  have HH : Hid (TmsS w a1 b1 o1 ts ∧ TmsS w a2 b2 o2 ts) := ⟨h1, h2⟩
  have HA1 : Hid (0 < ts.length → a1 = some ⟨b1, o1, none⟩) := h1.1
  have HA2 : Hid (0 < ts.length → a2 = some ⟨b2, o2, none⟩) := h2.1
  clear h1 h2
  generalize hm : ts.length = n at *
  have HN : Hid (ts.length = n) := hm
  clear hm
  have hnn : ((n : Int) != (n : Int)) = false := by simp
  go_enter Try.func51, Try.ntmps51
  go_wp2
  go_loopw [5] (fun i wr => Stay w wr ∧ ∃ k : Nat, k ≤ n ∧ i = .int .i64 (k : Int)) (fun i _ => n - (intOf i).toNat)
  case atStart => exact ⟨Stay.refl _, 0, Nat.zero_le _, rfl⟩
  case round =>
    obtain ⟨hst, k, hk, rfl⟩ := hrel
    by_cases hlt : k < n
    · have hkt : k < ts.length := by rw [HN.out]; exact hlt
      have hki : (k : Int) < (n : Int) := by omega
      obtain rfl := HA1.out (by omega)
      obtain rfl := HA2.out (by omega)
      obtain ⟨c0, d0⟩ := (HH.out.1.stay hst).2 k hkt
      obtain ⟨e0, f0⟩ := (HH.out.2.stay hst).2 k hkt
      generalize ts[k] = t at *
      obtain ⟨va, s⟩ := t
      dsimp only at c0 d0 e0 f0
      have hq := neqTm va s
      have HS : Hid (Stay w wr) := hst
      clear hst
      go_wp2_with fail
      go_region
      go_wp2_with fail
      go_roundw
      case rel => exact ⟨Below.drew HS.out, k + 1, by omega, by simp⟩
      case measure => simp [intOf]; omega
    · obtain rfl : k = n := by omega
      have hge : ¬ (k : Int) < (k : Int) := by omega
      have HS : Hid (Stay w wr) := hst
      clear hst
      go_wp2
      go_ret
      exact ⟨rfl, HS.out⟩
set_option maxRecDepth 100000 in
theorem sameAtom_yes (w : World) (x y : At) (h : x.like y) (h1 : x.In w) (h2 : y.In w) (hn : y.ts.length ≤ 140737488355328) :
    Calls Try.prog 49 #[x.v, y.v] w fun e w' => e = .returned (.bool true) ∧ Stay w w' := by
  obtain ⟨p, a1, b1, o1, c1, ts⟩ := x
  obtain ⟨q, a2, b2, o2, c2, us⟩ := y
  obtain rfl : p = q := h.1
  obtain rfl : ts = us := h.2
  unfold At.v At.sl
  dsimp only at *
  have hs0 : Stay w ((w.alloc (.cells #[.string p, .slice a1 ts.length c1] 24)).alloc (.cells #[.string p, .slice a2 ts.length c2] 24)) := (Stay.new w _).trans (Stay.new _ _)
  have hss := sameTerms_yes _ a1 a2 b1 b2 o1 o2 c1 c2 ts (TmsS.stay h1 hs0) (TmsS.stay h2 hs0) hn
  have HS : Hid (Stay w ((w.alloc (.cells #[.string p, .slice a1 ts.length c1] 24)).alloc (.cells #[.string p, .slice a2 ts.length c2] 24))) := hs0
  have hpp : (p.toList == p.toList) = true := by simp
  clear h h1 h2 hs0
  generalize ts.length = n at *
  go_enter Try.func49, Try.ntmps49
  go_wp2_with (first | (go_at_call 51; refine hss.mono ?_; rintro e W1 ⟨rfl, hs1⟩))
  go_ret
  exact ⟨rfl, HS.out.trans hs1⟩
set_option maxRecDepth 100000 in
theorem sameLiteral_yes (w : World) (x y : Li) (h : x.like y) (h1 : x.atom.In w) (h2 : y.atom.In w) (hn : y.atom.ts.length ≤ 140737488355328) :
    Calls Try.prog 52 #[x.v, y.v] w fun e w' => e = .returned (.bool true) ∧ Stay w w' := by
  obtain ⟨k, ⟨p, a1, b1, o1, c1, ts⟩, l, r⟩ := x
  obtain ⟨k', ⟨q, a2, b2, o2, c2, us⟩, l', r'⟩ := y
  obtain rfl : k = k' := h.1
  obtain rfl : p = q := h.2.1.1
  obtain rfl : ts = us := h.2.1.2
  obtain rfl : l = l' := h.2.2.1
  obtain rfl : r = r' := h.2.2.2
  obtain ⟨va1, s1⟩ := l
  obtain ⟨va2, s2⟩ := r
  have hs0 : Stay w ((w.alloc (.cells #[.int .i64 k, .string p, .slice a1 ts.length c1, .bool va1, .string s1, .bool va2, .string s2] 53)).alloc (.cells #[.int .i64 k, .string p, .slice a2 ts.length c2, .bool va1, .string s1, .bool va2, .string s2] 53)) := (Stay.new w _).trans (Stay.new _ _)
  have hss := sameAtom_yes _ ⟨p, a1, b1, o1, c1, ts⟩ ⟨p, a2, b2, o2, c2, ts⟩ ⟨rfl, rfl⟩ (TmsS.stay h1 hs0) (TmsS.stay h2 hs0) hn
  unfold Li.v
  unfold At.v At.sl at *
  dsimp only at *
  have HS : Hid (Stay w ((w.alloc (.cells #[.int .i64 k, .string p, .slice a1 ts.length c1, .bool va1, .string s1, .bool va2, .string s2] 53)).alloc (.cells #[.int .i64 k, .string p, .slice a2 ts.length c2, .bool va1, .string s1, .bool va2, .string s2] 53))) := hs0
  have HC : Hid (∀ W, Stay ((w.alloc (.cells #[.int .i64 k, .string p, .slice a1 ts.length c1, .bool va1, .string s1, .bool va2, .string s2] 53)).alloc (.cells #[.int .i64 k, .string p, .slice a2 ts.length c2, .bool va1, .string s1, .bool va2, .string s2] 53)) W →
      W.cell? ⟨w.heap.size, 3, none⟩ = some (.bool va1) ∧ W.cell? ⟨w.heap.size, 4, none⟩ = some (.string s1) ∧ W.cell? ⟨w.heap.size, 5, none⟩ = some (.bool va2) ∧ W.cell? ⟨w.heap.size, 6, none⟩ = some (.string s2) ∧ W.cell? ⟨w.heap.size + 1, 3, none⟩ = some (.bool va1) ∧ W.cell? ⟨w.heap.size + 1, 4, none⟩ = some (.string s1) ∧ W.cell? ⟨w.heap.size + 1, 5, none⟩ = some (.bool va2) ∧ W.cell? ⟨w.heap.size + 1, 6, none⟩ = some (.string s2)) := fun W hW =>
    ⟨hW.cell (by simp), hW.cell (by simp), hW.cell (by simp), hW.cell (by simp), hW.cell (by simp), hW.cell (by simp), hW.cell (by simp), hW.cell (by simp)⟩
  have e1 := fun W => eqlTm_yes va1 s1 W
  have e2 := fun W => eqlTm_yes va2 s2 W
  have hkk : (k == k) = true := by simp
  clear h h1 h2 hs0
  generalize ts.length = n at *
  go_enter Try.func52, Try.ntmps52
  go_wp2_with (first | (go_at_call 49; refine hss.mono ?_; rintro e W1 ⟨rfl, hs1⟩; obtain ⟨d0, d1, d2, d3, d4, d5, d6, d7⟩ := HC.out W1 hs1))
  go_ret
  exact ⟨rfl, HS.out.trans hs1⟩
end Go.Proofs.Ytpnjmldbohecdaa
namespace Go.Proofs.Ytpnjmldbohecdaa
open Go.RowKit Go.Maps

theorem likes_at {cs ls : List Li} (h : likes cs ls) (j : Nat) (h1 : j < cs.length) (h2 : j < ls.length) : cs[j].like ls[j] := h.2 j h1 h2
/-- A literal's cells at a place. -/
def L7 (W : World) (b o : Nat) (x : Li) : Prop := W.cell? ⟨b, o, none⟩ = some (.int .i64 x.kind) ∧ W.cell? ⟨b, o + 1, none⟩ = some (.string x.atom.pred) ∧ W.cell? ⟨b, o + 2, none⟩ = some x.atom.sl ∧ W.cell? ⟨b, o + 3, none⟩ = some (.bool x.left.var) ∧ W.cell? ⟨b, o + 4, none⟩ = some (.string x.left.text) ∧ W.cell? ⟨b, o + 5, none⟩ = some (.bool x.right.var) ∧ W.cell? ⟨b, o + 6, none⟩ = some (.string x.right.text)
set_option maxRecDepth 100000 in
set_option maxHeartbeats 4000000 in
theorem sameBody_yes (w : World) (a1 a2 : Option Addr) (b1 b2 o1 o2 c1 c2 : Nat) (cs ls : List Li) (hl : likes cs ls) (h1 : LisS w a1 b1 o1 cs) (h2 : LisS w a2 b2 o2 ls) (hn : ls.length ≤ 140737488355328) (hb : ∀ x ∈ ls, x.atom.ts.length ≤ 140737488355328) :
    Calls Try.prog 50 #[.slice a1 ls.length c1, .slice a2 ls.length c2] w fun e w' => e = .returned (.bool true) ∧ Stay w w' := by
  have HH : Hid (LisS w a1 b1 o1 cs ∧ LisS w a2 b2 o2 ls ∧ likes cs ls ∧ ∀ x ∈ ls, x.atom.ts.length ≤ 140737488355328) := ⟨h1, h2, hl, hb⟩
  have HA1 : Hid (0 < ls.length → a1 = some ⟨b1, o1, none⟩) := by rw [← hl.1]; exact h1.1
  have HA2 : Hid (0 < ls.length → a2 = some ⟨b2, o2, none⟩) := h2.1
  clear h1 h2 hl hb
  generalize hm : ls.length = n at *
  have HN : Hid (ls.length = n) := hm
  clear hm
  have hnn : ((n : Int) != (n : Int)) = false := by simp
  go_enter Try.func50, Try.ntmps50
  go_wp2
  go_loopw [5] (fun i wr => Stay w wr ∧ ∃ k : Nat, k ≤ n ∧ i = .int .i64 (k : Int)) (fun i _ => n - (intOf i).toNat)
  case atStart => exact ⟨Stay.refl _, 0, Nat.zero_le _, rfl⟩
  case round =>
    obtain ⟨hst, k, hk, rfl⟩ := hrel
    by_cases hlt : k < n
    · have hkl : k < ls.length := by rw [HN.out]; exact hlt
      have hkc : k < cs.length := by rw [HH.out.2.2.1.1]; exact hkl
      have hki : (k : Int) < (n : Int) := by omega
      have hki0 : (0 : Int) ≤ (k : Int) := by omega
      obtain rfl := HA1.out (by omega)
      obtain rfl := HA2.out (by omega)
      have hsl := fun (V : World) (hV : Stay w V) => sameLiteral_yes V cs[k] ls[k] (likes_at HH.out.2.2.1 k hkc hkl) ((HH.out.1.stay hV).2 k hkc).2.2.2.2.2.2.2 ((HH.out.2.1.stay hV).2 k hkl).2.2.2.2.2.2.2 (HH.out.2.2.2 _ (List.getElem_mem hkl))
      obtain ⟨p0, p1, p2, p3, p4, p5, p6, _⟩ := (HH.out.1.stay hst).2 k hkc
      obtain ⟨q0, q1, q2, q3, q4, q5, q6, _⟩ := (HH.out.2.1.stay hst).2 k hkl
      generalize cs[k] = x at *
      generalize ls[k] = y at *
      obtain ⟨xk, ⟨xp, xa, xb, xo, xc, xs⟩, ⟨xl1, xl2⟩, ⟨xr1, xr2⟩⟩ := x
      obtain ⟨yk, ⟨yp, ya, yb, yo, yc, ys⟩, ⟨yl1, yl2⟩, ⟨yr1, yr2⟩⟩ := y
      unfold Li.v At.sl at hsl
      unfold At.sl at p2 q2
      dsimp only at p0 p1 p2 p3 p4 p5 p6 q0 q1 q2 q3 q4 q5 q6 hsl
      generalize xs.length = xm at *
      generalize ys.length = ym at *
      have HS : Hid (Stay w wr) := hst
      clear hst
      go_upto_region 6 with fail
      go_region_with (first | (go_at_call 52; refine (hsl _ (Below.drew HS.out)).mono ?_; rintro e W1 ⟨rfl, hs1⟩))
      all_goals
        go_wp2_with fail
        go_roundw
        case rel => exact ⟨Below.trans (Below.drew HS.out) (hs1.mono HS.out.size), k + 1, by omega, by simp⟩
        case measure => simp [intOf]; omega
    · obtain rfl : k = n := by omega
      have hge : ¬ (k : Int) < (k : Int) := by omega
      have HS : Hid (Stay w wr) := hst
      clear hst
      go_wp2
      go_ret
      exact ⟨rfl, HS.out⟩
set_option maxRecDepth 100000 in
set_option maxHeartbeats 2000000 in
theorem keptAtom_yes (w : World) (x y : At) (h : x.like y) (h1 : x.Kept w) (h2 : y.In w) (hn : y.ts.length ≤ 140737488355328) :
    Calls Try.prog 38 #[x.v, y.v] w fun e w' => e = .returned (.bool true) ∧ Stay w w' := by
  have hs0 : Stay w ((w.alloc (.cells #[.string x.pred, x.sl] 24)).alloc (.cells #[.string y.pred, y.sl] 24)) := (Stay.new w _).trans (Stay.new _ _)
  have hss := sameAtom_yes _ x y h (TmsS.stay h1.in hs0) (TmsS.stay h2 hs0) hn
  have hcap := h1.2.1
  have hR := h1.2.2.2
  have hmx := h1.2.2.1
  have ha := h1.1
  obtain ⟨p, a1, b1, o1, c1, ts⟩ := x
  obtain ⟨q, a2, b2, o2, c2, us⟩ := y
  obtain rfl : p = q := h.1
  obtain rfl : ts = us := h.2
  obtain rfl : a1 = some ⟨b1, o1, none⟩ := ha
  unfold At.v At.sl at *
  dsimp only at *
  have HK : Hid (∀ W, Stay w W → W.cell? ⟨b1, o1 + ts.length * 2 + 1, none⟩ = some (.string ⟨#[109, 97, 114, 107]⟩) ∧ W.cell? ⟨b1, o1 + (ts.length + 1) * 2 + 1, none⟩ = some (.string ⟨#[109, 97, 114, 107]⟩)) := fun W hW =>
    ⟨(hR.stay hW).2 ts.length (by simp) 1 _ (by simp [encTm, markT]), (hR.stay hW).2 (ts.length + 1) (by simp) 1 _ (by rw [List.getElem_append_right (by omega)]; simp [encTm, markT])⟩
  have HS : Hid (Stay w ((w.alloc (.cells #[.string p, .slice (some ⟨b1, o1, none⟩) ts.length c1] 24)).alloc (.cells #[.string p, .slice a2 ts.length c2] 24))) := hs0
  unfold maxLen at hmx
  clear h h1 h2 hs0 hR
  generalize ts.length = n at *
  have hc1 : n + 2 ≤ c1 := hcap
  have hc1i : (n : Int) + 2 ≤ (c1 : Int) := by omega
  go_enter Try.func38, Try.ntmps38
  go_wp2_with (first | (go_at_call 49; refine hss.mono ?_; rintro e W1 ⟨rfl, hs1⟩; obtain ⟨d0, d1⟩ := HK.out W1 (HS.out.trans hs1); have HW1 : Hid (Stay w W1) := HS.out.trans hs1; clear hs1))
  go_ret
  exact ⟨rfl, HW1.out⟩
end Go.Proofs.Ytpnjmldbohecdaa
namespace Go.Proofs.Ytpnjmldbohecdaa
open Go.RowKit Go.Maps

set_option maxRecDepth 100000 in
set_option maxHeartbeats 4000000 in
theorem keptBody_yes (w : World) (a2 : Option Addr) (b1 b2 o1 o2 c1 c2 : Nat) (cs ls : List Li) (hl : likes cs ls) (h1 : RecS 7 encLi w (some ⟨b1, o1, none⟩) b1 o1 (cs ++ [markL, markL])) (hk : ∀ y ∈ cs, y.atom.Kept w) (h2 : LisS w a2 b2 o2 ls) (hc : ls.length + 2 ≤ c1) (hn : ls.length ≤ 140737488355328) (hb : ∀ x ∈ ls, x.atom.ts.length ≤ 140737488355328) :
    Calls Try.prog 39 #[.slice (some ⟨b1, o1, none⟩) ls.length c1, .slice a2 ls.length c2] w fun e w' => e = .returned (.bool true) ∧ Stay w w' := by
  have hL1 : LisS w (some ⟨b1, o1, none⟩) b1 o1 cs := h1.left.lis (fun y hy => (hk y hy).in)
  have hsb := sameBody_yes w (some ⟨b1, o1, none⟩) a2 b1 b2 o1 o2 c1 c2 cs ls hl hL1 h2 hn hb
  have HH : Hid (LisS w (some ⟨b1, o1, none⟩) b1 o1 cs ∧ LisS w a2 b2 o2 ls ∧ likes cs ls ∧ (∀ x ∈ ls, x.atom.ts.length ≤ 140737488355328) ∧ ∀ y ∈ cs, y.atom.Kept w) := ⟨hL1, h2, hl, hb, hk⟩
  have HA2 : Hid (0 < ls.length → a2 = some ⟨b2, o2, none⟩) := h2.1
  have HM : Hid (∀ W, Stay w W → W.cell? ⟨b1, o1 + ls.length * 7, none⟩ = some (.int .i64 77) ∧ W.cell? ⟨b1, o1 + (ls.length + 1) * 7, none⟩ = some (.int .i64 77)) := fun W hW => by
    have e := hl.1
    have g1 := (h1.stay hW).2 cs.length (by simp) 0 (.int .i64 77) (by simp [encLi, markL])
    have g2 := (h1.stay hW).2 (cs.length + 1) (by simp) 0 (.int .i64 77) (by rw [List.getElem_append_right (by omega)]; simp [encLi, markL])
    rw [e] at g1 g2
    exact ⟨g1, g2⟩
  clear h1 h2 hl hb hk hL1
  generalize hm : ls.length = n at *
  have HN : Hid (ls.length = n) := hm
  clear hm
  have hci : (n : Int) + 2 ≤ (c1 : Int) := by omega
  go_enter Try.func39, Try.ntmps39
  go_wp2_with (first | (go_at_call 50; refine hsb.mono ?_; rintro e W0 ⟨rfl, hs0⟩; have HS0 : Hid (Stay w W0) := hs0; clear hs0 hsb))
  go_loopw [6] (fun i wr => Stay w wr ∧ ∃ k : Nat, k ≤ n ∧ i = .int .i64 (k : Int)) (fun i _ => n - (intOf i).toNat)
  case atStart => exact ⟨HS0.out, 0, Nat.zero_le _, rfl⟩
  case round =>
    obtain ⟨hst, k, hk, rfl⟩ := hrel
    by_cases hlt : k < n
    · have hkl : k < ls.length := by rw [HN.out]; exact hlt
      have hkc : k < cs.length := by rw [HH.out.2.2.1.1]; exact hkl
      have hki : (k : Int) < (n : Int) := by omega
      have hki0 : (0 : Int) ≤ (k : Int) := by omega
      obtain rfl := HA2.out (by omega)
      have hsl := fun (V : World) (hV : Stay w V) => keptAtom_yes V cs[k].atom ls[k].atom (likes_at HH.out.2.2.1 k hkc hkl).2.1 ((HH.out.2.2.2.2 _ (List.getElem_mem hkc)).stay hV) ((HH.out.2.1.stay hV).2 k hkl).2.2.2.2.2.2.2 (HH.out.2.2.2.1 _ (List.getElem_mem hkl))
      obtain ⟨p0, p1, p2, p3, p4, p5, p6, _⟩ := (HH.out.1.stay hst).2 k hkc
      obtain ⟨q0, q1, q2, q3, q4, q5, q6, _⟩ := (HH.out.2.1.stay hst).2 k hkl
      generalize cs[k] = x at *
      generalize ls[k] = y at *
      obtain ⟨xk, ⟨xp, xa, xb, xo, xc, xs⟩, ⟨xl1, xl2⟩, ⟨xr1, xr2⟩⟩ := x
      obtain ⟨yk, ⟨yp, ya, yb, yo, yc, ys⟩, ⟨yl1, yl2⟩, ⟨yr1, yr2⟩⟩ := y
      unfold At.v At.sl at hsl
      unfold At.sl at p2 q2
      dsimp only at p0 p1 p2 p3 p4 p5 p6 q0 q1 q2 q3 q4 q5 q6 hsl
      generalize xs.length = xm at *
      generalize ys.length = ym at *
      have HS : Hid (Stay w wr) := hst
      clear hst p0 p3 p4 p5 p6 q0 q3 q4 q5 q6
      go_upto_region 7 with fail
      go_region_with (first | (go_at_call 38; refine (hsl _ (Below.drew HS.out)).mono ?_; rintro e W1 ⟨rfl, hs1⟩))
      all_goals
        go_wp2_with fail
        go_roundw
        case rel => exact ⟨Below.trans (Below.drew HS.out) (hs1.mono HS.out.size), k + 1, by omega, by simp⟩
        case measure => simp [intOf]; omega
    · obtain rfl : k = n := by omega
      have hge : ¬ (k : Int) < (k : Int) := by omega
      obtain ⟨m0, m1⟩ := HM.out wr hst
      have HS : Hid (Stay w wr) := hst
      clear hst
      go_wp2
      go_ret
      exact ⟨rfl, HS.out⟩
theorem Ru.Kept.same {x y : Ru} (h : x.like y) : x.body.length = y.body.length := h.2.1
set_option maxRecDepth 100000 in
set_option maxHeartbeats 2000000 in
theorem keptRule_yes (w : World) (x y : Ru) (h : x.like y) (h1 : x.Kept w) (h2 : y.In w) (hf : y.fair) :
    Calls Try.prog 17 #[x.v, y.v] w fun e w' => e = .returned (.bool true) ∧ Stay w w' := by
  have hs0 : Stay w ((w.alloc (.cells #[.string x.head.pred, x.head.sl, .slice x.a x.body.length x.cap] 27)).alloc (.cells #[.string y.head.pred, y.head.sl, .slice y.a y.body.length y.cap] 27)) := (Stay.new w _).trans (Stay.new _ _)
  have hka := keptAtom_yes _ x.head y.head h.1 (h1.1.stay hs0) (TmsS.stay h2.1 hs0) (by have := hf.2.1; omega)
  have hR := h1.2.2.2.2.1
  rw [h1.2.1] at hR
  have hkb := fun (V : World) (hV : Stay w V) => keptBody_yes V y.a x.b y.b x.off y.off x.cap y.cap x.body y.body h.2 (hR.stay hV) (fun z hz => (h1.2.2.2.2.2 z hz).stay hV) (h2.2.stay hV) (by rw [← h.2.1]; exact h1.2.2.1) (by have := hf.2.2.2.1; omega) (fun z hz => by have := (hf.2.2.2.2 z hz).2; omega)
  have ha := h1.2.1
  have hbl := h.2.1
  have HC : Hid (∀ W, Stay ((w.alloc (.cells #[.string x.head.pred, x.head.sl, .slice x.a x.body.length x.cap] 27)).alloc (.cells #[.string y.head.pred, y.head.sl, .slice y.a y.body.length y.cap] 27)) W → W.cell? ⟨w.heap.size, 2, none⟩ = some (.slice x.a x.body.length x.cap) ∧ W.cell? ⟨w.heap.size + 1, 2, none⟩ = some (.slice y.a y.body.length y.cap)) := fun W hW =>
    ⟨hW.cell (by simp), hW.cell (by simp)⟩
  have HS : Hid (Stay w ((w.alloc (.cells #[.string x.head.pred, x.head.sl, .slice x.a x.body.length x.cap] 27)).alloc (.cells #[.string y.head.pred, y.head.sl, .slice y.a y.body.length y.cap] 27))) := hs0
  obtain ⟨⟨p, ha1, hb1, ho1, hc1, hts⟩, a1, b1, o1, c1, cs⟩ := x
  obtain ⟨⟨q, ha2, hb2, ho2, hc2, hus⟩, a2, b2, o2, c2, ls⟩ := y
  unfold Ru.v
  unfold At.v At.sl at *
  dsimp only at *
  subst ha
  rw [hbl] at HC HS hka ⊢
  clear h h1 h2 hf hs0 hR hbl
  generalize ls.length = n at *
  generalize hts.length = m1 at *
  generalize hus.length = m2 at *
  go_enter Try.func17, Try.ntmps17
  go_wp2_with (first
    | (go_at_call 38; refine hka.mono ?_; rintro e W1 ⟨rfl, hs1⟩; obtain ⟨d0, d1⟩ := HC.out W1 hs1; have hkb1 := hkb W1 (HS.out.trans hs1); have HS1 : Hid (Stay w W1) := HS.out.trans hs1; clear hka hkb hs1)
    | (go_at_call 39; refine hkb1.mono ?_; rintro e W2 ⟨rfl, hs2⟩))
  go_ret
  exact ⟨rfl, HS1.out.trans hs2⟩
end Go.Proofs.Ytpnjmldbohecdaa
