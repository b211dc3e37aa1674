/- KeptProgram. -/
import Derived.Test.YtcincbckpnmkiaaDN
namespace Go.Proofs.Ytcincbckpnmkiaa
open Go.RowKit Go.Maps

set_option maxRecDepth 100000 in
set_option maxHeartbeats 8000000 in
theorem keptProgram_yes (w : World) (x y : Pr) (h : x.like y) (h1 : x.Kept w) (h2 : y.In w) (hf : y.fair) :
    Calls Try.prog 27 #[x.v, y.v] w fun e w' => e = .returned (.bool true) ∧ Stay w w' := by
  have hsp := fun (V : World) (hV : Stay w V) => sameProgram_yes V x y h (Pr.stay h1.in hV) (Pr.stay h2 hV) hf
  obtain ⟨ia, ib, io, ic, ins, oa, ob, oo, oc, outs, ra, rb, ro, rc, cs⟩ := x
  obtain ⟨ia2, ib2, io2, ic2, ins2, oa2, ob2, oo2, oc2, outs2, ra2, rb2, ro2, rc2, ls⟩ := y
  obtain rfl : ins = ins2 := h.1
  obtain rfl : outs = outs2 := h.2.1
  have hl : likesR cs ls := h.2.2
  have hll := hl.1
  obtain ⟨⟨hia, hic, him, hiR⟩, ⟨hoa, hoc, hom, hoR⟩, ⟨hra, hrc, hrm, hrR⟩, hrK⟩ := h1
  dsimp only at hia hic him hiR hoa hoc hom hoR hra hrc hrm hrR hrK
  subst hia hoa hra
  unfold Pr.v at *
  obtain ⟨w0, hw0⟩ : ∃ w0, w0 = (w.alloc (.cells #[.slice (some ⟨ib, io, none⟩) ins.length ic, .slice (some ⟨ob, oo, none⟩) outs.length oc, .slice (some ⟨rb, ro, none⟩) ls.length rc] 43)).alloc (.cells #[.slice ia2 ins.length ic2, .slice oa2 outs.length oc2, .slice ra2 ls.length rc2] 43) := ⟨_, rfl⟩
  have hs0 : Stay w w0 := by rw [hw0]; exact (Stay.new w _).trans (Stay.new _ _)
  have HC : Hid (∀ W, Stay w0 W → W.cell? ⟨w.heap.size, 0, none⟩ = some (.slice (some ⟨ib, io, none⟩) ins.length ic) ∧ W.cell? ⟨w.heap.size, 1, none⟩ = some (.slice (some ⟨ob, oo, none⟩) outs.length oc) ∧ W.cell? ⟨w.heap.size, 2, none⟩ = some (.slice (some ⟨rb, ro, none⟩) ls.length rc) ∧
      W.cell? ⟨w.heap.size + 1, 0, none⟩ = some (.slice ia2 ins.length ic2) ∧ W.cell? ⟨w.heap.size + 1, 1, none⟩ = some (.slice oa2 outs.length oc2) ∧ W.cell? ⟨w.heap.size + 1, 2, none⟩ = some (.slice ra2 ls.length rc2)) := fun W hW => by
    subst hw0
    exact ⟨hW.cell (by simp), hW.cell (by simp), hW.cell (by simp), hW.cell (by simp), hW.cell (by simp), hW.cell (by simp)⟩
  have HR : Hid (RecS 3 encRu w0 (some ⟨rb, ro, none⟩) rb ro cs ∧ RecS 3 encRu w0 ra2 rb2 ro2 ls ∧ (∀ r ∈ cs, r.Kept w0) ∧ (∀ r ∈ ls, r.In w0 ∧ r.fair) ∧ likesR cs ls) := ⟨hrR.left.stay hs0, h2.2.2.1.stay hs0, fun r hr => (hrK r hr).stay hs0, fun r hr => ⟨Ru.stay (h2.2.2.2 r hr) hs0, hf.2.2.2.1 r hr⟩, hl⟩
  have HMk : Hid (∀ W, Stay w0 W → W.cell? ⟨ib, io + ins.length * 3, none⟩ = some (.string ⟨#[109, 97, 114, 107]⟩) ∧ W.cell? ⟨ob, oo + (outs.length + 1) * 2, none⟩ = some (.string ⟨#[109, 97, 114, 107]⟩) ∧ W.cell? ⟨rb, ro + ls.length * 3, none⟩ = some (.string ⟨#[109, 97, 114, 107]⟩) ∧ W.cell? ⟨rb, ro + (ls.length + 1) * 3, none⟩ = some (.string ⟨#[109, 97, 114, 107]⟩)) := fun W hW => by
    have g1 := (hiR.stay (hs0.trans hW)).2 ins.length (by simp) 0 (.string ⟨#[109, 97, 114, 107]⟩) (by simp [encInp, markI])
    have g2 := (hoR.stay (hs0.trans hW)).2 (outs.length + 1) (by simp) 0 (.string ⟨#[109, 97, 114, 107]⟩) (by rw [List.getElem_append_right (by omega)]; simp [encOup, markO])
    have g3 := (hrR.stay (hs0.trans hW)).2 cs.length (by simp) 0 (.string ⟨#[109, 97, 114, 107]⟩) (by simp [encRu, markR])
    have g4 := (hrR.stay (hs0.trans hW)).2 (cs.length + 1) (by simp) 0 (.string ⟨#[109, 97, 114, 107]⟩) (by rw [List.getElem_append_right (by omega)]; simp [encRu, markR])
    rw [hll] at g3 g4
    exact ⟨g1, g2, g3, g4⟩
  have HS : Hid (Stay w w0) := hs0
  have hn3 : ls.length ≤ 1048576 := hf.2.2.2.2.2.2
  have hn1 : ins.length ≤ 1048576 := hf.2.2.2.2.1
  have hn2 : outs.length ≤ 1048576 := hf.2.2.2.2.2.1
  have hsp0 := hsp w0 hs0
  dsimp only at *
  rw [hll] at hsp0 hrc ⊢
  unfold maxLen at him hom hrm
  clear hsp h h2 hf hl hs0 hll hiR hoR hrR hrK
  have HA : Hid (0 < ls.length → ra2 = some ⟨rb2, ro2, none⟩) := HR.out.2.1.1
  generalize hm3 : ls.length = m3 at *
  generalize ins.length = m1 at *
  generalize outs.length = m2 at *
  have HM : Hid (ls.length = m3) := hm3
  clear hm3
  have hic' : (m1 : Int) + 2 ≤ (ic : Int) := by omega
  have hoc' : (m2 : Int) + 2 ≤ (oc : Int) := by omega
  have hrc' : (m3 : Int) + 2 ≤ (rc : Int) := by omega
  go_enter Try.func27, Try.ntmps27
  go_wp2_with (first
    | (go_at_call 51; rw [← hw0]; refine hsp0.mono ?_; rintro e W0 ⟨rfl, hs1⟩; have HS0 : Hid (Stay w0 W0) := hs1; clear hs1 hsp0))
  go_loopw [5, 6] (fun i _ wr => Stay w0 wr ∧ ∃ k : Nat, k ≤ m3 ∧ i = .int .i64 (k : Int)) (fun i _ _ => m3 - (intOf i).toNat)
  case atStart => exact ⟨HS0.out, 0, Nat.zero_le _, rfl⟩
  case round =>
    clear HS0 hw0
    obtain ⟨hst, k3, hk3, rfl⟩ := hrel
    obtain ⟨d0, d1, d2, d3, d4, d5⟩ := HC.out wr hst
    by_cases hlt : k3 < m3
    · have hkl : k3 < ls.length := by rw [HM.out]; exact hlt
      have hkc : k3 < cs.length := by rw [HR.out.2.2.2.2.1]; exact hkl
      have hki : (k3 : Int) < (m3 : Int) := by omega
      have hki0 : (0 : Int) ≤ (k3 : Int) := by omega
      obtain rfl := HA.out (by omega)
      have hsl := fun (V : World) (hV : Stay w0 V) => keptRule_yes V cs[k3] ls[k3] (likesR_at HR.out.2.2.2.2 k3 hkc hkl) ((HR.out.2.2.1 _ (List.getElem_mem hkc)).stay hV) (Ru.stay (HR.out.2.2.2.1 _ (List.getElem_mem hkl)).1 hV) (HR.out.2.2.2.1 _ (List.getElem_mem hkl)).2
      have p0 : wr.cell? ⟨rb, ro + k3 * 3, none⟩ = some (.string cs[k3].head.pred) := hst.cell (HR.out.1.2 k3 hkc 0 _ rfl)
      have p1 := hst.cell (HR.out.1.2 k3 hkc 1 _ rfl)
      have p2 := hst.cell (HR.out.1.2 k3 hkc 2 _ rfl)
      have q0 : wr.cell? ⟨rb2, ro2 + k3 * 3, none⟩ = some (.string ls[k3].head.pred) := hst.cell (HR.out.2.1.2 k3 hkl 0 _ rfl)
      have q1 := hst.cell (HR.out.2.1.2 k3 hkl 1 _ rfl)
      have q2 := hst.cell (HR.out.2.1.2 k3 hkl 2 _ rfl)
      generalize cs[k3] = x at *
      generalize ls[k3] = y at *
      obtain ⟨⟨xp, xa, xb, xo, xc, xs⟩, xb1, xb2, xb3, xb4, xls⟩ := x
      obtain ⟨⟨yp, ya, yb, yo, yc, ys⟩, yb1, yb2, yb3, yb4, yls⟩ := y
      unfold Ru.v At.sl at hsl
      unfold At.sl at p1 q1
      dsimp only at p0 p1 p2 q0 q1 q2 hsl
      generalize xs.length = xm at *
      generalize ys.length = ym at *
      generalize xls.length = xn at *
      generalize yls.length = yn at *
      have HS1 : Hid (Stay w0 wr) := hst
      clear hst
      go_upto_region 6 with fail
      go_region_with (first | (go_at_call 21; refine (hsl _ (Below.drew HS1.out)).mono ?_; rintro e W1 ⟨rfl, hs1⟩))
      all_goals
        go_wp2_with fail
        go_roundw
        case rel => exact ⟨Below.trans (Below.drew HS1.out) (hs1.mono HS1.out.size), k3 + 1, by omega, by simp⟩
        case measure => simp [intOf]; omega
    · obtain rfl : k3 = m3 := by omega
      have hge3 : ¬ (k3 : Int) < (k3 : Int) := by omega
      obtain ⟨g1, g2, g3, g4⟩ := HMk.out wr hst
      have HS1 : Hid (Stay w0 wr) := hst
      clear hst
      have t1 : (m1 : Int) < (m1 : Int) + 2 := by omega
      have t2 : (m2 : Int) + 1 < (m2 : Int) + 2 := by omega
      have t3 : (k3 : Int) < (k3 : Int) + 2 := by omega
      have t4 : (k3 : Int) + 1 < (k3 : Int) + 2 := by omega
      go_wp2
      go_ret
      exact ⟨rfl, HS.out.trans HS1.out⟩
end Go.Proofs.Ytcincbckpnmkiaa
