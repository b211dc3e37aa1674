/- Programs held against their like: SameRule, SameProgram, KeptProgram. -/
import Derived.Test.YtcincbckpnmkiaaDM
import Derived.Test.YtcincbckpnmkiaaCH
namespace Go.Proofs.Ytcincbckpnmkiaa
open Go.RowKit Go.Maps

theorem fieldsInp : Try.prog.underlying 100 = some (.struct (Try.prog.fieldsOf 100)) := by kernel_rfl
theorem heldInp : Try.prog.stoodInHeld 100 = false := by kernel_rfl
theorem guardInp : Try.prog.eqGuardType Try.prog.depth 100 = false := by kernel_rfl
theorem fieldsOup : Try.prog.underlying 102 = some (.struct (Try.prog.fieldsOf 102)) := by kernel_rfl
theorem heldOup : Try.prog.stoodInHeld 102 = false := by kernel_rfl
theorem guardOup : Try.prog.eqGuardType Try.prog.depth 102 = false := by kernel_rfl
theorem neqInp (x1 : ByteArray) (x2 : Int) (x3 : ByteArray) (w : World) : (binOp .neq 100 (.agg #[.string x1, .int .i64 x2, .string x3]) (.agg #[.string x1, .int .i64 x2, .string x3])).run Try.prog w = .ok (.bool false) w := by
  have u3 := Try.underlying3
  have a3 := Try.isAgg3
  have z3 := Try.sizeOf3
  have u9 := Try.underlying9
  have a9 := Try.isAgg9
  have z9 := Try.sizeOf9
  rw [run_neq_struct, show (10000 : Nat) = 9999 + 1 from rfl, run_equalIn_agg w 9999 100 _ _ fieldsInp heldInp]
  simp only [Program.fieldsOf, Try.underlying100]
  go_simp
theorem neqOup (x1 : ByteArray) (x2 : Int) (w : World) : (binOp .neq 102 (.agg #[.string x1, .int .i64 x2]) (.agg #[.string x1, .int .i64 x2])).run Try.prog w = .ok (.bool false) w := by
  have u3 := Try.underlying3
  have a3 := Try.isAgg3
  have z3 := Try.sizeOf3
  have u9 := Try.underlying9
  have a9 := Try.isAgg9
  have z9 := Try.sizeOf9
  rw [run_neq_struct, show (10000 : Nat) = 9999 + 1 from rfl, run_equalIn_agg w 9999 102 _ _ fieldsOup heldOup]
  simp only [Program.fieldsOf, Try.underlying102]
  go_simp

set_option maxRecDepth 100000 in
set_option maxHeartbeats 2000000 in
theorem sameRule_yes (w : World) (x y : Ru) (h : x.like y) (h1 : x.In w) (h2 : y.In w) (hf : y.fair) :
    Calls Try.prog 64 #[x.v, y.v] w fun e w' => e = .returned (.bool true) ∧ Stay w w' := by
  have hs0 : Stay w ((w.alloc (.cells #[.string x.head.pred, x.head.sl, .slice x.a x.body.length x.cap] 27)).alloc (.cells #[.string y.head.pred, y.head.sl, .slice y.a y.body.length y.cap] 27)) := (Stay.new w _).trans (Stay.new _ _)
  have hka := sameAtom_yes _ x.head y.head h.1 (TmsS.stay h1.1 hs0) (TmsS.stay h2.1 hs0) (by have := hf.2.1; omega)
  have hkb := fun (V : World) (hV : Stay w V) => sameBody_yes V x.a y.a x.b y.b x.off y.off x.cap y.cap x.body y.body h.2 (h1.2.stay hV) (h2.2.stay hV) (by have := hf.2.2.2.1; omega) (fun z hz => by have := (hf.2.2.2.2 z hz).2; omega)
  have hbl := h.2.1
  have HC : Hid (∀ W, Stay ((w.alloc (.cells #[.string x.head.pred, x.head.sl, .slice x.a x.body.length x.cap] 27)).alloc (.cells #[.string y.head.pred, y.head.sl, .slice y.a y.body.length y.cap] 27)) W → W.cell? ⟨w.heap.size, 2, none⟩ = some (.slice x.a x.body.length x.cap) ∧ W.cell? ⟨w.heap.size + 1, 2, none⟩ = some (.slice y.a y.body.length y.cap)) := fun W hW =>
    ⟨hW.cell (by simp), hW.cell (by simp)⟩
  have HS : Hid (Stay w ((w.alloc (.cells #[.string x.head.pred, x.head.sl, .slice x.a x.body.length x.cap] 27)).alloc (.cells #[.string y.head.pred, y.head.sl, .slice y.a y.body.length y.cap] 27))) := hs0
  obtain ⟨⟨p, ha1, hb1, ho1, hc1, hts⟩, a1, b1, o1, c1, cs⟩ := x
  obtain ⟨⟨q, ha2, hb2, ho2, hc2, hus⟩, a2, b2, o2, c2, ls⟩ := y
  unfold Ru.v
  unfold At.v At.sl at *
  dsimp only at *
  rw [hbl] at HC HS hka ⊢
  clear h h1 h2 hf hs0 hbl
  generalize ls.length = n at *
  generalize hts.length = m1 at *
  generalize hus.length = m2 at *
  go_enter Try.func64, Try.ntmps64
  go_wp2_with (first
    | (go_at_call 62; refine hka.mono ?_; rintro e W1 ⟨rfl, hs1⟩; obtain ⟨d0, d1⟩ := HC.out W1 hs1; have hkb1 := hkb W1 (HS.out.trans hs1); have HS1 : Hid (Stay w W1) := HS.out.trans hs1; clear hka hkb hs1)
    | (go_at_call 63; refine hkb1.mono ?_; rintro e W2 ⟨rfl, hs2⟩))
  go_ret
  exact ⟨rfl, HS1.out.trans hs2⟩

theorem likesR_at {cs ls : List Ru} (h : likesR cs ls) (j : Nat) (h1 : j < cs.length) (h2 : j < ls.length) : cs[j].like ls[j] := h.2 j h1 h2

set_option maxRecDepth 100000 in
set_option maxHeartbeats 8000000 in
theorem sameProgram_yes (w : World) (x y : Pr) (h : x.like y) (h1 : x.In w) (h2 : y.In w) (hf : y.fair) :
    Calls Try.prog 51 #[x.v, y.v] w fun e w' => e = .returned (.bool true) ∧ Stay w w' := by
  obtain ⟨ia, ib, io, ic, ins, oa, ob, oo, oc, outs, ra, rb, ro, rc, cs⟩ := x
  obtain ⟨ia2, ib2, io2, ic2, ins2, oa2, ob2, oo2, oc2, outs2, ra2, rb2, ro2, rc2, ls⟩ := y
  obtain rfl : ins = ins2 := h.1
  obtain rfl : outs = outs2 := h.2.1
  have hl : likesR cs ls := h.2.2
  have hll := hl.1
  unfold Pr.v
  obtain ⟨w0, hw0⟩ : ∃ w0, w0 = (w.alloc (.cells #[.slice ia ins.length ic, .slice oa outs.length oc, .slice ra ls.length rc] 43)).alloc (.cells #[.slice ia2 ins.length ic2, .slice oa2 outs.length oc2, .slice ra2 ls.length rc2] 43) := ⟨_, rfl⟩
  have hs0 : Stay w w0 := by rw [hw0]; exact (Stay.new w _).trans (Stay.new _ _)
  have HC : Hid (∀ W, Stay w0 W → W.cell? ⟨w.heap.size, 0, none⟩ = some (.slice ia ins.length ic) ∧ W.cell? ⟨w.heap.size, 1, none⟩ = some (.slice oa outs.length oc) ∧ W.cell? ⟨w.heap.size, 2, none⟩ = some (.slice ra ls.length rc) ∧
      W.cell? ⟨w.heap.size + 1, 0, none⟩ = some (.slice ia2 ins.length ic2) ∧ W.cell? ⟨w.heap.size + 1, 1, none⟩ = some (.slice oa2 outs.length oc2) ∧ W.cell? ⟨w.heap.size + 1, 2, none⟩ = some (.slice ra2 ls.length rc2)) := fun W hW => by
    subst hw0
    exact ⟨hW.cell (by simp), hW.cell (by simp), hW.cell (by simp), hW.cell (by simp), hW.cell (by simp), hW.cell (by simp)⟩
  have HI : Hid (RecS 3 encInp w0 ia ib io ins ∧ RecS 3 encInp w0 ia2 ib2 io2 ins) := ⟨RecS.stay h1.1 hs0, RecS.stay h2.1 hs0⟩
  have HO : Hid (RecS 2 encOup w0 oa ob oo outs ∧ RecS 2 encOup w0 oa2 ob2 oo2 outs) := ⟨RecS.stay h1.2.1 hs0, RecS.stay h2.2.1 hs0⟩
  have HR : Hid (RecS 3 encRu w0 ra rb ro cs ∧ RecS 3 encRu w0 ra2 rb2 ro2 ls ∧ (∀ r ∈ cs, r.In w0) ∧ (∀ r ∈ ls, r.In w0 ∧ r.fair) ∧ likesR cs ls) := ⟨h1.2.2.1.stay hs0, h2.2.2.1.stay hs0, fun r hr => Ru.stay (h1.2.2.2 r hr) hs0, fun r hr => ⟨Ru.stay (h2.2.2.2 r hr) hs0, hf.2.2.2.1 r hr⟩, hl⟩
  have HS : Hid (Stay w w0) := hs0
  have hn1 : ins.length ≤ 1048576 := hf.2.2.2.2.1
  have hn2 : outs.length ≤ 1048576 := hf.2.2.2.2.2.1
  have hn3 : ls.length ≤ 1048576 := hf.2.2.2.2.2.2
  dsimp only
  rw [hll]
  clear h h1 h2 hf hl hs0 hll
  generalize hm1 : ins.length = m1 at *
  generalize hm2 : outs.length = m2 at *
  generalize hm3 : ls.length = m3 at *
  have HM : Hid (ins.length = m1 ∧ outs.length = m2 ∧ ls.length = m3) := ⟨hm1, hm2, hm3⟩
  clear hm1 hm2 hm3
  have e1 : ((m1 : Int) != (m1 : Int)) = false := by simp
  have e2 : ((m2 : Int) != (m2 : Int)) = false := by simp
  have e3 : ((m3 : Int) != (m3 : Int)) = false := by simp
  go_enter Try.func51, Try.ntmps51
  go_wp2_with fail
  rw [← hw0]
  clear hw0
  go_loopw [5] (fun i wr => Stay w0 wr ∧ ∃ k : Nat, k ≤ m1 ∧ i = .int .i64 (k : Int)) (fun i _ => m1 - (intOf i).toNat)
  case atStart => exact ⟨Stay.refl _, 0, Nat.zero_le _, rfl⟩
  case round =>
    obtain ⟨hst, k, hk, rfl⟩ := hrel
    obtain ⟨d0, d1, d2, d3, d4, d5⟩ := HC.out wr hst
    by_cases hlt : k < m1
    · have hkt : k < ins.length := by rw [HM.out.1]; exact hlt
      have hki : (k : Int) < (m1 : Int) := by omega
      have hki0 : (0 : Int) ≤ (k : Int) := by omega
      obtain rfl := HI.out.1.1 (by omega)
      obtain rfl := HI.out.2.1 (by omega)
      have p0 : wr.cell? ⟨ib, io + k * 3, none⟩ = some (.string ins[k].pred) := hst.cell (HI.out.1.2 k hkt 0 _ rfl)
      have p1 := hst.cell (HI.out.1.2 k hkt 1 _ rfl)
      have p2 := hst.cell (HI.out.1.2 k hkt 2 _ rfl)
      have q0 : wr.cell? ⟨ib2, io2 + k * 3, none⟩ = some (.string ins[k].pred) := hst.cell (HI.out.2.2 k hkt 0 _ rfl)
      have q1 := hst.cell (HI.out.2.2 k hkt 1 _ rfl)
      have q2 := hst.cell (HI.out.2.2 k hkt 2 _ rfl)
      generalize ins[k] = t at *
      obtain ⟨tp, ta, tf⟩ := t
      dsimp only at p0 p1 p2 q0 q1 q2
      have hq := neqInp tp ta tf
      have HS1 : Hid (Stay w0 wr) := hst
      clear hst
      go_wp2_with fail
      go_quiet (fail)
      go_wp2_with fail
      go_roundw
      case rel => exact ⟨by first | exact HS1.out | exact HS1.out.trans (Stay.drewN _ _), k + 1, by omega, by simp⟩
      case measure => simp [intOf]; omega
    · obtain rfl : k = m1 := by omega
      have hge : ¬ (k : Int) < (k : Int) := by omega
      have HS1 : Hid (Stay w0 wr) := hst
      clear hst
      go_wp2_with fail
      clear d0 d1 d2 d3 d4 d5
      go_loopw [6] (fun i wr => Stay w0 wr ∧ ∃ k : Nat, k ≤ m2 ∧ i = .int .i64 (k : Int)) (fun i _ => m2 - (intOf i).toNat)
      case atStart => exact ⟨HS1.out, 0, Nat.zero_le _, rfl⟩
      case round =>
        clear HS1
        rename_i wr0
        obtain ⟨hst, k2, hk2, rfl⟩ := hrel
        obtain ⟨d0, d1, d2, d3, d4, d5⟩ := HC.out wr hst
        by_cases hlt : k2 < m2
        · have hkt : k2 < outs.length := by rw [HM.out.2.1]; exact hlt
          have hki : (k2 : Int) < (m2 : Int) := by omega
          have hki0 : (0 : Int) ≤ (k2 : Int) := by omega
          obtain rfl := HO.out.1.1 (by omega)
          obtain rfl := HO.out.2.1 (by omega)
          have p0 : wr.cell? ⟨ob, oo + k2 * 2, none⟩ = some (.string outs[k2].pred) := hst.cell (HO.out.1.2 k2 hkt 0 _ rfl)
          have p1 := hst.cell (HO.out.1.2 k2 hkt 1 _ rfl)
          have q0 : wr.cell? ⟨ob2, oo2 + k2 * 2, none⟩ = some (.string outs[k2].pred) := hst.cell (HO.out.2.2 k2 hkt 0 _ rfl)
          have q1 := hst.cell (HO.out.2.2 k2 hkt 1 _ rfl)
          generalize outs[k2] = t at *
          obtain ⟨tp, ta⟩ := t
          dsimp only at p0 p1 q0 q1
          have hq := neqOup tp ta
          have HS1 : Hid (Stay w0 wr) := hst
          clear hst
          go_wp2_with fail
          go_quiet (fail)
          go_wp2_with fail
          go_roundw
          case rel => exact ⟨by first | exact HS1.out | exact HS1.out.trans (Stay.drewN _ _), k2 + 1, by omega, by simp⟩
          case measure => simp [intOf]; omega
        · obtain rfl : k2 = m2 := by omega
          have hge2 : ¬ (k2 : Int) < (k2 : Int) := by omega
          have HS1 : Hid (Stay w0 wr) := hst
          clear hst
          go_wp2_with fail
          clear d0 d1 d2 d3 d4 d5
          go_loopw [7, 8] (fun i _ wr => Stay w0 wr ∧ ∃ k : Nat, k ≤ m3 ∧ i = .int .i64 (k : Int)) (fun i _ _ => m3 - (intOf i).toNat)
          case atStart => exact ⟨HS1.out, 0, Nat.zero_le _, rfl⟩
          case round =>
            clear HS1
            rename_i wr1
            obtain ⟨hst, k3, hk3, rfl⟩ := hrel
            obtain ⟨d0, d1, d2, d3, d4, d5⟩ := HC.out wr hst
            by_cases hlt : k3 < m3
            · have hkl : k3 < ls.length := by rw [HM.out.2.2]; exact hlt
              have hkc : k3 < cs.length := by rw [HR.out.2.2.2.2.1]; exact hkl
              have hki : (k3 : Int) < (m3 : Int) := by omega
              have hki0 : (0 : Int) ≤ (k3 : Int) := by omega
              obtain rfl := HR.out.1.1 (by omega)
              obtain rfl := HR.out.2.1.1 (by omega)
              have hsl := fun (V : World) (hV : Stay w0 V) => sameRule_yes V cs[k3] ls[k3] (likesR_at HR.out.2.2.2.2 k3 hkc hkl) (Ru.stay (HR.out.2.2.1 _ (List.getElem_mem hkc)) hV) (Ru.stay (HR.out.2.2.2.1 _ (List.getElem_mem hkl)).1 hV) (HR.out.2.2.2.1 _ (List.getElem_mem hkl)).2
              have p0 : wr.cell? ⟨rb, ro + k3 * 3, none⟩ = some (.string cs[k3].head.pred) := hst.cell (HR.out.1.2 k3 hkc 0 _ rfl)
              have p1 := hst.cell (HR.out.1.2 k3 hkc 1 _ rfl)
              have p2 := hst.cell (HR.out.1.2 k3 hkc 2 _ rfl)
              have q0 : wr.cell? ⟨rb2, ro2 + k3 * 3, none⟩ = some (.string ls[k3].head.pred) := hst.cell (HR.out.2.1.2 k3 hkl 0 _ rfl)
              have q1 := hst.cell (HR.out.2.1.2 k3 hkl 1 _ rfl)
              have q2 := hst.cell (HR.out.2.1.2 k3 hkl 2 _ rfl)
              generalize cs[k3] = x at *
              generalize ls[k3] = y at *
              obtain ⟨⟨xp, xa, xb, xo, xc, xs⟩, xb1, xb2, xb3, xb4, xls⟩ := x
              obtain ⟨⟨yp, ya, yb, yo, yc, ys⟩, yb1, yb2, yb3, yb4, yls⟩ := y
              unfold Ru.v At.sl at hsl
              unfold At.sl at p1 q1
              dsimp only at p0 p1 p2 q0 q1 q2 hsl
              generalize xs.length = xm at *
              generalize ys.length = ym at *
              generalize xls.length = xn at *
              generalize yls.length = yn at *
              have HS1 : Hid (Stay w0 wr) := hst
              clear hst
              go_upto_region 16 with fail
              go_region_with (first | (go_at_call 64; refine (hsl _ (Below.drew HS1.out)).mono ?_; rintro e W1 ⟨rfl, hs1⟩))
              all_goals
                go_wp2_with fail
                go_roundw
                case rel => exact ⟨Below.trans (Below.drew HS1.out) (hs1.mono HS1.out.size), k3 + 1, by omega, by simp⟩
                case measure => simp [intOf]; omega
            · obtain rfl : k3 = m3 := by omega
              have hge3 : ¬ (k3 : Int) < (k3 : Int) := by omega
              have HS1 : Hid (Stay w0 wr) := hst
              clear hst
              go_wp2
              go_ret
              exact ⟨rfl, HS.out.trans HS1.out⟩
end Go.Proofs.Ytcincbckpnmkiaa
