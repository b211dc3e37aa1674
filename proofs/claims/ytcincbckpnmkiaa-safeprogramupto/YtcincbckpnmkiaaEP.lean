/- SafeProgram's walk. -/
import Derived.Test.YtcincbckpnmkiaaEO
import Derived.Test.YtcincbckpnmkiaaEN
import Derived.Test.YtcincbckpnmkiaaEJ
import Derived.Test.YtcincbckpnmkiaaDNb
import Derived.Test.YtcincbckpnmkiaaQN
namespace Go.Proofs.Ytcincbckpnmkiaa
open Go.RowKit Go.Maps Go.Shelf

theorem fit_below {x : Ru} {w w' : World} {B : Nat} (h : x.fit w) (hz : w.heap.size ≤ B) (hb : Below B w w') : x.fit w' := h.stay (Below.mono hb hz)
theorem likesR_mem {y x : Pr} (h : y.like x) {r : Ru} (hr : r ∈ y.rules) : ∃ q ∈ x.rules, r.like q := by
  obtain ⟨j, hj, rfl⟩ := List.mem_iff_getElem.1 hr
  have hj' : j < x.rules.length := by rw [← h.2.2.1]; exact hj
  exact ⟨_, List.getElem_mem hj', h.2.2.2 j hj hj'⟩

theorem set_heap (A : World) (b o : Nat) (cur : Array Value) (t : TypeId) (h : A.heap[b]? = some (.cells cur t (0, 0))) (u : Value) : (A.setCell ⟨b, o, none⟩ u).heap[b]? = some (.cells (cur.setIfInBounds o u) t (0, 0)) := by
  simp [World.setCell, Array.getElem?_modify, h]
theorem set_cell (A : World) (b o : Nat) (cur : Array Value) (t : TypeId) (h : A.heap[b]? = some (.cells cur t (0, 0))) (ho : o < cur.size) : A.cell? ⟨b, o, none⟩ = some cur[o] ∧ A.frozen? ⟨b, o, none⟩ = false := by
  simp [World.cell?, World.frozen?, h, ho]
/-- A record of three cells that is written over. -/
theorem set3 (A : World) (b o : Nat) (cur : Array Value) (t : TypeId) (h : A.heap[b]? = some (.cells cur t (0, 0))) (ho : o + 3 ≤ cur.size) (u0 u1 u2 : Value) :
    ∃ v0 v1 v2, (A.cell? ⟨b, o, none⟩ = some v0 ∧ A.frozen? ⟨b, o, none⟩ = false) ∧ ((A.setCell ⟨b, o, none⟩ u0).cell? ⟨b, o + 1, none⟩ = some v1 ∧ (A.setCell ⟨b, o, none⟩ u0).frozen? ⟨b, o + 1, none⟩ = false) ∧
      (((A.setCell ⟨b, o, none⟩ u0).setCell ⟨b, o + 1, none⟩ u1).cell? ⟨b, o + 2, none⟩ = some v2 ∧ ((A.setCell ⟨b, o, none⟩ u0).setCell ⟨b, o + 1, none⟩ u1).frozen? ⟨b, o + 2, none⟩ = false) ∧
      (∃ cur', (((A.setCell ⟨b, o, none⟩ u0).setCell ⟨b, o + 1, none⟩ u1).setCell ⟨b, o + 2, none⟩ u2).heap[b]? = some (.cells cur' t (0, 0)) ∧ cur'.size = cur.size) ∧
      Below b A (((A.setCell ⟨b, o, none⟩ u0).setCell ⟨b, o + 1, none⟩ u1).setCell ⟨b, o + 2, none⟩ u2) := by
  have h1 := set_heap A b o cur t h u0
  have h2 := set_heap _ b (o + 1) _ t h1 u1
  have h3 := set_heap _ b (o + 2) _ t h2 u2
  exact ⟨_, _, _, set_cell A b o cur t h (by omega), set_cell _ b (o + 1) _ t h1 (by simp; omega), set_cell _ b (o + 2) _ t h2 (by simp; omega), ⟨_, h3, by simp⟩,
    Below.setCell (Below.setCell (Below.setCell (Below.refl b A) (p := ⟨b, o, none⟩) (Nat.le_refl _) _) (p := ⟨b, o + 1, none⟩) (Nat.le_refl _) _) (p := ⟨b, o + 2, none⟩) (Nat.le_refl _) _⟩

set_option maxRecDepth 100000 in
set_option maxHeartbeats 4000000 in
theorem safeProgram_walk (x : Pr) (w : World) (hM : x.In w) (hf : x.fair) (hr : ∀ r ∈ x.rules, r.fit w ∧ kindsOk r.body) (hl : (faultsF 0 x.rules).length ≤ 4294967296) : Calls Try.prog 4 #[x.v] w fun e w' => e = .returned (.bool true) ∧ Stay w w' := by
  have hkn := known_any
  have hnr := hf.2.2.2.2.2.2
  obtain ⟨w0, hw0⟩ : ∃ w0, w0 = w.alloc (.cells #[.slice x.ia x.ins.length x.ic, .slice x.oa x.outs.length x.oc, .slice x.ra x.rules.length x.rc] 43) := ⟨_, rfl⟩
  have s0 : Stay w w0 := by rw [hw0]; exact Stay.new _ _
  have hc0 := copyProgram_any x w0 (Pr.stay hM s0) hf
  have HC : Hid (∀ W, Stay w0 W → W.cell? ⟨w.heap.size, 0, none⟩ = some (.slice x.ia x.ins.length x.ic) ∧ W.cell? ⟨w.heap.size, 1, none⟩ = some (.slice x.oa x.outs.length x.oc) ∧ W.cell? ⟨w.heap.size, 2, none⟩ = some (.slice x.ra x.rules.length x.rc)) := fun W hW => by
    subst hw0
    exact ⟨hW.cell (by simp), hW.cell (by simp), hW.cell (by simp)⟩
  obtain ⟨d0, d1, d2⟩ := HC.out w0 (Stay.refl _)
  rw [hw0] at d0 d1 d2
  have HX : Hid (x.In w ∧ x.fair ∧ (∀ r ∈ x.rules, r.fit w ∧ kindsOk r.body) ∧ (faultsF 0 x.rules).length ≤ 4294967296 ∧ Stay w w0) := ⟨hM, hf, hr, hl, s0⟩
  clear hM hf hr hl s0
  dsimp only [Pr.v] at hc0 ⊢
  go_enter Try.func4, Try.ntmps4
  go_wp2_with fail
  rw [← hw0]
  refine hc0.mono ?_
  rintro e w1 ⟨y, rfl, hyl, hyk, s1⟩
  obtain ⟨w2, hw2⟩ : ∃ w2, w2 = w1.alloc (.cells #[.slice y.ia y.ins.length y.ic, .slice y.oa y.outs.length y.oc, .slice y.ra y.rules.length y.rc] 43) := ⟨_, rfl⟩
  have s2 : Stay w1 w2 := by rw [hw2]; exact Stay.new _ _
  have z2 : w2.heap.size = w1.heap.size + 1 := by rw [hw2]; simp
  have HD : Hid (∀ W, Below w2.heap.size w2 W → W.cell? ⟨w1.heap.size, 0, none⟩ = some (.slice y.ia y.ins.length y.ic) ∧ W.cell? ⟨w1.heap.size, 1, none⟩ = some (.slice y.oa y.outs.length y.oc) ∧ W.cell? ⟨w1.heap.size, 2, none⟩ = some (.slice y.ra y.rules.length y.rc)) := fun W hW => by
    have hW : Stay w2 W := hW
    subst hw2
    exact ⟨hW.cell (by simp), hW.cell (by simp), hW.cell (by simp)⟩
  have t2 : Stay w w2 := (HX.out.2.2.2.2.trans s1).trans s2
  have u2 : Stay w0 w2 := s1.trans s2
  have hyf : ∀ r ∈ y.rules, r.fit w2 := fun r hr => by
    obtain ⟨q, hq, hlk⟩ := likesR_mem hyl hr
    exact fit_like (HX.out.2.2.1 q hq).1 hlk ((hyk.2.2.2 r hr).stay s2)
  have hyF : faultsF 0 y.rules = faultsF 0 x.rules := faultsF_like 0 _ _ hyl.2.2.1 hyl.2.2.2
  have hyM : LsR w2 y.ra y.rb y.ro y.rules := (Pr.stay hyk.in s2).2.2
  have hyn : y.rules.length ≤ 1048576 := by rw [hyl.2.2.1]; exact hnr
  have hw := yFaults_any x w2 (Pr.stay HX.out.1 t2).2.2 (fun r hr => ⟨((HX.out.2.2.1 r hr).1).stay t2, (HX.out.2.2.1 r hr).2⟩) hnr HX.out.2.2.2.1
  have hsf := fun W (hW : Stay w2 W) => sFaults_any y W ⟨hyM.1.stay hW, fun r hr => Ru.stay (hyM.2 r hr) hW⟩ (fun r hr => (hyf r hr).stay hW) hyn (by rw [hyF]; exact HX.out.2.2.2.1)
  have hck := fun W (hW : Stay w2 W) => check_any y W ⟨hyM.1.stay hW, fun r hr => Ru.stay (hyM.2 r hr) hW⟩ (fun r hr => (hyf r hr).stay hW) hyn
  have hkp := fun W (hW : Stay w2 W) => keptProgram_yes W y x hyl (Pr.Kept.stay hyk (s2.trans hW)) (Pr.stay HX.out.1 (t2.trans hW)) HX.out.2.1
  unfold checkV at hck
  rw [check_faults, hyF] at hck
  rw [hyF] at hsf
  have hfl := HX.out.2.2.2.1
  obtain ⟨F, hF⟩ : ∃ F, F = faultsF 0 x.rules := ⟨_, rfl⟩
  rw [← hF] at hw hsf hck hfl
  obtain ⟨f0, f1, f2⟩ := HC.out w2 u2
  rw [hw2] at f0 f1 f2
  have HS : Hid (Stay w w2 ∧ Stay w0 w2) := ⟨t2, u2⟩
  clear hyf hyF hyM hyl hyk s1 s2 t2 u2 hF hc0 d0 d1 d2 hw0
  dsimp only [Pr.v] at hw hsf hck hkp ⊢
  go_wp2_with fail
  rw [← hw2]
  refine hw.mono ?_
  rintro e w3 ⟨wa, wc, rfl, hWO, s3⟩
  obtain ⟨va, wb, vc, hv, hWR, -⟩ := hWO.form encLoOk
  simp only [Value.slice.injEq] at hv
  obtain ⟨rfl, -, rfl⟩ := hv
  obtain ⟨g0, g1, g2⟩ := HD.out w3 s3
  have hsf3 := hsf w3 s3
  have S3 : Hid (Stay w2 w3 ∧ RecS 3 encLo w3 wa wb 0 F ∧ (0 < F.length → wb < w3.heap.size)) := ⟨s3, hWR, fun h => World.block_lt_of_cell? w3 _ (hWR.2 0 h 0 _ rfl)⟩
  clear hw f0 f1 f2 hw2 hWO hWR s3
  go_wp2_with fail
  refine hsf3.mono ?_
  rintro e w4 ⟨la, lc, rfl, hLO, s4⟩
  obtain ⟨va, lb, vc, hv, hLR, -⟩ := hLO.form encLoOk
  simp only [Value.slice.injEq] at hv
  obtain ⟨rfl, -, rfl⟩ := hv
  obtain ⟨g0, g1, g2⟩ := HD.out w4 (Stay.trans S3.out.1 s4)
  have hck4 := hck w4 (Stay.trans S3.out.1 s4)
  have S4 : Hid (Stay w3 w4 ∧ OwnR 45 3 encLo w3.heap.size w4 (.slice la F.length lc) F ∧ RecS 3 encLo w4 la lb 0 F) := ⟨s4, hLO, hLR⟩
  have hla := hLR.1
  have hwa := S3.out.2.1.1
  clear hsf3 hck hLO hLR s4
  obtain ⟨ci, cn, ce, hce⟩ : ∃ ci cn ce, firstF F = (ci, cn, ce) := ⟨_, _, _, rfl⟩
  rw [hce] at hck4
  dsimp only at hck4
  go_wp2_with fail
  refine hck4.mono ?_
  rintro e w5 ⟨rfl, s5⟩
  have hsl5 := sameLoose_yes w5 la wa lb wb 0 0 lc wc F (S4.out.2.2.stay s5) ((S3.out.2.1.stay S4.out.1).stay s5) (by omega)
  have S5 : Hid (Stay w3 w5) := Stay.trans S4.out.1 s5
  clear hck4 g0 g1 g2
  by_cases hF : F = []
  · subst hF
    simp only [firstF, Prod.mk.injEq] at hce
    obtain ⟨rfl, rfl, rfl⟩ := hce
    dsimp only [List.length_nil] at *
    go_wp2_with (first | (go_at_call 26; refine hsl5.mono ?_; rintro e w6 ⟨rfl, s6⟩; have s36 := Stay.trans S5.out s6; obtain ⟨g0, g1, g2⟩ := HD.out w6 (Stay.trans S3.out.1 s36); have hsfW := hsf w6 (Stay.trans S3.out.1 s36); have TW : Hid (Stay w2 w6 ∧ RecS 3 encLo w6 wa wb 0 []) := ⟨Stay.trans S3.out.1 s36, RecS.nil _ _ _ _⟩; clear hsl5 hsf s6 s36))
    go_loopw [9] (fun u wr => wr = w6 ∧ u = .int .i64 0) (fun _ _ => 0)
    case atStart => exact ⟨rfl, rfl⟩
    case round =>
      obtain ⟨hwr, rfl⟩ := hrel
      subst wr
      go_wp2_with (first
        | (go_at_call 24; refine hsfW.mono ?_; rintro e w7 ⟨ma, mc, rfl, hO7, s7⟩; obtain ⟨va, mb, vc, hv, hR7, -⟩ := hO7.form encLoOk; simp only [Value.slice.injEq] at hv; obtain ⟨rfl, -, rfl⟩ := hv; have t7 := TW.out.1.trans s7; have hsl7 := sameLoose_yes w7 ma _ mb wb 0 0 mc wc _ hR7 (TW.out.2.stay s7) (by simp only [List.length_nil]; omega); have T7 : Hid (Stay w2 w7) := t7; clear hsfW hO7 hR7 s7 t7)
        | (go_at_call 26; refine hsl7.mono ?_; rintro e w8 ⟨rfl, s8⟩; have t8 := T7.out.trans s8; obtain ⟨g3, g4, g5⟩ := HD.out w8 t8; obtain ⟨g6, g7, g8⟩ := HC.out w8 (HS.out.2.trans t8); have hkp8 := hkp w8 t8; have T8 : Hid (Stay w2 w8) := t8; clear hsl7 s8 t8)
        | (go_at_call 27; refine hkp8.mono ?_; rintro e w9 ⟨rfl, s9⟩; have T9 : Hid (Stay w2 w9) := T8.out.trans s9; clear s9)
        | (go_at_call 22; refine (hkn _).mono ?_; rintro e w10 ⟨rfl, s10⟩))
      go_ret
      exact ⟨rfl, (HS.out.1.trans T9.out).trans s10⟩
  · have hF1 : 0 < F.length := List.length_pos_iff.2 hF
    obtain ⟨lt, F', hFF, rfl⟩ : ∃ lt F', F = (ci, lt, cn) :: F' ∧ ce = 14 := by
      cases F with
      | nil => exact absurd rfl hF
      | cons p F' =>
        obtain ⟨p1, p2, p3⟩ := p
        simp only [firstF, Prod.mk.injEq] at hce
        obtain ⟨rfl, rfl, rfl⟩ := hce
        exact ⟨p2, F', rfl, rfl⟩
    obtain rfl := hla hF1
    obtain rfl := hwa hF1
    have hw0 := S3.out.2.1.2 0 hF1 0 _ rfl
    have hw2 := S3.out.2.1.2 0 hF1 2 _ rfl
    have hf0 : F[0] = (ci, lt, cn) := by simp [hFF]
    rw [hf0] at hw0 hw2
    have HW : Hid (∀ W, Stay w3 W → W.cell? ⟨wb, 0, none⟩ = some (.int .i64 ci) ∧ W.cell? ⟨wb, 2, none⟩ = some (.string cn)) := fun W hW => ⟨by simpa using hW.cell hw0, by simpa using hW.cell hw2⟩
    have hi1 : ((F.length : Int) == 0) = false := by have : (F.length : Int) ≠ 0 := by omega
                                                     simpa using this
    have hi2 : (0 : Int) < (F.length : Int) := by omega
    have hcc : (ci != ci) = false := by simp
    have hcn : (cn.toList == cn.toList) = true := by simp
    have HB : Hid (w3.heap.size ≤ lb ∧ ∀ W, Stay w4 W → ∃ cur, W.heap[lb]? = some (.cells cur 45 (0, 0)) ∧ F.length * 3 ≤ cur.size) := by
      rcases S4.out.2.1.2 with ⟨hx, -⟩ | ⟨g, cap, cur, hv, hg, hh, h1, h2, h3, -⟩
      · simp at hx
      · simp only [Value.slice.injEq, Option.some.injEq, Addr.mk.injEq] at hv
        obtain ⟨⟨rfl, -⟩, -, rfl⟩ := hv
        refine ⟨hg, fun W hW => ⟨cur, (hW.block _ (Array.getElem?_eq_some_iff.1 hh).1).trans hh, ?_⟩⟩
        rw [h3]
        exact Nat.mul_le_mul_right 3 h1
    clear hw0 hw2 hf0 hFF hF hce hla hwa
    have S45 : Hid (Stay w4 w5) := s5
    clear s5
    go_wp2_with (first | (go_at_call 26; refine hsl5.mono ?_; rintro e w6 ⟨rfl, s6⟩; have s36 := Stay.trans S5.out s6; obtain ⟨k0, k2⟩ := HW.out w6 s36; have S6 : Hid (Stay w3 w6 ∧ Stay w4 w6) := ⟨s36, S45.out.trans s6⟩; clear hsl5 s6 s36))
    go_loopw [9] (fun u wr => ∃ k : Nat, k ≤ F.length ∧ u = .int .i64 (k : Int) ∧ Below w3.heap.size w3 wr ∧ ∃ cur, wr.heap[lb]? = some (.cells cur 45 (0, 0)) ∧ F.length * 3 ≤ cur.size) (fun u _ => F.length - (intOf u).toNat)
    case atStart => exact ⟨0, Nat.zero_le _, rfl, S6.out.1, HB.out.2 w6 S6.out.2⟩
    case round =>
      obtain ⟨k, hk, rfl, hbw, cur, hcur, hcs⟩ := hrel
      by_cases hlt : k < F.length
      · have hki : (k : Int) < (F.length : Int) := by omega
        obtain ⟨v0, v1, v2, ⟨p0, q0⟩, ⟨p1, q1⟩, ⟨p2, q2⟩, ⟨cur', hc', hz'⟩, hb'⟩ := set3 wr lb (k * 3) cur 45 hcur (by omega) (.int .i64 (-9)) (.int .i64 0) (.string ⟨#[103, 111, 110, 101]⟩)
        have HN : Hid (Below w3.heap.size w3 (((wr.setCell ⟨lb, k * 3, none⟩ (.int .i64 (-9))).setCell ⟨lb, k * 3 + 1, none⟩ (.int .i64 0)).setCell ⟨lb, k * 3 + 2, none⟩ (.string ⟨#[103, 111, 110, 101]⟩)) ∧ ∃ cur, (((wr.setCell ⟨lb, k * 3, none⟩ (.int .i64 (-9))).setCell ⟨lb, k * 3 + 1, none⟩ (.int .i64 0)).setCell ⟨lb, k * 3 + 2, none⟩ (.string ⟨#[103, 111, 110, 101]⟩)).heap[lb]? = some (.cells cur 45 (0, 0)) ∧ F.length * 3 ≤ cur.size) := ⟨hbw.trans (Below.mono hb' HB.out.1), cur', hc', by omega⟩
        clear hbw hcur hc' hb'
        go_wp2_with fail
        go_roundw
        case rel => exact ⟨k + 1, by omega, by simp, HN.out⟩
        case measure => simp [intOf]; omega
      · obtain rfl : k = F.length := by omega
        have hge : ¬ (F.length : Int) < (F.length : Int) := by omega
        have tw : Stay w2 wr := Below.trans S3.out.1 (Below.mono hbw S3.out.1.size)
        obtain ⟨g0, g1, g2⟩ := HD.out wr tw
        have hsfW := hsf wr tw
        have TW : Hid (Stay w2 wr ∧ RecS 3 encLo wr (some ⟨wb, 0, none⟩) wb 0 F) := ⟨tw, rec_held S3.out.2.1 fun h => hbw.block _ (S3.out.2.2 h)⟩
        clear hsf tw hbw hcur
        go_wp2_with (first
          | (go_at_call 24; refine hsfW.mono ?_; rintro e w7 ⟨ma, mc, rfl, hO7, s7⟩; obtain ⟨va, mb, vc, hv, hR7, -⟩ := hO7.form encLoOk; simp only [Value.slice.injEq] at hv; obtain ⟨rfl, -, rfl⟩ := hv; have t7 := TW.out.1.trans s7; have hsl7 := sameLoose_yes w7 ma _ mb wb 0 0 mc wc _ hR7 (TW.out.2.stay s7) (by omega); have T7 : Hid (Stay w2 w7) := t7; clear hsfW hO7 hR7 s7 t7)
          | (go_at_call 26; refine hsl7.mono ?_; rintro e w8 ⟨rfl, s8⟩; have t8 := T7.out.trans s8; obtain ⟨g3, g4, g5⟩ := HD.out w8 t8; obtain ⟨g6, g7, g8⟩ := HC.out w8 (HS.out.2.trans t8); have hkp8 := hkp w8 t8; have T8 : Hid (Stay w2 w8) := t8; clear hsl7 s8 t8)
          | (go_at_call 27; refine hkp8.mono ?_; rintro e w9 ⟨rfl, s9⟩; have T9 : Hid (Stay w2 w9) := T8.out.trans s9; clear s9)
          | (go_at_call 22; refine (hkn _).mono ?_; rintro e w10 ⟨rfl, s10⟩))
        go_ret
        exact ⟨rfl, (HS.out.1.trans T9.out).trans s10⟩
end Go.Proofs.Ytcincbckpnmkiaa
