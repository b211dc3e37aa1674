/- order.Merge: the walk. -/
import Derived.Test.YtnmaldgmlkcliaaOMG
import Derived.Test.YtnmaldgmlkcliaaHBT
import Derived.Laws.EntriesVeiled
import Derived.Deep.RegionLaw
import Derived.Deep.Cut
namespace Go.Proofs.Ytnmaldgmlkcliaa.HH
open Go.RowKit Go.Maps Go.Shelf Go.Sort Go.Proofs.Ytnmaldgmlkcliaa

theorem step_go {P : Program} {ops : Array Oper} {o : Oper} {a : Act} {w : World} {K : Act → World → Prop} {Q : Exit → Act → World → Prop} {X : Prop} (hg : o.guard = none) (f : FuncId) (os : Array Operand) (ts : Array TypeId)
    (ho : o.op = .call { callee := .value (.func f), args := os, argTypes := ts }) {args : Array Value} (ha : os.map a.eval = args) (eg : ∀ args w, (callFunc f args).run P w = .ok (.enter f args) w)
    (hc : Calls P f args w fun e w' => ∃ v, e = .returned v ∧ K (a.put o.dst v) w') : if Region.wanted o (yielded ops a.tmps) = true then Oper.wp P o a w K Q else X := by
  have hw : Region.wanted o (yielded ops a.tmps) = true := by simp [Region.wanted, hg]
  rw [if_pos hw]
  unfold Oper.wp
  have he : (execOp a.eval o).run P w = .ok (.enter f args) w := by
    simp [execOp, ho, resolve, invoke, ha, eg, Act.eval, go_sem]
  rw [he, Oper.upon_enter]
  refine hc.mono ?_
  rintro e w' ⟨v, rfl, hk⟩
  exact hk

def MergeB (w : World) (ts : List (Int × Int)) (e : Ending) (w' : World) : Prop := ∃ v, e = .returned v ∧ OwnT w.heap.size w' v ts ∧ Stay w w'

set_option maxRecDepth 100000 in
set_option maxHeartbeats 8000000 in
theorem merge_any (w : World) (a : Option Addr) (b off c : Nat) (l : List Ls) (hS : LsS w a b off l) (hr : ∀ L ∈ l, Rises L.ts) (hc : ∀ L ∈ l, L.ts.length ≤ L.c) (hl : l.length ≤ 1048576) (hN : (allL l).length ≤ 1048576) :
    Calls Try.prog 8 #[.func (.func 9) #[] #[], .slice a l.length c] w (MergeB w (sortR (allL l))) := by
  have ho := HT.orderOf_yes
  have hnew := new_any w.heap.size
  unfold headV at hnew
  obtain ⟨n, hn⟩ : ∃ n, n = l.length := ⟨_, rfl⟩
  obtain ⟨N, hNN⟩ : ∃ N, N = (allL l).length := ⟨_, rfl⟩
  have hlow : ∀ (i : Nat) (L : Ls), l[i]? = some L → 0 < L.ts.length → L.b ≤ w.heap.size := fun i L hi h0 => by
    obtain ⟨h1, rfl⟩ := List.getElem?_eq_some_iff.1 hi
    have := World.block_lt_of_cell? w _ ((hS.2 i h1).2.1.2 0 h0).1
    exact Nat.le_of_lt this
  have HX : Hid (LsS w a b off l ∧ n = l.length ∧ (∀ L ∈ l, Rises L.ts) ∧ (∀ L ∈ l, L.ts.length ≤ L.c) ∧ N = (allL l).length ∧ (∀ (i : Nat) (L : Ls), l[i]? = some L → 0 < L.ts.length → L.b ≤ w.heap.size)) := ⟨hS, hn, hr, hc, hNN, hlow⟩
  rw [← hn]
  rw [← hn] at hl
  rw [← hNN] at hN
  clear hS hn hr hc hNN hlow
  have egR : ∀ args w, (callFunc 26 args).run Try.prog w = .ok (.enter 26 args) w := enters_of Try.func26 (by kernel_rfl) rfl
  go_enter Try.func8, Try.ntmps8
  go_wp2_with fail
  refine (ho _).mono ?_
  rintro e9 w9 ⟨rfl, hw9⟩
  have hw9' := hw9.symm; subst hw9'
  clear hw9 ho
  go_wp2_with fail
  refine (hnew _).mono ?_
  rintro e9 w9 ⟨rfl, hw9⟩
  have hM0 : Ms w (w.heap.size + 1) w9 (.slice none 0 0) [] (.slice none 0 0) 0 [] := by rw [hw9]; exact Ms.first w
  have HM0 : Hid (Ms w (w.heap.size + 1) w9 (.slice none 0 0) [] (.slice none 0 0) 0 []) := hM0
  clear hw9 hnew hM0
  rw [World.size_alloc]
  go_wp2_with fail
  go_loopw [6, 18, 7, 8] (fun len i _ _ wr => ∃ k : Nat, k ≤ n ∧ i = .int .i64 (k : Int) ∧ len = .int .i64 ((allL (l.take k)).length : Int) ∧ ∃ v turns came, Ms w (w.heap.size + 1) wr (.slice none 0 0) [] v turns came ∧ Fro l k (l.map Ls.ts) came ∧ turns ≤ k) (fun _ i _ _ _ => n - (intOf i).toNat)
  case atStart => exact ⟨0, Nat.zero_le _, rfl, rfl, _, 0, [], HM0.out, Fro.start l, Nat.le_refl _⟩
  case round =>
    obtain ⟨k, hk, rfl, rfl, v, turns, came, hM, hF, htn⟩ := hrel
    by_cases hlt : k < n
    · have hkl : k < l.length := by rw [← HX.out.2.1]; exact hlt
      obtain rfl := HX.out.1.1 (by omega)
      obtain ⟨hc1, hin⟩ := (HX.out.1.stay hM.stay).2 k hkl
      have hki : (k : Int) < (n : Int) := by omega
      have hki0 : (0 : Int) ≤ (k : Int) := by omega
      have hL : l[k]? = some l[k] := List.getElem?_eq_getElem hkl
      have hld := hM.load hF hL hin (HX.out.2.2.2.2.2 k _ hL) (by omega) (by omega)
      have he := allL_take l k hkl
      have hle := allL_take_le l (k + 1)
      rw [he, List.length_append, ← HX.out.2.2.2.2.1] at hle
      have HE : Hid ((allL (l.take (k + 1))).length = (allL (l.take k)).length + l[k].ts.length) := by
        show _ = _
        rw [he, List.length_append]
      unfold Ls.val at hc1
      clear he hL hin hF hM
      generalize l[k] = y at *
      obtain ⟨ya, yb, yo, yc, ys⟩ := y
      dsimp only at *
      generalize ys.length = yn at *
      generalize (allL (l.take k)).length = N1 at *
      have h61 : (N1 : Int) + (yn : Int) ≤ 1048576 := by omega
      have h62 : (0 : Int) ≤ (N1 : Int) := by omega
      have h63 : (0 : Int) ≤ (yn : Int) := by omega
      go_wp2_with (go_at_call 26; refine hld.mono ?_; rintro e w1 ⟨rfl, v', turns', came', q1, q2, q3⟩; have HQ : Hid (Ms w (w.heap.size + 1) w1 (.slice none 0 0) [] v' turns' came' ∧ Fro l (k + 1) (l.map Ls.ts) came' ∧ turns' ≤ turns + 1) := ⟨q1, q2, q3⟩; clear hld q1 q2 q3)
      go_roundw
      case rel => exact ⟨k + 1, by omega, by simp, by rw [HE.out]; first | rfl | go_num | simp, v', turns', came', HQ.out.1, HQ.out.2.1, by have := HQ.out.2.2; omega⟩
      case measure => simp [intOf]; omega
    · have hki : ¬ (k : Int) < (n : Int) := by omega
      obtain rfl : k = n := by omega
      rw [show l.take k = l by rw [HX.out.2.1, List.take_length], ← HX.out.2.2.2.2.1]
      rw [HX.out.2.1] at hF
      have hmk := run_mk0 N (by omega) wr
      have hM2 := hM.make N hN
      have hpo := hM2.pop hF (by have := fro_len hF; have := HX.out.2.1; omega)
      have HG : Hid (Mg (fun x => x.1) (allL l) [] (l.map Ls.ts) ∧ turns ≤ k) := ⟨Mg.start (fun r hr => by
        obtain ⟨L, hL, rfl⟩ := List.mem_map.1 hr
        exact rises_risk.1 (HX.out.2.2.1 L hL)), htn⟩
      clear hM hF hM2
      go_wp2_with fail
      generalize wr.alloc (.cells (madeCells #[.int .i64 0, .int .i64 0] (N * 2)) 26) = W5 at hpo ⊢
      refine hpo.mono ?_
      rintro e W6 ⟨xa, xn, xc, yi, ok, v', came', rfl, hM6, hT6, hf6, hP⟩
      have HI : Hid (MI w (w.heap.size + 1) l (.slice (some ⟨wr.heap.size, 0, none⟩) 0 N) (.pointer (some ⟨W6.heap.size, 0, none⟩)) (.bool ok) (W6.alloc (.cells #[.slice xa xn xc, .int .i64 yi] 47))) := MI.first hM6 HG.out.1 (by have := HG.out.2; have := HX.out.2.1; simp; omega) hP
      clear hpo hM6 hT6 hf6 hP hmk
      go_wp2_with fail
      generalize W6.alloc (.cells #[.slice xa xn xc, .int .i64 yi] 47) = W7 at HI ⊢
      generalize W6.heap.size = fb0 at HI ⊢
      generalize wr.heap.size = mb0 at HI ⊢
      go_loopw [9, 10, 11] (fun v9 p ok wr => MI w (w.heap.size + 1) l v9 p ok wr) (fun v9 _ _ _ => N - lenS v9)
      case atStart => exact HI.out
      case round =>
        rename World => w2
        obtain ⟨fb, out, rs, v, turns, came', xa, xn, xc, yi, okb, rfl, rfl, hM, hG, htn, hbx, hfb1, hfb2, hfb3, hP⟩ := hrel
        cases okb with
        | false =>
          have hall : ∀ r ∈ rs, r = [] := by
            rcases hP with ⟨e, _⟩ | ⟨_, h⟩
            · cases e
            · exact h
          obtain ⟨g1, g2, g3⟩ := hG.done hall
          have HR : Hid (OwnT w.heap.size w2 u9 (sortR (allL l)) ∧ Stay w w2) := by
            rw [← sorted_is g1 g2]
            exact ⟨hM.own.mono (by omega), hM.stay⟩
          clear hM hG hbx hP hall g1 g2 g3
          go_wp2
          go_ret
          exact ⟨_, rfl, HR.out.1, HR.out.2⟩
        | true =>
          obtain ⟨-, came, i, p, L, t, hperm, hF, hL, hp, hrs, hleast, rfl, rfl, rfl, rfl⟩ := hP.resolve_right (fun h => by cases h.1)
          have hil : i < l.length := (List.getElem?_eq_some_iff.1 hL).1
          have hLe : l[i] = L := (List.getElem?_eq_some_iff.1 hL).2
          have hinV : ∀ V, Stay w V → L.In V := fun V hV => by rw [← hLe]; exact ((HX.out.1.stay hV).2 i hil).2
          have hcap := HX.out.2.2.2.1 L (List.mem_of_getElem? hL)
          have hbl := HX.out.2.2.2.2.2 i L hL (by omega)
          obtain ⟨hx1, hx2⟩ := (hinV w2 hM.stay).1.2 p hp
          obtain ⟨x, hxx⟩ : ∃ x, x = L.ts[p] := ⟨_, rfl⟩
          rw [← hxx] at hx1 hx2
          obtain ⟨x1, x2⟩ := x
          dsimp only at hx1 hx2
          have hxe : (hdAt L i p).x = (x1, x2) := by rw [hxx]; show L.ts[p]?.getD (0, 0) = _; rw [List.getElem?_eq_getElem hp]; rfl
          have hrs' : rs[i]? = some ((x1, x2) :: L.ts.drop (p + 1)) := by rw [hrs, List.drop_eq_getElem_cons hp, hxx]
          have hls := hF.least rfl (e := (hdAt L i p, t)) hleast
          dsimp only at hls
          rw [hxe] at hls
          have hG2 := hG.step i (x1, x2) (L.ts.drop (p + 1)) hrs' hls.1 hls.2
          have hout : out.length < N := by
            have h1 := hG2.len
            rw [List.length_append, List.length_singleton, ← HX.out.2.2.2.2.1] at h1
            omega
          obtain ⟨v3, W3, hap, hM3, hT3, hv3, a3, m3, c3, rfl⟩ := hM.add x1 x2 (by omega)
          obtain ⟨ra, rn, rc, hcut, hcall⟩ := hM3.rest hperm hF hL hp (hinV W3 hM3.stay) hbl hcap (by rw [← HX.out.2.1]; exact hl) (by have := HX.out.2.1; omega)
          have hbx3 := hT3.heap hbx hfb3
          obtain ⟨b0, b1, -, -⟩ := box2 hbx
          obtain ⟨d0, d1, -, -⟩ := box2 hbx3
          have d2 : W3.drew.cell? ⟨fb, 0, none⟩ = _ := d0
          have d3 : W3.drew.cell? ⟨fb, 1, none⟩ = _ := d1
          have HB : Hid (W3.heap[fb]? = some (.cells #[.slice (some ⟨L.b, L.off + p * 2, none⟩) (L.ts.length - p) (L.c - p), .int .i64 (i : Int)] 47 (0, 0)) ∧ ¬ foot (w.heap.size + 1) v fb) := ⟨hbx3, hfb2⟩
          have HG2 : Hid (Mg (fun x => x.1) (allL l) (out ++ [(x1, x2)]) (rs.set i (L.ts.drop (p + 1))) ∧ lenS u9 = out.length ∧ lenS (.slice a3 m3 c3) = out.length + 1 ∧ out.length < N ∧ turns ≤ l.length + out.length) := ⟨hG2, lenS_own hM.own, by rw [lenS_own hM3.own]; simp, hout, htn⟩
          have hxn : (0 : Int) < ((L.ts.length - p : Nat) : Int) := by omega
          clear hM hG hG2 hP hperm hF hL hrs hrs' hleast hls hxe hxx hinV hbx hbx3 hM3 hT3 hv3 hfb3 hout htn hil hLe hcap hbl
          generalize L.ts.drop (p + 1) = dr at *
          generalize L.ts.length - p = xn at *
          generalize L.c - p = xc at *
          generalize L.off + p * 2 = xo at *
          generalize L.b = xb at *
          generalize rs.set i dr = rs2 at *
          clear hp
          go_wp2_with (first
            | (at_builtin; refine wpList_append_by rfl _ _ 23 23 rfl _ _ rfl rfl hap ?_; clear hap))
          go_region_law (first
            | (refine step_go rfl 26 _ _ rfl (args := #[.pointer (some ⟨w.heap.size + 1, 0, none⟩), .agg #[.slice ra rn rc, .int .i64 (i : Int)]]) (by simp [Act.eval, Act.put]) egR ?_; refine (hcall _ (by first | exact Stay.drewN _ _ | exact Stay.drew _)).mono ?_; rintro e W4 ⟨rfl, v4, turns4, came4, hM4, hF4, ht4, hT4, hf4⟩; refine ⟨_, rfl, ?_⟩; have hbx4 := hT4.heap (k := fb) HB.out.1 HB.out.2; obtain ⟨f0, f1, -, f3⟩ := box2 hbx4; have hpo := (hM4.go (Stay.new W4 (.cells #[.slice (some ⟨xb, xo, none⟩) xn xc, .int .i64 (i : Int)] 47))).pop hF4 (by have := fro_len hF4; have := HX.out.2.1; omega); have HK : Hid (Ms w (w.heap.size + 1) W4 (.slice a3 m3 c3) (out ++ [(x1, x2)]) v4 turns4 came4 ∧ turns4 ≤ turns + 1) := ⟨hM4, ht4⟩; clear hcall hM4 hF4 ht4 hT4 hf4 hbx4))
          all_goals
            go_wp2_with (first
              | (go_at_call 27; refine hpo.mono ?_; rintro e W6 ⟨ya, yn, yc, yj, ok6, v6, came6, rfl, hM6, hT6, hf6, hP6⟩
                 have hfoot : ¬ foot (w.heap.size + 1) v4 W4.heap.size := fun hf => (by have := HK.out.1.hp.lt _ hf; omega)
                 have hbx6 := hT6.heap (heap_alloc_new W4 (.cells #[.slice (some ⟨xb, xo, none⟩) xn xc, .int .i64 (i : Int)] 47)) hfoot
                 obtain ⟨g0, g1, g2, g3⟩ := box2 hbx6
                 have g4 := g2 0
                 have g5 := g2 1
                 have HI2 : Hid (MI w (w.heap.size + 1) l (.slice a3 m3 c3) (.pointer (some ⟨W4.heap.size, 0, none⟩)) (.bool ok6) ((W6.setCell ⟨W4.heap.size, 0, none⟩ (.slice ya yn yc)).setCell ⟨W4.heap.size, 1, none⟩ (.int .i64 yj))) := MI.again hM6 hbx6 (by have := HK.out.1.size; omega) (fun hf => hfoot (hf6 _ hf)) (fun e => by have := (HK.out.1.own.lt _ e).2; omega) HG2.out.1 (by have := HK.out.2; have := HG2.out.2.2.2.2; rw [List.length_append, List.length_singleton]; omega) hP6
                 clear hpo hM6 hT6 hf6 hP6 hfoot hbx6 g2))
            go_roundw
            case rel => exact HI2.out
            case measure => have h1 := HG2.out.2.1; have h2 := HG2.out.2.2.1; have h3 := HG2.out.2.2.2.1; simp at h1 h2 h3 ⊢; omega
end Go.Proofs.Ytnmaldgmlkcliaa.HH
