/- A table is put aside and goes on as its clone: the step's walk. -/
import Derived.Test.YtdnophgcdnghkaaJ4k
namespace Go.Proofs.Ytdnophgcdnghkaa.I
open Go.RowKit Go.Maps Go.Proofs.Ytdnophgcdnghkaa
theorem step_call {P : Program} {ops : Array Oper} {o : Oper} {a : Act} {w : World} {K : Act → World → Prop} {Q : Exit → Act → World → Prop} {E : Prop} (hg : o.guard = none) (f : FuncId) (os : Array Operand) (ts : Array TypeId)
    (ho : o.op = .call { callee := .value (.func f), args := os, argTypes := ts }) {args : Array Value} (ha : os.map a.eval = args) (eg : ∀ args w, (callFunc f args).run P w = .ok (.enter f args) w)
    (hc : Calls P f args w fun e w' => ∃ v, e = .returned v ∧ K (a.put o.dst v) w') : if Region.wanted o (yielded ops a.tmps) = true then Oper.wp P o a w K Q else E := by
  have hw : Region.wanted o (yielded ops a.tmps) = true := by simp [Region.wanted, hg]
  rw [if_pos hw]
  unfold Oper.wp
  have he : (execOp a.eval o).run P w = .ok (.enter f args) w := by
    simp [execOp, ho, resolve, invoke, ha, eg, Act.eval, go_sem]
  rw [he, Oper.upon_enter]
  refine hc.mono ?_
  rintro e w' ⟨v, rfl, hk⟩
  exact hk
def BxL (W : World) (wb : Nat) (L : List Value) : Prop := W.heap[wb]? = some (.cells L.toArray 31 (0, 0))
theorem BxL.set {W : World} {wb : Nat} {L : List Value} (h : BxL W wb L) (j : Nat) (v : Value) : BxL (W.setCell ⟨wb, j, none⟩ v) wb (L.set j v) := by
  unfold BxL at *
  simp [World.setCell, Array.getElem?_modify, h]
theorem BxL.cell {W : World} {wb : Nat} {L : List Value} (h : BxL W wb L) {j : Nat} {v : Value} (hv : L[j]? = some v) : W.cell? ⟨wb, j, none⟩ = some v ∧ W.frozen? ⟨wb, j, none⟩ = false ∧ wb < W.heap.size := by
  unfold BxL at h
  exact ⟨by simp [World.cell?, h, hv], by simp [World.frozen?, h], (Array.getElem?_eq_some_iff.1 h).1⟩
theorem BxL.block {W W' : World} {wb : Nat} {L : List Value} (h : BxL W wb L) (hb : W'.heap[wb]? = W.heap[wb]?) : BxL W' wb L := hb.trans h
theorem set_same {α : Type} {l : List α} {i : Nat} {v : α} (h : l[i]? = some v) : l.set i v = l := by
  obtain ⟨hi, rfl⟩ := List.getElem?_eq_some_iff.1 h
  exact List.set_getElem_self hi
/-- What it leaves. -/
def AsideR (B : Nat) (w : World) (wb : Nat) (way : Int) (n : Nat) (o : Nat → Nat) (r t' r' i : Nat) (L : List Value) (w' : World) : Prop :=
  ∃ o' ct vo vr os rs, WC B w' wb way (n + 1) o' ct r t' r' vo vr os rs ∧ os.length ≤ 20 ∧ Turn (fun k => o k = wb + 1) w w' ∧ BxL w' wb (((L.set 4 vo).set 5 vr).set i (.pointer (some ⟨ct, 0, none⟩))) 
section
variable {B wb t r t' r' n m : Nat} {w W W' : World} {way : Int} {o o' : Nat → Nat} {vo vr : Value} {os rs : List Nat} {fp : Nat × Nat × Int} {ps : List (Int × Int)} {N bt br : Nat}
set_option maxRecDepth 100000 in
set_option maxHeartbeats 4000000 in
theorem step_aside (h : WC B w wb way n o t r t' r' vo vr os rs) (hb : n + 1 ≤ 1073741824) (hol : os.length ≤ 20) {i : Nat} {on key val leave : Int} (A : Ask w wb i t r on key val leave) {L : List Value} (hbx : BxL w wb L) (h4 : L[4]? = some vo) (h5 : L[5]? = some vr) (hi : L[i]? = some (.pointer (some ⟨t, 0, none⟩))) :
    Calls Try.prog 9 #[.pointer (some ⟨wb, 0, none⟩), .agg #[.int .i64 8, .int .i64 on, .int .i64 key, .int .i64 val, .int .i64 leave]] w fun e w' => e = .returned (.bool true) ∧ AsideR B w wb way n o r t' r' i L w' := by
  obtain ⟨fp, ps, N, M⟩ := h.m
  obtain ⟨va, vb0, vc, hvo, -⟩ := h.row.lo.form encPtOk
  subst hvo
  obtain ⟨wa, wb0, wc, hvr, -⟩ := h.row.lr.form encPtOk
  subst hvr
  have hro := fun W => lround_any W on A.ok.1
  have ct := A.ct
  have cr := A.cr
  have h2 := A.two
  have h2i : (i : Int) < 2 := by omega
  have hwl : wb < w.heap.size := World.block_lt_of_cell? w _ ct
  rw [A.onE] at hro
  go_enter Try.func9, Try.ntmps9
  go_wp2_with fail
  refine (hro _).mono ?_
  rintro e9 w9 ⟨rfl, hw⟩
  have hw' := hw.symm; subst hw'
  clear hro
  go_wp2_with fail
  go_quiet (fail)
  obtain ⟨V0, hV0⟩ : ∃ V0, (w.alloc (.cells #[.int .i64 8, .int .i64 on, .int .i64 key, .int .i64 val, .int .i64 leave] 42)).drewN nq = V0 := ⟨_, rfl⟩
  have hB : Beg w V0 8 on key val leave := hV0 ▸ Beg.mk0 w 8 on key val leave nq
  rw [hV0]
  clear hV0 ct cr
  have hL0 := hbx.block (hB.stay.block wb hwl)
  obtain ⟨d4, f4, l4⟩ := hL0.cell h4
  have HA : Hid (Ahd B w V0 wb way n o o r t' r' (.slice va os.length vc) (.slice wa rs.length wc) os rs fp t ps N) := h.ahd M hB.stay
  have HI : Hid (i < 2) := h2
  have k0 : V0.cell? ⟨w.heap.size, 0, none⟩ = some (.int .i64 8) := by simp [World.cell?, hB.box]
  have z0 : w.heap.size < V0.heap.size := (Array.getElem?_eq_some_iff.1 hB.box).1
  by_cases hlt : os.length < 20
  · have hlti : (os.length : Int) < 20 := by omega
    obtain ⟨pa, pc, W2, hap, hb2, hrow1, tu1⟩ := HA.out.row.pushO t (by omega)
    have hL2 := hL0.block hb2
    obtain ⟨e4, g4, k4⟩ := hL2.cell h4
    have HW : Hid (WC B w wb way n o t r t' r' (.slice va os.length vc) (.slice wa rs.length wc) os rs ∧ Mt w fp t r way n o ps N ∧ Stay w V0) := ⟨h, M, hB.stay⟩
    have HL2 : Hid (BxL W2 wb L) := hL2
    clear h M hB A hbx hb2 hL2 hL0
    go_wp2_with (at_builtin; refine wpList_append_run rfl _ _ 28 28 rfl _ _ rfl rfl hap ?_)
    obtain ⟨X, hX⟩ : ∃ X, W2.setCell ⟨wb, 4, none⟩ (.slice pa (os.length + 1) pc) = X := ⟨_, rfl⟩
    have hLX := HL2.out.set 4 (.slice pa (os.length + 1) pc)
    rw [hX] at hLX hrow1 tu1 ⊢
    have h5X : (L.set 4 (.slice pa (os.length + 1) pc))[5]? = some (.slice wa rs.length wc) := by rw [List.getElem?_set_ne (by decide)]; exact h5
    obtain ⟨e5, g5, k5⟩ := hLX.cell h5X
    have mrX : RS X r way ps N (lab V0 o (wb + 1)) := HA.out.mr.frame tu1 (fun k hk h1 h2 => by have := HA.out.nw; rw [h2] at h1; omega) (fun k hk => lab_old hk)
    have hcp := fun V (hV : Stay X V) => r_copy (mrX.stay hV) (by have := HA.out.mt.facts; omega)
    have egC := enters_of Try.func33 (by kernel_rfl) rfl
    have HX : Hid (WR B X wb (lab V0 o (wb + 1)) (.slice pa (os.length + 1) pc) (.slice wa rs.length wc) (os ++ [t]) rs ∧ Turn (fun k => o k = wb + 1) V0 X ∧ BxL X wb (L.set 4 (.slice pa (os.length + 1) pc))) := ⟨hrow1, tu1, hLX⟩
    clear hX hrow1 tu1 hLX mrX hap e4 g4 k4 d4 f4 l4 k0 z0 HL2
    go_region_law (first
      | (refine step_call rfl 33 _ _ rfl (args := #[.pointer (some ⟨r, 0, none⟩)]) (by first | (simp [Act.eval]; done) | simp [Act.eval, Act.put]) egC ?_; refine (hcp _ (by first | exact Stay.drewN _ _ | exact Stay.drew _)).mono ?_; rintro e X1 ⟨rfl, hRS, hs1⟩; refine ⟨_, rfl, ?_⟩; have hsX := Stay.trans (Stay.drew X) hs1; have hL1 := HX.out.2.2.block (hsX.block wb HX.out.1.size.2); obtain ⟨a1, n1, W5, hap, hb5, hrow5, t5⟩ := (HX.out.1.frame (W' := X1) (o' := lab X.drew (lab V0 o (wb + 1)) (X.drew.heap.size + 1)) (S := fun _ => False) (Turn.of_stay hsX) (fun _ _ e => e.elim) (fun k hk => lab_old hk)).pushR X.drew.heap.size (by have := HA.out.len; omega); have hL5 := hL1.block hb5; obtain ⟨d5, d6, d7⟩ := hL5.cell h5X; obtain ⟨d3, -, d8⟩ := hL1.cell h5X; have d4 : ∀ o, (X1.alloc o).cell? ⟨wb, 5, none⟩ = some (.slice wa rs.length wc) := fun o => (Stay.new X1 o).cell d3; have HR : Hid (Ahd B w (W5.setCell ⟨wb, 5, none⟩ (.slice a1 (rs.length + 1) n1)) wb way n o (lab X1 (lab X.drew (lab V0 o (wb + 1)) (X.drew.heap.size + 1)) (wb + 1)) r t' r' (.slice pa (os.length + 1) pc) (.slice a1 (rs.length + 1) n1) (os ++ [t]) (rs ++ [X.drew.heap.size]) fp t ps N) := HW.out.1.aside HW.out.2.1 (by omega) (V1 := X.drew) ((HA.out.tu.then HX.out.2.1 (fun k _ e => e)).trans (Turn.of_stay (Stay.drew X))) (fun k hk => by rw [lab_old (by have := HW.out.2.2.size; omega)]) hRS hs1 hrow5 t5; have HL5 : Hid (BxL W5 wb (L.set 4 (.slice pa (os.length + 1) pc))) := hL5; clear hRS hs1 hsX hL1 hb5 hrow5 t5 hL5 hcp)
      | (refine step_append_run rfl _ _ _ _ rfl (by first | rfl | simp [Act.eval, Act.put]) (by first | rfl | simp [Act.eval, Act.put]) hap ?_; clear hap))
    all_goals
      obtain ⟨Y, hY⟩ : ∃ Y, W5.setCell ⟨wb, 5, none⟩ (.slice a1 (rs.length + 1) n1) = Y := ⟨_, rfl⟩
      have hLY := HL5.out.set 5 (.slice a1 (rs.length + 1) n1)
      have hRY := HR.out
      rw [hY] at hLY hRY ⊢
      have HY : Hid (Ahd B w Y wb way n o (lab X1 (lab X.drew (lab V0 o (wb + 1)) (X.drew.heap.size + 1)) (wb + 1)) r t' r' (.slice pa (os.length + 1) pc) (.slice a1 (rs.length + 1) n1) (os ++ [t]) (rs ++ [X.drew.heap.size]) fp t ps N) := hRY
      have HLY : Hid (BxL Y wb ((L.set 4 (.slice pa (os.length + 1) pc)).set 5 (.slice a1 (rs.length + 1) n1))) := hLY
      have HYi : Hid (((L.set 4 (.slice pa (os.length + 1) pc)).set 5 (.slice a1 (rs.length + 1) n1))[i]? = some (.pointer (some ⟨t, 0, none⟩))) := by
        show _ = _
        rw [List.getElem?_set_ne (by have := HI.out; omega), List.getElem?_set_ne (by have := HI.out; omega)]
        exact hi
      have HYl : Hid ((os ++ [t]).length ≤ 20) := by show _ ≤ _; rw [List.length_append, List.length_singleton]; omega
      clear hY hLY hRY d3 d4 d5 d6 d7 d8 HR HL5 HX e5 g5 k5 HW HA egC
      obtain ⟨ei, gi0, ki⟩ := HLY.out.cell HYi.out
      have hcl := fun V (hV : Stay Y V) => t_clone (HY.out.mt.stay hV) (by omega)
      have egT := enters_of Try.func34 (by kernel_rfl) rfl
      go_wp2_with fail
      go_region_law (first
        | (refine step_call rfl 34 _ _ rfl (args := #[.pointer (some ⟨t, 0, none⟩)]) (by first | (simp [Act.eval]; done) | simp [Act.eval, Act.put]) egT ?_; refine (hcl _ (by first | exact Stay.drewN _ _ | exact Stay.drew _)).mono ?_; rintro e Y1 ⟨ct, rfl, hct, hTS, hsy⟩; refine ⟨_, rfl, ?_⟩; have hsY := Stay.trans (Stay.drew Y) hsy; obtain ⟨u1, u2, u3⟩ := (HLY.out.block (hsY.block wb HY.out.row.size.2)).cell HYi.out; have HZ : Hid (AsideR B w wb way n o r t' r' i L (Y1.setCell ⟨wb, i, none⟩ (.pointer (some ⟨ct, 0, none⟩)))) := ⟨_, ct, _, _, _, _, (HY.out.done hct hTS hsY i hb).1, HYl.out, (HY.out.done hct hTS hsY i hb).2, (HLY.out.block (hsY.block wb HY.out.row.size.2)).set i _⟩; clear hct hTS hsy hsY hcl))
      all_goals
        go_wp2_with fail
        go_ret
        exact ⟨rfl, HZ.out⟩
  · have hlti : ¬ (os.length : Int) < 20 := by omega
    have HY : Hid (Ahd B w V0 wb way n o o r t' r' (.slice va os.length vc) (.slice wa rs.length wc) os rs fp t ps N) := HA.out
    have HLY : Hid (BxL V0 wb ((L.set 4 (.slice va os.length vc)).set 5 (.slice wa rs.length wc))) := by
      show BxL _ _ _
      rw [set_same h4, set_same h5]
      exact hL0
    have HYi : Hid (((L.set 4 (.slice va os.length vc)).set 5 (.slice wa rs.length wc))[i]? = some (.pointer (some ⟨t, 0, none⟩))) := by
      show _ = _
      rw [set_same h4, set_same h5]
      exact hi
    have HYl : Hid (os.length ≤ 20) := hol
    clear h M hB A hbx hL0 HA
    obtain ⟨Y, hY⟩ : ∃ Y, V0 = Y := ⟨_, rfl⟩
    subst hY
    obtain ⟨ei, gi0, ki⟩ := HLY.out.cell HYi.out
    have hcl := fun V (hV : Stay V0 V) => t_clone (HY.out.mt.stay hV) (by omega)
    have egT := enters_of Try.func34 (by kernel_rfl) rfl
    go_wp2_with fail
    go_region_law (first
      | (refine step_call rfl 34 _ _ rfl (args := #[.pointer (some ⟨t, 0, none⟩)]) (by first | (simp [Act.eval]; done) | simp [Act.eval, Act.put]) egT ?_; refine (hcl _ (by first | exact Stay.drewN _ _ | exact Stay.drew _)).mono ?_; rintro e Z1 ⟨ct, rfl, hct, hTS, hsy⟩; refine ⟨_, rfl, ?_⟩; have hsY := Stay.trans (Stay.drew V0) hsy; obtain ⟨u1, u2, u3⟩ := (HLY.out.block (hsY.block wb HY.out.row.size.2)).cell HYi.out; have HZ : Hid (AsideR B w wb way n o r t' r' i L (Z1.setCell ⟨wb, i, none⟩ (.pointer (some ⟨ct, 0, none⟩)))) := ⟨_, ct, _, _, _, _, (HY.out.done hct hTS hsY i hb).1, HYl.out, (HY.out.done hct hTS hsY i hb).2, (HLY.out.block (hsY.block wb HY.out.row.size.2)).set i _⟩; clear hct hTS hsy hsY hcl))
    all_goals
      go_wp2_with fail
      go_ret
      exact ⟨rfl, HZ.out⟩
end
end Go.Proofs.Ytdnophgcdnghkaa.I
