/- writeProgram where a list ahead of the last is not in form. Written by tools/df.py. -/
import Derived.Test.YtiobhadchakoiaaGreatDoorDE
import Derived.Deep.RegionLaw
namespace Go.Proofs.YtiobhadchakoiaaGreatDoor
open Go.RowKit Go.Maps

theorem step_pass {P : Program} {ops : Array Oper} {o : Oper} {a : Act} {w : World} {K : Act → World → Prop} {Q : Exit → Act → World → Prop}
    (hw : Region.wanted o (yielded ops a.tmps) = false) (h : K (a.put o.dst undef) w) : if Region.wanted o (yielded ops a.tmps) = true then Oper.wp P o a w K Q else K (a.put o.dst undef) w := by
  rw [hw]; exact h
theorem step_goG {P : Program} {ops : Array Oper} {o : Oper} {a : Act} {w : World} {K : Act → World → Prop} {Q : Exit → Act → World → Prop} {X : Prop} (hw : Region.wanted o (yielded ops a.tmps) = true) (f : FuncId) (os : Array Operand) (ts : Array TypeId)
    (ho : o.op = .call { callee := .value (.func f), args := os, argTypes := ts }) {args : Array Value} (ha : os.map a.eval = args) (eg : ∀ args w, (callFunc f args).run P w = .ok (.enter f args) w)
    (hc : Calls P f args w fun e w' => ∃ v, e = .returned v ∧ K (a.put o.dst v) w') : if Region.wanted o (yielded ops a.tmps) = true then Oper.wp P o a w K Q else X := by
  rw [if_pos hw]
  unfold Oper.wp
  have he : (execOp a.eval o).run P w = .ok (.enter f args) w := by
    simp [execOp, ho, resolve, invoke, ha, eg, Act.eval, go_sem]
  rw [he, Oper.upon_enter]
  refine hc.mono ?_
  rintro e w' ⟨v, rfl, hk⟩
  exact hk

set_option maxRecDepth 100000 in
set_option maxHeartbeats 8000000 in
theorem writeProgram_no1 {B b : Nat} {w : World} {bs : List UInt8} (h : Bld B b w bs) (x : Pr) (hM : Sure B b w x.In) (hT : Sure B b w Tabs) (hlen : bs.length + (x.ins.length * 4301 + x.outs.length * 4301 + x.rules.length * 17000001) ≤ 140737488355328) (hBw : B ≤ w.heap.size) (hoI : x.ins.all Inp.ok = false) :
    Calls Tryz.prog 15 #[.pointer (some ⟨b, 0, none⟩), x.v] w (Wrote B b w bs x.ok x.txt (x.ins.length * 4301 + x.outs.length * 4301 + x.rules.length * 17000001)) := by
  obtain ⟨ia, ib, io, ic, ins, oa, ob, oo, oc, outs, ra, rb, ro, rc, rules⟩ := x
  have hbl := h.lt
  unfold Pr.v Pr.ok Pr.txt
  dsimp only at *
  have HM : Hid (Sure B b w (fun W => LsI W ia ib io ins) ∧ Sure B b w (fun W => LsO W oa ob oo outs) ∧ Sure B b w (fun W => LsR W ra rb ro rules)) := ⟨fun W hW => (hM W hW).1, fun W hW => (hM W hW).2.1, fun W hW => (hM W hW).2.2⟩
  have HWU : Hid (Wk B b w (w.alloc (.cells #[.slice ia ins.length ic, .slice oa outs.length oc, .slice ra rules.length rc] 26))) := Wk.new hBw _
  have HW0 : Hid (Wk B b (w.alloc (.cells #[.slice ia ins.length ic, .slice oa outs.length oc, .slice ra rules.length rc] 26)) (w.alloc (.cells #[.slice ia ins.length ic, .slice oa outs.length oc, .slice ra rules.length rc] 26)).drew) := Wk.drew (Wk.refl _ _ _)
  have HB0 : Hid (Bld B b (w.alloc (.cells #[.slice ia ins.length ic, .slice oa outs.length oc, .slice ra rules.length rc] 26)).drew bs) := h.stay (Below.drew (Stay.new w _))
  have hbu : b < (w.alloc (.cells #[.slice ia ins.length ic, .slice oa outs.length oc, .slice ra rules.length rc] 26)).heap.size := Nat.lt_of_lt_of_le hbl HWU.out.size
  have hBu : B ≤ (w.alloc (.cells #[.slice ia ins.length ic, .slice oa outs.length oc, .slice ra rules.length rc] 26)).heap.size := Nat.le_trans hBw HWU.out.size
  have hI := fun (W : World) (hBW : Bld B b W bs) (hWW : Wk B b w W) (bx : Nat) (hx : Sure B b W (fun W => W.cell? ⟨bx, 0, none⟩ = some (.func (.func 27) #[] #[]))) => writeListI_any hBW ia ib io ic ins (HM.out.1.next hWW) ⟨#[]⟩ bx hx (hT.next hWW) (by rw [show (⟨#[]⟩ : ByteArray).size = 0 from rfl]; omega) (Nat.le_trans hBw hWW.size)
  have hO := fun (W : World) (cs : List UInt8) (hcs : cs.length ≤ ins.length * 4301) (hBW : Bld B b W (bs ++ cs)) (hWW : Wk B b w W) (bx : Nat) (hx : Sure B b W (fun W => W.cell? ⟨bx, 0, none⟩ = some (.func (.func 30) #[] #[]))) => writeListO_any hBW oa ob oo oc outs (HM.out.2.1.next hWW) ⟨#[]⟩ bx hx (hT.next hWW) (by rw [show (⟨#[]⟩ : ByteArray).size = 0 from rfl, List.length_append]; omega) (Nat.le_trans hBw hWW.size)
  have hR := fun (W : World) (cs ds : List UInt8) (hcs : cs.length ≤ ins.length * 4301) (hds : ds.length ≤ outs.length * 4301) (hBW : Bld B b W (bs ++ cs ++ ds)) (hWW : Wk B b w W) (bx : Nat) (hx : Sure B b W (fun W => W.cell? ⟨bx, 0, none⟩ = some (.func (.func 33) #[] #[]))) => writeListR_any hBW ra rb ro rc rules (HM.out.2.2.next hWW) ⟨#[]⟩ bx hx (hT.next hWW) (by rw [show (⟨#[]⟩ : ByteArray).size = 0 from rfl, List.length_append, List.length_append]; omega) (Nat.le_trans hBw hWW.size)
  rw [show (⟨#[]⟩ : ByteArray).size = 0 from rfl, show (⟨#[]⟩ : ByteArray).data.toList = [] from rfl] at hI hO hR
  simp only [Nat.add_zero] at hI hO hR
  have HD : Hid (∀ W, Wk B b (w.alloc (.cells #[.slice ia ins.length ic, .slice oa outs.length oc, .slice ra rules.length rc] 26)) W → W.cell? ⟨w.heap.size, 0, none⟩ = some (.slice ia ins.length ic) ∧ W.cell? ⟨w.heap.size, 1, none⟩ = some (.slice oa outs.length oc) ∧ W.cell? ⟨w.heap.size, 2, none⟩ = some (.slice ra rules.length rc)) := fun W hW => three_cells (by decide) hbl hW
  generalize ins.all Inp.ok = okI at *
  generalize outs.all Oup.ok = okO at *
  generalize rules.all Ru.ok = okR at *
  generalize catL [] (ins.map Inp.line) = txI at *
  generalize catL [] (outs.map Oup.line) = txO at *
  generalize catL [] (rules.map Ru.line) = txR at *
  generalize ins.length = nI at *
  generalize outs.length = nO at *
  generalize rules.length = nR at *
  clear h hM hT
  subst hoI
  simp only [Bool.false_and]
  have egI : ∀ args w, (callFunc 26 args).run Tryz.prog w = .ok (.enter 26 args) w := enters_of Tryz.func26 (by kernel_rfl) rfl
  have egW : ∀ args w, (callFunc 25 args).run Tryz.prog w = .ok (.enter 25 args) w := enters_of Tryz.func25 (by kernel_rfl) rfl
  go_enter Tryz.func15, Tryz.ntmps15
  go_wp2_with fail
  obtain ⟨c0, c1, c2⟩ := HD.out _ HW0.out
  refine wp_region_any (by kernel_rfl) ?_
  try (change wpAny _ _ _ _ _ _ _ (World.drew _))
  refine wpAny_take (i := 0) (v := .pointer (some ⟨b, 0, none⟩)) rfl (by kernel_rfl) (by kernel_rfl) (by kernel_rfl) (fun _ _ _ h => h) (Or.inl ⟨by rfl, fun W => by first | (go_simp; done) | (go_simp; with_reducible rfl)⟩) ?_
  refine wpAny_take (i := 1) (v := .pointer (some ⟨w.heap.size, 0, none⟩)) rfl (by kernel_rfl) (by kernel_rfl) (by kernel_rfl) (fun _ _ _ h => h) (Or.inl ⟨by rfl, fun W => by first | (go_simp; done) | (go_simp; with_reducible rfl)⟩) ?_
  refine wpAny_ready (rs := [2, 3]) (by kernel_rfl) (by simp) (AllReady.cons (o := { dst := some 7, op := Op.load 22 (Operand.tmp 6), type := 22, pos := "write.go:129", after := #[{ on := 1, ground := Ground.data }], guard := none }) rfl (fun K hK => ?_) (AllReady.cons rfl (fun K hK => ?_) AllReady.nil))
  · go_simp
    refine hK _ _ ?_; clear hK K
    refine wpAny_ready (rs := [3]) (by kernel_rfl) (by simp) (AllReady.cons rfl (fun K hK => ?_) AllReady.nil)
    refine step_goG (by rfl) 26 _ _ rfl (args := #[.func (.func 27) #[] #[]]) (by simp [Act.eval]) egI ?_; refine (lineI_ok hbu HW0.out).mono ?_; rintro e V1 ⟨bx, rfl, hsx, hs1⟩; refine ⟨_, rfl, ?_⟩; (try go_simp); refine hK _ _ ?_; clear hK K; have HV1 : Hid (Wk B b (w.alloc (.cells #[.slice ia nI ic, .slice oa nO oc, .slice ra nR rc] 26)) V1 ∧ Bld B b V1 bs) := ⟨HW0.out.trans (Wk.of_stay hs1 (Nat.le_trans hBu HW0.out.size)), HB0.out.stay hs1⟩; obtain ⟨d0, d1, d2⟩ := HD.out V1 HV1.out.1; have w1 := hI V1 HV1.out.2 (HWU.out.trans HV1.out.1) bx hsx; clear hs1 hsx
    refine wpAny_ready (rs := [4]) (by kernel_rfl) (by simp) (AllReady.cons rfl (fun K hK => ?_) AllReady.nil); refine step_goG (by rfl) 25 _ _ rfl (args := #[.pointer (some ⟨b, 0, none⟩), .slice ia nI ic, .string ⟨#[]⟩, .func (.func 43) #[] #[.pointer (some ⟨bx, 0, none⟩)]]) (by simp [Act.eval]) egW ?_; refine w1.mono ?_; rintro e V2 ⟨rfl, cs1, hB2, hcs1, hcl1, hb2⟩; refine ⟨_, rfl, ?_⟩; (try go_simp); refine hK _ _ ?_; clear hK K; have HV2 : Hid (Wk B b (w.alloc (.cells #[.slice ia nI ic, .slice oa nO oc, .slice ra nR rc] 26)) V2 ∧ Bld B b V2 (bs ++ cs1) ∧ cs1.length ≤ nI * 4301) := ⟨HV1.out.1.trans hb2, hB2, hcl1⟩; clear w1 hB2 hcs1 hcl1 hb2
    refine wpAny_take (i := 5) (v := .bool false) rfl (by kernel_rfl) (by kernel_rfl) (by kernel_rfl) (fun _ _ _ h => h) (Or.inl ⟨by rfl, fun W => by first | (go_simp; done) | (go_simp; with_reducible rfl)⟩) ?_
    refine wpAny_take (i := 6) (v := undef) rfl (by kernel_rfl) (by kernel_rfl) (by kernel_rfl) (fun _ _ _ h => h) (Or.inr ⟨by rfl, rfl⟩) ?_
    refine wpAny_take (i := 7) (v := undef) rfl (by kernel_rfl) (by kernel_rfl) (by kernel_rfl) (fun _ _ _ h => h) (Or.inr ⟨by rfl, rfl⟩) ?_
    refine wpAny_ready (rs := [8, 9]) (by kernel_rfl) (by simp) (AllReady.cons rfl (fun K hK => ?_) (AllReady.cons rfl (fun K hK => ?_) AllReady.nil))
    · refine step_pass (by rfl) ?_; (try go_simp); refine hK _ _ ?_; clear hK K
      refine wpAny_ready (rs := [9]) (by kernel_rfl) (by simp) (AllReady.cons rfl (fun K hK => ?_) AllReady.nil); refine step_pass (by rfl) ?_; (try go_simp); refine hK _ _ ?_; clear hK K
      refine wpAny_ready (rs := [10]) (by kernel_rfl) (by simp) (AllReady.cons rfl (fun K hK => ?_) AllReady.nil); refine step_pass (by rfl) ?_; (try go_simp); refine hK _ _ ?_; clear hK K
      refine wpAny_take (i := 11) (v := .bool false) rfl (by kernel_rfl) (by kernel_rfl) (by kernel_rfl) (fun _ _ _ h => h) (Or.inl ⟨by rfl, fun W => by first | (go_simp; done) | (go_simp; with_reducible rfl)⟩) ?_
      refine wpAny_take (i := 12) (v := .bool false) rfl (by kernel_rfl) (by kernel_rfl) (by kernel_rfl) (fun _ _ _ h => h) (Or.inl ⟨by rfl, fun W => by first | (go_simp; done) | (go_simp; with_reducible rfl)⟩) ?_
      refine wpAny_take (i := 13) (v := undef) rfl (by kernel_rfl) (by kernel_rfl) (by kernel_rfl) (fun _ _ _ h => h) (Or.inr ⟨by rfl, rfl⟩) ?_
      refine wpAny_take (i := 14) (v := undef) rfl (by kernel_rfl) (by kernel_rfl) (by kernel_rfl) (fun _ _ _ h => h) (Or.inr ⟨by rfl, rfl⟩) ?_
      refine wpAny_ready (rs := [15, 16]) (by kernel_rfl) (by simp) (AllReady.cons rfl (fun K hK => ?_) (AllReady.cons rfl (fun K hK => ?_) AllReady.nil))
      · refine step_pass (by rfl) ?_; (try go_simp); refine hK _ _ ?_; clear hK K
        refine wpAny_ready (rs := [16]) (by kernel_rfl) (by simp) (AllReady.cons rfl (fun K hK => ?_) AllReady.nil); refine step_pass (by rfl) ?_; (try go_simp); refine hK _ _ ?_; clear hK K
        refine wpAny_ready (rs := [17]) (by kernel_rfl) (by simp) (AllReady.cons rfl (fun K hK => ?_) AllReady.nil); refine step_pass (by rfl) ?_; (try go_simp); refine hK _ _ ?_; clear hK K
        refine wpAny_take (i := 18) (v := .bool false) rfl (by kernel_rfl) (by kernel_rfl) (by kernel_rfl) (fun _ _ _ h => h) (Or.inl ⟨by rfl, fun W => by first | (go_simp; done) | (go_simp; with_reducible rfl)⟩) ?_
        refine wpAny_take (i := 19) (v := .bool false) rfl (by kernel_rfl) (by kernel_rfl) (by kernel_rfl) (fun _ _ _ h => h) (Or.inl ⟨by rfl, fun W => by first | (go_simp; done) | (go_simp; with_reducible rfl)⟩) ?_
        refine wpAny_done (by kernel_rfl) ?_ _
        go_wp2_with fail
        go_ret
        exact ⟨rfl, cs1, HV2.out.2.1, (fun h => by cases h), by have := HV2.out.2.2; omega, HWU.out.trans HV2.out.1⟩
      · refine step_pass (by rfl) ?_; (try go_simp); refine hK _ _ ?_; clear hK K
        refine wpAny_ready (rs := [15]) (by kernel_rfl) (by simp) (AllReady.cons rfl (fun K hK => ?_) AllReady.nil); refine step_pass (by rfl) ?_; (try go_simp); refine hK _ _ ?_; clear hK K
        refine wpAny_ready (rs := [17]) (by kernel_rfl) (by simp) (AllReady.cons rfl (fun K hK => ?_) AllReady.nil); refine step_pass (by rfl) ?_; (try go_simp); refine hK _ _ ?_; clear hK K
        refine wpAny_take (i := 18) (v := .bool false) rfl (by kernel_rfl) (by kernel_rfl) (by kernel_rfl) (fun _ _ _ h => h) (Or.inl ⟨by rfl, fun W => by first | (go_simp; done) | (go_simp; with_reducible rfl)⟩) ?_
        refine wpAny_take (i := 19) (v := .bool false) rfl (by kernel_rfl) (by kernel_rfl) (by kernel_rfl) (fun _ _ _ h => h) (Or.inl ⟨by rfl, fun W => by first | (go_simp; done) | (go_simp; with_reducible rfl)⟩) ?_
        refine wpAny_done (by kernel_rfl) ?_ _
        go_wp2_with fail
        go_ret
        exact ⟨rfl, cs1, HV2.out.2.1, (fun h => by cases h), by have := HV2.out.2.2; omega, HWU.out.trans HV2.out.1⟩
    · refine step_pass (by rfl) ?_; (try go_simp); refine hK _ _ ?_; clear hK K
      refine wpAny_ready (rs := [8]) (by kernel_rfl) (by simp) (AllReady.cons rfl (fun K hK => ?_) AllReady.nil); refine step_pass (by rfl) ?_; (try go_simp); refine hK _ _ ?_; clear hK K
      refine wpAny_ready (rs := [10]) (by kernel_rfl) (by simp) (AllReady.cons rfl (fun K hK => ?_) AllReady.nil); refine step_pass (by rfl) ?_; (try go_simp); refine hK _ _ ?_; clear hK K
      refine wpAny_take (i := 11) (v := .bool false) rfl (by kernel_rfl) (by kernel_rfl) (by kernel_rfl) (fun _ _ _ h => h) (Or.inl ⟨by rfl, fun W => by first | (go_simp; done) | (go_simp; with_reducible rfl)⟩) ?_
      refine wpAny_take (i := 12) (v := .bool false) rfl (by kernel_rfl) (by kernel_rfl) (by kernel_rfl) (fun _ _ _ h => h) (Or.inl ⟨by rfl, fun W => by first | (go_simp; done) | (go_simp; with_reducible rfl)⟩) ?_
      refine wpAny_take (i := 13) (v := undef) rfl (by kernel_rfl) (by kernel_rfl) (by kernel_rfl) (fun _ _ _ h => h) (Or.inr ⟨by rfl, rfl⟩) ?_
      refine wpAny_take (i := 14) (v := undef) rfl (by kernel_rfl) (by kernel_rfl) (by kernel_rfl) (fun _ _ _ h => h) (Or.inr ⟨by rfl, rfl⟩) ?_
      refine wpAny_ready (rs := [15, 16]) (by kernel_rfl) (by simp) (AllReady.cons rfl (fun K hK => ?_) (AllReady.cons rfl (fun K hK => ?_) AllReady.nil))
      · refine step_pass (by rfl) ?_; (try go_simp); refine hK _ _ ?_; clear hK K
        refine wpAny_ready (rs := [16]) (by kernel_rfl) (by simp) (AllReady.cons rfl (fun K hK => ?_) AllReady.nil); refine step_pass (by rfl) ?_; (try go_simp); refine hK _ _ ?_; clear hK K
        refine wpAny_ready (rs := [17]) (by kernel_rfl) (by simp) (AllReady.cons rfl (fun K hK => ?_) AllReady.nil); refine step_pass (by rfl) ?_; (try go_simp); refine hK _ _ ?_; clear hK K
        refine wpAny_take (i := 18) (v := .bool false) rfl (by kernel_rfl) (by kernel_rfl) (by kernel_rfl) (fun _ _ _ h => h) (Or.inl ⟨by rfl, fun W => by first | (go_simp; done) | (go_simp; with_reducible rfl)⟩) ?_
        refine wpAny_take (i := 19) (v := .bool false) rfl (by kernel_rfl) (by kernel_rfl) (by kernel_rfl) (fun _ _ _ h => h) (Or.inl ⟨by rfl, fun W => by first | (go_simp; done) | (go_simp; with_reducible rfl)⟩) ?_
        refine wpAny_done (by kernel_rfl) ?_ _
        go_wp2_with fail
        go_ret
        exact ⟨rfl, cs1, HV2.out.2.1, (fun h => by cases h), by have := HV2.out.2.2; omega, HWU.out.trans HV2.out.1⟩
      · refine step_pass (by rfl) ?_; (try go_simp); refine hK _ _ ?_; clear hK K
        refine wpAny_ready (rs := [15]) (by kernel_rfl) (by simp) (AllReady.cons rfl (fun K hK => ?_) AllReady.nil); refine step_pass (by rfl) ?_; (try go_simp); refine hK _ _ ?_; clear hK K
        refine wpAny_ready (rs := [17]) (by kernel_rfl) (by simp) (AllReady.cons rfl (fun K hK => ?_) AllReady.nil); refine step_pass (by rfl) ?_; (try go_simp); refine hK _ _ ?_; clear hK K
        refine wpAny_take (i := 18) (v := .bool false) rfl (by kernel_rfl) (by kernel_rfl) (by kernel_rfl) (fun _ _ _ h => h) (Or.inl ⟨by rfl, fun W => by first | (go_simp; done) | (go_simp; with_reducible rfl)⟩) ?_
        refine wpAny_take (i := 19) (v := .bool false) rfl (by kernel_rfl) (by kernel_rfl) (by kernel_rfl) (fun _ _ _ h => h) (Or.inl ⟨by rfl, fun W => by first | (go_simp; done) | (go_simp; with_reducible rfl)⟩) ?_
        refine wpAny_done (by kernel_rfl) ?_ _
        go_wp2_with fail
        go_ret
        exact ⟨rfl, cs1, HV2.out.2.1, (fun h => by cases h), by have := HV2.out.2.2; omega, HWU.out.trans HV2.out.1⟩
  · refine step_goG (by rfl) 26 _ _ rfl (args := #[.func (.func 27) #[] #[]]) (by simp [Act.eval]) egI ?_; refine (lineI_ok hbu HW0.out).mono ?_; rintro e V1 ⟨bx, rfl, hsx, hs1⟩; refine ⟨_, rfl, ?_⟩; (try go_simp); refine hK _ _ ?_; clear hK K; have HV1 : Hid (Wk B b (w.alloc (.cells #[.slice ia nI ic, .slice oa nO oc, .slice ra nR rc] 26)) V1 ∧ Bld B b V1 bs) := ⟨HW0.out.trans (Wk.of_stay hs1 (Nat.le_trans hBu HW0.out.size)), HB0.out.stay hs1⟩; obtain ⟨d0, d1, d2⟩ := HD.out V1 HV1.out.1; have w1 := hI V1 HV1.out.2 (HWU.out.trans HV1.out.1) bx hsx; clear hs1 hsx
    refine wpAny_ready (rs := [2]) (by kernel_rfl) (by simp) (AllReady.cons (o := { dst := some 7, op := Op.load 22 (Operand.tmp 6), type := 22, pos := "write.go:129", after := #[{ on := 1, ground := Ground.data }], guard := none }) rfl (fun K hK => ?_) AllReady.nil)
    go_simp
    refine hK _ _ ?_; clear hK K
    refine wpAny_ready (rs := [4]) (by kernel_rfl) (by simp) (AllReady.cons rfl (fun K hK => ?_) AllReady.nil); refine step_goG (by rfl) 25 _ _ rfl (args := #[.pointer (some ⟨b, 0, none⟩), .slice ia nI ic, .string ⟨#[]⟩, .func (.func 43) #[] #[.pointer (some ⟨bx, 0, none⟩)]]) (by simp [Act.eval]) egW ?_; refine w1.mono ?_; rintro e V2 ⟨rfl, cs1, hB2, hcs1, hcl1, hb2⟩; refine ⟨_, rfl, ?_⟩; (try go_simp); refine hK _ _ ?_; clear hK K; have HV2 : Hid (Wk B b (w.alloc (.cells #[.slice ia nI ic, .slice oa nO oc, .slice ra nR rc] 26)) V2 ∧ Bld B b V2 (bs ++ cs1) ∧ cs1.length ≤ nI * 4301) := ⟨HV1.out.1.trans hb2, hB2, hcl1⟩; clear w1 hB2 hcs1 hcl1 hb2
    refine wpAny_take (i := 5) (v := .bool false) rfl (by kernel_rfl) (by kernel_rfl) (by kernel_rfl) (fun _ _ _ h => h) (Or.inl ⟨by rfl, fun W => by first | (go_simp; done) | (go_simp; with_reducible rfl)⟩) ?_
    refine wpAny_take (i := 6) (v := undef) rfl (by kernel_rfl) (by kernel_rfl) (by kernel_rfl) (fun _ _ _ h => h) (Or.inr ⟨by rfl, rfl⟩) ?_
    refine wpAny_take (i := 7) (v := undef) rfl (by kernel_rfl) (by kernel_rfl) (by kernel_rfl) (fun _ _ _ h => h) (Or.inr ⟨by rfl, rfl⟩) ?_
    refine wpAny_ready (rs := [8, 9]) (by kernel_rfl) (by simp) (AllReady.cons rfl (fun K hK => ?_) (AllReady.cons rfl (fun K hK => ?_) AllReady.nil))
    · refine step_pass (by rfl) ?_; (try go_simp); refine hK _ _ ?_; clear hK K
      refine wpAny_ready (rs := [9]) (by kernel_rfl) (by simp) (AllReady.cons rfl (fun K hK => ?_) AllReady.nil); refine step_pass (by rfl) ?_; (try go_simp); refine hK _ _ ?_; clear hK K
      refine wpAny_ready (rs := [10]) (by kernel_rfl) (by simp) (AllReady.cons rfl (fun K hK => ?_) AllReady.nil); refine step_pass (by rfl) ?_; (try go_simp); refine hK _ _ ?_; clear hK K
      refine wpAny_take (i := 11) (v := .bool false) rfl (by kernel_rfl) (by kernel_rfl) (by kernel_rfl) (fun _ _ _ h => h) (Or.inl ⟨by rfl, fun W => by first | (go_simp; done) | (go_simp; with_reducible rfl)⟩) ?_
      refine wpAny_take (i := 12) (v := .bool false) rfl (by kernel_rfl) (by kernel_rfl) (by kernel_rfl) (fun _ _ _ h => h) (Or.inl ⟨by rfl, fun W => by first | (go_simp; done) | (go_simp; with_reducible rfl)⟩) ?_
      refine wpAny_take (i := 13) (v := undef) rfl (by kernel_rfl) (by kernel_rfl) (by kernel_rfl) (fun _ _ _ h => h) (Or.inr ⟨by rfl, rfl⟩) ?_
      refine wpAny_take (i := 14) (v := undef) rfl (by kernel_rfl) (by kernel_rfl) (by kernel_rfl) (fun _ _ _ h => h) (Or.inr ⟨by rfl, rfl⟩) ?_
      refine wpAny_ready (rs := [15, 16]) (by kernel_rfl) (by simp) (AllReady.cons rfl (fun K hK => ?_) (AllReady.cons rfl (fun K hK => ?_) AllReady.nil))
      · refine step_pass (by rfl) ?_; (try go_simp); refine hK _ _ ?_; clear hK K
        refine wpAny_ready (rs := [16]) (by kernel_rfl) (by simp) (AllReady.cons rfl (fun K hK => ?_) AllReady.nil); refine step_pass (by rfl) ?_; (try go_simp); refine hK _ _ ?_; clear hK K
        refine wpAny_ready (rs := [17]) (by kernel_rfl) (by simp) (AllReady.cons rfl (fun K hK => ?_) AllReady.nil); refine step_pass (by rfl) ?_; (try go_simp); refine hK _ _ ?_; clear hK K
        refine wpAny_take (i := 18) (v := .bool false) rfl (by kernel_rfl) (by kernel_rfl) (by kernel_rfl) (fun _ _ _ h => h) (Or.inl ⟨by rfl, fun W => by first | (go_simp; done) | (go_simp; with_reducible rfl)⟩) ?_
        refine wpAny_take (i := 19) (v := .bool false) rfl (by kernel_rfl) (by kernel_rfl) (by kernel_rfl) (fun _ _ _ h => h) (Or.inl ⟨by rfl, fun W => by first | (go_simp; done) | (go_simp; with_reducible rfl)⟩) ?_
        refine wpAny_done (by kernel_rfl) ?_ _
        go_wp2_with fail
        go_ret
        exact ⟨rfl, cs1, HV2.out.2.1, (fun h => by cases h), by have := HV2.out.2.2; omega, HWU.out.trans HV2.out.1⟩
      · refine step_pass (by rfl) ?_; (try go_simp); refine hK _ _ ?_; clear hK K
        refine wpAny_ready (rs := [15]) (by kernel_rfl) (by simp) (AllReady.cons rfl (fun K hK => ?_) AllReady.nil); refine step_pass (by rfl) ?_; (try go_simp); refine hK _ _ ?_; clear hK K
        refine wpAny_ready (rs := [17]) (by kernel_rfl) (by simp) (AllReady.cons rfl (fun K hK => ?_) AllReady.nil); refine step_pass (by rfl) ?_; (try go_simp); refine hK _ _ ?_; clear hK K
        refine wpAny_take (i := 18) (v := .bool false) rfl (by kernel_rfl) (by kernel_rfl) (by kernel_rfl) (fun _ _ _ h => h) (Or.inl ⟨by rfl, fun W => by first | (go_simp; done) | (go_simp; with_reducible rfl)⟩) ?_
        refine wpAny_take (i := 19) (v := .bool false) rfl (by kernel_rfl) (by kernel_rfl) (by kernel_rfl) (fun _ _ _ h => h) (Or.inl ⟨by rfl, fun W => by first | (go_simp; done) | (go_simp; with_reducible rfl)⟩) ?_
        refine wpAny_done (by kernel_rfl) ?_ _
        go_wp2_with fail
        go_ret
        exact ⟨rfl, cs1, HV2.out.2.1, (fun h => by cases h), by have := HV2.out.2.2; omega, HWU.out.trans HV2.out.1⟩
    · refine step_pass (by rfl) ?_; (try go_simp); refine hK _ _ ?_; clear hK K
      refine wpAny_ready (rs := [8]) (by kernel_rfl) (by simp) (AllReady.cons rfl (fun K hK => ?_) AllReady.nil); refine step_pass (by rfl) ?_; (try go_simp); refine hK _ _ ?_; clear hK K
      refine wpAny_ready (rs := [10]) (by kernel_rfl) (by simp) (AllReady.cons rfl (fun K hK => ?_) AllReady.nil); refine step_pass (by rfl) ?_; (try go_simp); refine hK _ _ ?_; clear hK K
      refine wpAny_take (i := 11) (v := .bool false) rfl (by kernel_rfl) (by kernel_rfl) (by kernel_rfl) (fun _ _ _ h => h) (Or.inl ⟨by rfl, fun W => by first | (go_simp; done) | (go_simp; with_reducible rfl)⟩) ?_
      refine wpAny_take (i := 12) (v := .bool false) rfl (by kernel_rfl) (by kernel_rfl) (by kernel_rfl) (fun _ _ _ h => h) (Or.inl ⟨by rfl, fun W => by first | (go_simp; done) | (go_simp; with_reducible rfl)⟩) ?_
      refine wpAny_take (i := 13) (v := undef) rfl (by kernel_rfl) (by kernel_rfl) (by kernel_rfl) (fun _ _ _ h => h) (Or.inr ⟨by rfl, rfl⟩) ?_
      refine wpAny_take (i := 14) (v := undef) rfl (by kernel_rfl) (by kernel_rfl) (by kernel_rfl) (fun _ _ _ h => h) (Or.inr ⟨by rfl, rfl⟩) ?_
      refine wpAny_ready (rs := [15, 16]) (by kernel_rfl) (by simp) (AllReady.cons rfl (fun K hK => ?_) (AllReady.cons rfl (fun K hK => ?_) AllReady.nil))
      · refine step_pass (by rfl) ?_; (try go_simp); refine hK _ _ ?_; clear hK K
        refine wpAny_ready (rs := [16]) (by kernel_rfl) (by simp) (AllReady.cons rfl (fun K hK => ?_) AllReady.nil); refine step_pass (by rfl) ?_; (try go_simp); refine hK _ _ ?_; clear hK K
        refine wpAny_ready (rs := [17]) (by kernel_rfl) (by simp) (AllReady.cons rfl (fun K hK => ?_) AllReady.nil); refine step_pass (by rfl) ?_; (try go_simp); refine hK _ _ ?_; clear hK K
        refine wpAny_take (i := 18) (v := .bool false) rfl (by kernel_rfl) (by kernel_rfl) (by kernel_rfl) (fun _ _ _ h => h) (Or.inl ⟨by rfl, fun W => by first | (go_simp; done) | (go_simp; with_reducible rfl)⟩) ?_
        refine wpAny_take (i := 19) (v := .bool false) rfl (by kernel_rfl) (by kernel_rfl) (by kernel_rfl) (fun _ _ _ h => h) (Or.inl ⟨by rfl, fun W => by first | (go_simp; done) | (go_simp; with_reducible rfl)⟩) ?_
        refine wpAny_done (by kernel_rfl) ?_ _
        go_wp2_with fail
        go_ret
        exact ⟨rfl, cs1, HV2.out.2.1, (fun h => by cases h), by have := HV2.out.2.2; omega, HWU.out.trans HV2.out.1⟩
      · refine step_pass (by rfl) ?_; (try go_simp); refine hK _ _ ?_; clear hK K
        refine wpAny_ready (rs := [15]) (by kernel_rfl) (by simp) (AllReady.cons rfl (fun K hK => ?_) AllReady.nil); refine step_pass (by rfl) ?_; (try go_simp); refine hK _ _ ?_; clear hK K
        refine wpAny_ready (rs := [17]) (by kernel_rfl) (by simp) (AllReady.cons rfl (fun K hK => ?_) AllReady.nil); refine step_pass (by rfl) ?_; (try go_simp); refine hK _ _ ?_; clear hK K
        refine wpAny_take (i := 18) (v := .bool false) rfl (by kernel_rfl) (by kernel_rfl) (by kernel_rfl) (fun _ _ _ h => h) (Or.inl ⟨by rfl, fun W => by first | (go_simp; done) | (go_simp; with_reducible rfl)⟩) ?_
        refine wpAny_take (i := 19) (v := .bool false) rfl (by kernel_rfl) (by kernel_rfl) (by kernel_rfl) (fun _ _ _ h => h) (Or.inl ⟨by rfl, fun W => by first | (go_simp; done) | (go_simp; with_reducible rfl)⟩) ?_
        refine wpAny_done (by kernel_rfl) ?_ _
        go_wp2_with fail
        go_ret
        exact ⟨rfl, cs1, HV2.out.2.1, (fun h => by cases h), by have := HV2.out.2.2; omega, HWU.out.trans HV2.out.1⟩

set_option maxRecDepth 100000 in
set_option maxHeartbeats 8000000 in
theorem writeProgram_no2 {B b : Nat} {w : World} {bs : List UInt8} (h : Bld B b w bs) (x : Pr) (hM : Sure B b w x.In) (hT : Sure B b w Tabs) (hlen : bs.length + (x.ins.length * 4301 + x.outs.length * 4301 + x.rules.length * 17000001) ≤ 140737488355328) (hBw : B ≤ w.heap.size) (hoI : x.ins.all Inp.ok = true) (hoO : x.outs.all Oup.ok = false) :
    Calls Tryz.prog 15 #[.pointer (some ⟨b, 0, none⟩), x.v] w (Wrote B b w bs x.ok x.txt (x.ins.length * 4301 + x.outs.length * 4301 + x.rules.length * 17000001)) := by
  obtain ⟨ia, ib, io, ic, ins, oa, ob, oo, oc, outs, ra, rb, ro, rc, rules⟩ := x
  have hbl := h.lt
  unfold Pr.v Pr.ok Pr.txt
  dsimp only at *
  have HM : Hid (Sure B b w (fun W => LsI W ia ib io ins) ∧ Sure B b w (fun W => LsO W oa ob oo outs) ∧ Sure B b w (fun W => LsR W ra rb ro rules)) := ⟨fun W hW => (hM W hW).1, fun W hW => (hM W hW).2.1, fun W hW => (hM W hW).2.2⟩
  have HWU : Hid (Wk B b w (w.alloc (.cells #[.slice ia ins.length ic, .slice oa outs.length oc, .slice ra rules.length rc] 26))) := Wk.new hBw _
  have HW0 : Hid (Wk B b (w.alloc (.cells #[.slice ia ins.length ic, .slice oa outs.length oc, .slice ra rules.length rc] 26)) (w.alloc (.cells #[.slice ia ins.length ic, .slice oa outs.length oc, .slice ra rules.length rc] 26)).drew) := Wk.drew (Wk.refl _ _ _)
  have HB0 : Hid (Bld B b (w.alloc (.cells #[.slice ia ins.length ic, .slice oa outs.length oc, .slice ra rules.length rc] 26)).drew bs) := h.stay (Below.drew (Stay.new w _))
  have hbu : b < (w.alloc (.cells #[.slice ia ins.length ic, .slice oa outs.length oc, .slice ra rules.length rc] 26)).heap.size := Nat.lt_of_lt_of_le hbl HWU.out.size
  have hBu : B ≤ (w.alloc (.cells #[.slice ia ins.length ic, .slice oa outs.length oc, .slice ra rules.length rc] 26)).heap.size := Nat.le_trans hBw HWU.out.size
  have hI := fun (W : World) (hBW : Bld B b W bs) (hWW : Wk B b w W) (bx : Nat) (hx : Sure B b W (fun W => W.cell? ⟨bx, 0, none⟩ = some (.func (.func 27) #[] #[]))) => writeListI_any hBW ia ib io ic ins (HM.out.1.next hWW) ⟨#[]⟩ bx hx (hT.next hWW) (by rw [show (⟨#[]⟩ : ByteArray).size = 0 from rfl]; omega) (Nat.le_trans hBw hWW.size)
  have hO := fun (W : World) (cs : List UInt8) (hcs : cs.length ≤ ins.length * 4301) (hBW : Bld B b W (bs ++ cs)) (hWW : Wk B b w W) (bx : Nat) (hx : Sure B b W (fun W => W.cell? ⟨bx, 0, none⟩ = some (.func (.func 30) #[] #[]))) => writeListO_any hBW oa ob oo oc outs (HM.out.2.1.next hWW) ⟨#[]⟩ bx hx (hT.next hWW) (by rw [show (⟨#[]⟩ : ByteArray).size = 0 from rfl, List.length_append]; omega) (Nat.le_trans hBw hWW.size)
  have hR := fun (W : World) (cs ds : List UInt8) (hcs : cs.length ≤ ins.length * 4301) (hds : ds.length ≤ outs.length * 4301) (hBW : Bld B b W (bs ++ cs ++ ds)) (hWW : Wk B b w W) (bx : Nat) (hx : Sure B b W (fun W => W.cell? ⟨bx, 0, none⟩ = some (.func (.func 33) #[] #[]))) => writeListR_any hBW ra rb ro rc rules (HM.out.2.2.next hWW) ⟨#[]⟩ bx hx (hT.next hWW) (by rw [show (⟨#[]⟩ : ByteArray).size = 0 from rfl, List.length_append, List.length_append]; omega) (Nat.le_trans hBw hWW.size)
  rw [show (⟨#[]⟩ : ByteArray).size = 0 from rfl, show (⟨#[]⟩ : ByteArray).data.toList = [] from rfl] at hI hO hR
  simp only [Nat.add_zero] at hI hO hR
  have HD : Hid (∀ W, Wk B b (w.alloc (.cells #[.slice ia ins.length ic, .slice oa outs.length oc, .slice ra rules.length rc] 26)) W → W.cell? ⟨w.heap.size, 0, none⟩ = some (.slice ia ins.length ic) ∧ W.cell? ⟨w.heap.size, 1, none⟩ = some (.slice oa outs.length oc) ∧ W.cell? ⟨w.heap.size, 2, none⟩ = some (.slice ra rules.length rc)) := fun W hW => three_cells (by decide) hbl hW
  generalize ins.all Inp.ok = okI at *
  generalize outs.all Oup.ok = okO at *
  generalize rules.all Ru.ok = okR at *
  generalize catL [] (ins.map Inp.line) = txI at *
  generalize catL [] (outs.map Oup.line) = txO at *
  generalize catL [] (rules.map Ru.line) = txR at *
  generalize ins.length = nI at *
  generalize outs.length = nO at *
  generalize rules.length = nR at *
  clear h hM hT
  subst hoI hoO
  simp only [Bool.true_and, Bool.false_and]
  have egI : ∀ args w, (callFunc 26 args).run Tryz.prog w = .ok (.enter 26 args) w := enters_of Tryz.func26 (by kernel_rfl) rfl
  have egW : ∀ args w, (callFunc 25 args).run Tryz.prog w = .ok (.enter 25 args) w := enters_of Tryz.func25 (by kernel_rfl) rfl
  have egO : ∀ args w, (callFunc 29 args).run Tryz.prog w = .ok (.enter 29 args) w := enters_of Tryz.func29 (by kernel_rfl) rfl
  have egX : ∀ args w, (callFunc 28 args).run Tryz.prog w = .ok (.enter 28 args) w := enters_of Tryz.func28 (by kernel_rfl) rfl
  go_enter Tryz.func15, Tryz.ntmps15
  go_wp2_with fail
  obtain ⟨c0, c1, c2⟩ := HD.out _ HW0.out
  refine wp_region_any (by kernel_rfl) ?_
  try (change wpAny _ _ _ _ _ _ _ (World.drew _))
  refine wpAny_take (i := 0) (v := .pointer (some ⟨b, 0, none⟩)) rfl (by kernel_rfl) (by kernel_rfl) (by kernel_rfl) (fun _ _ _ h => h) (Or.inl ⟨by rfl, fun W => by first | (go_simp; done) | (go_simp; with_reducible rfl)⟩) ?_
  refine wpAny_take (i := 1) (v := .pointer (some ⟨w.heap.size, 0, none⟩)) rfl (by kernel_rfl) (by kernel_rfl) (by kernel_rfl) (fun _ _ _ h => h) (Or.inl ⟨by rfl, fun W => by first | (go_simp; done) | (go_simp; with_reducible rfl)⟩) ?_
  refine wpAny_ready (rs := [2, 3]) (by kernel_rfl) (by simp) (AllReady.cons (o := { dst := some 7, op := Op.load 22 (Operand.tmp 6), type := 22, pos := "write.go:129", after := #[{ on := 1, ground := Ground.data }], guard := none }) rfl (fun K hK => ?_) (AllReady.cons rfl (fun K hK => ?_) AllReady.nil))
  · go_simp
    refine hK _ _ ?_; clear hK K
    refine wpAny_ready (rs := [3]) (by kernel_rfl) (by simp) (AllReady.cons rfl (fun K hK => ?_) AllReady.nil)
    refine step_goG (by rfl) 26 _ _ rfl (args := #[.func (.func 27) #[] #[]]) (by simp [Act.eval]) egI ?_; refine (lineI_ok hbu HW0.out).mono ?_; rintro e V1 ⟨bx, rfl, hsx, hs1⟩; refine ⟨_, rfl, ?_⟩; (try go_simp); refine hK _ _ ?_; clear hK K; have HV1 : Hid (Wk B b (w.alloc (.cells #[.slice ia nI ic, .slice oa nO oc, .slice ra nR rc] 26)) V1 ∧ Bld B b V1 bs) := ⟨HW0.out.trans (Wk.of_stay hs1 (Nat.le_trans hBu HW0.out.size)), HB0.out.stay hs1⟩; obtain ⟨d0, d1, d2⟩ := HD.out V1 HV1.out.1; have w1 := hI V1 HV1.out.2 (HWU.out.trans HV1.out.1) bx hsx; clear hs1 hsx
    refine wpAny_ready (rs := [4]) (by kernel_rfl) (by simp) (AllReady.cons rfl (fun K hK => ?_) AllReady.nil); refine step_goG (by rfl) 25 _ _ rfl (args := #[.pointer (some ⟨b, 0, none⟩), .slice ia nI ic, .string ⟨#[]⟩, .func (.func 43) #[] #[.pointer (some ⟨bx, 0, none⟩)]]) (by simp [Act.eval]) egW ?_; refine w1.mono ?_; rintro e V2 ⟨rfl, cs1, hB2, hcs1, hcl1, hb2⟩; refine ⟨_, rfl, ?_⟩; (try go_simp); refine hK _ _ ?_; clear hK K; have HV2 : Hid (Wk B b (w.alloc (.cells #[.slice ia nI ic, .slice oa nO oc, .slice ra nR rc] 26)) V2 ∧ Bld B b V2 (bs ++ cs1) ∧ cs1.length ≤ nI * 4301) := ⟨HV1.out.1.trans hb2, hB2, hcl1⟩; obtain ⟨c3, c4, c5⟩ := HD.out V2 HV2.out.1; clear w1 hB2 hcs1 hcl1 hb2
    refine wpAny_take (i := 5) (v := .bool true) rfl (by kernel_rfl) (by kernel_rfl) (by kernel_rfl) (fun _ _ _ h => h) (Or.inl ⟨by rfl, fun W => by first | (go_simp; done) | (go_simp; with_reducible rfl)⟩) ?_
    refine wpAny_take (i := 6) (v := .pointer (some ⟨b, 0, none⟩)) rfl (by kernel_rfl) (by kernel_rfl) (by kernel_rfl) (fun _ _ _ h => h) (Or.inl ⟨by rfl, fun W => by first | (go_simp; done) | (go_simp; with_reducible rfl)⟩) ?_
    refine wpAny_take (i := 7) (v := .pointer (some ⟨w.heap.size, 1, none⟩)) rfl (by kernel_rfl) (by kernel_rfl) (by kernel_rfl) (fun _ _ _ h => h) (Or.inl ⟨by rfl, fun W => by first | (go_simp; done) | (go_simp; with_reducible rfl)⟩) ?_
    refine wpAny_ready (rs := [8, 9]) (by kernel_rfl) (by simp) (AllReady.cons (o := { dst := some 13, op := Op.load 23 (Operand.tmp 12), type := 23, pos := "write.go:129", after := #[{ on := 7, ground := Ground.data }, { on := 5, ground := Ground.guard }], guard := some (5, true) }) rfl (fun K hK => ?_) (AllReady.cons rfl (fun K hK => ?_) AllReady.nil))
    · go_simp
      refine hK _ _ ?_; clear hK K
      refine wpAny_ready (rs := [9]) (by kernel_rfl) (by simp) (AllReady.cons rfl (fun K hK => ?_) AllReady.nil)
      refine step_goG (by rfl) 29 _ _ rfl (args := #[.func (.func 30) #[] #[]]) (by simp [Act.eval]) egO ?_; refine (lineO_ok hbu HV2.out.1).mono ?_; rintro e V3 ⟨bx3, rfl, hsx, hs3⟩; refine ⟨_, rfl, ?_⟩; (try go_simp); refine hK _ _ ?_; clear hK K; have HV3 : Hid (Wk B b (w.alloc (.cells #[.slice ia nI ic, .slice oa nO oc, .slice ra nR rc] 26)) V3 ∧ Bld B b V3 (bs ++ cs1)) := ⟨HV2.out.1.trans (Wk.of_stay hs3 (Nat.le_trans hBu HV2.out.1.size)), HV2.out.2.1.stay hs3⟩; obtain ⟨c6, c7, c8⟩ := HD.out V3 HV3.out.1; have w3 := hO V3 cs1 HV2.out.2.2 HV3.out.2 (HWU.out.trans HV3.out.1) bx3 hsx; clear hs3 hsx
      refine wpAny_ready (rs := [10]) (by kernel_rfl) (by simp) (AllReady.cons rfl (fun K hK => ?_) AllReady.nil); refine step_goG (by rfl) 28 _ _ rfl (args := #[.pointer (some ⟨b, 0, none⟩), .slice oa nO oc, .string ⟨#[]⟩, .func (.func 48) #[] #[.pointer (some ⟨bx3, 0, none⟩)]]) (by simp [Act.eval]) egX ?_; refine w3.mono ?_; rintro e V4 ⟨rfl, cs2, hB4, hcs2, hcl2, hb4⟩; refine ⟨_, rfl, ?_⟩; (try go_simp); refine hK _ _ ?_; clear hK K; have HV4 : Hid (Wk B b (w.alloc (.cells #[.slice ia nI ic, .slice oa nO oc, .slice ra nR rc] 26)) V4 ∧ Bld B b V4 (bs ++ cs1 ++ cs2) ∧ cs2.length ≤ nO * 4301) := ⟨HV3.out.1.trans hb4, hB4, hcl2⟩; clear w3 hB4 hcs2 hcl2 hb4
      refine wpAny_take (i := 11) (v := .bool false) rfl (by kernel_rfl) (by kernel_rfl) (by kernel_rfl) (fun _ _ _ h => h) (Or.inl ⟨by rfl, fun W => by first | (go_simp; done) | (go_simp; with_reducible rfl)⟩) ?_
      refine wpAny_take (i := 12) (v := .bool false) rfl (by kernel_rfl) (by kernel_rfl) (by kernel_rfl) (fun _ _ _ h => h) (Or.inl ⟨by rfl, fun W => by first | (go_simp; done) | (go_simp; with_reducible rfl)⟩) ?_
      refine wpAny_take (i := 13) (v := undef) rfl (by kernel_rfl) (by kernel_rfl) (by kernel_rfl) (fun _ _ _ h => h) (Or.inr ⟨by rfl, rfl⟩) ?_
      refine wpAny_take (i := 14) (v := undef) rfl (by kernel_rfl) (by kernel_rfl) (by kernel_rfl) (fun _ _ _ h => h) (Or.inr ⟨by rfl, rfl⟩) ?_
      refine wpAny_ready (rs := [15, 16]) (by kernel_rfl) (by simp) (AllReady.cons rfl (fun K hK => ?_) (AllReady.cons rfl (fun K hK => ?_) AllReady.nil))
      · refine step_pass (by rfl) ?_; (try go_simp); refine hK _ _ ?_; clear hK K
        refine wpAny_ready (rs := [16]) (by kernel_rfl) (by simp) (AllReady.cons rfl (fun K hK => ?_) AllReady.nil); refine step_pass (by rfl) ?_; (try go_simp); refine hK _ _ ?_; clear hK K
        refine wpAny_ready (rs := [17]) (by kernel_rfl) (by simp) (AllReady.cons rfl (fun K hK => ?_) AllReady.nil); refine step_pass (by rfl) ?_; (try go_simp); refine hK _ _ ?_; clear hK K
        refine wpAny_take (i := 18) (v := .bool false) rfl (by kernel_rfl) (by kernel_rfl) (by kernel_rfl) (fun _ _ _ h => h) (Or.inl ⟨by rfl, fun W => by first | (go_simp; done) | (go_simp; with_reducible rfl)⟩) ?_
        refine wpAny_take (i := 19) (v := .bool false) rfl (by kernel_rfl) (by kernel_rfl) (by kernel_rfl) (fun _ _ _ h => h) (Or.inl ⟨by rfl, fun W => by first | (go_simp; done) | (go_simp; with_reducible rfl)⟩) ?_
        refine wpAny_done (by kernel_rfl) ?_ _
        go_wp2_with fail
        go_ret
        exact ⟨rfl, cs1 ++ cs2, by simpa using HV4.out.2.1, (fun h => by cases h), by have := HV2.out.2.2; have := HV4.out.2.2; rw [List.length_append]; omega, HWU.out.trans HV4.out.1⟩
      · refine step_pass (by rfl) ?_; (try go_simp); refine hK _ _ ?_; clear hK K
        refine wpAny_ready (rs := [15]) (by kernel_rfl) (by simp) (AllReady.cons rfl (fun K hK => ?_) AllReady.nil); refine step_pass (by rfl) ?_; (try go_simp); refine hK _ _ ?_; clear hK K
        refine wpAny_ready (rs := [17]) (by kernel_rfl) (by simp) (AllReady.cons rfl (fun K hK => ?_) AllReady.nil); refine step_pass (by rfl) ?_; (try go_simp); refine hK _ _ ?_; clear hK K
        refine wpAny_take (i := 18) (v := .bool false) rfl (by kernel_rfl) (by kernel_rfl) (by kernel_rfl) (fun _ _ _ h => h) (Or.inl ⟨by rfl, fun W => by first | (go_simp; done) | (go_simp; with_reducible rfl)⟩) ?_
        refine wpAny_take (i := 19) (v := .bool false) rfl (by kernel_rfl) (by kernel_rfl) (by kernel_rfl) (fun _ _ _ h => h) (Or.inl ⟨by rfl, fun W => by first | (go_simp; done) | (go_simp; with_reducible rfl)⟩) ?_
        refine wpAny_done (by kernel_rfl) ?_ _
        go_wp2_with fail
        go_ret
        exact ⟨rfl, cs1 ++ cs2, by simpa using HV4.out.2.1, (fun h => by cases h), by have := HV2.out.2.2; have := HV4.out.2.2; rw [List.length_append]; omega, HWU.out.trans HV4.out.1⟩
    · refine step_goG (by rfl) 29 _ _ rfl (args := #[.func (.func 30) #[] #[]]) (by simp [Act.eval]) egO ?_; refine (lineO_ok hbu HV2.out.1).mono ?_; rintro e V3 ⟨bx3, rfl, hsx, hs3⟩; refine ⟨_, rfl, ?_⟩; (try go_simp); refine hK _ _ ?_; clear hK K; have HV3 : Hid (Wk B b (w.alloc (.cells #[.slice ia nI ic, .slice oa nO oc, .slice ra nR rc] 26)) V3 ∧ Bld B b V3 (bs ++ cs1)) := ⟨HV2.out.1.trans (Wk.of_stay hs3 (Nat.le_trans hBu HV2.out.1.size)), HV2.out.2.1.stay hs3⟩; obtain ⟨c6, c7, c8⟩ := HD.out V3 HV3.out.1; have w3 := hO V3 cs1 HV2.out.2.2 HV3.out.2 (HWU.out.trans HV3.out.1) bx3 hsx; clear hs3 hsx
      refine wpAny_ready (rs := [8]) (by kernel_rfl) (by simp) (AllReady.cons (o := { dst := some 13, op := Op.load 23 (Operand.tmp 12), type := 23, pos := "write.go:129", after := #[{ on := 7, ground := Ground.data }, { on := 5, ground := Ground.guard }], guard := some (5, true) }) rfl (fun K hK => ?_) AllReady.nil)
      go_simp
      refine hK _ _ ?_; clear hK K
      refine wpAny_ready (rs := [10]) (by kernel_rfl) (by simp) (AllReady.cons rfl (fun K hK => ?_) AllReady.nil); refine step_goG (by rfl) 28 _ _ rfl (args := #[.pointer (some ⟨b, 0, none⟩), .slice oa nO oc, .string ⟨#[]⟩, .func (.func 48) #[] #[.pointer (some ⟨bx3, 0, none⟩)]]) (by simp [Act.eval]) egX ?_; refine w3.mono ?_; rintro e V4 ⟨rfl, cs2, hB4, hcs2, hcl2, hb4⟩; refine ⟨_, rfl, ?_⟩; (try go_simp); refine hK _ _ ?_; clear hK K; have HV4 : Hid (Wk B b (w.alloc (.cells #[.slice ia nI ic, .slice oa nO oc, .slice ra nR rc] 26)) V4 ∧ Bld B b V4 (bs ++ cs1 ++ cs2) ∧ cs2.length ≤ nO * 4301) := ⟨HV3.out.1.trans hb4, hB4, hcl2⟩; clear w3 hB4 hcs2 hcl2 hb4
      refine wpAny_take (i := 11) (v := .bool false) rfl (by kernel_rfl) (by kernel_rfl) (by kernel_rfl) (fun _ _ _ h => h) (Or.inl ⟨by rfl, fun W => by first | (go_simp; done) | (go_simp; with_reducible rfl)⟩) ?_
      refine wpAny_take (i := 12) (v := .bool false) rfl (by kernel_rfl) (by kernel_rfl) (by kernel_rfl) (fun _ _ _ h => h) (Or.inl ⟨by rfl, fun W => by first | (go_simp; done) | (go_simp; with_reducible rfl)⟩) ?_
      refine wpAny_take (i := 13) (v := undef) rfl (by kernel_rfl) (by kernel_rfl) (by kernel_rfl) (fun _ _ _ h => h) (Or.inr ⟨by rfl, rfl⟩) ?_
      refine wpAny_take (i := 14) (v := undef) rfl (by kernel_rfl) (by kernel_rfl) (by kernel_rfl) (fun _ _ _ h => h) (Or.inr ⟨by rfl, rfl⟩) ?_
      refine wpAny_ready (rs := [15, 16]) (by kernel_rfl) (by simp) (AllReady.cons rfl (fun K hK => ?_) (AllReady.cons rfl (fun K hK => ?_) AllReady.nil))
      · refine step_pass (by rfl) ?_; (try go_simp); refine hK _ _ ?_; clear hK K
        refine wpAny_ready (rs := [16]) (by kernel_rfl) (by simp) (AllReady.cons rfl (fun K hK => ?_) AllReady.nil); refine step_pass (by rfl) ?_; (try go_simp); refine hK _ _ ?_; clear hK K
        refine wpAny_ready (rs := [17]) (by kernel_rfl) (by simp) (AllReady.cons rfl (fun K hK => ?_) AllReady.nil); refine step_pass (by rfl) ?_; (try go_simp); refine hK _ _ ?_; clear hK K
        refine wpAny_take (i := 18) (v := .bool false) rfl (by kernel_rfl) (by kernel_rfl) (by kernel_rfl) (fun _ _ _ h => h) (Or.inl ⟨by rfl, fun W => by first | (go_simp; done) | (go_simp; with_reducible rfl)⟩) ?_
        refine wpAny_take (i := 19) (v := .bool false) rfl (by kernel_rfl) (by kernel_rfl) (by kernel_rfl) (fun _ _ _ h => h) (Or.inl ⟨by rfl, fun W => by first | (go_simp; done) | (go_simp; with_reducible rfl)⟩) ?_
        refine wpAny_done (by kernel_rfl) ?_ _
        go_wp2_with fail
        go_ret
        exact ⟨rfl, cs1 ++ cs2, by simpa using HV4.out.2.1, (fun h => by cases h), by have := HV2.out.2.2; have := HV4.out.2.2; rw [List.length_append]; omega, HWU.out.trans HV4.out.1⟩
      · refine step_pass (by rfl) ?_; (try go_simp); refine hK _ _ ?_; clear hK K
        refine wpAny_ready (rs := [15]) (by kernel_rfl) (by simp) (AllReady.cons rfl (fun K hK => ?_) AllReady.nil); refine step_pass (by rfl) ?_; (try go_simp); refine hK _ _ ?_; clear hK K
        refine wpAny_ready (rs := [17]) (by kernel_rfl) (by simp) (AllReady.cons rfl (fun K hK => ?_) AllReady.nil); refine step_pass (by rfl) ?_; (try go_simp); refine hK _ _ ?_; clear hK K
        refine wpAny_take (i := 18) (v := .bool false) rfl (by kernel_rfl) (by kernel_rfl) (by kernel_rfl) (fun _ _ _ h => h) (Or.inl ⟨by rfl, fun W => by first | (go_simp; done) | (go_simp; with_reducible rfl)⟩) ?_
        refine wpAny_take (i := 19) (v := .bool false) rfl (by kernel_rfl) (by kernel_rfl) (by kernel_rfl) (fun _ _ _ h => h) (Or.inl ⟨by rfl, fun W => by first | (go_simp; done) | (go_simp; with_reducible rfl)⟩) ?_
        refine wpAny_done (by kernel_rfl) ?_ _
        go_wp2_with fail
        go_ret
        exact ⟨rfl, cs1 ++ cs2, by simpa using HV4.out.2.1, (fun h => by cases h), by have := HV2.out.2.2; have := HV4.out.2.2; rw [List.length_append]; omega, HWU.out.trans HV4.out.1⟩
  · refine step_goG (by rfl) 26 _ _ rfl (args := #[.func (.func 27) #[] #[]]) (by simp [Act.eval]) egI ?_; refine (lineI_ok hbu HW0.out).mono ?_; rintro e V1 ⟨bx, rfl, hsx, hs1⟩; refine ⟨_, rfl, ?_⟩; (try go_simp); refine hK _ _ ?_; clear hK K; have HV1 : Hid (Wk B b (w.alloc (.cells #[.slice ia nI ic, .slice oa nO oc, .slice ra nR rc] 26)) V1 ∧ Bld B b V1 bs) := ⟨HW0.out.trans (Wk.of_stay hs1 (Nat.le_trans hBu HW0.out.size)), HB0.out.stay hs1⟩; obtain ⟨d0, d1, d2⟩ := HD.out V1 HV1.out.1; have w1 := hI V1 HV1.out.2 (HWU.out.trans HV1.out.1) bx hsx; clear hs1 hsx
    refine wpAny_ready (rs := [2]) (by kernel_rfl) (by simp) (AllReady.cons (o := { dst := some 7, op := Op.load 22 (Operand.tmp 6), type := 22, pos := "write.go:129", after := #[{ on := 1, ground := Ground.data }], guard := none }) rfl (fun K hK => ?_) AllReady.nil)
    go_simp
    refine hK _ _ ?_; clear hK K
    refine wpAny_ready (rs := [4]) (by kernel_rfl) (by simp) (AllReady.cons rfl (fun K hK => ?_) AllReady.nil); refine step_goG (by rfl) 25 _ _ rfl (args := #[.pointer (some ⟨b, 0, none⟩), .slice ia nI ic, .string ⟨#[]⟩, .func (.func 43) #[] #[.pointer (some ⟨bx, 0, none⟩)]]) (by simp [Act.eval]) egW ?_; refine w1.mono ?_; rintro e V2 ⟨rfl, cs1, hB2, hcs1, hcl1, hb2⟩; refine ⟨_, rfl, ?_⟩; (try go_simp); refine hK _ _ ?_; clear hK K; have HV2 : Hid (Wk B b (w.alloc (.cells #[.slice ia nI ic, .slice oa nO oc, .slice ra nR rc] 26)) V2 ∧ Bld B b V2 (bs ++ cs1) ∧ cs1.length ≤ nI * 4301) := ⟨HV1.out.1.trans hb2, hB2, hcl1⟩; obtain ⟨c3, c4, c5⟩ := HD.out V2 HV2.out.1; clear w1 hB2 hcs1 hcl1 hb2
    refine wpAny_take (i := 5) (v := .bool true) rfl (by kernel_rfl) (by kernel_rfl) (by kernel_rfl) (fun _ _ _ h => h) (Or.inl ⟨by rfl, fun W => by first | (go_simp; done) | (go_simp; with_reducible rfl)⟩) ?_
    refine wpAny_take (i := 6) (v := .pointer (some ⟨b, 0, none⟩)) rfl (by kernel_rfl) (by kernel_rfl) (by kernel_rfl) (fun _ _ _ h => h) (Or.inl ⟨by rfl, fun W => by first | (go_simp; done) | (go_simp; with_reducible rfl)⟩) ?_
    refine wpAny_take (i := 7) (v := .pointer (some ⟨w.heap.size, 1, none⟩)) rfl (by kernel_rfl) (by kernel_rfl) (by kernel_rfl) (fun _ _ _ h => h) (Or.inl ⟨by rfl, fun W => by first | (go_simp; done) | (go_simp; with_reducible rfl)⟩) ?_
    refine wpAny_ready (rs := [8, 9]) (by kernel_rfl) (by simp) (AllReady.cons (o := { dst := some 13, op := Op.load 23 (Operand.tmp 12), type := 23, pos := "write.go:129", after := #[{ on := 7, ground := Ground.data }, { on := 5, ground := Ground.guard }], guard := some (5, true) }) rfl (fun K hK => ?_) (AllReady.cons rfl (fun K hK => ?_) AllReady.nil))
    · go_simp
      refine hK _ _ ?_; clear hK K
      refine wpAny_ready (rs := [9]) (by kernel_rfl) (by simp) (AllReady.cons rfl (fun K hK => ?_) AllReady.nil)
      refine step_goG (by rfl) 29 _ _ rfl (args := #[.func (.func 30) #[] #[]]) (by simp [Act.eval]) egO ?_; refine (lineO_ok hbu HV2.out.1).mono ?_; rintro e V3 ⟨bx3, rfl, hsx, hs3⟩; refine ⟨_, rfl, ?_⟩; (try go_simp); refine hK _ _ ?_; clear hK K; have HV3 : Hid (Wk B b (w.alloc (.cells #[.slice ia nI ic, .slice oa nO oc, .slice ra nR rc] 26)) V3 ∧ Bld B b V3 (bs ++ cs1)) := ⟨HV2.out.1.trans (Wk.of_stay hs3 (Nat.le_trans hBu HV2.out.1.size)), HV2.out.2.1.stay hs3⟩; obtain ⟨c6, c7, c8⟩ := HD.out V3 HV3.out.1; have w3 := hO V3 cs1 HV2.out.2.2 HV3.out.2 (HWU.out.trans HV3.out.1) bx3 hsx; clear hs3 hsx
      refine wpAny_ready (rs := [10]) (by kernel_rfl) (by simp) (AllReady.cons rfl (fun K hK => ?_) AllReady.nil); refine step_goG (by rfl) 28 _ _ rfl (args := #[.pointer (some ⟨b, 0, none⟩), .slice oa nO oc, .string ⟨#[]⟩, .func (.func 48) #[] #[.pointer (some ⟨bx3, 0, none⟩)]]) (by simp [Act.eval]) egX ?_; refine w3.mono ?_; rintro e V4 ⟨rfl, cs2, hB4, hcs2, hcl2, hb4⟩; refine ⟨_, rfl, ?_⟩; (try go_simp); refine hK _ _ ?_; clear hK K; have HV4 : Hid (Wk B b (w.alloc (.cells #[.slice ia nI ic, .slice oa nO oc, .slice ra nR rc] 26)) V4 ∧ Bld B b V4 (bs ++ cs1 ++ cs2) ∧ cs2.length ≤ nO * 4301) := ⟨HV3.out.1.trans hb4, hB4, hcl2⟩; clear w3 hB4 hcs2 hcl2 hb4
      refine wpAny_take (i := 11) (v := .bool false) rfl (by kernel_rfl) (by kernel_rfl) (by kernel_rfl) (fun _ _ _ h => h) (Or.inl ⟨by rfl, fun W => by first | (go_simp; done) | (go_simp; with_reducible rfl)⟩) ?_
      refine wpAny_take (i := 12) (v := .bool false) rfl (by kernel_rfl) (by kernel_rfl) (by kernel_rfl) (fun _ _ _ h => h) (Or.inl ⟨by rfl, fun W => by first | (go_simp; done) | (go_simp; with_reducible rfl)⟩) ?_
      refine wpAny_take (i := 13) (v := undef) rfl (by kernel_rfl) (by kernel_rfl) (by kernel_rfl) (fun _ _ _ h => h) (Or.inr ⟨by rfl, rfl⟩) ?_
      refine wpAny_take (i := 14) (v := undef) rfl (by kernel_rfl) (by kernel_rfl) (by kernel_rfl) (fun _ _ _ h => h) (Or.inr ⟨by rfl, rfl⟩) ?_
      refine wpAny_ready (rs := [15, 16]) (by kernel_rfl) (by simp) (AllReady.cons rfl (fun K hK => ?_) (AllReady.cons rfl (fun K hK => ?_) AllReady.nil))
      · refine step_pass (by rfl) ?_; (try go_simp); refine hK _ _ ?_; clear hK K
        refine wpAny_ready (rs := [16]) (by kernel_rfl) (by simp) (AllReady.cons rfl (fun K hK => ?_) AllReady.nil); refine step_pass (by rfl) ?_; (try go_simp); refine hK _ _ ?_; clear hK K
        refine wpAny_ready (rs := [17]) (by kernel_rfl) (by simp) (AllReady.cons rfl (fun K hK => ?_) AllReady.nil); refine step_pass (by rfl) ?_; (try go_simp); refine hK _ _ ?_; clear hK K
        refine wpAny_take (i := 18) (v := .bool false) rfl (by kernel_rfl) (by kernel_rfl) (by kernel_rfl) (fun _ _ _ h => h) (Or.inl ⟨by rfl, fun W => by first | (go_simp; done) | (go_simp; with_reducible rfl)⟩) ?_
        refine wpAny_take (i := 19) (v := .bool false) rfl (by kernel_rfl) (by kernel_rfl) (by kernel_rfl) (fun _ _ _ h => h) (Or.inl ⟨by rfl, fun W => by first | (go_simp; done) | (go_simp; with_reducible rfl)⟩) ?_
        refine wpAny_done (by kernel_rfl) ?_ _
        go_wp2_with fail
        go_ret
        exact ⟨rfl, cs1 ++ cs2, by simpa using HV4.out.2.1, (fun h => by cases h), by have := HV2.out.2.2; have := HV4.out.2.2; rw [List.length_append]; omega, HWU.out.trans HV4.out.1⟩
      · refine step_pass (by rfl) ?_; (try go_simp); refine hK _ _ ?_; clear hK K
        refine wpAny_ready (rs := [15]) (by kernel_rfl) (by simp) (AllReady.cons rfl (fun K hK => ?_) AllReady.nil); refine step_pass (by rfl) ?_; (try go_simp); refine hK _ _ ?_; clear hK K
        refine wpAny_ready (rs := [17]) (by kernel_rfl) (by simp) (AllReady.cons rfl (fun K hK => ?_) AllReady.nil); refine step_pass (by rfl) ?_; (try go_simp); refine hK _ _ ?_; clear hK K
        refine wpAny_take (i := 18) (v := .bool false) rfl (by kernel_rfl) (by kernel_rfl) (by kernel_rfl) (fun _ _ _ h => h) (Or.inl ⟨by rfl, fun W => by first | (go_simp; done) | (go_simp; with_reducible rfl)⟩) ?_
        refine wpAny_take (i := 19) (v := .bool false) rfl (by kernel_rfl) (by kernel_rfl) (by kernel_rfl) (fun _ _ _ h => h) (Or.inl ⟨by rfl, fun W => by first | (go_simp; done) | (go_simp; with_reducible rfl)⟩) ?_
        refine wpAny_done (by kernel_rfl) ?_ _
        go_wp2_with fail
        go_ret
        exact ⟨rfl, cs1 ++ cs2, by simpa using HV4.out.2.1, (fun h => by cases h), by have := HV2.out.2.2; have := HV4.out.2.2; rw [List.length_append]; omega, HWU.out.trans HV4.out.1⟩
    · refine step_goG (by rfl) 29 _ _ rfl (args := #[.func (.func 30) #[] #[]]) (by simp [Act.eval]) egO ?_; refine (lineO_ok hbu HV2.out.1).mono ?_; rintro e V3 ⟨bx3, rfl, hsx, hs3⟩; refine ⟨_, rfl, ?_⟩; (try go_simp); refine hK _ _ ?_; clear hK K; have HV3 : Hid (Wk B b (w.alloc (.cells #[.slice ia nI ic, .slice oa nO oc, .slice ra nR rc] 26)) V3 ∧ Bld B b V3 (bs ++ cs1)) := ⟨HV2.out.1.trans (Wk.of_stay hs3 (Nat.le_trans hBu HV2.out.1.size)), HV2.out.2.1.stay hs3⟩; obtain ⟨c6, c7, c8⟩ := HD.out V3 HV3.out.1; have w3 := hO V3 cs1 HV2.out.2.2 HV3.out.2 (HWU.out.trans HV3.out.1) bx3 hsx; clear hs3 hsx
      refine wpAny_ready (rs := [8]) (by kernel_rfl) (by simp) (AllReady.cons (o := { dst := some 13, op := Op.load 23 (Operand.tmp 12), type := 23, pos := "write.go:129", after := #[{ on := 7, ground := Ground.data }, { on := 5, ground := Ground.guard }], guard := some (5, true) }) rfl (fun K hK => ?_) AllReady.nil)
      go_simp
      refine hK _ _ ?_; clear hK K
      refine wpAny_ready (rs := [10]) (by kernel_rfl) (by simp) (AllReady.cons rfl (fun K hK => ?_) AllReady.nil); refine step_goG (by rfl) 28 _ _ rfl (args := #[.pointer (some ⟨b, 0, none⟩), .slice oa nO oc, .string ⟨#[]⟩, .func (.func 48) #[] #[.pointer (some ⟨bx3, 0, none⟩)]]) (by simp [Act.eval]) egX ?_; refine w3.mono ?_; rintro e V4 ⟨rfl, cs2, hB4, hcs2, hcl2, hb4⟩; refine ⟨_, rfl, ?_⟩; (try go_simp); refine hK _ _ ?_; clear hK K; have HV4 : Hid (Wk B b (w.alloc (.cells #[.slice ia nI ic, .slice oa nO oc, .slice ra nR rc] 26)) V4 ∧ Bld B b V4 (bs ++ cs1 ++ cs2) ∧ cs2.length ≤ nO * 4301) := ⟨HV3.out.1.trans hb4, hB4, hcl2⟩; clear w3 hB4 hcs2 hcl2 hb4
      refine wpAny_take (i := 11) (v := .bool false) rfl (by kernel_rfl) (by kernel_rfl) (by kernel_rfl) (fun _ _ _ h => h) (Or.inl ⟨by rfl, fun W => by first | (go_simp; done) | (go_simp; with_reducible rfl)⟩) ?_
      refine wpAny_take (i := 12) (v := .bool false) rfl (by kernel_rfl) (by kernel_rfl) (by kernel_rfl) (fun _ _ _ h => h) (Or.inl ⟨by rfl, fun W => by first | (go_simp; done) | (go_simp; with_reducible rfl)⟩) ?_
      refine wpAny_take (i := 13) (v := undef) rfl (by kernel_rfl) (by kernel_rfl) (by kernel_rfl) (fun _ _ _ h => h) (Or.inr ⟨by rfl, rfl⟩) ?_
      refine wpAny_take (i := 14) (v := undef) rfl (by kernel_rfl) (by kernel_rfl) (by kernel_rfl) (fun _ _ _ h => h) (Or.inr ⟨by rfl, rfl⟩) ?_
      refine wpAny_ready (rs := [15, 16]) (by kernel_rfl) (by simp) (AllReady.cons rfl (fun K hK => ?_) (AllReady.cons rfl (fun K hK => ?_) AllReady.nil))
      · refine step_pass (by rfl) ?_; (try go_simp); refine hK _ _ ?_; clear hK K
        refine wpAny_ready (rs := [16]) (by kernel_rfl) (by simp) (AllReady.cons rfl (fun K hK => ?_) AllReady.nil); refine step_pass (by rfl) ?_; (try go_simp); refine hK _ _ ?_; clear hK K
        refine wpAny_ready (rs := [17]) (by kernel_rfl) (by simp) (AllReady.cons rfl (fun K hK => ?_) AllReady.nil); refine step_pass (by rfl) ?_; (try go_simp); refine hK _ _ ?_; clear hK K
        refine wpAny_take (i := 18) (v := .bool false) rfl (by kernel_rfl) (by kernel_rfl) (by kernel_rfl) (fun _ _ _ h => h) (Or.inl ⟨by rfl, fun W => by first | (go_simp; done) | (go_simp; with_reducible rfl)⟩) ?_
        refine wpAny_take (i := 19) (v := .bool false) rfl (by kernel_rfl) (by kernel_rfl) (by kernel_rfl) (fun _ _ _ h => h) (Or.inl ⟨by rfl, fun W => by first | (go_simp; done) | (go_simp; with_reducible rfl)⟩) ?_
        refine wpAny_done (by kernel_rfl) ?_ _
        go_wp2_with fail
        go_ret
        exact ⟨rfl, cs1 ++ cs2, by simpa using HV4.out.2.1, (fun h => by cases h), by have := HV2.out.2.2; have := HV4.out.2.2; rw [List.length_append]; omega, HWU.out.trans HV4.out.1⟩
      · refine step_pass (by rfl) ?_; (try go_simp); refine hK _ _ ?_; clear hK K
        refine wpAny_ready (rs := [15]) (by kernel_rfl) (by simp) (AllReady.cons rfl (fun K hK => ?_) AllReady.nil); refine step_pass (by rfl) ?_; (try go_simp); refine hK _ _ ?_; clear hK K
        refine wpAny_ready (rs := [17]) (by kernel_rfl) (by simp) (AllReady.cons rfl (fun K hK => ?_) AllReady.nil); refine step_pass (by rfl) ?_; (try go_simp); refine hK _ _ ?_; clear hK K
        refine wpAny_take (i := 18) (v := .bool false) rfl (by kernel_rfl) (by kernel_rfl) (by kernel_rfl) (fun _ _ _ h => h) (Or.inl ⟨by rfl, fun W => by first | (go_simp; done) | (go_simp; with_reducible rfl)⟩) ?_
        refine wpAny_take (i := 19) (v := .bool false) rfl (by kernel_rfl) (by kernel_rfl) (by kernel_rfl) (fun _ _ _ h => h) (Or.inl ⟨by rfl, fun W => by first | (go_simp; done) | (go_simp; with_reducible rfl)⟩) ?_
        refine wpAny_done (by kernel_rfl) ?_ _
        go_wp2_with fail
        go_ret
        exact ⟨rfl, cs1 ++ cs2, by simpa using HV4.out.2.1, (fun h => by cases h), by have := HV2.out.2.2; have := HV4.out.2.2; rw [List.length_append]; omega, HWU.out.trans HV4.out.1⟩

/-- writeProgram, whatever is in form. -/
theorem writeProgram_any {B b : Nat} {w : World} {bs : List UInt8} (h : Bld B b w bs) (x : Pr) (hM : Sure B b w x.In) (hT : Sure B b w Tabs) (hlen : bs.length + (x.ins.length * 4301 + x.outs.length * 4301 + x.rules.length * 17000001) ≤ 140737488355328) (hBw : B ≤ w.heap.size) :
    Calls Tryz.prog 15 #[.pointer (some ⟨b, 0, none⟩), x.v] w (Wrote B b w bs x.ok x.txt (x.ins.length * 4301 + x.outs.length * 4301 + x.rules.length * 17000001)) := by
  cases hoI : x.ins.all Inp.ok with
  | false => exact writeProgram_no1 h x hM hT hlen hBw hoI
  | true =>
    cases hoO : x.outs.all Oup.ok with
    | false => exact writeProgram_no2 h x hM hT hlen hBw hoI hoO
    | true => exact writeProgram_yes h x hM hT hlen hBw hoI hoO
end Go.Proofs.YtiobhadchakoiaaGreatDoor
