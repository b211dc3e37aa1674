/- Programs: writeProgram, Program. Written by tools/de.py. -/
import Derived.Test.YtiobhadchakoiaaGreatDoorDD
import Derived.Deep.Cut
import Derived.Deep.RegionHeld3
namespace Go.Proofs.YtiobhadchakoiaaGreatDoor
open Go.RowKit Go.Maps

def Pr.ok (x : Pr) : Bool := x.ins.all Inp.ok && x.outs.all Oup.ok && x.rules.all Ru.ok
def Pr.txt (x : Pr) : List UInt8 := catL [] (x.ins.map Inp.line) ++ (catL [] (x.outs.map Oup.line) ++ catL [] (x.rules.map Ru.line))
theorem Wk.drew {B b : Nat} {a w : World} (h : Wk B b a w) : Wk B b a w.drew := ⟨h.1.drew, h.2⟩
theorem line_sure {B b : Nat} {V : World} {c : Value} {t : TypeId} (ht : t ≠ 5) (hb : b < V.heap.size) : Sure B b (V.alloc (.cells #[c] t)) (fun W => W.cell? ⟨V.heap.size, 0, none⟩ = some c) := fun _ h => n_cells ht hb h 0 _ rfl
theorem lineI_ok {B b : Nat} {w V : World} (hb : b < w.heap.size) (h : Wk B b w V) : Calls Tryz.prog 26 #[.func (.func 27) #[] #[]] V fun e V' => ∃ bx, e = .returned (.func (.func 43) #[] #[.pointer (some ⟨bx, 0, none⟩)]) ∧ Sure B b V' (fun W => W.cell? ⟨bx, 0, none⟩ = some (.func (.func 27) #[] #[])) ∧ Stay V V' := by
  refine (lineI_any V).mono ?_
  rintro e V' ⟨rfl, rfl⟩
  exact ⟨_, rfl, line_sure (by decide) (Nat.lt_of_lt_of_le hb h.size), Stay.new V _⟩
theorem lineO_ok {B b : Nat} {w V : World} (hb : b < w.heap.size) (h : Wk B b w V) : Calls Tryz.prog 29 #[.func (.func 30) #[] #[]] V fun e V' => ∃ bx, e = .returned (.func (.func 48) #[] #[.pointer (some ⟨bx, 0, none⟩)]) ∧ Sure B b V' (fun W => W.cell? ⟨bx, 0, none⟩ = some (.func (.func 30) #[] #[])) ∧ Stay V V' := by
  refine (lineO_any V).mono ?_
  rintro e V' ⟨rfl, rfl⟩
  exact ⟨_, rfl, line_sure (by decide) (Nat.lt_of_lt_of_le hb h.size), Stay.new V _⟩
theorem lineR_ok {B b : Nat} {w V : World} (hb : b < w.heap.size) (h : Wk B b w V) : Calls Tryz.prog 32 #[.func (.func 33) #[] #[]] V fun e V' => ∃ bx, e = .returned (.func (.func 49) #[] #[.pointer (some ⟨bx, 0, none⟩)]) ∧ Sure B b V' (fun W => W.cell? ⟨bx, 0, none⟩ = some (.func (.func 33) #[] #[])) ∧ Stay V V' := by
  refine (lineR_any V).mono ?_
  rintro e V' ⟨rfl, rfl⟩
  exact ⟨_, rfl, line_sure (by decide) (Nat.lt_of_lt_of_le hb h.size), Stay.new V _⟩

set_option maxRecDepth 100000 in
set_option maxHeartbeats 8000000 in
theorem writeProgram_yes {B b : Nat} {w : World} {bs : List UInt8} (h : Bld B b w bs) (x : Pr) (hM : Sure B b w x.In) (hT : Sure B b w Tabs) (hlen : bs.length + (x.ins.length * 4301 + x.outs.length * 4301 + x.rules.length * 17000001) ≤ 140737488355328) (hBw : B ≤ w.heap.size) (hoI : x.ins.all Inp.ok = true) (hoO : x.outs.all Oup.ok = true) :
    Calls Tryz.prog 15 #[.pointer (some ⟨b, 0, none⟩), x.v] w (Wrote B b w bs x.ok x.txt (x.ins.length * 4301 + x.outs.length * 4301 + x.rules.length * 17000001)) := by
  obtain ⟨ia, ib, io, ic, ins, oa, ob, oo, oc, outs, ra, rb, ro, rc, rules⟩ := x
  have hbl := h.lt
  unfold Pr.v Pr.ok Pr.txt
  dsimp only at *
  have HM : Hid (Sure B b w (fun W => LsI W ia ib io ins) ∧ Sure B b w (fun W => LsO W oa ob oo outs) ∧ Sure B b w (fun W => LsR W ra rb ro rules)) := ⟨fun W hW => (hM W hW).1, fun W hW => (hM W hW).2.1, fun W hW => (hM W hW).2.2⟩
  have HWU : Hid (Wk B b w (w.alloc (.cells #[.slice ia ins.length ic, .slice oa outs.length oc, .slice ra rules.length rc] 26))) := Wk.new hBw _
  have HW0 : Hid (Wk B b (w.alloc (.cells #[.slice ia ins.length ic, .slice oa outs.length oc, .slice ra rules.length rc] 26)) (w.alloc (.cells #[.slice ia ins.length ic, .slice oa outs.length oc, .slice ra rules.length rc] 26)).drew) := Wk.drew (Wk.refl _ _ _)
  have HB0 : Hid (Bld B b (w.alloc (.cells #[.slice ia ins.length ic, .slice oa outs.length oc, .slice ra rules.length rc] 26)).drew bs) := h.stay (Below.drew (Stay.new w _))
  have hbu : b < (w.alloc (.cells #[.slice ia ins.length ic, .slice oa outs.length oc, .slice ra rules.length rc] 26)).heap.size := Nat.lt_of_lt_of_le hbl HWU.out.size
  have hBu : B ≤ (w.alloc (.cells #[.slice ia ins.length ic, .slice oa outs.length oc, .slice ra rules.length rc] 26)).heap.size := Nat.le_trans hBw HWU.out.size
  have hI := fun (W : World) (hBW : Bld B b W bs) (hWW : Wk B b w W) (bx : Nat) (hx : Sure B b W (fun W => W.cell? ⟨bx, 0, none⟩ = some (.func (.func 27) #[] #[]))) => writeListI_any hBW ia ib io ic ins (HM.out.1.next hWW) ⟨#[]⟩ bx hx (hT.next hWW) (by rw [show (⟨#[]⟩ : ByteArray).size = 0 from rfl]; omega) (Nat.le_trans hBw hWW.size)
  have hO := fun (W : World) (cs : List UInt8) (hcs : cs.length ≤ ins.length * 4301) (hBW : Bld B b W (bs ++ cs)) (hWW : Wk B b w W) (bx : Nat) (hx : Sure B b W (fun W => W.cell? ⟨bx, 0, none⟩ = some (.func (.func 30) #[] #[]))) => writeListO_any hBW oa ob oo oc outs (HM.out.2.1.next hWW) ⟨#[]⟩ bx hx (hT.next hWW) (by rw [show (⟨#[]⟩ : ByteArray).size = 0 from rfl, List.length_append]; omega) (Nat.le_trans hBw hWW.size)
  have hR := fun (W : World) (cs ds : List UInt8) (hcs : cs.length ≤ ins.length * 4301) (hds : ds.length ≤ outs.length * 4301) (hBW : Bld B b W (bs ++ cs ++ ds)) (hWW : Wk B b w W) (bx : Nat) (hx : Sure B b W (fun W => W.cell? ⟨bx, 0, none⟩ = some (.func (.func 33) #[] #[]))) => writeListR_any hBW ra rb ro rc rules (HM.out.2.2.next hWW) ⟨#[]⟩ bx hx (hT.next hWW) (by rw [show (⟨#[]⟩ : ByteArray).size = 0 from rfl, List.length_append, List.length_append]; omega) (Nat.le_trans hBw hWW.size)
  rw [show (⟨#[]⟩ : ByteArray).size = 0 from rfl, show (⟨#[]⟩ : ByteArray).data.toList = [] from rfl] at hI hO hR
  simp only [Nat.add_zero] at hI hO hR
  have HD : Hid (∀ W, Wk B b (w.alloc (.cells #[.slice ia ins.length ic, .slice oa outs.length oc, .slice ra rules.length rc] 26)) W → W.cell? ⟨w.heap.size, 0, none⟩ = some (.slice ia ins.length ic) ∧ W.cell? ⟨w.heap.size, 1, none⟩ = some (.slice oa outs.length oc) ∧ W.cell? ⟨w.heap.size, 2, none⟩ = some (.slice ra rules.length rc)) := fun W hW => three_cells (by decide) hbl hW
  generalize ins.all Inp.ok = okI at *
  generalize outs.all Oup.ok = okO at *
  generalize rules.all Ru.ok = okR at *
  generalize catL [] (ins.map Inp.line) = txI at *
  generalize catL [] (outs.map Oup.line) = txO at *
  generalize catL [] (rules.map Ru.line) = txR at *
  generalize ins.length = nI at *
  generalize outs.length = nO at *
  generalize rules.length = nR at *
  clear h hM hT
  subst hoI hoO
  simp only [Bool.true_and]
  go_enter Tryz.func15, Tryz.ntmps15
  go_wp2_with fail
  have hS0 := HD.out _ HW0.out
  go_region_held3 (fun W => W.cell? ⟨w.heap.size, 0, none⟩ = some (.slice ia nI ic) ∧ W.cell? ⟨w.heap.size, 1, none⟩ = some (.slice oa nO oc) ∧ W.cell? ⟨w.heap.size, 2, none⟩ = some (.slice ra nR rc)) (first | assumption | exact HD.out _ HV1.out.1 | exact HD.out _ HV2.out.1 | exact HD.out _ HV3.out.1 | exact HD.out _ HV4.out.1 | exact HD.out _ HV5.out.1 | exact HD.out _ (HV5.out.1.trans hb6)) (first
    | (go_at_call 26; refine (lineI_ok hbu HW0.out).mono ?_; rintro e V1 ⟨bx, rfl, hsx, hs1⟩; have HV1 : Hid (Wk B b (w.alloc (.cells #[.slice ia nI ic, .slice oa nO oc, .slice ra nR rc] 26)) V1 ∧ Bld B b V1 bs) := ⟨HW0.out.trans (Wk.of_stay hs1 (Nat.le_trans hBu HW0.out.size)), HB0.out.stay hs1⟩; obtain ⟨c0, c1, c2⟩ := HD.out V1 HV1.out.1; have w1 := hI V1 HV1.out.2 (HWU.out.trans HV1.out.1) bx hsx; clear hs1 hsx)
    | (go_at_call 25; refine w1.mono ?_; rintro e V2 ⟨rfl, cs1, hB2, hcs1, hcl1, hb2⟩; have HV2 : Hid (Wk B b (w.alloc (.cells #[.slice ia nI ic, .slice oa nO oc, .slice ra nR rc] 26)) V2 ∧ Bld B b V2 (bs ++ cs1) ∧ (true = true → cs1 = txI) ∧ cs1.length ≤ nI * 4301) := ⟨HV1.out.1.trans hb2, hB2, hcs1, hcl1⟩; obtain ⟨c3, c4, c5⟩ := HD.out V2 HV2.out.1; clear w1 hB2 hcs1 hcl1 hb2)
    | (go_at_call 29; refine (lineO_ok hbu HV2.out.1).mono ?_; rintro e V3 ⟨bx3, rfl, hsx, hs3⟩; have HV3 : Hid (Wk B b (w.alloc (.cells #[.slice ia nI ic, .slice oa nO oc, .slice ra nR rc] 26)) V3 ∧ Bld B b V3 (bs ++ cs1)) := ⟨HV2.out.1.trans (Wk.of_stay hs3 (Nat.le_trans hBu HV2.out.1.size)), HV2.out.2.1.stay hs3⟩; obtain ⟨c6, c7, c8⟩ := HD.out V3 HV3.out.1; have w3 := hO V3 cs1 HV2.out.2.2.2 HV3.out.2 (HWU.out.trans HV3.out.1) bx3 hsx; clear hs3 hsx)
    | (go_at_call 28; refine w3.mono ?_; rintro e V4 ⟨rfl, cs2, hB4, hcs2, hcl2, hb4⟩; have HV4 : Hid (Wk B b (w.alloc (.cells #[.slice ia nI ic, .slice oa nO oc, .slice ra nR rc] 26)) V4 ∧ Bld B b V4 (bs ++ cs1 ++ cs2) ∧ (true = true → cs2 = txO) ∧ cs2.length ≤ nO * 4301) := ⟨HV3.out.1.trans hb4, hB4, hcs2, hcl2⟩; obtain ⟨d0, d1, d2⟩ := HD.out V4 HV4.out.1; clear w3 hB4 hcs2 hcl2 hb4)
    | (go_at_call 32; refine (lineR_ok hbu HV4.out.1).mono ?_; rintro e V5 ⟨bx5, rfl, hsx, hs5⟩; have HV5 : Hid (Wk B b (w.alloc (.cells #[.slice ia nI ic, .slice oa nO oc, .slice ra nR rc] 26)) V5 ∧ Bld B b V5 (bs ++ cs1 ++ cs2)) := ⟨HV4.out.1.trans (Wk.of_stay hs5 (Nat.le_trans hBu HV4.out.1.size)), HV4.out.2.1.stay hs5⟩; obtain ⟨d3, d4, d5⟩ := HD.out V5 HV5.out.1; have w5 := hR V5 cs1 cs2 HV2.out.2.2.2 HV4.out.2.2.2 HV5.out.2 (HWU.out.trans HV5.out.1) bx5 hsx; clear hs5 hsx)
    | (go_at_call 31; refine w5.mono ?_; rintro e V6 ⟨rfl, cs3, hB6, hcs3, hcl3, hb6⟩))
  go_wp2_with fail
  go_ret
  exact ⟨rfl, cs1 ++ (cs2 ++ cs3), by simpa using hB6, (fun h => by rw [HV2.out.2.2.1 (by trivial), HV4.out.2.2.1 (by trivial), hcs3 h]), by have := HV2.out.2.2.2; have := HV4.out.2.2.2; rw [List.length_append, List.length_append]; omega, HWU.out.trans (HV5.out.1.trans hb6)⟩
end Go.Proofs.YtiobhadchakoiaaGreatDoor
