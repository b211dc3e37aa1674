/- Inputs and outputs: writeInput, writeOutput; line. -/
import Derived.Test.YtiobhadchakoiaaGreatDoorDA
import Derived.Test.YtiobhadchakoiaaGreatDoorBB
namespace Go.Proofs.YtiobhadchakoiaaGreatDoor
open Go.RowKit Go.Maps

def Inp.ok (x : Inp) : Bool := decB x.pred x.ar && decide (x.file.data.toList.length ≤ 1024)
def Inp.txt (x : Inp) : List UInt8 := decL [105, 110, 112, 117, 116, 32] x.pred x.ar ++ (32 :: (quoteL x.file.data.toList ++ [46]))
def Oup.ok (x : Oup) : Bool := decB x.pred x.ar
def Oup.txt (x : Oup) : List UInt8 := decL [111, 117, 116, 112, 117, 116, 32] x.pred x.ar ++ [46]

theorem three_cells {B b : Nat} {w W : World} {c0 c1 c2 : Value} {t : TypeId} (ht : t ≠ 5) (hb : b < w.heap.size) (h : Wk B b (w.alloc (.cells #[c0, c1, c2] t)) W) :
    W.cell? ⟨w.heap.size, 0, none⟩ = some c0 ∧ W.cell? ⟨w.heap.size, 1, none⟩ = some c1 ∧ W.cell? ⟨w.heap.size, 2, none⟩ = some c2 := by
  have hbx := box_kept hb ht h
  refine ⟨?_, ?_, ?_⟩ <;> (rw [Lib.cell_of_heap hbx]; rfl)

set_option maxRecDepth 100000 in
set_option maxHeartbeats 2000000 in
theorem writeInput_any {B b : Nat} {w : World} {bs : List UInt8} (h : Bld B b w bs) (x : Inp) (hT : Sure B b w Tabs) (hlen : bs.length + 4300 ≤ 140737488355328) (hBw : B ≤ w.heap.size) :
    Calls Tryz.prog 27 #[.pointer (some ⟨b, 0, none⟩), x.v] w (Wrote B b w bs x.ok x.txt 4300) := by
  obtain ⟨p, ar, f⟩ := x
  have hbl := h.lt
  have HW : Hid (Wk B b w (w.alloc (.cells #[.string p, .int .i64 ar, .string f] 37))) := Wk.new hBw _
  have hB0 := h.stay (Stay.new w (.cells #[.string p, .int .i64 ar, .string f] 37))
  have hd := writeDeclared_any hB0 ⟨#[105, 110, 112, 117, 116, 32]⟩ p ar (hT.next HW.out).now (by omega) (by decide) (Nat.le_trans hBw HW.out.size)
  rw [show (⟨#[105, 110, 112, 117, 116, 32]⟩ : ByteArray).data.toList = [105, 110, 112, 117, 116, 32] from rfl] at hd
  have hcs := fun W => Constant_any f W
  have w1 := fun (W : World) (cs : List UInt8) (hcs : cs.length ≤ 100) (hBW : Bld B b W (bs ++ cs)) (hWW : Wk B b w W) => writeByteK hBW 32 (by rw [List.length_append]; omega) (Nat.le_trans hBw hWW.size)
  rw [show ((UInt8.toNat 32 : Nat) : Int) = 32 from rfl] at w1
  unfold Inp.v Inp.ok Inp.txt
  dsimp only
  have hfl : f.data.toList.length = f.size := by simp
  clear h hT hB0
  generalize decL [105, 110, 112, 117, 116, 32] p ar = dl at *
  cases hdb : decB p ar
  · rw [hdb] at hd
    simp only [Bool.false_and]
    generalize (dl ++ _) = tx
    clear hdb w1
    go_enter Tryz.func27, Tryz.ntmps27
    go_wp2_with (first | (go_at_call 45; refine hd.mono ?_; rintro e W1 ⟨rfl, cs, hB1, hcs1, hcl, hb1⟩))
    go_ret
    exact ⟨rfl, cs, hB1, (fun h => nomatch h), by omega, HW.out.trans hb1⟩
  · rw [hdb] at hd
    simp only [Bool.true_and]
    by_cases hf : f.data.toList.length ≤ 1024
    · rw [decide_eq_true hf] at hcs ⊢
      have hql := quoteL_len f.data.toList
      have w2 := fun (W : World) (cs : List UInt8) (hcs : cs.length ≤ 101) (hBW : Bld B b W (bs ++ cs)) (hWW : Wk B b w W) => writeQuotedK hBW f (by rw [List.length_append]; omega) (Nat.le_trans hBw hWW.size)
      have w3 := fun (W : World) (cs : List UInt8) (hcs : cs.length ≤ 4250) (hBW : Bld B b W (bs ++ cs)) (hWW : Wk B b w W) => writeByteK hBW 46 (by rw [List.length_append]; omega) (Nat.le_trans hBw hWW.size)
      rw [show ((UInt8.toNat 46 : Nat) : Int) = 46 from rfl] at w3
      have HQ : Hid ((quoteL f.data.toList).length ≤ 4098) := by show _ ≤ _; omega
      generalize quoteL f.data.toList = ql at *
      clear hdb hf hql
      go_enter Tryz.func27, Tryz.ntmps27
      go_wp2_with (first
        | (go_at_call 45; refine hd.mono ?_; rintro e W1 ⟨rfl, cs, hB1, hcs1, hcl, hb1⟩; obtain rfl := hcs1 rfl; obtain ⟨d0, d1, d2⟩ := three_cells (by decide) hbl hb1; have H1 : Hid (Wk B b (w.alloc (.cells #[.string p, .int .i64 ar, .string f] 37)) W1 ∧ cs.length ≤ 100) := ⟨hb1, hcl⟩; have w1' := w1 W1 cs hcl hB1 (HW.out.trans hb1); clear hd w1 hB1 hcs1 hcl hb1)
        | (go_at_call 46; refine (hcs _).mono ?_; rintro e w' ⟨rfl, hw'⟩; have hw2 := hw'.symm; subst hw2)
        | (go_at_call 44; refine w1'.mono ?_; rintro e W2 ⟨rfl, hB2, hb2⟩; obtain ⟨f0, f1, f2⟩ := three_cells (by decide) hbl (H1.out.1.trans hb2); rw [List.append_assoc] at hB2; have H2 : Hid (Wk B b w W2) := HW.out.trans (H1.out.1.trans hb2); have w2' := w2 W2 _ (by have := H1.out.2; simp only [List.length_append, List.length_cons, List.length_nil]; omega) hB2 H2.out; clear w1' w2 hB2 hb2)
        | (go_at_call 47; refine w2'.mono ?_; rintro e W3 ⟨rfl, hB3, hb3⟩; rw [List.append_assoc] at hB3; have H3 : Hid (Wk B b w W3) := H2.out.trans hb3; have w3' := w3 W3 _ (by have := H1.out.2; have := HQ.out; simp only [List.length_append, List.length_cons, List.length_nil]; omega) hB3 H3.out; clear w2' w3 hB3 hb3)
        | (go_at_call 44; refine w3'.mono ?_; rintro e W4 ⟨rfl, hB4, hb4⟩))
      go_ret
      refine ⟨rfl, cs ++ (32 :: (ql ++ [46])), by simpa using hB4, fun _ => rfl, ?_, H3.out.trans hb4⟩
      have := H1.out.2
      have := HQ.out
      simp only [List.length_append, List.length_cons, List.length_nil]
      omega
    · rw [decide_eq_false hf] at hcs ⊢
      generalize (dl ++ _) = tx
      clear hdb hf w1
      go_enter Tryz.func27, Tryz.ntmps27
      go_wp2_with (first
        | (go_at_call 45; refine hd.mono ?_; rintro e W1 ⟨rfl, cs, hB1, hcs1, hcl, hb1⟩; obtain ⟨d0, d1, d2⟩ := three_cells (by decide) hbl hb1)
        | (go_at_call 46; refine (hcs _).mono ?_; rintro e w' ⟨rfl, hw'⟩; have hw2 := hw'.symm; subst hw2))
      go_ret
      exact ⟨rfl, cs, hB1, (fun h => nomatch h), by omega, HW.out.trans hb1⟩
set_option maxRecDepth 100000 in
set_option maxHeartbeats 2000000 in
theorem writeOutput_any {B b : Nat} {w : World} {bs : List UInt8} (h : Bld B b w bs) (x : Oup) (hT : Sure B b w Tabs) (hlen : bs.length + 4300 ≤ 140737488355328) (hBw : B ≤ w.heap.size) :
    Calls Tryz.prog 30 #[.pointer (some ⟨b, 0, none⟩), x.v] w (Wrote B b w bs x.ok x.txt 4300) := by
  obtain ⟨p, ar⟩ := x
  have HW : Hid (Wk B b w (w.alloc (.cells #[.string p, .int .i64 ar] 41))) := Wk.new hBw _
  have hB0 := h.stay (Stay.new w (.cells #[.string p, .int .i64 ar] 41))
  have hd := writeDeclared_any hB0 ⟨#[111, 117, 116, 112, 117, 116, 32]⟩ p ar (hT.next HW.out).now (by omega) (by decide) (Nat.le_trans hBw HW.out.size)
  rw [show (⟨#[111, 117, 116, 112, 117, 116, 32]⟩ : ByteArray).data.toList = [111, 117, 116, 112, 117, 116, 32] from rfl] at hd
  have w1 := fun (W : World) (cs : List UInt8) (hcs : cs.length ≤ 100) (hBW : Bld B b W (bs ++ cs)) (hWW : Wk B b w W) => writeByteK hBW 46 (by rw [List.length_append]; omega) (Nat.le_trans hBw hWW.size)
  rw [show ((UInt8.toNat 46 : Nat) : Int) = 46 from rfl] at w1
  unfold Oup.v Oup.ok Oup.txt
  dsimp only
  clear h hT hB0
  generalize decL [111, 117, 116, 112, 117, 116, 32] p ar = dl at *
  generalize decB p ar = ok at *
  go_enter Tryz.func30, Tryz.ntmps30
  go_wp2_with (first
    | (go_at_call 45; refine hd.mono ?_; rintro e W1 ⟨rfl, cs, hB1, hcs1, hcl, hb1⟩; have w1' := w1 W1 cs hcl hB1 (HW.out.trans hb1); have H1 : Hid (Wk B b w W1 ∧ (ok = true → cs = dl) ∧ cs.length ≤ 100) := ⟨HW.out.trans hb1, hcs1, hcl⟩; clear hd w1 hB1 hcs1 hcl hb1)
    | (go_at_call 44; refine w1'.mono ?_; rintro e W2 ⟨rfl, hB2, hb2⟩))
  go_ret
  refine ⟨rfl, cs ++ [46], by simpa using hB2, (fun h => by rw [H1.out.2.1 h]), ?_, H1.out.1.trans hb2⟩
  have := H1.out.2.2
  simp only [List.length_append, List.length_cons, List.length_nil]
  omega
end Go.Proofs.YtiobhadchakoiaaGreatDoor
