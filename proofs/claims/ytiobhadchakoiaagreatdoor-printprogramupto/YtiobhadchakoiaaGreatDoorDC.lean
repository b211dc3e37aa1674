/- line; lists of inputs, outputs, rules written. Written by tools/dc.py. -/
import Derived.Test.YtiobhadchakoiaaGreatDoorDB
import Derived.Test.YtiobhadchakoiaaGreatDoorCR
namespace Go.Proofs.YtiobhadchakoiaaGreatDoor
open Go.RowKit Go.Maps

theorem n_cells {B b : Nat} {w W : World} {cs : Array Value} {t : TypeId} (ht : t ≠ 5) (hb : b < w.heap.size) (h : Wk B b (w.alloc (.cells cs t)) W) (i : Nat) (v : Value) (hv : cs[i]? = some v) : W.cell? ⟨w.heap.size, i, none⟩ = some v := by
  rw [Lib.cell_of_heap (box_kept hb ht h)]; exact hv

/- inputs -/
def Inp.line (x : Inp) : List UInt8 := x.txt ++ [10]
set_option maxRecDepth 100000 in
theorem lineI_any (w : World) : Calls Tryz.prog 26 #[.func (.func 27) #[] #[]] w fun e w' => e = .returned (.func (.func 43) #[] #[.pointer (some ⟨w.heap.size, 0, none⟩)]) ∧ w' = w.alloc (.cells #[.func (.func 27) #[] #[]] 76) := by
  go_enter Tryz.func26, Tryz.ntmps26
  go_wp2
  go_ret
  exact ⟨rfl, rfl⟩
set_option maxRecDepth 100000 in
set_option maxHeartbeats 2000000 in
theorem lineI1_any {B b : Nat} {w : World} {bs : List UInt8} (h : Bld B b w bs) (x : Inp) (bx : Nat) (hx : Sure B b w (fun W => W.cell? ⟨bx, 0, none⟩ = some (.func (.func 27) #[] #[]))) (hT : Sure B b w Tabs) (hlen : bs.length + 4301 ≤ 140737488355328) (hBw : B ≤ w.heap.size) :
    Calls Tryz.prog 43 #[.pointer (some ⟨b, 0, none⟩), x.v, .pointer (some ⟨bx, 0, none⟩)] w (Wrote B b w bs x.ok x.line 4301) := by
  have HW : Hid (Wk B b w (w.alloc (.cells (encInp x).toArray 37))) := Wk.new hBw _
  have hB0 := h.stay (Stay.new w (.cells (encInp x).toArray 37))
  have hw := writeInput_any hB0 x (hT.next HW.out) (by omega) (Nat.le_trans hBw HW.out.size)
  have w1 := fun (W : World) (cs : List UInt8) (hcs : cs.length ≤ 4300) (hBW : Bld B b W (bs ++ cs)) (hWW : Wk B b w W) => writeByteK hBW 10 (by rw [List.length_append]; omega) (Nat.le_trans hBw hWW.size)
  rw [show ((UInt8.toNat 10 : Nat) : Int) = 10 from rfl] at w1
  have c0 := hx _ HW.out
  have hxl := World.block_lt_of_cell? w _ hx.now
  dsimp only at hxl
  unfold Inp.line
  obtain ⟨ok, hok⟩ : ∃ ok, x.ok = ok := ⟨_, rfl⟩
  obtain ⟨tx, htx⟩ : ∃ tx, x.txt = tx := ⟨_, rfl⟩
  rw [hok, htx] at hw ⊢
  clear hok htx
  obtain ⟨p, ar, f⟩ := x
  unfold Inp.v at *
  unfold encInp at *
  dsimp only at *
  clear h hT hB0 hx
  go_enter Tryz.func43, Tryz.ntmps43
  go_wp2_with (first
    | (go_at_call 27; refine hw.mono ?_; rintro e W1 ⟨rfl, cs, hB1, hcs1, hcl, hb1⟩; have w1' := w1 W1 cs hcl hB1 (HW.out.trans hb1); have H1 : Hid (Wk B b w W1 ∧ (ok = true → cs = tx) ∧ cs.length ≤ 4300) := ⟨HW.out.trans hb1, hcs1, hcl⟩; clear hw w1 hB1 hcs1 hcl hb1)
    | (go_at_call 44; refine w1'.mono ?_; rintro e W2 ⟨rfl, hB2, hb2⟩))
  go_ret
  refine ⟨rfl, cs ++ [10], by simpa using hB2, (fun h => by rw [H1.out.2.1 h]), ?_, H1.out.1.trans hb2⟩
  have := H1.out.2.2
  simp only [List.length_append, List.length_cons, List.length_nil]
  omega

/- outputs -/
def Oup.line (x : Oup) : List UInt8 := x.txt ++ [10]
set_option maxRecDepth 100000 in
theorem lineO_any (w : World) : Calls Tryz.prog 29 #[.func (.func 30) #[] #[]] w fun e w' => e = .returned (.func (.func 48) #[] #[.pointer (some ⟨w.heap.size, 0, none⟩)]) ∧ w' = w.alloc (.cells #[.func (.func 30) #[] #[]] 80) := by
  go_enter Tryz.func29, Tryz.ntmps29
  go_wp2
  go_ret
  exact ⟨rfl, rfl⟩
set_option maxRecDepth 100000 in
set_option maxHeartbeats 2000000 in
theorem lineO1_any {B b : Nat} {w : World} {bs : List UInt8} (h : Bld B b w bs) (x : Oup) (bx : Nat) (hx : Sure B b w (fun W => W.cell? ⟨bx, 0, none⟩ = some (.func (.func 30) #[] #[]))) (hT : Sure B b w Tabs) (hlen : bs.length + 4301 ≤ 140737488355328) (hBw : B ≤ w.heap.size) :
    Calls Tryz.prog 48 #[.pointer (some ⟨b, 0, none⟩), x.v, .pointer (some ⟨bx, 0, none⟩)] w (Wrote B b w bs x.ok x.line 4301) := by
  have HW : Hid (Wk B b w (w.alloc (.cells (encOup x).toArray 41))) := Wk.new hBw _
  have hB0 := h.stay (Stay.new w (.cells (encOup x).toArray 41))
  have hw := writeOutput_any hB0 x (hT.next HW.out) (by omega) (Nat.le_trans hBw HW.out.size)
  have w1 := fun (W : World) (cs : List UInt8) (hcs : cs.length ≤ 4300) (hBW : Bld B b W (bs ++ cs)) (hWW : Wk B b w W) => writeByteK hBW 10 (by rw [List.length_append]; omega) (Nat.le_trans hBw hWW.size)
  rw [show ((UInt8.toNat 10 : Nat) : Int) = 10 from rfl] at w1
  have c0 := hx _ HW.out
  have hxl := World.block_lt_of_cell? w _ hx.now
  dsimp only at hxl
  unfold Oup.line
  obtain ⟨ok, hok⟩ : ∃ ok, x.ok = ok := ⟨_, rfl⟩
  obtain ⟨tx, htx⟩ : ∃ tx, x.txt = tx := ⟨_, rfl⟩
  rw [hok, htx] at hw ⊢
  clear hok htx
  obtain ⟨p, ar⟩ := x
  unfold Oup.v at *
  unfold encOup at *
  dsimp only at *
  clear h hT hB0 hx
  go_enter Tryz.func48, Tryz.ntmps48
  go_wp2_with (first
    | (go_at_call 30; refine hw.mono ?_; rintro e W1 ⟨rfl, cs, hB1, hcs1, hcl, hb1⟩; have w1' := w1 W1 cs hcl hB1 (HW.out.trans hb1); have H1 : Hid (Wk B b w W1 ∧ (ok = true → cs = tx) ∧ cs.length ≤ 4300) := ⟨HW.out.trans hb1, hcs1, hcl⟩; clear hw w1 hB1 hcs1 hcl hb1)
    | (go_at_call 44; refine w1'.mono ?_; rintro e W2 ⟨rfl, hB2, hb2⟩))
  go_ret
  refine ⟨rfl, cs ++ [10], by simpa using hB2, (fun h => by rw [H1.out.2.1 h]), ?_, H1.out.1.trans hb2⟩
  have := H1.out.2.2
  simp only [List.length_append, List.length_cons, List.length_nil]
  omega

/- rules -/
def Ru.line (x : Ru) : List UInt8 := x.txt ++ [10]
set_option maxRecDepth 100000 in
theorem lineR_any (w : World) : Calls Tryz.prog 32 #[.func (.func 33) #[] #[]] w fun e w' => e = .returned (.func (.func 49) #[] #[.pointer (some ⟨w.heap.size, 0, none⟩)]) ∧ w' = w.alloc (.cells #[.func (.func 33) #[] #[]] 84) := by
  go_enter Tryz.func32, Tryz.ntmps32
  go_wp2
  go_ret
  exact ⟨rfl, rfl⟩
set_option maxRecDepth 100000 in
set_option maxHeartbeats 2000000 in
theorem lineR1_any {B b : Nat} {w : World} {bs : List UInt8} (h : Bld B b w bs) (x : Ru) (bx : Nat) (hx : Sure B b w (fun W => W.cell? ⟨bx, 0, none⟩ = some (.func (.func 33) #[] #[]))) (hI : Sure B b w x.In) (hT : Sure B b w Tabs) (hlen : bs.length + 17000001 ≤ 140737488355328) (hBw : B ≤ w.heap.size) :
    Calls Tryz.prog 49 #[.pointer (some ⟨b, 0, none⟩), x.v, .pointer (some ⟨bx, 0, none⟩)] w (Wrote B b w bs x.ok x.line 17000001) := by
  have HW : Hid (Wk B b w (w.alloc (.cells (encRu x).toArray 48))) := Wk.new hBw _
  have hB0 := h.stay (Stay.new w (.cells (encRu x).toArray 48))
  have hw := writeRule_any hB0 x (hI.next HW.out) (hT.next HW.out) (by omega) (Nat.le_trans hBw HW.out.size)
  have w1 := fun (W : World) (cs : List UInt8) (hcs : cs.length ≤ 17000000) (hBW : Bld B b W (bs ++ cs)) (hWW : Wk B b w W) => writeByteK hBW 10 (by rw [List.length_append]; omega) (Nat.le_trans hBw hWW.size)
  rw [show ((UInt8.toNat 10 : Nat) : Int) = 10 from rfl] at w1
  have c0 := hx _ HW.out
  have hxl := World.block_lt_of_cell? w _ hx.now
  dsimp only at hxl
  unfold Ru.line
  obtain ⟨ok, hok⟩ : ∃ ok, x.ok = ok := ⟨_, rfl⟩
  obtain ⟨tx, htx⟩ : ∃ tx, x.txt = tx := ⟨_, rfl⟩
  rw [hok, htx] at hw ⊢
  clear hok htx
  obtain ⟨⟨p, ha, hb2, ho2, hcap, hts⟩, xa, xb, xo, xcap, xls⟩ := x
  unfold Ru.v At.sl at *
  unfold encRu At.sl at *
  dsimp only at *
  generalize hts.length = hn at *
  generalize xls.length = xn at *
  clear h hT hB0 hx hI
  go_enter Tryz.func49, Tryz.ntmps49
  go_wp2_with (first
    | (go_at_call 33; refine hw.mono ?_; rintro e W1 ⟨rfl, cs, hB1, hcs1, hcl, hb1⟩; have w1' := w1 W1 cs hcl hB1 (HW.out.trans hb1); have H1 : Hid (Wk B b w W1 ∧ (ok = true → cs = tx) ∧ cs.length ≤ 17000000) := ⟨HW.out.trans hb1, hcs1, hcl⟩; clear hw w1 hB1 hcs1 hcl hb1)
    | (go_at_call 44; refine w1'.mono ?_; rintro e W2 ⟨rfl, hB2, hb2⟩))
  go_ret
  refine ⟨rfl, cs ++ [10], by simpa using hB2, (fun h => by rw [H1.out.2.1 h]), ?_, H1.out.1.trans hb2⟩
  have := H1.out.2.2
  simp only [List.length_append, List.length_cons, List.length_nil]
  omega
end Go.Proofs.YtiobhadchakoiaaGreatDoor
