/- Atoms: writeAtom. -/
import Derived.Test.YtiobhadchakoiaaGreatDoorPL
namespace Go.Proofs.YtiobhadchakoiaaGreatDoor
open Go.RowKit Go.Maps

def At.ok (x : At) : Bool := nameB x.pred.data.toList && decide (x.ts.length ≤ 16) && x.ts.all Tm.ok
def At.txt (x : At) : List UInt8 := x.pred.data.toList ++ (if x.ts.length = 0 then [] else 40 :: (catL [44, 32] (x.ts.map Tm.txt) ++ [41]))

set_option maxRecDepth 100000 in
set_option maxHeartbeats 4000000 in
theorem writeAtom_any {B b : Nat} {w : World} {bs : List UInt8} (h : Bld B b w bs) (x : At) (hM : Sure B b w x.In) (hT : Sure B b w Tabs) (hlen : bs.length + 66000 ≤ 140737488355328) (hBw : B ≤ w.heap.size) :
    Calls Tryz.prog 50 #[.pointer (some ⟨b, 0, none⟩), x.v] w (Wrote B b w bs x.ok x.txt 66000) := by
  obtain ⟨p, a, bk, off, cap, ts⟩ := x
  have hbl := h.lt
  have HW : Hid (Wk B b w (w.alloc (.cells #[.string p, .slice a ts.length cap] 45))) := Wk.new hBw _
  have hT1 := hT.next HW.out
  have hn := Name_any p _ hT1.now
  have hB1 := h.stay (Stay.new w (.cells #[.string p, .slice a ts.length cap] 45))
  have HB : Hid (Bld B b (w.alloc (.cells #[.string p, .slice a ts.length cap] 45)) bs) := hB1
  have hBw1 : B ≤ (w.alloc (.cells #[.string p, .slice a ts.length cap] 45)).heap.size := Nat.le_trans hBw HW.out.size
  have HM : Hid (Sure B b w (fun W => TmsS W a bk off ts)) := hM
  have HT : Hid (Sure B b w Tabs) := hT
  unfold At.v At.sl At.ok At.txt
  dsimp only
  have hpl : p.data.toList.length = p.size := by simp
  clear h hM hT hT1
  cases hnb : nameB p.data.toList
  · rw [hnb] at hn
    simp only [Bool.false_and]
    generalize p.data.toList ++ _ = tx
    clear hnb
    go_enter Tryz.func50, Tryz.ntmps50
    go_wp2_with (first
      | (go_at_call 60; refine hn.mono ?_; rintro e w' ⟨rfl, hw'⟩; subst hw'))
    go_ret
    exact ⟨rfl, [], by simpa using HB.out, (fun h => nomatch h), by simp, HW.out⟩
  · rw [hnb] at hn
    have hp64 := (nameB_len hnb).2
    by_cases h16 : ts.length ≤ 16
    · rw [decide_eq_true h16]
      simp only [Bool.true_and, Bool.and_self]
      have hws := writeStringK hB1 p (by omega) hBw1
      have h16i : ¬ (16 : Int) < (ts.length : Int) := by omega
      by_cases h0 : ts.length = 0
      · have HE : Hid (ts = []) := List.length_eq_zero_iff.1 h0
        have h0b : ((ts.length : Int) == 0) = true := by simp [h0]
        simp only [if_pos h0, List.append_nil]
        have HA : Hid (ts.all Tm.ok = true) := by rw [HE.out]; rfl
        clear h0 hnb
        go_enter Tryz.func50, Tryz.ntmps50
        go_wp2_with (first
          | (go_at_call 60; refine hn.mono ?_; rintro e w' ⟨rfl, hw'⟩; subst hw')
          | (go_at_call 42; refine hws.mono ?_; rintro e W1 ⟨rfl, hB2, hb2⟩; have hbx := box_kept hbl (by decide) hb2; have d0 : W1.cell? ⟨w.heap.size, 0, none⟩ = some (.string p) := (by rw [Lib.cell_of_heap hbx]; rfl); have d1 : W1.cell? ⟨w.heap.size, 1, none⟩ = some (.slice a ts.length cap) := (by rw [Lib.cell_of_heap hbx]; rfl); clear hbx))
        go_ret
        exact ⟨by rw [HA.out]; rfl, _, hB2, fun _ => rfl, by omega, HW.out.trans hb2⟩
      · have h0b : ((ts.length : Int) == 0) = false := by simp [h0]
        simp only [if_neg h0]
        have hwb := fun (W : World) (hBW : Bld B b W (bs ++ p.data.toList)) (hWW : Wk B b w W) => writeByteK hBW 40 (by rw [List.length_append]; omega) (Nat.le_trans hBw hWW.size)
        have hwl := fun (W : World) (hBW : Bld B b W (bs ++ p.data.toList ++ [40])) (hWW : Wk B b w W) => writeListT_any hBW a bk off cap ts (HM.out.next hWW) ⟨#[44, 32]⟩ (HT.out.next hWW) (by
          rw [List.length_append, List.length_append, show (⟨#[44, 32]⟩ : ByteArray).size = 2 from rfl, List.length_cons, List.length_nil]; omega) (Nat.le_trans hBw hWW.size)
        have hwc := fun (W : World) (cs : List UInt8) (hcs : cs.length ≤ ts.length * 4100) (hBW : Bld B b W (bs ++ p.data.toList ++ [40] ++ cs)) (hWW : Wk B b w W) => writeByteK hBW 41 (by rw [List.length_append, List.length_append, List.length_append, List.length_cons, List.length_nil]; omega) (Nat.le_trans hBw hWW.size)
        rw [show ((UInt8.toNat 40 : Nat) : Int) = 40 from rfl] at hwb
        rw [show ((UInt8.toNat 41 : Nat) : Int) = 41 from rfl] at hwc
        rw [show (⟨#[44, 32]⟩ : ByteArray).size = 2 from rfl, show (⟨#[44, 32]⟩ : ByteArray).data.toList = [44, 32] from rfl] at hwl
        have H16 : Hid (ts.length ≤ 16 ∧ p.data.toList.length ≤ 64) := ⟨h16, hp64⟩
        generalize ts.all Tm.ok = ok at *
        generalize catL [44, 32] (ts.map Tm.txt) = tx at *
        generalize ts.length = n at *
        clear h0 hnb h16 hp64
        go_enter Tryz.func50, Tryz.ntmps50
        go_wp2_with (first
          | (go_at_call 60; refine hn.mono ?_; rintro e w' ⟨rfl, hw'⟩; subst hw')
          | (go_at_call 42; refine hws.mono ?_; rintro e W1 ⟨rfl, hB2, hb2⟩; have hbx := box_kept hbl (by decide) hb2; have d0 : W1.cell? ⟨w.heap.size, 0, none⟩ = some (.string p) := (by rw [Lib.cell_of_heap hbx]; rfl); have d1 : W1.cell? ⟨w.heap.size, 1, none⟩ = some (.slice a n cap) := (by rw [Lib.cell_of_heap hbx]; rfl); have hwb1 := hwb W1 hB2 (HW.out.trans hb2); have H1 : Hid (Wk B b (w.alloc (.cells #[.string p, .slice a n cap] 45)) W1) := hb2; clear hbx hwb hws hb2 hB2)
          | (go_at_call 44; refine hwb1.mono ?_; rintro e W2 ⟨rfl, hB3, hb3⟩; have hbx := box_kept hbl (by decide) (H1.out.trans hb3); have d2 : W2.cell? ⟨w.heap.size, 0, none⟩ = some (.string p) := (by rw [Lib.cell_of_heap hbx]; rfl); have d3 : W2.cell? ⟨w.heap.size, 1, none⟩ = some (.slice a n cap) := (by rw [Lib.cell_of_heap hbx]; rfl); have hwl1 := hwl W2 hB3 (HW.out.trans (H1.out.trans hb3)); have H2 : Hid (Wk B b w W2) := HW.out.trans (H1.out.trans hb3); clear hbx hwl hwb1 hb3 hB3)
          | (go_at_call 63; refine hwl1.mono ?_; rintro e W3 ⟨rfl, cs, hB4, hcs, hcl, hb4⟩; have hwc1 := hwc W3 cs hcl hB4 (H2.out.trans hb4); have H3 : Hid (Wk B b w W3 ∧ (ok = true → cs = tx) ∧ cs.length ≤ n * 4100) := ⟨H2.out.trans hb4, hcs, hcl⟩; clear hwc hwl1 hB4 hcs hcl hb4)
          | (go_at_call 44; refine hwc1.mono ?_; rintro e W4 ⟨rfl, hB5, hb5⟩))
        go_ret
        refine ⟨rfl, p.data.toList ++ (40 :: (cs ++ [41])), by simpa using hB5, ?_, ?_, H3.out.1.trans hb5⟩
        · intro hok
          rw [H3.out.2.1 hok]
        · have h1 := H3.out.2.2
          have h2 := H16.out.1
          have h3 := H16.out.2
          rw [List.length_append, List.length_cons, List.length_append, List.length_cons, List.length_nil]
          omega
    · rw [decide_eq_false h16]
      simp only [Bool.and_false, Bool.false_and]
      have h16i : (16 : Int) < (ts.length : Int) := by omega
      generalize p.data.toList ++ _ = tx
      clear hnb
      go_enter Tryz.func50, Tryz.ntmps50
      go_wp2_with (first
        | (go_at_call 60; refine hn.mono ?_; rintro e w' ⟨rfl, hw'⟩; subst hw'))
      go_ret
      exact ⟨rfl, [], by simpa using HB.out, (fun h => nomatch h), by simp, HW.out⟩
end Go.Proofs.YtiobhadchakoiaaGreatDoor
