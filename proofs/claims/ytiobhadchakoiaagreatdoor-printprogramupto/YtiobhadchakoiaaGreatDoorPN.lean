/- Literals: writeLiteral. -/
import Derived.Test.YtiobhadchakoiaaGreatDoorPM
import Derived.Laws.StructEq
namespace Go.Proofs.YtiobhadchakoiaaGreatDoor
open Go.RowKit Go.Maps

/-- Nothing is in it. -/
def Tm.zero (t : Tm) : Bool := (t.var == false) && (t.text.toList == (⟨#[]⟩ : ByteArray).toList)
def Li.ok (x : Li) : Bool :=
  if x.kind = 1 ∨ x.kind = 2 then x.left.zero && x.right.zero && x.atom.ok
  else if x.kind = 3 then x.atom.pred.toList.isEmpty && decide (x.atom.ts.length = 0) && x.left.ok && x.right.ok
  else false
def Li.txt (x : Li) : List UInt8 :=
  if x.kind = 1 then x.atom.txt else if x.kind = 2 then [110, 111, 116, 32] ++ x.atom.txt else x.left.txt ++ ([32, 33, 61, 32] ++ x.right.txt)

theorem two_sure {B b : Nat} {w : World} {va1 va2 : Bool} {s1 s2 : ByteArray} (hb : b < w.heap.size) :
    Sure B b (w.alloc (.cells #[.bool va1, .string s1, .bool va2, .string s2] 54)) (fun W => TmsS W (some ⟨w.heap.size, 0, none⟩) w.heap.size 0 [⟨va1, s1⟩, ⟨va2, s2⟩]) := by
  intro W hW
  have hbx := box_kept hb (by decide) hW
  refine ⟨fun _ => rfl, fun j hj => ?_⟩
  match j, hj with
  | 0, _ => exact ⟨by rw [Lib.cell_of_heap hbx]; rfl, by rw [Lib.cell_of_heap hbx]; rfl⟩
  | 1, _ => exact ⟨by rw [Lib.cell_of_heap hbx]; rfl, by rw [Lib.cell_of_heap hbx]; rfl⟩

/-- A literal's cells, boxed, behind a writer. -/
theorem lit_cells {B b : Nat} {w W : World} {c0 c1 c2 c3 c4 c5 c6 : Value} (hb : b < w.heap.size) (h : Wk B b (w.alloc (.cells #[c0, c1, c2, c3, c4, c5, c6] 57)) W) :
    W.cell? ⟨w.heap.size, 0, none⟩ = some c0 ∧ W.cell? ⟨w.heap.size, 1, none⟩ = some c1 ∧ W.cell? ⟨w.heap.size, 2, none⟩ = some c2 ∧ W.cell? ⟨w.heap.size, 3, none⟩ = some c3 ∧ W.cell? ⟨w.heap.size, 4, none⟩ = some c4 ∧ W.cell? ⟨w.heap.size, 5, none⟩ = some c5 ∧ W.cell? ⟨w.heap.size, 6, none⟩ = some c6 := by
  have hbx := box_kept hb (by decide) h
  refine ⟨?_, ?_, ?_, ?_, ?_, ?_, ?_⟩ <;> (rw [Lib.cell_of_heap hbx]; rfl)

set_option maxRecDepth 100000 in
set_option maxHeartbeats 4000000 in
theorem writeLiteral_any {B b : Nat} {w : World} {bs : List UInt8} (h : Bld B b w bs) (x : Li) (hM : Sure B b w x.atom.In) (hT : Sure B b w Tabs) (hlen : bs.length + 66010 ≤ 140737488355328) (hBw : B ≤ w.heap.size) :
    Calls Tryz.prog 52 #[.pointer (some ⟨b, 0, none⟩), x.v] w (Wrote B b w bs x.ok x.txt 66010) := by
  obtain ⟨k, ⟨p, a, bk, off, cap, ts⟩, ⟨va1, s1⟩, ⟨va2, s2⟩⟩ := x
  have hbl := h.lt
  obtain ⟨o, ho⟩ : ∃ o : Obj, o = .cells #[.int .i64 k, .string p, .slice a ts.length cap, .bool va1, .string s1, .bool va2, .string s2] 57 := ⟨_, rfl⟩
  have HW : Hid (Wk B b w (w.alloc o)) := Wk.new hBw _
  have HB : Hid (Bld B b (w.alloc o) bs) := h.stay (Stay.new w o)
  have HM : Hid (Sure B b w (At.In ⟨p, a, bk, off, cap, ts⟩)) := hM
  have HT : Hid (Sure B b w Tabs) := hT
  have hws := writeStringK HB.out ⟨#[110, 111, 116, 32]⟩ (by show bs.length + 4 ≤ _; omega) (Nat.le_trans hBw HW.out.size)
  rw [show (⟨#[110, 111, 116, 32]⟩ : ByteArray).data.toList = [110, 111, 116, 32] from rfl] at hws
  have hwa := fun (W : World) (cs : List UInt8) (hcs : cs.length ≤ 4) (hBW : Bld B b W (bs ++ cs)) (hWW : Wk B b w W) => writeAtom_any hBW ⟨p, a, bk, off, cap, ts⟩ (HM.out.next hWW) (HT.out.next hWW) (by rw [List.length_append]; omega) (Nat.le_trans hBw hWW.size)
  have hwa0 := hwa _ [] (by simp) (by simpa using HB.out) HW.out
  have e1 := fun W => eqlTm va1 false s1 ⟨#[]⟩ W
  have e2 := fun W => eqlTm va2 false s2 ⟨#[]⟩ W
  unfold Li.ok Li.txt Li.v Tm.zero
  dsimp only
  generalize ((va1 == false) && (s1.toList == (⟨#[]⟩ : ByteArray).toList)) = z1 at *
  generalize ((va2 == false) && (s2.toList == (⟨#[]⟩ : ByteArray).toList)) = z2 at *
  rw [List.append_nil] at hwa0
  unfold At.v At.sl at *
  dsimp only at *
  subst ho
  clear h hM hT
  by_cases h2 : k = 2
  · subst h2
    rw [if_pos (.inr rfl), if_neg (by decide), if_pos rfl]
    clear hwa0
    cases z1
    · simp only [Bool.false_and]
      go_enter Tryz.func52, Tryz.ntmps52
      go_wp2_with (first
        | (go_at_call 42; refine hws.mono ?_; rintro e W1 ⟨rfl, hB2, hb2⟩; obtain ⟨d0, d1, d2, d3, d4, d5, d6⟩ := lit_cells hbl hb2; have hwa1 := hwa W1 _ (by decide) hB2 (HW.out.trans hb2); have H1 : Hid (Wk B b w W1 ∧ Bld B b W1 (bs ++ [110, 111, 116, 32])) := ⟨HW.out.trans hb2, hB2⟩; clear hwa hws hb2 hB2))
      go_ret
      exact ⟨rfl, _, H1.out.2, (fun h => nomatch h), by simp, H1.out.1⟩
    · cases z2
      · simp only [Bool.false_and, Bool.and_false]
        go_enter Tryz.func52, Tryz.ntmps52
        go_wp2_with (first
          | (go_at_call 42; refine hws.mono ?_; rintro e W1 ⟨rfl, hB2, hb2⟩; obtain ⟨d0, d1, d2, d3, d4, d5, d6⟩ := lit_cells hbl hb2; have hwa1 := hwa W1 _ (by decide) hB2 (HW.out.trans hb2); have H1 : Hid (Wk B b w W1 ∧ Bld B b W1 (bs ++ [110, 111, 116, 32])) := ⟨HW.out.trans hb2, hB2⟩; clear hwa hws hb2 hB2))
        go_ret
        exact ⟨rfl, _, H1.out.2, (fun h => nomatch h), by simp, H1.out.1⟩
      · simp only [Bool.true_and]
        generalize At.ok ⟨p, a, bk, off, cap, ts⟩ = ok at *
        generalize At.txt ⟨p, a, bk, off, cap, ts⟩ = tx at *
        generalize ts.length = n at *
        go_enter Tryz.func52, Tryz.ntmps52
        go_wp2_with (first
          | (go_at_call 42; refine hws.mono ?_; rintro e W1 ⟨rfl, hB2, hb2⟩; obtain ⟨d0, d1, d2, d3, d4, d5, d6⟩ := lit_cells hbl hb2; have hwa1 := hwa W1 _ (by decide) hB2 (HW.out.trans hb2); have H1 : Hid (Wk B b w W1 ∧ Bld B b W1 (bs ++ [110, 111, 116, 32])) := ⟨HW.out.trans hb2, hB2⟩; clear hwa hws hb2 hB2)
          | (go_at_call 50; refine hwa1.mono ?_; rintro e W2 ⟨rfl, cs, hB3, hcs, hcl, hb3⟩))
        go_ret
        exact ⟨rfl, [110, 111, 116, 32] ++ cs, by simpa using hB3, fun h => by rw [hcs h]; rfl, by simp only [List.length_append, List.length_cons, List.length_nil]; omega, H1.out.1.trans hb3⟩
  by_cases h1 : k = 1
  · subst h1
    rw [if_pos (.inl rfl), if_pos rfl]
    clear hwa hws
    cases z1
    · simp only [Bool.false_and]
      go_enter Tryz.func52, Tryz.ntmps52
      go_wp2_with fail
      go_ret
      exact ⟨rfl, [], by simpa using HB.out, (fun h => nomatch h), by simp, HW.out⟩
    · cases z2
      · simp only [Bool.false_and, Bool.and_false]
        go_enter Tryz.func52, Tryz.ntmps52
        go_wp2_with fail
        go_ret
        exact ⟨rfl, [], by simpa using HB.out, (fun h => nomatch h), by simp, HW.out⟩
      · simp only [Bool.true_and]
        generalize At.ok ⟨p, a, bk, off, cap, ts⟩ = ok at *
        generalize At.txt ⟨p, a, bk, off, cap, ts⟩ = tx at *
        generalize ts.length = n at *
        go_enter Tryz.func52, Tryz.ntmps52
        go_wp2_with (first
          | (go_at_call 50; refine hwa0.mono ?_; rintro e W2 ⟨rfl, cs, hB3, hcs, hcl, hb3⟩))
        go_ret
        exact ⟨rfl, cs, hB3, hcs, by omega, HW.out.trans hb3⟩
  rw [if_neg (fun h => h.elim h1 h2), if_neg h1, if_neg h2]
  have k2 : (k == 2) = false := by simp [h2]
  have k1 : (k == 1) = false := by simp [h1]
  clear h1 h2 hwa0 hwa hws e1 e2
  by_cases h3 : k = 3
  · subst h3
    rw [if_pos rfl]
    cases hpe : p.toList.isEmpty
    · simp only [Bool.false_and]
      generalize (Tm.txt ⟨va1, s1⟩ ++ _) = tx
      go_enter Tryz.func52, Tryz.ntmps52
      go_wp2_with fail
      go_ret
      exact ⟨rfl, [], by simpa using HB.out, (fun h => nomatch h), by simp, HW.out⟩
    · by_cases h0 : ts.length = 0
      · rw [decide_eq_true h0]
        simp only [Bool.true_and]
        have h0b : ((ts.length : Int) == 0) = true := by simp [h0]
        have hw2 := Wk.new (B := B) (b := b) (w := w.alloc (.cells #[.int .i64 3, .string p, .slice a ts.length cap, .bool va1, .string s1, .bool va2, .string s2] 57)) (Nat.le_trans hBw HW.out.size) (.cells #[.bool va1, .string s1, .bool va2, .string s2] 54)
        have hsu := two_sure (B := B) (b := b) (w := w.alloc (.cells #[.int .i64 3, .string p, .slice a ts.length cap, .bool va1, .string s1, .bool va2, .string s2] 57)) (va1 := va1) (s1 := s1) (va2 := va2) (s2 := s2) (Nat.lt_of_lt_of_le hbl HW.out.size)
        rw [show (w.alloc (.cells #[.int .i64 3, .string p, .slice a ts.length cap, .bool va1, .string s1, .bool va2, .string s2] 57)).heap.size = w.heap.size + 1 from by simp] at hsu
        have hwl := writeListT_any (HB.out.stay (Stay.new _ (.cells #[.bool va1, .string s1, .bool va2, .string s2] 54))) _ _ _ 2 _ hsu ⟨#[32, 33, 61, 32]⟩ (HT.out.next (HW.out.trans hw2)) (by
          rw [show (⟨#[32, 33, 61, 32]⟩ : ByteArray).size = 4 from rfl]; simp only [List.length_cons, List.length_nil]; omega) (Nat.le_trans hBw (HW.out.trans hw2).size)
        rw [show (⟨#[32, 33, 61, 32]⟩ : ByteArray).size = 4 from rfl, show (⟨#[32, 33, 61, 32]⟩ : ByteArray).data.toList = [32, 33, 61, 32] from rfl] at hwl
        simp only [List.length_cons, List.length_nil, List.all_cons, List.all_nil, Bool.and_true, List.map_cons, List.map_nil, catL, List.flatMap_cons, List.flatMap_nil, List.append_nil] at hwl
        have HW2 : Hid (Wk B b w ((w.alloc (.cells #[.int .i64 3, .string p, .slice a ts.length cap, .bool va1, .string s1, .bool va2, .string s2] 57)).alloc (.cells #[.bool va1, .string s1, .bool va2, .string s2] 54))) := HW.out.trans hw2
        generalize Tm.ok ⟨va1, s1⟩ = o1 at *
        generalize Tm.ok ⟨va2, s2⟩ = o2 at *
        generalize (Tm.txt ⟨va1, s1⟩ ++ _) = tx at *
        generalize (o1 && o2) = ok at *
        generalize ts.length = n at *
        clear h0 hw2 hsu
        go_enter Tryz.func52, Tryz.ntmps52
        go_wp2_with (first
          | (go_at_call 63; refine hwl.mono ?_; rintro e W2 ⟨rfl, cs, hB3, hcs, hcl, hb3⟩))
        go_ret
        exact ⟨rfl, cs, hB3, hcs, by omega, HW2.out.trans hb3⟩
      · rw [decide_eq_false h0]
        simp only [Bool.false_and, Bool.and_false]
        have h0b : ((ts.length : Int) == 0) = false := by simp [h0]
        generalize (Tm.txt ⟨va1, s1⟩ ++ _) = tx
        clear h0
        go_enter Tryz.func52, Tryz.ntmps52
        go_wp2_with fail
        go_ret
        exact ⟨rfl, [], by simpa using HB.out, (fun h => nomatch h), by simp, HW.out⟩
  · rw [if_neg h3]
    have k3 : (k == 3) = false := by simp [h3]
    clear h3
    generalize (Tm.txt ⟨va1, s1⟩ ++ _) = tx
    go_enter Tryz.func52, Tryz.ntmps52
    go_wp2_with fail
    go_ret
    exact ⟨rfl, [], by simpa using HB.out, (fun h => nomatch h), by simp, HW.out⟩
end Go.Proofs.YtiobhadchakoiaaGreatDoor
