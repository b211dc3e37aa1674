/- firstSign. -/
import Derived.Test.YtioafeckaeaopaaDoorXE
import Derived.Test.YtioafeckaeaopaaDoorXI
namespace Go.Proofs.YtioafeckaeaopaaDoor
open Go.RowKit Go.Maps

def signs : List (List UInt8) := [[40], [41], [44], [46], [47], [58, 45], [33, 61]]
/-- The first of some signs with which a text has bytes in common, and whether all of its bytes. -/
def signAt (l : List UInt8) : Nat → List (List UInt8) → Tok × Bool
  | _, [] => (tok0, false)
  | k, s :: r => if 0 < commonN l s then (⟨((8 + k : Nat) : Int), [], 0, commonN l s⟩, decide (commonN l s = s.length)) else signAt l (k + 1) r
def firstSignT (l : List UInt8) : Tok × Bool := signAt l 0 signs
theorem signAt_cons (l : List UInt8) (k : Nat) (s : List UInt8) (r : List (List UInt8)) : signAt l k (s :: r) = if 0 < commonN l s then (⟨((8 + k : Nat) : Int), [], 0, commonN l s⟩, decide (commonN l s = s.length)) else signAt l (k + 1) r := rfl

theorem stay_of_new {w w2 : World} {o : Obj} (h : Stay (w.alloc o) w2) : w2.heap[w.heap.size]? = some o := (h.block w.heap.size (by simp)).trans (heap_new w o)

set_option maxRecDepth 100000 in
set_option maxHeartbeats 4000000 in
theorem firstSign_any (s : ByteArray) (w : World) (hs : s.size ≤ 140737488355328) (hT : Tabs w) :
    Calls Tryd.prog 70 #[.string s] w fun e w' => e = .returned (.tuple #[(firstSignT s.data.toList).1.val, .bool (firstSignT s.data.toList).2]) ∧ Stay w w' := by
  obtain ⟨l, hl⟩ : ∃ l, s.data.toList = l := ⟨_, rfl⟩
  have hco := fun t W => common_any s t W hs
  rw [hl] at hco ⊢
  clear hl
  obtain ⟨r0, r1, r2, c0, c1, c2, c3, c4, c5, c6⟩ := hT.stay (Stay.new w (.cells #[.int .i64 0, .string ⟨#[]⟩, .int .i64 0, .int .i64 0] 25))
  clear r0 r1 r2
  have q0 : ∀ W : World, (Instr.index 91 (.agg #[.string ⟨#[40]⟩, .string ⟨#[41]⟩, .string ⟨#[44]⟩, .string ⟨#[46]⟩, .string ⟨#[47]⟩, .string ⟨#[58, 45]⟩, .string ⟨#[33, 61]⟩]) (.int .i64 0)).run Tryd.prog W = .ok (.string ⟨#[40]⟩) W := fun _ => by rfl
  have q1 : ∀ W : World, (Instr.index 91 (.agg #[.string ⟨#[40]⟩, .string ⟨#[41]⟩, .string ⟨#[44]⟩, .string ⟨#[46]⟩, .string ⟨#[47]⟩, .string ⟨#[58, 45]⟩, .string ⟨#[33, 61]⟩]) (.int .i64 1)).run Tryd.prog W = .ok (.string ⟨#[41]⟩) W := fun _ => by rfl
  have q2 : ∀ W : World, (Instr.index 91 (.agg #[.string ⟨#[40]⟩, .string ⟨#[41]⟩, .string ⟨#[44]⟩, .string ⟨#[46]⟩, .string ⟨#[47]⟩, .string ⟨#[58, 45]⟩, .string ⟨#[33, 61]⟩]) (.int .i64 2)).run Tryd.prog W = .ok (.string ⟨#[44]⟩) W := fun _ => by rfl
  have q3 : ∀ W : World, (Instr.index 91 (.agg #[.string ⟨#[40]⟩, .string ⟨#[41]⟩, .string ⟨#[44]⟩, .string ⟨#[46]⟩, .string ⟨#[47]⟩, .string ⟨#[58, 45]⟩, .string ⟨#[33, 61]⟩]) (.int .i64 3)).run Tryd.prog W = .ok (.string ⟨#[46]⟩) W := fun _ => by rfl
  have q4 : ∀ W : World, (Instr.index 91 (.agg #[.string ⟨#[40]⟩, .string ⟨#[41]⟩, .string ⟨#[44]⟩, .string ⟨#[46]⟩, .string ⟨#[47]⟩, .string ⟨#[58, 45]⟩, .string ⟨#[33, 61]⟩]) (.int .i64 4)).run Tryd.prog W = .ok (.string ⟨#[47]⟩) W := fun _ => by rfl
  have q5 : ∀ W : World, (Instr.index 91 (.agg #[.string ⟨#[40]⟩, .string ⟨#[41]⟩, .string ⟨#[44]⟩, .string ⟨#[46]⟩, .string ⟨#[47]⟩, .string ⟨#[58, 45]⟩, .string ⟨#[33, 61]⟩]) (.int .i64 5)).run Tryd.prog W = .ok (.string ⟨#[58, 45]⟩) W := fun _ => by rfl
  have q6 : ∀ W : World, (Instr.index 91 (.agg #[.string ⟨#[40]⟩, .string ⟨#[41]⟩, .string ⟨#[44]⟩, .string ⟨#[46]⟩, .string ⟨#[47]⟩, .string ⟨#[58, 45]⟩, .string ⟨#[33, 61]⟩]) (.int .i64 6)).run Tryd.prog W = .ok (.string ⟨#[33, 61]⟩) W := fun _ => by rfl
  go_enter Tryd.func70, Tryd.ntmps70
  go_wp2
  clear c0 c1 c2 c3 c4 c5 c6
  go_loopw [8] (fun i wr => Stay (w.alloc (.cells #[.int .i64 0, .string ⟨#[]⟩, .int .i64 0, .int .i64 0] 25)) wr ∧ ((i = .int .i64 0 ∧ firstSignT l = signAt l 0 [[40], [41], [44], [46], [47], [58, 45], [33, 61]]) ∨ (i = .int .i64 1 ∧ firstSignT l = signAt l 1 [[41], [44], [46], [47], [58, 45], [33, 61]]) ∨ (i = .int .i64 2 ∧ firstSignT l = signAt l 2 [[44], [46], [47], [58, 45], [33, 61]]) ∨ (i = .int .i64 3 ∧ firstSignT l = signAt l 3 [[46], [47], [58, 45], [33, 61]]) ∨ (i = .int .i64 4 ∧ firstSignT l = signAt l 4 [[47], [58, 45], [33, 61]]) ∨ (i = .int .i64 5 ∧ firstSignT l = signAt l 5 [[58, 45], [33, 61]]) ∨ (i = .int .i64 6 ∧ firstSignT l = signAt l 6 [[33, 61]]) ∨ (i = .int .i64 7 ∧ firstSignT l = signAt l 7 []))) (fun i _ => 7 - (intOf i).toNat)
  case atStart => exact ⟨Stay.refl _, .inl ⟨rfl, rfl⟩⟩
  case round =>
    obtain ⟨hst, ⟨rfl, hf⟩ | ⟨rfl, hf⟩ | ⟨rfl, hf⟩ | ⟨rfl, hf⟩ | ⟨rfl, hf⟩ | ⟨rfl, hf⟩ | ⟨rfl, hf⟩ | ⟨rfl, hf⟩⟩ := hrel
    · rw [signAt_cons] at hf
      have hc := hco ⟨#[40]⟩ wr
      dsimp only at hc
      have hle := (commonN_le l [40]).2
      have HF : Hid (firstSignT l = if 0 < commonN l [40] then (⟨((8 + 0 : Nat) : Int), [], 0, commonN l [40]⟩, decide (commonN l [40] = 1)) else signAt l 1 [[41], [44], [46], [47], [58, 45], [33, 61]]) := hf
      have HW : Hid (Stay (w.alloc (.cells #[.int .i64 0, .string ⟨#[]⟩, .int .i64 0, .int .i64 0] 25)) wr) := hst
      simp only [List.length_cons, List.length_nil] at hle
      generalize commonN l [40] = n at *
      clear hf hst hco
      by_cases hn : 0 < n
      · have hb : ((n : Int) == 1) = decide (n = 1) := by
          rw [Bool.eq_iff_iff]; simp; omega
        go_wp2_with (go_at_call 74; refine hc.mono ?_; rintro e w2 ⟨rfl, hs2⟩; have HW2 : Hid (Stay (w.alloc (.cells #[.int .i64 0, .string ⟨#[]⟩, .int .i64 0, .int .i64 0] 25)) w2) := HW.out.trans hs2; obtain ⟨a0, a1, a2, a3, a4, a5, a6, a7⟩ := four (stay_of_new HW2.out); clear hs2)
        rw [HF.out, if_pos hn]
        obtain ⟨t0, t1, t2, t3, -⟩ := four (set4 (stay_of_new HW2.out) (.int .i64 8) (.string ⟨#[]⟩) (.int .i64 0) (.int .i64 (n : Int)))
        refine bodyPost_ret (v := .tuple #[.agg #[.int .i64 8, .string ⟨#[]⟩, .int .i64 0, .int .i64 (n : Int)], .bool (decide (n = 1))]) (by simp [results, Tryd.results70, go_sem, t0, t1, t2, t3]) rfl ⟨rfl, ?_⟩
        repeat (refine stay_set ?_ (by simp) _)
        exact (Stay.new _ _).trans HW2.out
      · have hn0 : ¬ 0 < (n : Int) := by omega
        go_wp2_with (go_at_call 74; refine hc.mono ?_; rintro e w2 ⟨rfl, hs2⟩; have HW2 : Hid (Stay (w.alloc (.cells #[.int .i64 0, .string ⟨#[]⟩, .int .i64 0, .int .i64 0] 25)) w2) := HW.out.trans hs2; clear hs2)
        go_roundw
        case rel => exact ⟨HW2.out, .inr (.inl ⟨rfl, HF.out.trans (if_neg hn)⟩)⟩
        case measure => simp [intOf]
    · rw [signAt_cons] at hf
      have hc := hco ⟨#[41]⟩ wr
      dsimp only at hc
      have hle := (commonN_le l [41]).2
      have HF : Hid (firstSignT l = if 0 < commonN l [41] then (⟨((8 + 1 : Nat) : Int), [], 0, commonN l [41]⟩, decide (commonN l [41] = 1)) else signAt l 2 [[44], [46], [47], [58, 45], [33, 61]]) := hf
      have HW : Hid (Stay (w.alloc (.cells #[.int .i64 0, .string ⟨#[]⟩, .int .i64 0, .int .i64 0] 25)) wr) := hst
      simp only [List.length_cons, List.length_nil] at hle
      generalize commonN l [41] = n at *
      clear hf hst hco
      by_cases hn : 0 < n
      · have hb : ((n : Int) == 1) = decide (n = 1) := by
          rw [Bool.eq_iff_iff]; simp; omega
        go_wp2_with (go_at_call 74; refine hc.mono ?_; rintro e w2 ⟨rfl, hs2⟩; have HW2 : Hid (Stay (w.alloc (.cells #[.int .i64 0, .string ⟨#[]⟩, .int .i64 0, .int .i64 0] 25)) w2) := HW.out.trans hs2; obtain ⟨a0, a1, a2, a3, a4, a5, a6, a7⟩ := four (stay_of_new HW2.out); clear hs2)
        rw [HF.out, if_pos hn]
        obtain ⟨t0, t1, t2, t3, -⟩ := four (set4 (stay_of_new HW2.out) (.int .i64 9) (.string ⟨#[]⟩) (.int .i64 0) (.int .i64 (n : Int)))
        refine bodyPost_ret (v := .tuple #[.agg #[.int .i64 9, .string ⟨#[]⟩, .int .i64 0, .int .i64 (n : Int)], .bool (decide (n = 1))]) (by simp [results, Tryd.results70, go_sem, t0, t1, t2, t3]) rfl ⟨rfl, ?_⟩
        repeat (refine stay_set ?_ (by simp) _)
        exact (Stay.new _ _).trans HW2.out
      · have hn0 : ¬ 0 < (n : Int) := by omega
        go_wp2_with (go_at_call 74; refine hc.mono ?_; rintro e w2 ⟨rfl, hs2⟩; have HW2 : Hid (Stay (w.alloc (.cells #[.int .i64 0, .string ⟨#[]⟩, .int .i64 0, .int .i64 0] 25)) w2) := HW.out.trans hs2; clear hs2)
        go_roundw
        case rel => exact ⟨HW2.out, .inr (.inr (.inl ⟨rfl, HF.out.trans (if_neg hn)⟩))⟩
        case measure => simp [intOf]
    · rw [signAt_cons] at hf
      have hc := hco ⟨#[44]⟩ wr
      dsimp only at hc
      have hle := (commonN_le l [44]).2
      have HF : Hid (firstSignT l = if 0 < commonN l [44] then (⟨((8 + 2 : Nat) : Int), [], 0, commonN l [44]⟩, decide (commonN l [44] = 1)) else signAt l 3 [[46], [47], [58, 45], [33, 61]]) := hf
      have HW : Hid (Stay (w.alloc (.cells #[.int .i64 0, .string ⟨#[]⟩, .int .i64 0, .int .i64 0] 25)) wr) := hst
      simp only [List.length_cons, List.length_nil] at hle
      generalize commonN l [44] = n at *
      clear hf hst hco
      by_cases hn : 0 < n
      · have hb : ((n : Int) == 1) = decide (n = 1) := by
          rw [Bool.eq_iff_iff]; simp; omega
        go_wp2_with (go_at_call 74; refine hc.mono ?_; rintro e w2 ⟨rfl, hs2⟩; have HW2 : Hid (Stay (w.alloc (.cells #[.int .i64 0, .string ⟨#[]⟩, .int .i64 0, .int .i64 0] 25)) w2) := HW.out.trans hs2; obtain ⟨a0, a1, a2, a3, a4, a5, a6, a7⟩ := four (stay_of_new HW2.out); clear hs2)
        rw [HF.out, if_pos hn]
        obtain ⟨t0, t1, t2, t3, -⟩ := four (set4 (stay_of_new HW2.out) (.int .i64 10) (.string ⟨#[]⟩) (.int .i64 0) (.int .i64 (n : Int)))
        refine bodyPost_ret (v := .tuple #[.agg #[.int .i64 10, .string ⟨#[]⟩, .int .i64 0, .int .i64 (n : Int)], .bool (decide (n = 1))]) (by simp [results, Tryd.results70, go_sem, t0, t1, t2, t3]) rfl ⟨rfl, ?_⟩
        repeat (refine stay_set ?_ (by simp) _)
        exact (Stay.new _ _).trans HW2.out
      · have hn0 : ¬ 0 < (n : Int) := by omega
        go_wp2_with (go_at_call 74; refine hc.mono ?_; rintro e w2 ⟨rfl, hs2⟩; have HW2 : Hid (Stay (w.alloc (.cells #[.int .i64 0, .string ⟨#[]⟩, .int .i64 0, .int .i64 0] 25)) w2) := HW.out.trans hs2; clear hs2)
        go_roundw
        case rel => exact ⟨HW2.out, .inr (.inr (.inr (.inl ⟨rfl, HF.out.trans (if_neg hn)⟩)))⟩
        case measure => simp [intOf]
    · rw [signAt_cons] at hf
      have hc := hco ⟨#[46]⟩ wr
      dsimp only at hc
      have hle := (commonN_le l [46]).2
      have HF : Hid (firstSignT l = if 0 < commonN l [46] then (⟨((8 + 3 : Nat) : Int), [], 0, commonN l [46]⟩, decide (commonN l [46] = 1)) else signAt l 4 [[47], [58, 45], [33, 61]]) := hf
      have HW : Hid (Stay (w.alloc (.cells #[.int .i64 0, .string ⟨#[]⟩, .int .i64 0, .int .i64 0] 25)) wr) := hst
      simp only [List.length_cons, List.length_nil] at hle
      generalize commonN l [46] = n at *
      clear hf hst hco
      by_cases hn : 0 < n
      · have hb : ((n : Int) == 1) = decide (n = 1) := by
          rw [Bool.eq_iff_iff]; simp; omega
        go_wp2_with (go_at_call 74; refine hc.mono ?_; rintro e w2 ⟨rfl, hs2⟩; have HW2 : Hid (Stay (w.alloc (.cells #[.int .i64 0, .string ⟨#[]⟩, .int .i64 0, .int .i64 0] 25)) w2) := HW.out.trans hs2; obtain ⟨a0, a1, a2, a3, a4, a5, a6, a7⟩ := four (stay_of_new HW2.out); clear hs2)
        rw [HF.out, if_pos hn]
        obtain ⟨t0, t1, t2, t3, -⟩ := four (set4 (stay_of_new HW2.out) (.int .i64 11) (.string ⟨#[]⟩) (.int .i64 0) (.int .i64 (n : Int)))
        refine bodyPost_ret (v := .tuple #[.agg #[.int .i64 11, .string ⟨#[]⟩, .int .i64 0, .int .i64 (n : Int)], .bool (decide (n = 1))]) (by simp [results, Tryd.results70, go_sem, t0, t1, t2, t3]) rfl ⟨rfl, ?_⟩
        repeat (refine stay_set ?_ (by simp) _)
        exact (Stay.new _ _).trans HW2.out
      · have hn0 : ¬ 0 < (n : Int) := by omega
        go_wp2_with (go_at_call 74; refine hc.mono ?_; rintro e w2 ⟨rfl, hs2⟩; have HW2 : Hid (Stay (w.alloc (.cells #[.int .i64 0, .string ⟨#[]⟩, .int .i64 0, .int .i64 0] 25)) w2) := HW.out.trans hs2; clear hs2)
        go_roundw
        case rel => exact ⟨HW2.out, .inr (.inr (.inr (.inr (.inl ⟨rfl, HF.out.trans (if_neg hn)⟩))))⟩
        case measure => simp [intOf]
    · rw [signAt_cons] at hf
      have hc := hco ⟨#[47]⟩ wr
      dsimp only at hc
      have hle := (commonN_le l [47]).2
      have HF : Hid (firstSignT l = if 0 < commonN l [47] then (⟨((8 + 4 : Nat) : Int), [], 0, commonN l [47]⟩, decide (commonN l [47] = 1)) else signAt l 5 [[58, 45], [33, 61]]) := hf
      have HW : Hid (Stay (w.alloc (.cells #[.int .i64 0, .string ⟨#[]⟩, .int .i64 0, .int .i64 0] 25)) wr) := hst
      simp only [List.length_cons, List.length_nil] at hle
      generalize commonN l [47] = n at *
      clear hf hst hco
      by_cases hn : 0 < n
      · have hb : ((n : Int) == 1) = decide (n = 1) := by
          rw [Bool.eq_iff_iff]; simp; omega
        go_wp2_with (go_at_call 74; refine hc.mono ?_; rintro e w2 ⟨rfl, hs2⟩; have HW2 : Hid (Stay (w.alloc (.cells #[.int .i64 0, .string ⟨#[]⟩, .int .i64 0, .int .i64 0] 25)) w2) := HW.out.trans hs2; obtain ⟨a0, a1, a2, a3, a4, a5, a6, a7⟩ := four (stay_of_new HW2.out); clear hs2)
        rw [HF.out, if_pos hn]
        obtain ⟨t0, t1, t2, t3, -⟩ := four (set4 (stay_of_new HW2.out) (.int .i64 12) (.string ⟨#[]⟩) (.int .i64 0) (.int .i64 (n : Int)))
        refine bodyPost_ret (v := .tuple #[.agg #[.int .i64 12, .string ⟨#[]⟩, .int .i64 0, .int .i64 (n : Int)], .bool (decide (n = 1))]) (by simp [results, Tryd.results70, go_sem, t0, t1, t2, t3]) rfl ⟨rfl, ?_⟩
        repeat (refine stay_set ?_ (by simp) _)
        exact (Stay.new _ _).trans HW2.out
      · have hn0 : ¬ 0 < (n : Int) := by omega
        go_wp2_with (go_at_call 74; refine hc.mono ?_; rintro e w2 ⟨rfl, hs2⟩; have HW2 : Hid (Stay (w.alloc (.cells #[.int .i64 0, .string ⟨#[]⟩, .int .i64 0, .int .i64 0] 25)) w2) := HW.out.trans hs2; clear hs2)
        go_roundw
        case rel => exact ⟨HW2.out, .inr (.inr (.inr (.inr (.inr (.inl ⟨rfl, HF.out.trans (if_neg hn)⟩)))))⟩
        case measure => simp [intOf]
    · rw [signAt_cons] at hf
      have hc := hco ⟨#[58, 45]⟩ wr
      dsimp only at hc
      have hle := (commonN_le l [58, 45]).2
      have HF : Hid (firstSignT l = if 0 < commonN l [58, 45] then (⟨((8 + 5 : Nat) : Int), [], 0, commonN l [58, 45]⟩, decide (commonN l [58, 45] = 2)) else signAt l 6 [[33, 61]]) := hf
      have HW : Hid (Stay (w.alloc (.cells #[.int .i64 0, .string ⟨#[]⟩, .int .i64 0, .int .i64 0] 25)) wr) := hst
      simp only [List.length_cons, List.length_nil] at hle
      generalize commonN l [58, 45] = n at *
      clear hf hst hco
      by_cases hn : 0 < n
      · have hb : ((n : Int) == 2) = decide (n = 2) := by
          rw [Bool.eq_iff_iff]; simp; omega
        go_wp2_with (go_at_call 74; refine hc.mono ?_; rintro e w2 ⟨rfl, hs2⟩; have HW2 : Hid (Stay (w.alloc (.cells #[.int .i64 0, .string ⟨#[]⟩, .int .i64 0, .int .i64 0] 25)) w2) := HW.out.trans hs2; obtain ⟨a0, a1, a2, a3, a4, a5, a6, a7⟩ := four (stay_of_new HW2.out); clear hs2)
        rw [HF.out, if_pos hn]
        obtain ⟨t0, t1, t2, t3, -⟩ := four (set4 (stay_of_new HW2.out) (.int .i64 13) (.string ⟨#[]⟩) (.int .i64 0) (.int .i64 (n : Int)))
        refine bodyPost_ret (v := .tuple #[.agg #[.int .i64 13, .string ⟨#[]⟩, .int .i64 0, .int .i64 (n : Int)], .bool (decide (n = 2))]) (by simp [results, Tryd.results70, go_sem, t0, t1, t2, t3]) rfl ⟨rfl, ?_⟩
        repeat (refine stay_set ?_ (by simp) _)
        exact (Stay.new _ _).trans HW2.out
      · have hn0 : ¬ 0 < (n : Int) := by omega
        go_wp2_with (go_at_call 74; refine hc.mono ?_; rintro e w2 ⟨rfl, hs2⟩; have HW2 : Hid (Stay (w.alloc (.cells #[.int .i64 0, .string ⟨#[]⟩, .int .i64 0, .int .i64 0] 25)) w2) := HW.out.trans hs2; clear hs2)
        go_roundw
        case rel => exact ⟨HW2.out, .inr (.inr (.inr (.inr (.inr (.inr (.inl ⟨rfl, HF.out.trans (if_neg hn)⟩))))))⟩
        case measure => simp [intOf]
    · rw [signAt_cons] at hf
      have hc := hco ⟨#[33, 61]⟩ wr
      dsimp only at hc
      have hle := (commonN_le l [33, 61]).2
      have HF : Hid (firstSignT l = if 0 < commonN l [33, 61] then (⟨((8 + 6 : Nat) : Int), [], 0, commonN l [33, 61]⟩, decide (commonN l [33, 61] = 2)) else signAt l 7 []) := hf
      have HW : Hid (Stay (w.alloc (.cells #[.int .i64 0, .string ⟨#[]⟩, .int .i64 0, .int .i64 0] 25)) wr) := hst
      simp only [List.length_cons, List.length_nil] at hle
      generalize commonN l [33, 61] = n at *
      clear hf hst hco
      by_cases hn : 0 < n
      · have hb : ((n : Int) == 2) = decide (n = 2) := by
          rw [Bool.eq_iff_iff]; simp; omega
        go_wp2_with (go_at_call 74; refine hc.mono ?_; rintro e w2 ⟨rfl, hs2⟩; have HW2 : Hid (Stay (w.alloc (.cells #[.int .i64 0, .string ⟨#[]⟩, .int .i64 0, .int .i64 0] 25)) w2) := HW.out.trans hs2; obtain ⟨a0, a1, a2, a3, a4, a5, a6, a7⟩ := four (stay_of_new HW2.out); clear hs2)
        rw [HF.out, if_pos hn]
        obtain ⟨t0, t1, t2, t3, -⟩ := four (set4 (stay_of_new HW2.out) (.int .i64 14) (.string ⟨#[]⟩) (.int .i64 0) (.int .i64 (n : Int)))
        refine bodyPost_ret (v := .tuple #[.agg #[.int .i64 14, .string ⟨#[]⟩, .int .i64 0, .int .i64 (n : Int)], .bool (decide (n = 2))]) (by simp [results, Tryd.results70, go_sem, t0, t1, t2, t3]) rfl ⟨rfl, ?_⟩
        repeat (refine stay_set ?_ (by simp) _)
        exact (Stay.new _ _).trans HW2.out
      · have hn0 : ¬ 0 < (n : Int) := by omega
        go_wp2_with (go_at_call 74; refine hc.mono ?_; rintro e w2 ⟨rfl, hs2⟩; have HW2 : Hid (Stay (w.alloc (.cells #[.int .i64 0, .string ⟨#[]⟩, .int .i64 0, .int .i64 0] 25)) w2) := HW.out.trans hs2; clear hs2)
        go_roundw
        case rel => exact ⟨HW2.out, .inr (.inr (.inr (.inr (.inr (.inr (.inr (⟨rfl, HF.out.trans (if_neg hn)⟩)))))))⟩
        case measure => simp [intOf]
    · have HW2 : Hid (Stay (w.alloc (.cells #[.int .i64 0, .string ⟨#[]⟩, .int .i64 0, .int .i64 0] 25)) wr) := hst
      have HF : Hid (firstSignT l = (tok0, false)) := hf
      obtain ⟨a0, a1, a2, a3, a4, a5, a6, a7⟩ := four (stay_of_new HW2.out)
      clear hf hst hco
      go_wp2
      rw [HF.out]
      obtain ⟨t0, t1, t2, t3, -⟩ := four (set4 (stay_of_new HW2.out) (.int .i64 0) (.string ⟨#[]⟩) (.int .i64 0) (.int .i64 0))
      refine bodyPost_ret (v := .tuple #[.agg #[.int .i64 0, .string ⟨#[]⟩, .int .i64 0, .int .i64 0], .bool false]) (by simp [results, Tryd.results70, go_sem, t0, t1, t2, t3]) rfl ⟨rfl, ?_⟩
      repeat (refine stay_set ?_ (by simp) _)
      exact (Stay.new _ _).trans HW2.out
end Go.Proofs.YtioafeckaeaopaaDoor
