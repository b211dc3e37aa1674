/- Things in memory; by, thing, Same. -/
import Derived.Test.YtnmaldgmlkcliaaRA
import Derived.Laws.StructEq
namespace Go.Proofs.Ytnmaldgmlkcliaa
open Go.RowKit Go.Maps

/-- A thing's cells. -/
def encT (t : Int × Int) : List Value := [.int .i64 t.1, .int .i64 t.2]
/-- The cells of things. -/
def cellsT (ts : List (Int × Int)) : List Value := ts.flatMap encT
/-- The slice value with the address a and the length of ts holds the things ts. -/
def ThS (w : World) (a : Option Addr) (b off : Nat) (ts : List (Int × Int)) : Prop :=
  (0 < ts.length → a = some ⟨b, off, none⟩) ∧ ∀ j (h : j < ts.length), w.cell? ⟨b, off + j * 2, none⟩ = some (.int .i64 ts[j].1) ∧ w.cell? ⟨b, off + j * 2 + 1, none⟩ = some (.int .i64 ts[j].2)
theorem ThS.stay {w w' : World} {a : Option Addr} {b off : Nat} {ts : List (Int × Int)} (h : ThS w a b off ts) (hs : Stay w w') : ThS w' a b off ts :=
  ⟨h.1, fun j hj => ⟨hs.cell (h.2 j hj).1, hs.cell (h.2 j hj).2⟩⟩
theorem cellsT_len (ts : List (Int × Int)) : (cellsT ts).length = ts.length * 2 := by
  induction ts with
  | nil => rfl
  | cons t ts ih => simp only [cellsT, List.flatMap_cons, List.length_append, List.length_cons] at *; rw [ih]; simp [encT]; omega
theorem cellsT_append (xs ys : List (Int × Int)) : cellsT (xs ++ ys) = cellsT xs ++ cellsT ys := by simp [cellsT]
theorem cellsT_at : ∀ (ts : List (Int × Int)) (j : Nat) (h : j < ts.length), (cellsT ts)[j * 2]? = some (.int .i64 ts[j].1) ∧ (cellsT ts)[j * 2 + 1]? = some (.int .i64 ts[j].2)
  | [], _, h => by simp at h
  | t :: ts, 0, _ => by simp [cellsT, encT]
  | t :: ts, j + 1, h => by
    have ih := cellsT_at ts j (by simpa using h)
    have e : cellsT (t :: ts) = .int .i64 t.1 :: .int .i64 t.2 :: cellsT ts := by simp [cellsT, encT]
    rw [e, show (j + 1) * 2 = j * 2 + 1 + 1 by omega]
    simpa using ih
theorem cellsT_one (ts : List (Int × Int)) : ∀ u ∈ cellsT ts, u.oneCell' = true := by
  intro u hu
  simp only [cellsT, List.mem_flatMap, encT] at hu
  obtain ⟨t, _, h⟩ := hu
  simp at h
  rcases h with rfl | rfl <;> rfl

theorem by_any (x y : Int × Int) (w : World) :
    Calls Try.prog 9 #[.agg #[.int .i64 x.1, .int .i64 x.2], .agg #[.int .i64 y.1, .int .i64 y.2]] w fun e w' => e = .returned (.int .i64 (if x.1 < y.1 then -5 else if y.1 < x.1 then 7 else 0)) ∧
      w' = (w.alloc (.cells #[.int .i64 x.1, .int .i64 x.2] 26)).alloc (.cells #[.int .i64 y.1, .int .i64 y.2] 26) := by
  obtain ⟨x1, x2⟩ := x
  obtain ⟨y1, y2⟩ := y
  dsimp only
  by_cases h1 : x1 < y1
  · rw [if_pos h1]
    go_enter Try.func9, Try.ntmps9
    go_wp2
    go_ret
    exact ⟨rfl, rfl⟩
  · rw [if_neg h1]
    by_cases h2 : y1 < x1
    · rw [if_pos h2]
      go_enter Try.func9, Try.ntmps9
      go_wp2
      go_ret
      exact ⟨rfl, rfl⟩
    · rw [if_neg h2]
      go_enter Try.func9, Try.ntmps9
      go_wp2
      go_ret
      exact ⟨rfl, rfl⟩

theorem thing_any (r n : Int) (w : World) :
    Calls Try.prog 7 #[.int .i64 r, .int .i64 n] w fun e w' => e = .returned (.agg #[.int .i64 r, .int .i64 n]) ∧ Stay w w' := by
  go_enter Try.func7, Try.ntmps7
  go_wp2
  exact bodyPost_ret (v := .agg #[.int .i64 r, .int .i64 n]) (by simp [results, Try.results7, go_sem]) rfl ⟨rfl, Stay.new _ _⟩

theorem fieldsT : Try.prog.underlying 26 = some (.struct (Try.prog.fieldsOf 26)) := by kernel_rfl
theorem heldT : Try.prog.stoodInHeld 26 = false := by kernel_rfl
theorem guardT : Try.prog.eqGuardType Try.prog.depth 26 = false := by kernel_rfl
theorem eqlT (x1 x2 y1 y2 : Int) (w : World) : (binOp .eql 26 (.agg #[.int .i64 x1, .int .i64 x2]) (.agg #[.int .i64 y1, .int .i64 y2])).run Try.prog w = .ok (.bool (decide ((x1, x2) = (y1, y2)))) w := by
  have u3 := Try.underlying3
  have a3 := Try.isAgg3
  have z3 := Try.sizeOf3
  rw [run_eql_struct, show (10000 : Nat) = 9999 + 1 from rfl, run_equalIn_agg w 9999 26 _ _ fieldsT heldT]
  simp only [Program.fieldsOf, Try.underlying26]
  go_simp
  by_cases h1 : x1 = y1 <;> by_cases h2 : x2 = y2 <;> simp [h1, h2]
theorem neqT (x1 x2 y1 y2 : Int) (w : World) : (binOp .neq 26 (.agg #[.int .i64 x1, .int .i64 x2]) (.agg #[.int .i64 y1, .int .i64 y2])).run Try.prog w = .ok (.bool (decide (¬ (x1, x2) = (y1, y2)))) w := by
  have u3 := Try.underlying3
  have a3 := Try.isAgg3
  have z3 := Try.sizeOf3
  rw [run_neq_struct, show (10000 : Nat) = 9999 + 1 from rfl, run_equalIn_agg w 9999 26 _ _ fieldsT heldT]
  simp only [Program.fieldsOf, Try.underlying26]
  go_simp
  by_cases h1 : x1 = y1 <;> by_cases h2 : x2 = y2 <;> simp [h1, h2]
set_option maxRecDepth 100000 in
set_option maxHeartbeats 1000000 in
theorem same_any (w : World) (a1 a2 : Option Addr) (b1 o1 b2 o2 c1 c2 : Nat) (xs ys : List (Int × Int)) (hx : ThS w a1 b1 o1 xs) (hy : ThS w a2 b2 o2 ys) (hlx : xs.length ≤ maxLen) (hly : ys.length ≤ maxLen) :
    Calls Try.prog 10 #[.slice a1 xs.length c1, .slice a2 ys.length c2] w fun e w' => e = .returned (.bool (decide (xs = ys))) ∧ Stay w w' := by
  unfold maxLen at hlx hly
  by_cases hl : xs.length = ys.length
  · have hne : ((xs.length : Int) != (ys.length : Int)) = false := by simp [hl]
    have HX : Hid (ThS w a1 b1 o1 xs ∧ ThS w a2 b2 o2 ys) := ⟨hx, hy⟩
    have HL : Hid (xs.length = ys.length) := hl
    clear hx hy hl
    go_enter Try.func10, Try.ntmps10
    go_wp2
    go_loopw [5] (fun i wr => ∃ k : Nat, k ≤ xs.length ∧ i = .int .i64 k ∧ xs.take k = ys.take k ∧ Stay w wr) (fun i _ => xs.length - (intOf i).toNat)
    case atStart => exact ⟨0, Nat.zero_le _, rfl, by simp, Stay.refl _⟩
    case round =>
      obtain ⟨k, hk, rfl, htk, hst⟩ := hrel
      by_cases hlt : k < xs.length
      · have hl := HL.out
        have hlt2 : k < ys.length := by omega
        obtain rfl := HX.out.1.1 (by omega)
        obtain rfl := HX.out.2.1 (by omega)
        obtain ⟨hc1, hd1⟩ := (HX.out.1.stay hst).2 k hlt
        obtain ⟨hc2, hd2⟩ := (HX.out.2.stay hst).2 k hlt2
        have hi1 : (k : Int) < (xs.length : Int) := by omega
        have hi2 : (k : Int) < (ys.length : Int) := by omega
        have HT : Hid (xs[k] = ys[k] → xs.take (k + 1) = ys.take (k + 1)) := fun h2 => by
          rw [List.take_succ_eq_append_getElem hlt, List.take_succ_eq_append_getElem hlt2, htk, h2]
        have HF : Hid (xs[k] ≠ ys[k] → decide (xs = ys) = false) := fun h => by
          rw [decide_eq_false_iff_not]; rintro rfl; exact h rfl
        have HW : Hid (Stay w wr) := hst
        generalize xs[k] = x at hc1 hd1 HT HF
        generalize ys[k] = y at hc2 hd2 HT HF
        have hg := guardT
        have hn := neqT x.1 x.2 y.1 y.2
        by_cases hxy : x = y
        · subst hxy
          have hn' : ∀ W, (binOp .neq 26 (.agg #[.int .i64 x.1, .int .i64 x.2]) (.agg #[.int .i64 x.1, .int .i64 x.2])).run Try.prog W = .ok (.bool false) W := fun W => by rw [hn]; simp
          clear hl htk hst hn
          go_wp2
          go_quiet (fail)
          go_wp2
          go_roundw
          case rel => exact ⟨k + 1, by omega, by go_num, HT.out (by first | rfl | trivial), HW.out.trans (Stay.drewN _ _)⟩
          case measure => simp [intOf]; omega
        · have hn' : ∀ W, (binOp .neq 26 (.agg #[.int .i64 x.1, .int .i64 x.2]) (.agg #[.int .i64 y.1, .int .i64 y.2])).run Try.prog W = .ok (.bool true) W := fun W => by rw [hn]; exact congrArg (fun b => Result.ok (Value.bool b) W) (decide_eq_true hxy)
          have HN : Hid (x ≠ y) := hxy
          clear hl htk hst hn hxy
          go_wp2
          go_quiet (fail)
          go_wp2
          go_ret
          exact ⟨by rw [HF.out HN.out]; rfl, HW.out.trans (Stay.drewN _ _)⟩
      · go_wp2
        go_ret
        have hl := HL.out
        rw [List.take_of_length_le (by omega), List.take_of_length_le (by omega)] at htk
        exact ⟨by simp [htk], hst⟩
  · have hne : ((xs.length : Int) != (ys.length : Int)) = true := by simp; omega
    have hd : decide (xs = ys) = false := by rw [decide_eq_false_iff_not]; rintro rfl; exact hl rfl
    have HD : Hid (decide (xs = ys) = false) := hd
    clear hx hy hd hl
    go_enter Try.func10, Try.ntmps10
    go_wp2
    go_ret
    exact ⟨by rw [HD.out]; rfl, Stay.refl _⟩
end Go.Proofs.Ytnmaldgmlkcliaa
