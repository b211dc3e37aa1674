/- Equal: what it answers; arrays held against one another. -/
import Derived.Test.YtnhmjheipfopoaaD
import Derived.ChangeKeysEq
namespace Go.Proofs.Ytnhmjheipfopoaa
open Go.RowKit Go.Maps

theorem cellsInt : Try.prog.cellsOf 3 = 1 := by kernel_rfl
theorem plainInt : Try.prog.plainKey 3 = true := by kernel_rfl

theorem eqItems_ints (w : World) (d : Nat) (xs ys : List Int) : ∀ (is : List Nat), (∀ i ∈ is, i < xs.length ∧ i < ys.length) →
    (Op.eqItems (d + 1) 3 1 (arrV xs) (arrV ys) is).run Try.prog w = .ok (decide (∀ i ∈ is, xs[i]? = ys[i]?)) w
  | [], _ => by simp [Op.eqItems]
  | i :: is, h => by
    obtain ⟨h1, h2⟩ := h i (by simp)
    have p1 : (part 3 (arrV xs) i).run Try.prog w = .ok (.int .i64 xs[i]) w := run_part_plain w plainInt (by simp [arrV, h1])
    have p2 : (part 3 (arrV ys) i).run Try.prog w = .ok (.int .i64 ys[i]) w := run_part_plain w plainInt (by simp [arrV, h2])
    have ih := eqItems_ints w d xs ys is (fun j hj => h j (by simp [hj]))
    simp only [Op.eqItems, Nat.mul_one, Sem.run_bind, p1, p2, Result.andThen_ok, run_equalIn_int w d 3 .i64 .i64 xs[i] ys[i] Try.underlying3]
    by_cases e : xs[i] = ys[i]
    · simp [e, ih, h1, h2]
    · simp [e, h1, h2]

theorem eqArr (w : World) (xs ys : List Int) (hx : xs.length = 16) (hy : ys.length = 16) :
    (Op.equalIn 10000 123 (.agg (arrV xs)) (.agg (arrV ys))).run Try.prog w = .ok (decide (xs = ys)) w := by
  obtain ⟨i0, hi, hz0, hz1, hz2⟩ := info_parts infoInt
  have h := run_equalIn_array (P := Try.prog) w 9999 (t := 123) (e := 3) (n := 16) (i := i0) (arrV xs) (arrV ys) Try.underlying123 hi
  rw [cellsInt, eqItems_ints w 9998 xs ys (List.range 16) (fun i hi => by rw [List.mem_range] at hi; omega)] at h
  have e : decide (∀ i ∈ List.range 16, xs[i]? = ys[i]?) = decide (xs = ys) := by
    rw [decide_eq_decide]
    constructor
    · intro h
      apply List.ext_getElem?
      intro i
      by_cases hi : i < 16
      · exact h i (by simpa using hi)
      · rw [List.getElem?_eq_none (by omega), List.getElem?_eq_none (by omega)]
    · rintro rfl _ _; rfl
  rw [e] at h
  exact h

theorem padI_inj {xs ys : List Int} (h : xs.length = ys.length) : padI xs = padI ys ↔ xs = ys := by
  unfold padI
  constructor
  · intro e
    exact (List.append_inj e h).1
  · rintro rfl; rfl

theorem eqKeys (W : World) {xs ys : List Int} (hx : xs.length ≤ 16) (hl : xs.length = ys.length) {b : Bool} (hb : decide (xs = ys) = b) : (Op.equalIn 10000 123 (.agg (arrV (padI xs))) (.agg (arrV (padI ys)))).run Try.prog W = .ok b W := by
  rw [eqArr W _ _ (padI_len hx) (padI_len (by omega)), ← hb]
  exact congrArg (fun b => Result.ok b W) (decide_eq_decide.2 (padI_inj hl))

/-- A whole array into the block that was made last. -/
theorem wpList_store_fresh {P : Program} {ops : Array Oper} {rest : List Oper} {o : Oper} {a : Act} {w : World} {Q : Exit → Act → World → Prop} (hgd : o.guard = none) (ty : TypeId) (x y : Operand) (ho : o.op = .store ty x y)
    (cells old : Array Value) (hx : a.eval x = .pointer (some ⟨w.heap.size, 0, none⟩)) (hy : a.eval y = .agg cells)
    (t : TypeId) (hi : (P.info? ty).map (·.size) = some cells.size) (hold : old.size = cells.size) (h1 : cells.all (·.oneCell') = true)
    (h : wpList P ops Q rest (a.put o.dst undef) (w.alloc (.cells cells t))) : wpList P ops Q (o :: rest) a (w.alloc (.cells old t)) := by
  refine wpList_store_row hgd ty x y ho w.heap.size cells hx hy t old (heap_alloc_new _ _) hi hold h1 ?_
  rw [World.setRow_alloc_new]
  exact h

/-- A whole array is read where a guard stands ahead. -/
theorem wpList_load_rowG {P : Program} {ops : Array Oper} {rest : List Oper} {o : Oper} {a : Act} {w : World} {Q : Exit → Act → World → Prop} (ty : TypeId) (x : Operand) (ho : o.op = .load ty x)
    (g : Nat) (hx : a.eval x = .pointer (some ⟨g, 0, none⟩)) (hw : Region.wanted o (yielded ops a.tmps) = true) (t : TypeId) (cs : Array Value) (fr : Nat × Nat) (d : TypeDesc) (hg : w.heap[g]? = some (.cells cs t fr))
    (hu : P.underlying ty = some d) (hd : (match d with | .struct _ | .array _ _ => true | _ => false) = true) (hi : (P.info? ty).map (·.size) = some cs.size)
    (h : wpList P ops Q rest (a.put o.dst (.agg cs)) w) : wpList P ops Q (o :: rest) a w := by
  refine wpList_step fun K hK => ?_
  rw [if_pos hw]
  exact wp_load_row ty x ho g hx t cs fr d hg hu hd hi (hK _ _ h)

theorem Stay.heap {w w' : World} (h : Stay w w') {k : Nat} {o : Obj} (hk : w.heap[k]? = some o) : w'.heap[k]? = some o :=
  (h.block k (Array.getElem?_eq_some_iff.1 hk).1).trans hk

theorem size16 {xs : List Int} (h : xs.length ≤ 16) : (Try.prog.info? 123).map (·.size) = some (arrV (padI xs)).size := by
  rw [arrV_size, padI_len h]; exact sizeArr

set_option maxRecDepth 100000 in
set_option maxHeartbeats 1000000 in
theorem equal_any (w : World) (a1 a2 : Option Addr) (b1 o1 b2 o2 c1 c2 : Nat) (xs ys : List Int) (hx : IntsS w a1 b1 o1 xs) (hy : IntsS w a2 b2 o2 ys) (hlx : xs.length ≤ maxLen) (hly : ys.length ≤ maxLen) :
    Calls Try.prog 68 #[.slice a1 xs.length c1, .slice a2 ys.length c2] w fun e w' => e = .returned (.bool (decide (xs = ys))) ∧ Stay w w' := by
  by_cases hl : xs.length = ys.length
  · have hne : ((xs.length : Int) != (ys.length : Int)) = false := by simp [hl]
    by_cases h16 : 16 < xs.length
    · have hcmp := compare_any w a1 a2 b1 o1 b2 o2 c1 c2 xs ys hx hy hlx hly
      have hi : (16 : Int) < (xs.length : Int) := by omega
      clear hx hy hl h16
      go_enter Try.func68, Try.ntmps68
      go_wp2_with (go_at_call 84; refine Calls.mono hcmp ?_; rintro e w' ⟨rfl, rfl⟩)
      go_ret
      refine ⟨?_, Stay.refl _⟩
      have e : (cmpL xs ys == 0) = decide (xs = ys) := by
        rw [Bool.eq_iff_iff, beq_iff_eq, decide_eq_true_iff, cmpL_iff]
      rw [← e]
      rfl
    · have h16' : xs.length ≤ 16 := by omega
      have hk1 := key_any w a1 b1 o1 c1 xs hx h16'
      have hi : (xs.length : Int) ≤ 16 := by omega
      have hz := (zero_of_info infoArr).1
      have HE : Hid (∀ W, (Op.equalIn 10000 123 (.agg (arrV (padI xs))) (.agg (arrV (padI ys)))).run Try.prog W = .ok (decide (xs = ys)) W) := fun W => by
        rw [eqArr W _ _ (padI_len h16') (padI_len (by omega)), decide_eq_decide.2 (padI_inj hl)]
      obtain ⟨Z, hZ⟩ : ∃ Z, Z = List.replicate 16 (Value.int .i64 0) := ⟨_, rfl⟩
      rw [← hZ] at hz
      have HY : Hid (∀ W, Stay w W → Calls Try.prog 85 #[.slice a2 ys.length c2] W fun e w' => e = .returned (.tuple #[.agg (arrV (padI ys)), .int .i64 0]) ∧ Stay W w') := fun W hW => key_any W a2 b2 o2 c2 ys (hy.stay hW) (by omega)
      have HZ : Hid (Z.toArray.size = 16 ∧ xs.length ≤ 16 ∧ ys.length ≤ 16) := ⟨by simp [hZ], h16', by omega⟩
      clear hx hy hl hZ h16 h16'
      go_enter Try.func68, Try.ntmps68
      go_wp2_with (first | (go_at_call 85; refine Calls.mono hk1 ?_; rintro e w1 ⟨rfl, hb1⟩; have HB1 : Hid (Stay w w1) := hb1; clear hb1 hk1) | (refine wpList_store_fresh rfl 123 (.tmp 5) (.tmp 24) rfl (arrV (padI xs)) _ rfl rfl 123 (size16 HZ.out.2.1) (by rw [HZ.out.1, arrV_size, padI_len HZ.out.2.1]) (arrV_one _) ?_)
                           | (go_at_call 85; refine Calls.mono (HY.out _ (HB1.out.alloc _)) ?_; rintro e w2 ⟨rfl, hb2⟩; have HB2 : Hid (Stay w w2) := (HB1.out.alloc _).trans hb2; have HG : Hid (w2.heap[w1.heap.size]? = some (.cells (arrV (padI xs)) 123 (0, 0))) := hb2.heap (heap_alloc_new _ _); clear hb2)
                           | (refine wpList_store_fresh rfl 123 (.tmp 7) (.tmp 29) rfl (arrV (padI ys)) _ rfl rfl 123 (size16 HZ.out.2.2) (by rw [HZ.out.1, arrV_size, padI_len HZ.out.2.2]) (arrV_one _) ?_)
                           | (refine wpList_load_row rfl 123 (.tmp 5) rfl w1.heap.size rfl 123 (arrV (padI xs)) (0, 0) (.array 16 3) ((Stay.new _ _).heap HG.out) Try.underlying123 rfl (size16 HZ.out.2.1) ?_)
                           | (refine wpList_load_row rfl 123 (.tmp 7) rfl w2.heap.size rfl 123 (arrV (padI ys)) (0, 0) (.array 16 3) (heap_alloc_new _ _) Try.underlying123 rfl (size16 HZ.out.2.2) ?_; have he := HE.out (w2.alloc (.cells (arrV (padI ys)) 123)); clear HE))
      go_ret
      exact ⟨rfl, HB2.out.alloc _⟩
  · have hne : ((xs.length : Int) != (ys.length : Int)) = true := by simp; omega
    have hd : decide (xs = ys) = false := by rw [decide_eq_false_iff_not]; rintro rfl; exact hl rfl
    have HD : Hid (decide (xs = ys) = false) := hd
    clear hx hy hd hl
    go_enter Try.func68, Try.ntmps68
    go_wp2
    go_ret
    exact ⟨by rw [HD.out]; rfl, Stay.refl _⟩
end Go.Proofs.Ytnhmjheipfopoaa
