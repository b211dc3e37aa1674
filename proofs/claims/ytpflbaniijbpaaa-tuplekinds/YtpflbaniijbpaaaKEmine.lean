/- Key and Equal at mine. -/
import Derived.Test.YtpflbaniijbpaaaE
import Derived.Test.YtpflbaniijbpaaaKBmine
namespace Go.Proofs.Ytpflbaniijbpaaa
open Go.RowKit Go.Maps

theorem infoArr_mine : (Try.prog.info? 51).map (fun i => (i.zero, i.size)) = some (some (.agg (List.replicate 16 (Value.int .i32 0)).toArray), 16) := by kernel_rfl
theorem sizeArr_mine : (Try.prog.info? 51).map (·.size) = some 16 := by kernel_rfl
theorem sizeInt_mine : (Try.prog.info? 29).map (·.size) = some 1 := by kernel_rfl

theorem infoInt_mine : (Try.prog.info? 29).map (fun i => (i.zero, i.size, i.bytes)) = some (some (.int .i32 0), 1, 4) := by kernel_rfl
def arrV_mine (zs : List Int) : Array Value := (zs.map (Value.int .i32)).toArray

theorem arrV_size_mine (zs : List Int) : (arrV_mine zs).size = zs.length := by simp [arrV_mine]
theorem arrV_one_mine (zs : List Int) : (arrV_mine zs).all (·.oneCell') = true := by simp [arrV_mine, Value.oneCell']

theorem splice_pad_mine (xs : List Int) : splice (List.replicate 16 (Value.int .i32 0)) 0 (xs.map (Value.int .i32)) = (padI xs).map (Value.int .i32) := by
  unfold splice padI
  rw [List.drop_replicate, List.map_append, List.map_replicate]
  simp only [List.take_zero, List.nil_append, List.length_map, Nat.zero_add]

set_option maxRecDepth 100000 in
set_option maxHeartbeats 1000000 in
theorem key_any_mine (w : World) (a1 : Option Addr) (b1 o1 c1 : Nat) (xs : List Int) (hx : IntsK .i32 w a1 b1 o1 xs) (hlx : xs.length ≤ 16) :
    Calls Try.prog 23 #[.slice a1 xs.length c1] w fun e w' => e = .returned (.tuple #[.agg (arrV_mine (padI xs)), .int .i64 0]) ∧ Stay w w' := by
  have hz := (zero_of_info infoArr_mine).1
  obtain ⟨Z, hZ⟩ : ∃ Z, Z = List.replicate 16 (Value.int .i32 0) := ⟨_, rfl⟩
  obtain ⟨X, hX⟩ : ∃ X, X = xs.map (Value.int .i32) := ⟨_, rfl⟩
  rw [← hZ] at hz
  have HZ : Hid (Z.length = 16 ∧ X.length = xs.length ∧ (∀ v ∈ X, v.oneCell' = true) ∧ splice Z 0 X = (padI xs).map (Value.int .i32)) :=
    ⟨by simp [hZ], by simp [hX], by simp [hX, Value.oneCell'], by rw [hZ, hX]; exact splice_pad_mine xs⟩
  have HS : Hid (0 < X.length → ∃ ad, a1 = some ad ∧ ∀ j v, X[j]? = some v → w.cell? (ad.add j) = some v) := fun h => by
    refine ⟨_, hx.1 (by simpa [hX] using h), fun j v hv => ?_⟩
    rw [hX, List.getElem?_map, Option.map_eq_some_iff] at hv
    obtain ⟨z, h1, rfl⟩ := hv
    obtain ⟨hj, rfl⟩ := List.getElem?_eq_some_iff.1 h1
    rw [add_at]
    exact hx.2 j hj
  clear hx hZ hX
  have hl1 := HZ.out.2.1
  go_enter Try.func23, Try.ntmps23
  go_wp2_with (first | (refine wpList_copy_splice rfl (.tmp 9) (.tmp 10) 25 25 rfl 29 Try.underlying25 sizeInt_mine (some ⟨w.heap.size + 1, 0, none⟩) a1 16 16 xs.length c1 rfl rfl (w.heap.size + 1) 0 Z 51 (heap_alloc2_new _ _ _) X (by rw [hl1]; exact (Nat.min_eq_left hlx).symm) (fun h => ⟨rfl, (HS.out h).imp fun ad h2 => ⟨h2.1, fun j v hv => ((Stay.new w (.cells Z.toArray 51)).alloc (.cells Z.toArray 51)).cell (h2.2 j v hv)⟩⟩) (by rw [HZ.out.1, hl1]; omega) HZ.out.2.2.1 (w.heap.size + 1) _ (Below.refl _ _) (Nat.le_refl _) ?_; intro w2 HG2 hB2; have hs2 := hB2.size; simp only [World.size_alloc] at hs2; have HO : Hid (w2.heap[w.heap.size]? = some (.cells Z.toArray 51 (0, 0))) := (hB2.block w.heap.size (by omega)).trans (heap_alloc2_old _ _ _); have HB : Hid (Stay w w2) := ((Stay.new w (.cells Z.toArray 51)).alloc (.cells Z.toArray 51)).trans' hB2; clear hB2) | (refine wpList_load_row rfl 51 (.tmp 4) rfl (w.heap.size + 1) rfl 51 (splice Z 0 X).toArray (0, 0) (.array 16 29) HG2.out Try.underlying51 rfl (by rw [HZ.out.2.2.2]; simpa [padI_len hlx] using sizeArr_mine) ?_) | (refine wpList_store_row rfl 51 (.tmp 2) (.tmp 12) rfl w.heap.size (splice Z 0 X).toArray rfl rfl 51 Z.toArray HO.out (by rw [HZ.out.2.2.2]; simpa [padI_len hlx] using sizeArr_mine) (by rw [HZ.out.2.2.2]; simp [padI_len hlx, HZ.out.1]) (by rw [HZ.out.2.2.2]; exact arrV_one_mine _) ?_))
  try simp only [Exit.inBlock, Exit.then]
  refine bodyPost_ret (results_cell_tmp rfl _ _ w.heap.size 51 (splice Z 0 X).toArray (0, 0) (.array 16 29) rfl (setRow_heap _ _ _ _ _ _ HO.out) Try.underlying51 rfl (by rw [HZ.out.2.2.2]; simpa [padI_len hlx] using sizeArr_mine)) rfl ?_
  refine ⟨?_, stay_setRow HB.out (Nat.le_refl _) _⟩
  rw [HZ.out.2.2.2]
  rfl

theorem cellsInt_mine : Try.prog.cellsOf 29 = 1 := by kernel_rfl
theorem plainInt_mine : Try.prog.plainKey 29 = true := by kernel_rfl

theorem eqItems_ints_mine (w : World) (d : Nat) (xs ys : List Int) : ∀ (is : List Nat), (∀ i ∈ is, i < xs.length ∧ i < ys.length) →
    (Op.eqItems (d + 1) 29 1 (arrV_mine xs) (arrV_mine ys) is).run Try.prog w = .ok (decide (∀ i ∈ is, xs[i]? = ys[i]?)) w
  | [], _ => by simp [Op.eqItems]
  | i :: is, h => by
    obtain ⟨h1, h2⟩ := h i (by simp)
    have p1 : (part 29 (arrV_mine xs) i).run Try.prog w = .ok (.int .i32 xs[i]) w := run_part_plain w plainInt_mine (by simp [arrV_mine, h1])
    have p2 : (part 29 (arrV_mine ys) i).run Try.prog w = .ok (.int .i32 ys[i]) w := run_part_plain w plainInt_mine (by simp [arrV_mine, h2])
    have ih := eqItems_ints_mine w d xs ys is (fun j hj => h j (by simp [hj]))
    simp only [Op.eqItems, Nat.mul_one, Sem.run_bind, p1, p2, Result.andThen_ok, run_equalIn_int w d 29 .i32 .i32 xs[i] ys[i] Try.underlying29]
    by_cases e : xs[i] = ys[i]
    · simp [e, ih, h1, h2]
    · simp [e, h1, h2]

theorem eqArr_mine (w : World) (xs ys : List Int) (hx : xs.length = 16) (hy : ys.length = 16) :
    (Op.equalIn 10000 51 (.agg (arrV_mine xs)) (.agg (arrV_mine ys))).run Try.prog w = .ok (decide (xs = ys)) w := by
  obtain ⟨i0, hi, hz0, hz1, hz2⟩ := info_parts infoInt_mine
  have h := run_equalIn_array (P := Try.prog) w 9999 (t := 51) (e := 29) (n := 16) (i := i0) (arrV_mine xs) (arrV_mine ys) Try.underlying51 hi
  rw [cellsInt_mine, eqItems_ints_mine w 9998 xs ys (List.range 16) (fun i hi => by rw [List.mem_range] at hi; omega)] at h
  have e : decide (∀ i ∈ List.range 16, xs[i]? = ys[i]?) = decide (xs = ys) := by
    rw [decide_eq_decide]
    constructor
    · intro h
      apply List.ext_getElem?
      intro i
      by_cases hi : i < 16
      · exact h i (by simpa using hi)
      · rw [List.getElem?_eq_none (by omega), List.getElem?_eq_none (by omega)]
    · rintro rfl _ _; rfl
  rw [e] at h
  exact h

theorem eqKeys_mine (W : World) {xs ys : List Int} (hx : xs.length ≤ 16) (hl : xs.length = ys.length) {b : Bool} (hb : decide (xs = ys) = b) : (Op.equalIn 10000 51 (.agg (arrV_mine (padI xs))) (.agg (arrV_mine (padI ys)))).run Try.prog W = .ok b W := by
  rw [eqArr_mine W _ _ (padI_len hx) (padI_len (by omega)), ← hb]
  exact congrArg (fun b => Result.ok b W) (decide_eq_decide.2 (padI_inj hl))

theorem size16_mine {xs : List Int} (h : xs.length ≤ 16) : (Try.prog.info? 51).map (·.size) = some (arrV_mine (padI xs)).size := by
  rw [arrV_size_mine, padI_len h]; exact sizeArr_mine

set_option maxRecDepth 100000 in
set_option maxHeartbeats 1000000 in
theorem equal_any_mine (w : World) (a1 a2 : Option Addr) (b1 o1 b2 o2 c1 c2 : Nat) (xs ys : List Int) (hx : IntsK .i32 w a1 b1 o1 xs) (hy : IntsK .i32 w a2 b2 o2 ys) (hlx : xs.length ≤ maxLen) (hly : ys.length ≤ maxLen) :
    Calls Try.prog 11 #[.slice a1 xs.length c1, .slice a2 ys.length c2] w fun e w' => e = .returned (.bool (decide (xs = ys))) ∧ Stay w w' := by
  by_cases hl : xs.length = ys.length
  · have hne : ((xs.length : Int) != (ys.length : Int)) = false := by simp [hl]
    by_cases h16 : 16 < xs.length
    · have hcmp := compare_any_mine w a1 a2 b1 o1 b2 o2 c1 c2 xs ys hx hy hlx hly
      have hi : (16 : Int) < (xs.length : Int) := by omega
      clear hx hy hl h16
      go_enter Try.func11, Try.ntmps11
      go_wp2_with (go_at_call 7; refine Calls.mono hcmp ?_; rintro e w' ⟨rfl, rfl⟩)
      go_ret
      refine ⟨?_, Stay.refl _⟩
      have e : (cmpL xs ys == 0) = decide (xs = ys) := by
        rw [Bool.eq_iff_iff, beq_iff_eq, decide_eq_true_iff, cmpL_iff]
      rw [← e]
      rfl
    · have h16' : xs.length ≤ 16 := by omega
      have hk1 := key_any_mine w a1 b1 o1 c1 xs hx h16'
      have hi : (xs.length : Int) ≤ 16 := by omega
      have hz := (zero_of_info infoArr_mine).1
      have HE : Hid (∀ W, (Op.equalIn 10000 51 (.agg (arrV_mine (padI xs))) (.agg (arrV_mine (padI ys)))).run Try.prog W = .ok (decide (xs = ys)) W) := fun W => by
        rw [eqArr_mine W _ _ (padI_len h16') (padI_len (by omega)), decide_eq_decide.2 (padI_inj hl)]
      obtain ⟨Z, hZ⟩ : ∃ Z, Z = List.replicate 16 (Value.int .i32 0) := ⟨_, rfl⟩
      rw [← hZ] at hz
      have HY : Hid (∀ W, Stay w W → Calls Try.prog 23 #[.slice a2 ys.length c2] W fun e w' => e = .returned (.tuple #[.agg (arrV_mine (padI ys)), .int .i64 0]) ∧ Stay W w') := fun W hW => key_any_mine W a2 b2 o2 c2 ys (hy.stay hW) (by omega)
      have HZ : Hid (Z.toArray.size = 16 ∧ xs.length ≤ 16 ∧ ys.length ≤ 16) := ⟨by simp [hZ], h16', by omega⟩
      clear hx hy hl hZ h16 h16'
      go_enter Try.func11, Try.ntmps11
      go_wp2_with (first | (go_at_call 23; refine Calls.mono hk1 ?_; rintro e w1 ⟨rfl, hb1⟩; have HB1 : Hid (Stay w w1) := hb1; clear hb1 hk1) | (refine wpList_store_fresh rfl 51 (.tmp 5) (.tmp 24) rfl (arrV_mine (padI xs)) _ rfl rfl 51 (size16_mine HZ.out.2.1) (by rw [HZ.out.1, arrV_size_mine, padI_len HZ.out.2.1]) (arrV_one_mine _) ?_)
                           | (go_at_call 23; refine Calls.mono (HY.out _ (HB1.out.alloc _)) ?_; rintro e w2 ⟨rfl, hb2⟩; have HB2 : Hid (Stay w w2) := (HB1.out.alloc _).trans hb2; have HG : Hid (w2.heap[w1.heap.size]? = some (.cells (arrV_mine (padI xs)) 51 (0, 0))) := hb2.heap (heap_alloc_new _ _); clear hb2)
                           | (refine wpList_store_fresh rfl 51 (.tmp 7) (.tmp 29) rfl (arrV_mine (padI ys)) _ rfl rfl 51 (size16_mine HZ.out.2.2) (by rw [HZ.out.1, arrV_size_mine, padI_len HZ.out.2.2]) (arrV_one_mine _) ?_)
                           | (refine wpList_load_row rfl 51 (.tmp 5) rfl w1.heap.size rfl 51 (arrV_mine (padI xs)) (0, 0) (.array 16 29) ((Stay.new _ _).heap HG.out) Try.underlying51 rfl (size16_mine HZ.out.2.1) ?_)
                           | (refine wpList_load_row rfl 51 (.tmp 7) rfl w2.heap.size rfl 51 (arrV_mine (padI ys)) (0, 0) (.array 16 29) (heap_alloc_new _ _) Try.underlying51 rfl (size16_mine HZ.out.2.2) ?_; have he := HE.out (w2.alloc (.cells (arrV_mine (padI ys)) 51)); clear HE))
      go_ret
      exact ⟨rfl, HB2.out.alloc _⟩
  · have hne : ((xs.length : Int) != (ys.length : Int)) = true := by simp; omega
    have hd : decide (xs = ys) = false := by rw [decide_eq_false_iff_not]; rintro rfl; exact hl rfl
    have HD : Hid (decide (xs = ys) = false) := hd
    clear hx hy hd hl
    go_enter Try.func11, Try.ntmps11
    go_wp2
    go_ret
    exact ⟨by rw [HD.out]; rfl, Stay.refl _⟩
end Go.Proofs.Ytpflbaniijbpaaa
