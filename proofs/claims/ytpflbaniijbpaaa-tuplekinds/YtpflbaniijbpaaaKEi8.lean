/- Key and Equal at i8. -/
import Derived.Test.YtpflbaniijbpaaaE
import Derived.Test.YtpflbaniijbpaaaKBi8
namespace Go.Proofs.Ytpflbaniijbpaaa
open Go.RowKit Go.Maps

theorem infoArr_i8 : (Try.prog.info? 47).map (fun i => (i.zero, i.size)) = some (some (.agg (List.replicate 16 (Value.int .i8 0)).toArray), 16) := by kernel_rfl
theorem sizeArr_i8 : (Try.prog.info? 47).map (·.size) = some 16 := by kernel_rfl
theorem sizeInt_i8 : (Try.prog.info? 27).map (·.size) = some 1 := by kernel_rfl

theorem infoInt_i8 : (Try.prog.info? 27).map (fun i => (i.zero, i.size, i.bytes)) = some (some (.int .i8 0), 1, 1) := by kernel_rfl
def arrV_i8 (zs : List Int) : Array Value := (zs.map (Value.int .i8)).toArray

theorem arrV_size_i8 (zs : List Int) : (arrV_i8 zs).size = zs.length := by simp [arrV_i8]
theorem arrV_one_i8 (zs : List Int) : (arrV_i8 zs).all (·.oneCell') = true := by simp [arrV_i8, Value.oneCell']

theorem splice_pad_i8 (xs : List Int) : splice (List.replicate 16 (Value.int .i8 0)) 0 (xs.map (Value.int .i8)) = (padI xs).map (Value.int .i8) := by
  unfold splice padI
  rw [List.drop_replicate, List.map_append, List.map_replicate]
  simp only [List.take_zero, List.nil_append, List.length_map, Nat.zero_add]

set_option maxRecDepth 100000 in
set_option maxHeartbeats 1000000 in
theorem key_any_i8 (w : World) (a1 : Option Addr) (b1 o1 c1 : Nat) (xs : List Int) (hx : IntsK .i8 w a1 b1 o1 xs) (hlx : xs.length ≤ 16) :
    Calls Try.prog 22 #[.slice a1 xs.length c1] w fun e w' => e = .returned (.tuple #[.agg (arrV_i8 (padI xs)), .int .i64 0]) ∧ Stay w w' := by
  have hz := (zero_of_info infoArr_i8).1
  obtain ⟨Z, hZ⟩ : ∃ Z, Z = List.replicate 16 (Value.int .i8 0) := ⟨_, rfl⟩
  obtain ⟨X, hX⟩ : ∃ X, X = xs.map (Value.int .i8) := ⟨_, rfl⟩
  rw [← hZ] at hz
  have HZ : Hid (Z.length = 16 ∧ X.length = xs.length ∧ (∀ v ∈ X, v.oneCell' = true) ∧ splice Z 0 X = (padI xs).map (Value.int .i8)) :=
    ⟨by simp [hZ], by simp [hX], by simp [hX, Value.oneCell'], by rw [hZ, hX]; exact splice_pad_i8 xs⟩
  have HS : Hid (0 < X.length → ∃ ad, a1 = some ad ∧ ∀ j v, X[j]? = some v → w.cell? (ad.add j) = some v) := fun h => by
    refine ⟨_, hx.1 (by simpa [hX] using h), fun j v hv => ?_⟩
    rw [hX, List.getElem?_map, Option.map_eq_some_iff] at hv
    obtain ⟨z, h1, rfl⟩ := hv
    obtain ⟨hj, rfl⟩ := List.getElem?_eq_some_iff.1 h1
    rw [add_at]
    exact hx.2 j hj
  clear hx hZ hX
  have hl1 := HZ.out.2.1
  go_enter Try.func22, Try.ntmps22
  go_wp2_with (first | (refine wpList_copy_splice rfl (.tmp 9) (.tmp 10) 23 23 rfl 27 Try.underlying23 sizeInt_i8 (some ⟨w.heap.size + 1, 0, none⟩) a1 16 16 xs.length c1 rfl rfl (w.heap.size + 1) 0 Z 47 (heap_alloc2_new _ _ _) X (by rw [hl1]; exact (Nat.min_eq_left hlx).symm) (fun h => ⟨rfl, (HS.out h).imp fun ad h2 => ⟨h2.1, fun j v hv => ((Stay.new w (.cells Z.toArray 47)).alloc (.cells Z.toArray 47)).cell (h2.2 j v hv)⟩⟩) (by rw [HZ.out.1, hl1]; omega) HZ.out.2.2.1 (w.heap.size + 1) _ (Below.refl _ _) (Nat.le_refl _) ?_; intro w2 HG2 hB2; have hs2 := hB2.size; simp only [World.size_alloc] at hs2; have HO : Hid (w2.heap[w.heap.size]? = some (.cells Z.toArray 47 (0, 0))) := (hB2.block w.heap.size (by omega)).trans (heap_alloc2_old _ _ _); have HB : Hid (Stay w w2) := ((Stay.new w (.cells Z.toArray 47)).alloc (.cells Z.toArray 47)).trans' hB2; clear hB2) | (refine wpList_load_row rfl 47 (.tmp 4) rfl (w.heap.size + 1) rfl 47 (splice Z 0 X).toArray (0, 0) (.array 16 27) HG2.out Try.underlying47 rfl (by rw [HZ.out.2.2.2]; simpa [padI_len hlx] using sizeArr_i8) ?_) | (refine wpList_store_row rfl 47 (.tmp 2) (.tmp 12) rfl w.heap.size (splice Z 0 X).toArray rfl rfl 47 Z.toArray HO.out (by rw [HZ.out.2.2.2]; simpa [padI_len hlx] using sizeArr_i8) (by rw [HZ.out.2.2.2]; simp [padI_len hlx, HZ.out.1]) (by rw [HZ.out.2.2.2]; exact arrV_one_i8 _) ?_))
  try simp only [Exit.inBlock, Exit.then]
  refine bodyPost_ret (results_cell_tmp rfl _ _ w.heap.size 47 (splice Z 0 X).toArray (0, 0) (.array 16 27) rfl (setRow_heap _ _ _ _ _ _ HO.out) Try.underlying47 rfl (by rw [HZ.out.2.2.2]; simpa [padI_len hlx] using sizeArr_i8)) rfl ?_
  refine ⟨?_, stay_setRow HB.out (Nat.le_refl _) _⟩
  rw [HZ.out.2.2.2]
  rfl

theorem cellsInt_i8 : Try.prog.cellsOf 27 = 1 := by kernel_rfl
theorem plainInt_i8 : Try.prog.plainKey 27 = true := by kernel_rfl

theorem eqItems_ints_i8 (w : World) (d : Nat) (xs ys : List Int) : ∀ (is : List Nat), (∀ i ∈ is, i < xs.length ∧ i < ys.length) →
    (Op.eqItems (d + 1) 27 1 (arrV_i8 xs) (arrV_i8 ys) is).run Try.prog w = .ok (decide (∀ i ∈ is, xs[i]? = ys[i]?)) w
  | [], _ => by simp [Op.eqItems]
  | i :: is, h => by
    obtain ⟨h1, h2⟩ := h i (by simp)
    have p1 : (part 27 (arrV_i8 xs) i).run Try.prog w = .ok (.int .i8 xs[i]) w := run_part_plain w plainInt_i8 (by simp [arrV_i8, h1])
    have p2 : (part 27 (arrV_i8 ys) i).run Try.prog w = .ok (.int .i8 ys[i]) w := run_part_plain w plainInt_i8 (by simp [arrV_i8, h2])
    have ih := eqItems_ints_i8 w d xs ys is (fun j hj => h j (by simp [hj]))
    simp only [Op.eqItems, Nat.mul_one, Sem.run_bind, p1, p2, Result.andThen_ok, run_equalIn_int w d 27 .i8 .i8 xs[i] ys[i] Try.underlying27]
    by_cases e : xs[i] = ys[i]
    · simp [e, ih, h1, h2]
    · simp [e, h1, h2]

theorem eqArr_i8 (w : World) (xs ys : List Int) (hx : xs.length = 16) (hy : ys.length = 16) :
    (Op.equalIn 10000 47 (.agg (arrV_i8 xs)) (.agg (arrV_i8 ys))).run Try.prog w = .ok (decide (xs = ys)) w := by
  obtain ⟨i0, hi, hz0, hz1, hz2⟩ := info_parts infoInt_i8
  have h := run_equalIn_array (P := Try.prog) w 9999 (t := 47) (e := 27) (n := 16) (i := i0) (arrV_i8 xs) (arrV_i8 ys) Try.underlying47 hi
  rw [cellsInt_i8, eqItems_ints_i8 w 9998 xs ys (List.range 16) (fun i hi => by rw [List.mem_range] at hi; omega)] at h
  have e : decide (∀ i ∈ List.range 16, xs[i]? = ys[i]?) = decide (xs = ys) := by
    rw [decide_eq_decide]
    constructor
    · intro h
      apply List.ext_getElem?
      intro i
      by_cases hi : i < 16
      · exact h i (by simpa using hi)
      · rw [List.getElem?_eq_none (by omega), List.getElem?_eq_none (by omega)]
    · rintro rfl _ _; rfl
  rw [e] at h
  exact h

theorem eqKeys_i8 (W : World) {xs ys : List Int} (hx : xs.length ≤ 16) (hl : xs.length = ys.length) {b : Bool} (hb : decide (xs = ys) = b) : (Op.equalIn 10000 47 (.agg (arrV_i8 (padI xs))) (.agg (arrV_i8 (padI ys)))).run Try.prog W = .ok b W := by
  rw [eqArr_i8 W _ _ (padI_len hx) (padI_len (by omega)), ← hb]
  exact congrArg (fun b => Result.ok b W) (decide_eq_decide.2 (padI_inj hl))

theorem size16_i8 {xs : List Int} (h : xs.length ≤ 16) : (Try.prog.info? 47).map (·.size) = some (arrV_i8 (padI xs)).size := by
  rw [arrV_size_i8, padI_len h]; exact sizeArr_i8

set_option maxRecDepth 100000 in
set_option maxHeartbeats 1000000 in
theorem equal_any_i8 (w : World) (a1 a2 : Option Addr) (b1 o1 b2 o2 c1 c2 : Nat) (xs ys : List Int) (hx : IntsK .i8 w a1 b1 o1 xs) (hy : IntsK .i8 w a2 b2 o2 ys) (hlx : xs.length ≤ maxLen) (hly : ys.length ≤ maxLen) :
    Calls Try.prog 9 #[.slice a1 xs.length c1, .slice a2 ys.length c2] w fun e w' => e = .returned (.bool (decide (xs = ys))) ∧ Stay w w' := by
  by_cases hl : xs.length = ys.length
  · have hne : ((xs.length : Int) != (ys.length : Int)) = false := by simp [hl]
    by_cases h16 : 16 < xs.length
    · have hcmp := compare_any_i8 w a1 a2 b1 o1 b2 o2 c1 c2 xs ys hx hy hlx hly
      have hi : (16 : Int) < (xs.length : Int) := by omega
      clear hx hy hl h16
      go_enter Try.func9, Try.ntmps9
      go_wp2_with (go_at_call 4; refine Calls.mono hcmp ?_; rintro e w' ⟨rfl, rfl⟩)
      go_ret
      refine ⟨?_, Stay.refl _⟩
      have e : (cmpL xs ys == 0) = decide (xs = ys) := by
        rw [Bool.eq_iff_iff, beq_iff_eq, decide_eq_true_iff, cmpL_iff]
      rw [← e]
      rfl
    · have h16' : xs.length ≤ 16 := by omega
      have hk1 := key_any_i8 w a1 b1 o1 c1 xs hx h16'
      have hi : (xs.length : Int) ≤ 16 := by omega
      have hz := (zero_of_info infoArr_i8).1
      have HE : Hid (∀ W, (Op.equalIn 10000 47 (.agg (arrV_i8 (padI xs))) (.agg (arrV_i8 (padI ys)))).run Try.prog W = .ok (decide (xs = ys)) W) := fun W => by
        rw [eqArr_i8 W _ _ (padI_len h16') (padI_len (by omega)), decide_eq_decide.2 (padI_inj hl)]
      obtain ⟨Z, hZ⟩ : ∃ Z, Z = List.replicate 16 (Value.int .i8 0) := ⟨_, rfl⟩
      rw [← hZ] at hz
      have HY : Hid (∀ W, Stay w W → Calls Try.prog 22 #[.slice a2 ys.length c2] W fun e w' => e = .returned (.tuple #[.agg (arrV_i8 (padI ys)), .int .i64 0]) ∧ Stay W w') := fun W hW => key_any_i8 W a2 b2 o2 c2 ys (hy.stay hW) (by omega)
      have HZ : Hid (Z.toArray.size = 16 ∧ xs.length ≤ 16 ∧ ys.length ≤ 16) := ⟨by simp [hZ], h16', by omega⟩
      clear hx hy hl hZ h16 h16'
      go_enter Try.func9, Try.ntmps9
      go_wp2_with (first | (go_at_call 22; refine Calls.mono hk1 ?_; rintro e w1 ⟨rfl, hb1⟩; have HB1 : Hid (Stay w w1) := hb1; clear hb1 hk1) | (refine wpList_store_fresh rfl 47 (.tmp 5) (.tmp 24) rfl (arrV_i8 (padI xs)) _ rfl rfl 47 (size16_i8 HZ.out.2.1) (by rw [HZ.out.1, arrV_size_i8, padI_len HZ.out.2.1]) (arrV_one_i8 _) ?_)
                           | (go_at_call 22; refine Calls.mono (HY.out _ (HB1.out.alloc _)) ?_; rintro e w2 ⟨rfl, hb2⟩; have HB2 : Hid (Stay w w2) := (HB1.out.alloc _).trans hb2; have HG : Hid (w2.heap[w1.heap.size]? = some (.cells (arrV_i8 (padI xs)) 47 (0, 0))) := hb2.heap (heap_alloc_new _ _); clear hb2)
                           | (refine wpList_store_fresh rfl 47 (.tmp 7) (.tmp 29) rfl (arrV_i8 (padI ys)) _ rfl rfl 47 (size16_i8 HZ.out.2.2) (by rw [HZ.out.1, arrV_size_i8, padI_len HZ.out.2.2]) (arrV_one_i8 _) ?_)
                           | (refine wpList_load_row rfl 47 (.tmp 5) rfl w1.heap.size rfl 47 (arrV_i8 (padI xs)) (0, 0) (.array 16 27) ((Stay.new _ _).heap HG.out) Try.underlying47 rfl (size16_i8 HZ.out.2.1) ?_)
                           | (refine wpList_load_row rfl 47 (.tmp 7) rfl w2.heap.size rfl 47 (arrV_i8 (padI ys)) (0, 0) (.array 16 27) (heap_alloc_new _ _) Try.underlying47 rfl (size16_i8 HZ.out.2.2) ?_; have he := HE.out (w2.alloc (.cells (arrV_i8 (padI ys)) 47)); clear HE))
      go_ret
      exact ⟨rfl, HB2.out.alloc _⟩
  · have hne : ((xs.length : Int) != (ys.length : Int)) = true := by simp; omega
    have hd : decide (xs = ys) = false := by rw [decide_eq_false_iff_not]; rintro rfl; exact hl rfl
    have HD : Hid (decide (xs = ys) = false) := hd
    clear hx hy hd hl
    go_enter Try.func9, Try.ntmps9
    go_wp2
    go_ret
    exact ⟨by rw [HD.out]; rfl, Stay.refl _⟩
end Go.Proofs.Ytpflbaniijbpaaa
