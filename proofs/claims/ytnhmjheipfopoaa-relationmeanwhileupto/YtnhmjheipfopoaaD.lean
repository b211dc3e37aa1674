/- Compare, Ints, num: what each answers. Hash: what it answers. Key, Equal: what each answers. -/
import Derived.Test.YtnhmjheipfopoaaA
import Derived.Laws.CopyOwn
import Derived.Deep.WholeRow
namespace Go.Proofs.Ytnhmjheipfopoaa
open Go.RowKit Go.Maps

theorem isNaN_any (x : Int) (w : World) : Calls Try.prog 87 #[.int .i64 x] w fun e w' => e = .returned (.bool false) ∧ w' = w := by
  go_enter Try.func87, Try.ntmps87
  go_wp2
  go_ret
  exact ⟨by simp, rfl⟩

theorem cmp_any (x y : Int) (w : World) : Calls Try.prog 97 #[.int .i64 x, .int .i64 y] w fun e w' => e = .returned (.int .i64 (cmp1 x y)) ∧ w' = w := by
  have h1 := isNaN_any
  go_enter Try.func97, Try.ntmps97
  go_wp2_with (go_at_call 87; refine Calls.mono (h1 _ _) ?_; rintro e w' ⟨rfl, rfl⟩)
  · go_ret
    exact ⟨by simp_all [cmp1], rfl⟩
  · go_ret
    exact ⟨by simp_all [cmp1] <;> omega, rfl⟩
  · go_ret
    exact ⟨by simp_all [cmp1] <;> omega, rfl⟩


set_option maxRecDepth 100000 in
set_option maxHeartbeats 1000000 in
theorem slCompare_any (w : World) (a1 a2 : Option Addr) (b1 o1 b2 o2 c1 c2 : Nat) (xs ys : List Int) (hx : IntsS w a1 b1 o1 xs) (hy : IntsS w a2 b2 o2 ys) (hlx : xs.length ≤ maxLen) (hly : ys.length ≤ maxLen) :
    Calls Try.prog 95 #[.slice a1 xs.length c1, .slice a2 ys.length c2] w fun e w' => e = .returned (.int .i64 (cmpL xs ys)) ∧ w' = w := by
  unfold maxLen at hlx hly
  have HC := cmp_any
  have HX : Hid (IntsS w a1 b1 o1 xs ∧ IntsS w a2 b2 o2 ys) := ⟨hx, hy⟩
  clear hx hy
  go_enter Try.func95, Try.ntmps95
  go_wp2
  go_loopw [11] (fun i wr => ∃ k : Nat, k ≤ xs.length ∧ k ≤ ys.length ∧ i = .int .i64 k ∧ cmpL xs ys = cmpL (xs.drop k) (ys.drop k) ∧ wr = w) (fun i _ => xs.length - (intOf i).toNat)
  case atStart => exact ⟨0, Nat.zero_le _, Nat.zero_le _, rfl, by simp, rfl⟩
  case round =>
    obtain ⟨k, hk, hk2, rfl, htk, rfl⟩ := hrel
    by_cases hlt : k < xs.length
    · obtain rfl := HX.out.1.1 (by omega)
      have hc1 := HX.out.1.2 k hlt
      have hi1 : (k : Int) < (xs.length : Int) := by omega
      by_cases hlt2 : k < ys.length
      · obtain rfl := HX.out.2.1 (by omega)
        have hc2 := HX.out.2.2 k hlt2
        have hi2 : (k : Int) < (ys.length : Int) := by omega
        have HS : Hid (cmpL xs ys = if cmp1 xs[k] ys[k] = 0 then cmpL (xs.drop (k + 1)) (ys.drop (k + 1)) else cmp1 xs[k] ys[k]) := htk.trans (cmpL_step hlt hlt2)
        generalize xs[k] = x at hc1 HS
        generalize ys[k] = y at hc2 HS
        clear htk
        go_wp2_with (go_at_call 97; refine Calls.mono (HC _ _ _) ?_; rintro e w' ⟨rfl, rfl⟩)
        · go_ret
          have h : (cmp1 x y != 0) = true := by assumption
          exact ⟨by rw [HS.out, if_neg (by simpa using h)]; rfl, rfl⟩
        · have h : (cmp1 x y != 0) = false := by assumption
          go_roundw
          case rel => exact ⟨k + 1, by omega, by omega, by go_num, by rw [HS.out, if_pos (by simpa using h)], by first | rfl | trivial⟩
          case measure => simp [intOf]; omega
      · have hi2 : ¬ ((k : Int) < (ys.length : Int)) := by omega
        have HS : Hid (cmpL xs ys = 1) := htk.trans (cmpL_left hlt (by omega))
        have hge : (ys.length : Int) ≤ (k : Int) := by omega
        clear htk
        go_wp2
        go_ret
        exact ⟨by rw [HS.out]; rfl, rfl⟩
    · have HS : Hid (cmpL xs ys = if k < ys.length then -1 else 0) := htk.trans (cmpL_end (by omega) hk2)
      clear htk
      by_cases hlt2 : xs.length < ys.length
      · go_wp2
        go_ret
        exact ⟨by rw [HS.out, if_pos (by omega)]; rfl, rfl⟩
      · go_wp2
        go_ret
        exact ⟨by rw [HS.out, if_neg (by omega)]; rfl, rfl⟩

theorem compare_any (w : World) (a1 a2 : Option Addr) (b1 o1 b2 o2 c1 c2 : Nat) (xs ys : List Int) (hx : IntsS w a1 b1 o1 xs) (hy : IntsS w a2 b2 o2 ys) (hlx : xs.length ≤ maxLen) (hly : ys.length ≤ maxLen) :
    Calls Try.prog 84 #[.slice a1 xs.length c1, .slice a2 ys.length c2] w fun e w' => e = .returned (.int .i64 (cmpL xs ys)) ∧ w' = w := by
  have h := slCompare_any w a1 a2 b1 o1 b2 o2 c1 c2 xs ys hx hy hlx hly
  clear hx hy
  go_enter Try.func84, Try.ntmps84
  go_wp2_with (go_at_call 95; refine Calls.mono h ?_; rintro e w' ⟨rfl, rfl⟩)
  go_ret
  exact ⟨rfl, rfl⟩

end Go.Proofs.Ytnhmjheipfopoaa
namespace Go.Proofs.Ytnhmjheipfopoaa
open Go.RowKit Go.Maps

theorem wrap64 (n : Int) : IntKind.u64.wrap n = n % 18446744073709551616 := by
  simp [IntKind.wrap, IntKind.signed, IntKind.bits]

theorem wrap64_range (n : Int) : 0 ≤ IntKind.u64.wrap n ∧ IntKind.u64.wrap n < 18446744073709551616 := by
  rw [wrap64]; omega

/-- One byte into the hash. -/
def hmix (z x : Int) : Int := IntKind.u64.wrap (bits .xor .u64 z (bits .and .u64 x 255) * 1099511628211)
def h8 : Nat → Int → Int → Int
  | 0, z, _ => z
  | n + 1, z, x => h8 n (hmix z x) (x / 256)
def hashL : List Int → Int → Int
  | [], z => z
  | x :: xs, z => hashL xs (h8 8 z (IntKind.u64.wrap x))
/-- The hash of a tuple. -/
def hashOf (xs : List Int) : Int := hashL xs 14695981039346656037

theorem hashL_step {xs : List Int} {k : Nat} (h : k < xs.length) (z : Int) : hashL (xs.drop k) z = hashL (xs.drop (k + 1)) (h8 8 z (IntKind.u64.wrap xs[k])) := by
  rw [List.drop_eq_getElem_cons h]; rfl

set_option maxRecDepth 100000 in
set_option maxHeartbeats 1000000 in
theorem hash_any (w : World) (a1 : Option Addr) (b1 o1 c1 : Nat) (xs : List Int) (hx : IntsS w a1 b1 o1 xs) (hlx : xs.length ≤ maxLen) :
    Calls Try.prog 67 #[.slice a1 xs.length c1] w fun e w' => e = .returned (.int .u64 (hashOf xs)) ∧ w' = w := by
  unfold maxLen at hlx
  have HX : Hid (IntsS w a1 b1 o1 xs) := hx
  clear hx
  go_enter Try.func67, Try.ntmps67
  go_wp2
  go_loopw [3, 9] (fun h i wr => ∃ (k : Nat) (z : Int), k ≤ xs.length ∧ i = .int .i64 k ∧ h = .int .u64 z ∧ (0 ≤ z ∧ z < 18446744073709551616) ∧ hashL (xs.drop k) z = hashOf xs ∧ w = wr) (fun h i _ => xs.length - (intOf i).toNat)
  case atStart => exact ⟨0, 14695981039346656037, Nat.zero_le _, rfl, rfl, by omega, rfl, rfl⟩
  case round =>
    obtain ⟨k, z, hk, rfl, rfl, hz, hh, rfl⟩ := hrel
    by_cases hlt : k < xs.length
    · obtain rfl := HX.out.1 (by omega)
      have hc1 := HX.out.2 k hlt
      have hi1 : (k : Int) < (xs.length : Int) := by omega
      have HH : Hid (hashL (xs.drop (k + 1)) (h8 8 z (IntKind.u64.wrap xs[k])) = hashOf xs) := (hashL_step hlt z).symm.trans hh
      have HZ : Hid (0 ≤ z ∧ z < 18446744073709551616) := hz
      clear hh hz
      generalize xs[k] = x at hc1 HH
      go_wp2
      go_loopw [3, 6, 15] (fun h r i wr => ∃ (j : Nat) (z' x' : Int), j ≤ 8 ∧ i = .int .i64 j ∧ h = .int .u64 z' ∧ r = .int .u64 x' ∧ (0 ≤ z' ∧ z' < 18446744073709551616) ∧ (0 ≤ x' ∧ x' < 18446744073709551616) ∧ h8 (8 - j) z' x' = h8 8 z (IntKind.u64.wrap x) ∧ w = wr) (fun h r i _ => 8 - (intOf i).toNat)
      case atStart => exact ⟨0, z, _, by omega, rfl, rfl, rfl, HZ.out, wrap64_range x, rfl, rfl⟩
      case round =>
        obtain ⟨j, z', x', hj, rfl, rfl, rfl, hz, hx, hh, rfl⟩ := hrel
        by_cases hlt : j < 8
        · have hj2 : (j : Int) < 8 := by omega
          have HH2 : Hid (h8 (8 - (j + 1)) (hmix z' x') (x' / 256) = h8 8 z (IntKind.u64.wrap x)) := by
            rw [show 8 - j = (8 - (j + 1)) + 1 by omega] at hh
            exact hh
          have HX2 : Hid (0 ≤ x' ∧ x' < 18446744073709551616) := hx
          clear hh hz
          obtain ⟨hx0, hx1⟩ := hx
          go_wp2
          go_roundw
          case rel => exact ⟨j + 1, _, _, by omega, by go_num, rfl, rfl, wrap64_range _, by have := HX2.out; omega, HH2.out, by first | rfl | trivial⟩
          case measure => simp [intOf]; omega
        · have hj2 : ¬ ((j : Int) < 8) := by omega
          obtain rfl : j = 8 := by omega
          have HH2 : Hid (hashL (xs.drop (k + 1)) z' = hashOf xs) := by rw [← HH.out, ← hh]; rfl
          have HZ2 : Hid (0 ≤ z' ∧ z' < 18446744073709551616) := hz
          clear hh hz hx
          go_wp2
          refine ⟨⟨k + 1, z', by omega, by go_num, rfl, HZ2.out, HH2.out, by first | rfl | trivial⟩, ?_⟩
          simp [intOf]; omega
    · rw [List.drop_of_length_le (by omega)] at hh
      have HH : Hid (z = hashOf xs) := hh
      clear hh
      go_wp2
      go_ret
      exact ⟨by rw [← HH.out]; rfl, rfl⟩

theorem hash_zero : hashOf [0] = 12161962213042174405 := by decide +kernel
end Go.Proofs.Ytnhmjheipfopoaa
namespace Go.Proofs.Ytnhmjheipfopoaa
open Go.RowKit Go.Maps

theorem infoArr : (Try.prog.info? 123).map (fun i => (i.zero, i.size)) = some (some (.agg (List.replicate 16 (Value.int .i64 0)).toArray), 16) := by kernel_rfl
theorem sizeArr : (Try.prog.info? 123).map (·.size) = some 16 := by kernel_rfl
theorem sizeInt : (Try.prog.info? 3).map (·.size) = some 1 := by kernel_rfl

/-- The array of a tuple. -/
def padI (xs : List Int) : List Int := xs ++ List.replicate (16 - xs.length) 0
def arrV (zs : List Int) : Array Value := (zs.map (Value.int .i64)).toArray

theorem padI_len {xs : List Int} (h : xs.length ≤ 16) : (padI xs).length = 16 := by simp [padI]; omega
theorem arrV_size (zs : List Int) : (arrV zs).size = zs.length := by simp [arrV]
theorem arrV_one (zs : List Int) : (arrV zs).all (·.oneCell') = true := by simp [arrV, Value.oneCell']

theorem splice_pad (xs : List Int) : splice (List.replicate 16 (Value.int .i64 0)) 0 (xs.map (Value.int .i64)) = (padI xs).map (Value.int .i64) := by
  unfold splice padI
  rw [List.drop_replicate, List.map_append, List.map_replicate]
  simp only [List.take_zero, List.nil_append, List.length_map, Nat.zero_add]

theorem results_cell_tmp {P : Program} {fn : Func} {p t : Tmp} {ty : TypeId} (h : fn.results = #[.cell p ty, .tmp t]) (tmps : Array Value) (w : World) (g : Nat) (t' : TypeId) (cs : Array Value) (fr : Nat × Nat) (d : TypeDesc)
    (hp : tmps.getD p undef = .pointer (some ⟨g, 0, none⟩)) (hg : w.heap[g]? = some (.cells cs t' fr))
    (hu : P.underlying ty = some d) (hd : (match d with | .struct _ | .array _ _ => true | _ => false) = true) (hi : (P.info? ty).map (·.size) = some cs.size) :
    (results fn tmps).run P w = .ok (.tuple #[.agg cs, tmps.getD t undef]) w := by
  have hp' : tmps[p]?.getD undef = .pointer (some ⟨g, 0, none⟩) := by simpa using hp
  simp [results, h, hp', asAddr, run_loadVar_row w g t' ty cs fr d hg hu hd hi]

theorem stay_setRow {w w' : World} {g : Nat} (h : Stay w w') (hg : w.heap.size ≤ g) (cs : Array Value) : Stay w (w'.setRow g cs) := below_setRow h hg cs

theorem Stay.trans' {a b c : World} {n : Nat} (h : Stay a b) (k : Below n b c) (hn : a.heap.size ≤ n := by simp) : Stay a c := Below.trans h (k.mono hn)

set_option maxRecDepth 100000 in
set_option maxHeartbeats 1000000 in
theorem key_any (w : World) (a1 : Option Addr) (b1 o1 c1 : Nat) (xs : List Int) (hx : IntsS w a1 b1 o1 xs) (hlx : xs.length ≤ 16) :
    Calls Try.prog 85 #[.slice a1 xs.length c1] w fun e w' => e = .returned (.tuple #[.agg (arrV (padI xs)), .int .i64 0]) ∧ Stay w w' := by
  have hz := (zero_of_info infoArr).1
  obtain ⟨Z, hZ⟩ : ∃ Z, Z = List.replicate 16 (Value.int .i64 0) := ⟨_, rfl⟩
  obtain ⟨X, hX⟩ : ∃ X, X = xs.map (Value.int .i64) := ⟨_, rfl⟩
  rw [← hZ] at hz
  have HZ : Hid (Z.length = 16 ∧ X.length = xs.length ∧ (∀ v ∈ X, v.oneCell' = true) ∧ splice Z 0 X = (padI xs).map (Value.int .i64)) :=
    ⟨by simp [hZ], by simp [hX], by simp [hX, Value.oneCell'], by rw [hZ, hX]; exact splice_pad xs⟩
  have HS : Hid (0 < X.length → ∃ ad, a1 = some ad ∧ ∀ j v, X[j]? = some v → w.cell? (ad.add j) = some v) := fun h => by
    refine ⟨_, hx.1 (by simpa [hX] using h), fun j v hv => ?_⟩
    rw [hX, List.getElem?_map, Option.map_eq_some_iff] at hv
    obtain ⟨z, h1, rfl⟩ := hv
    obtain ⟨hj, rfl⟩ := List.getElem?_eq_some_iff.1 h1
    rw [add_at]
    exact hx.2 j hj
  clear hx hZ hX
  have hl1 := HZ.out.2.1
  go_enter Try.func85, Try.ntmps85
  go_wp2_with (first | (refine wpList_copy_splice rfl (.tmp 9) (.tmp 10) 23 23 rfl 3 Try.underlying23 sizeInt (some ⟨w.heap.size + 1, 0, none⟩) a1 16 16 xs.length c1 rfl rfl (w.heap.size + 1) 0 Z 123 (heap_alloc2_new _ _ _) X (by rw [hl1]; exact (Nat.min_eq_left hlx).symm) (fun h => ⟨rfl, (HS.out h).imp fun ad h2 => ⟨h2.1, fun j v hv => ((Stay.new w (.cells Z.toArray 123)).alloc (.cells Z.toArray 123)).cell (h2.2 j v hv)⟩⟩) (by rw [HZ.out.1, hl1]; omega) HZ.out.2.2.1 (w.heap.size + 1) _ (Below.refl _ _) (Nat.le_refl _) ?_; intro w2 HG2 hB2; have hs2 := hB2.size; simp only [World.size_alloc] at hs2; have HO : Hid (w2.heap[w.heap.size]? = some (.cells Z.toArray 123 (0, 0))) := (hB2.block w.heap.size (by omega)).trans (heap_alloc2_old _ _ _); have HB : Hid (Stay w w2) := ((Stay.new w (.cells Z.toArray 123)).alloc (.cells Z.toArray 123)).trans' hB2; clear hB2) | (refine wpList_load_row rfl 123 (.tmp 4) rfl (w.heap.size + 1) rfl 123 (splice Z 0 X).toArray (0, 0) (.array 16 3) HG2.out Try.underlying123 rfl (by rw [HZ.out.2.2.2]; simpa [padI_len hlx] using sizeArr) ?_) | (refine wpList_store_row rfl 123 (.tmp 2) (.tmp 12) rfl w.heap.size (splice Z 0 X).toArray rfl rfl 123 Z.toArray HO.out (by rw [HZ.out.2.2.2]; simpa [padI_len hlx] using sizeArr) (by rw [HZ.out.2.2.2]; simp [padI_len hlx, HZ.out.1]) (by rw [HZ.out.2.2.2]; exact arrV_one _) ?_))
  try simp only [Exit.inBlock, Exit.then]
  refine bodyPost_ret (results_cell_tmp rfl _ _ w.heap.size 123 (splice Z 0 X).toArray (0, 0) (.array 16 3) rfl (setRow_heap _ _ _ _ _ _ HO.out) Try.underlying123 rfl (by rw [HZ.out.2.2.2]; simpa [padI_len hlx] using sizeArr)) rfl ?_
  refine ⟨?_, stay_setRow HB.out (Nat.le_refl _) _⟩
  rw [HZ.out.2.2.2]
  rfl

set_option maxRecDepth 100000 in
set_option maxHeartbeats 1000000 in
theorem key_long (w : World) (a1 : Option Addr) (c1 n : Nat) (hn : 16 < n) :
    Calls Try.prog 85 #[.slice a1 n c1] w fun e w' => e = .returned (.tuple #[.agg (arrV (padI [])), .int .i64 3]) ∧ Stay w w' := by
  have hz := (zero_of_info infoArr).1
  obtain ⟨Z, hZ⟩ : ∃ Z, Z = List.replicate 16 (Value.int .i64 0) := ⟨_, rfl⟩
  rw [← hZ] at hz
  have HZ : Hid (Z.length = 16 ∧ Z = (padI []).map (Value.int .i64)) := ⟨by simp [hZ], by rw [hZ]; rfl⟩
  have hi : (16 : Int) < (n : Int) := by omega
  clear hZ
  go_enter Try.func85, Try.ntmps85
  go_wp2_with (first | (refine wpList_load_row rfl 123 (.tmp 4) rfl (w.heap.size + 1) rfl 123 Z.toArray (0, 0) (.array 16 3) (heap_alloc2_new _ _ _) Try.underlying123 rfl (by simpa [HZ.out.1] using sizeArr) ?_) | (refine wpList_store_row rfl 123 (.tmp 2) (.tmp 8) rfl w.heap.size Z.toArray rfl rfl 123 Z.toArray (heap_alloc2_old _ _ _) (by simpa [HZ.out.1] using sizeArr) rfl (by rw [HZ.out.2]; exact arrV_one _) ?_))
  try simp only [Exit.inBlock, Exit.then]
  refine bodyPost_ret (results_cell_tmp rfl _ _ w.heap.size 123 Z.toArray (0, 0) (.array 16 3) rfl (setRow_heap _ _ _ _ _ _ (heap_alloc2_old _ _ _)) Try.underlying123 rfl (by simpa [HZ.out.1] using sizeArr)) rfl ?_
  refine ⟨?_, stay_setRow ((Stay.new w _).alloc _) (Nat.le_refl _) _⟩
  rw [HZ.out.2]
  rfl
end Go.Proofs.Ytnhmjheipfopoaa
