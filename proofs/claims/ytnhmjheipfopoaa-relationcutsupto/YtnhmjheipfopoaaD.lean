/- Key, Equal: what each answers. -/
import Derived.Test.YtnhmjheipfopoaaC
import Derived.Laws.CopyOwn
import Derived.Deep.WholeRow
namespace Go.Proofs.Ytnhmjheipfopoaa
open Go.RowKit Go.Maps

theorem infoArr : (Try.prog.info? 123).map (fun i => (i.zero, i.size)) = some (some (.agg (List.replicate 16 (Value.int .i64 0)).toArray), 16) := by kernel_rfl
theorem sizeArr : (Try.prog.info? 123).map (·.size) = some 16 := by kernel_rfl
theorem sizeInt : (Try.prog.info? 3).map (·.size) = some 1 := by kernel_rfl

/-- The array of a tuple. -/
def padI (xs : List Int) : List Int := xs ++ List.replicate (16 - xs.length) 0
def arrV (zs : List Int) : Array Value := (zs.map (Value.int .i64)).toArray

theorem padI_len {xs : List Int} (h : xs.length ≤ 16) : (padI xs).length = 16 := by simp [padI]; omega
theorem arrV_size (zs : List Int) : (arrV zs).size = zs.length := by simp [arrV]
theorem arrV_one (zs : List Int) : (arrV zs).all (·.oneCell') = true := by simp [arrV, Value.oneCell']

theorem splice_pad (xs : List Int) : splice (List.replicate 16 (Value.int .i64 0)) 0 (xs.map (Value.int .i64)) = (padI xs).map (Value.int .i64) := by
  unfold splice padI
  rw [List.drop_replicate, List.map_append, List.map_replicate]
  simp only [List.take_zero, List.nil_append, List.length_map, Nat.zero_add]

theorem results_cell_tmp {P : Program} {fn : Func} {p t : Tmp} {ty : TypeId} (h : fn.results = #[.cell p ty, .tmp t]) (tmps : Array Value) (w : World) (g : Nat) (t' : TypeId) (cs : Array Value) (fr : Nat × Nat) (d : TypeDesc)
    (hp : tmps.getD p undef = .pointer (some ⟨g, 0, none⟩)) (hg : w.heap[g]? = some (.cells cs t' fr))
    (hu : P.underlying ty = some d) (hd : (match d with | .struct _ | .array _ _ => true | _ => false) = true) (hi : (P.info? ty).map (·.size) = some cs.size) :
    (results fn tmps).run P w = .ok (.tuple #[.agg cs, tmps.getD t undef]) w := by
  have hp' : tmps[p]?.getD undef = .pointer (some ⟨g, 0, none⟩) := by simpa using hp
  simp [results, h, hp', asAddr, run_loadVar_row w g t' ty cs fr d hg hu hd hi]

theorem stay_setRow {w w' : World} {g : Nat} (h : Stay w w') (hg : w.heap.size ≤ g) (cs : Array Value) : Stay w (w'.setRow g cs) := below_setRow h hg cs

theorem Stay.trans' {a b c : World} {n : Nat} (h : Stay a b) (k : Below n b c) (hn : a.heap.size ≤ n := by simp) : Stay a c := Below.trans h (k.mono hn)

set_option maxRecDepth 100000 in
set_option maxHeartbeats 1000000 in
theorem key_any (w : World) (a1 : Option Addr) (b1 o1 c1 : Nat) (xs : List Int) (hx : IntsS w a1 b1 o1 xs) (hlx : xs.length ≤ 16) :
    Calls Try.prog 85 #[.slice a1 xs.length c1] w fun e w' => e = .returned (.tuple #[.agg (arrV (padI xs)), .int .i64 0]) ∧ Stay w w' := by
  have hz := (zero_of_info infoArr).1
  obtain ⟨Z, hZ⟩ : ∃ Z, Z = List.replicate 16 (Value.int .i64 0) := ⟨_, rfl⟩
  obtain ⟨X, hX⟩ : ∃ X, X = xs.map (Value.int .i64) := ⟨_, rfl⟩
  rw [← hZ] at hz
  have HZ : Hid (Z.length = 16 ∧ X.length = xs.length ∧ (∀ v ∈ X, v.oneCell' = true) ∧ splice Z 0 X = (padI xs).map (Value.int .i64)) :=
    ⟨by simp [hZ], by simp [hX], by simp [hX, Value.oneCell'], by rw [hZ, hX]; exact splice_pad xs⟩
  have HS : Hid (0 < X.length → ∃ ad, a1 = some ad ∧ ∀ j v, X[j]? = some v → w.cell? (ad.add j) = some v) := fun h => by
    refine ⟨_, hx.1 (by simpa [hX] using h), fun j v hv => ?_⟩
    rw [hX, List.getElem?_map, Option.map_eq_some_iff] at hv
    obtain ⟨z, h1, rfl⟩ := hv
    obtain ⟨hj, rfl⟩ := List.getElem?_eq_some_iff.1 h1
    rw [add_at]
    exact hx.2 j hj
  clear hx hZ hX
  have hl1 := HZ.out.2.1
  go_enter Try.func85, Try.ntmps85
  go_wp2_with (first | (refine wpList_copy_splice rfl (.tmp 9) (.tmp 10) 23 23 rfl 3 Try.underlying23 sizeInt (some ⟨w.heap.size + 1, 0, none⟩) a1 16 16 xs.length c1 rfl rfl (w.heap.size + 1) 0 Z 123 (heap_alloc2_new _ _ _) X (by rw [hl1]; exact (Nat.min_eq_left hlx).symm) (fun h => ⟨rfl, (HS.out h).imp fun ad h2 => ⟨h2.1, fun j v hv => ((Stay.new w (.cells Z.toArray 123)).alloc (.cells Z.toArray 123)).cell (h2.2 j v hv)⟩⟩) (by rw [HZ.out.1, hl1]; omega) HZ.out.2.2.1 (w.heap.size + 1) _ (Below.refl _ _) (Nat.le_refl _) ?_; intro w2 HG2 hB2; have hs2 := hB2.size; simp only [World.size_alloc] at hs2; have HO : Hid (w2.heap[w.heap.size]? = some (.cells Z.toArray 123 (0, 0))) := (hB2.block w.heap.size (by omega)).trans (heap_alloc2_old _ _ _); have HB : Hid (Stay w w2) := ((Stay.new w (.cells Z.toArray 123)).alloc (.cells Z.toArray 123)).trans' hB2; clear hB2) | (refine wpList_load_row rfl 123 (.tmp 4) rfl (w.heap.size + 1) rfl 123 (splice Z 0 X).toArray (0, 0) (.array 16 3) HG2.out Try.underlying123 rfl (by rw [HZ.out.2.2.2]; simpa [padI_len hlx] using sizeArr) ?_) | (refine wpList_store_row rfl 123 (.tmp 2) (.tmp 12) rfl w.heap.size (splice Z 0 X).toArray rfl rfl 123 Z.toArray HO.out (by rw [HZ.out.2.2.2]; simpa [padI_len hlx] using sizeArr) (by rw [HZ.out.2.2.2]; simp [padI_len hlx, HZ.out.1]) (by rw [HZ.out.2.2.2]; exact arrV_one _) ?_))
  try simp only [Exit.inBlock, Exit.then]
  refine bodyPost_ret (results_cell_tmp rfl _ _ w.heap.size 123 (splice Z 0 X).toArray (0, 0) (.array 16 3) rfl (setRow_heap _ _ _ _ _ _ HO.out) Try.underlying123 rfl (by rw [HZ.out.2.2.2]; simpa [padI_len hlx] using sizeArr)) rfl ?_
  refine ⟨?_, stay_setRow HB.out (Nat.le_refl _) _⟩
  rw [HZ.out.2.2.2]
  rfl

set_option maxRecDepth 100000 in
set_option maxHeartbeats 1000000 in
theorem key_long (w : World) (a1 : Option Addr) (c1 n : Nat) (hn : 16 < n) :
    Calls Try.prog 85 #[.slice a1 n c1] w fun e w' => e = .returned (.tuple #[.agg (arrV (padI [])), .int .i64 3]) ∧ Stay w w' := by
  have hz := (zero_of_info infoArr).1
  obtain ⟨Z, hZ⟩ : ∃ Z, Z = List.replicate 16 (Value.int .i64 0) := ⟨_, rfl⟩
  rw [← hZ] at hz
  have HZ : Hid (Z.length = 16 ∧ Z = (padI []).map (Value.int .i64)) := ⟨by simp [hZ], by rw [hZ]; rfl⟩
  have hi : (16 : Int) < (n : Int) := by omega
  clear hZ
  go_enter Try.func85, Try.ntmps85
  go_wp2_with (first | (refine wpList_load_row rfl 123 (.tmp 4) rfl (w.heap.size + 1) rfl 123 Z.toArray (0, 0) (.array 16 3) (heap_alloc2_new _ _ _) Try.underlying123 rfl (by simpa [HZ.out.1] using sizeArr) ?_) | (refine wpList_store_row rfl 123 (.tmp 2) (.tmp 8) rfl w.heap.size Z.toArray rfl rfl 123 Z.toArray (heap_alloc2_old _ _ _) (by simpa [HZ.out.1] using sizeArr) rfl (by rw [HZ.out.2]; exact arrV_one _) ?_))
  try simp only [Exit.inBlock, Exit.then]
  refine bodyPost_ret (results_cell_tmp rfl _ _ w.heap.size 123 Z.toArray (0, 0) (.array 16 3) rfl (setRow_heap _ _ _ _ _ _ (heap_alloc2_old _ _ _)) Try.underlying123 rfl (by simpa [HZ.out.1] using sizeArr)) rfl ?_
  refine ⟨?_, stay_setRow ((Stay.new w _).alloc _) (Nat.le_refl _) _⟩
  rw [HZ.out.2]
  rfl
end Go.Proofs.Ytnhmjheipfopoaa
