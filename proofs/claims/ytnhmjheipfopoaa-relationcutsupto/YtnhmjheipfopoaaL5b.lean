/- made, Len, bounds, stretch. -/
import Derived.Test.YtnhmjheipfopoaaL5a
import Derived.RangeFuncNested
import Derived.RangeFuncWrites
import Derived.RangeFuncKeeps
import Derived.TacticsInMore
import Derived.LoopNIn
import Derived.LoopIn
namespace Go.Proofs.Ytnhmjheipfopoaa.L
open Go.RowKit Go.Maps Go.Proofs.Ytnhmjheipfopoaa

theorem neq_map (mb : Nat) (w : World) : (binOp .neq 56 (.map (some mb)) (.map none)).run Try.prog w = .ok (.bool true) w := by kernel_rfl
theorem neq_map0 (w : World) : (binOp .neq 56 (.map none) (.map none)).run Try.prog w = .ok (.bool false) w := by kernel_rfl

/-- At rb lies a relation's box. -/
def RBox (W : World) (rb ar n : Nat) (vv : Value) (mb : Nat) : Prop := W.heap[rb]? = some (.cells #[.int .i64 ar, .int .i64 n, vv, .map (some mb)] 58 (0, 0))
section
variable {W W' : World} {rb ar n : Nat} {vv : Value} {mb : Nat}
theorem RBox.c0 (h : RBox W rb ar n vv mb) : W.cell? ⟨rb, 0, none⟩ = some (.int .i64 ar) := by unfold RBox at h; simp [World.cell?, h]
theorem RBox.c1 (h : RBox W rb ar n vv mb) : W.cell? ⟨rb, 1, none⟩ = some (.int .i64 n) := by unfold RBox at h; simp [World.cell?, h]
theorem RBox.c2 (h : RBox W rb ar n vv mb) : W.cell? ⟨rb, 2, none⟩ = some vv := by unfold RBox at h; simp [World.cell?, h]
theorem RBox.c3 (h : RBox W rb ar n vv mb) : W.cell? ⟨rb, 3, none⟩ = some (.map (some mb)) := by unfold RBox at h; simp [World.cell?, h]
theorem RBox.free (h : RBox W rb ar n vv mb) (k : Nat) : W.frozen? ⟨rb, k, none⟩ = false := by unfold RBox at h; simp [World.frozen?, h]
theorem RBox.stay (h : RBox W rb ar n vv mb) (hs : Stay W W') : RBox W' rb ar n vv mb := hs.heap h

theorem rmade_yes (h : RBox W rb ar n vv mb) : Calls Try.prog 40 #[.pointer (some ⟨rb, 0, none⟩)] W fun e w' => e = .returned (.bool true) ∧ w' = W := by
  have c3 := h.c3
  have hn := neq_map
  clear h
  go_enter Try.func40, Try.ntmps40
  go_wp2
  go_ret
  exact ⟨rfl, rfl⟩
theorem rmade_nil (W : World) : Calls Try.prog 40 #[.pointer none] W fun e w' => e = .returned (.bool false) ∧ w' = W := by
  go_enter Try.func40, Try.ntmps40
  go_wp2
  go_ret
  exact ⟨rfl, rfl⟩
theorem rmade_zero (c3 : W.cell? ⟨rb, 3, none⟩ = some (.map none)) : Calls Try.prog 40 #[.pointer (some ⟨rb, 0, none⟩)] W fun e w' => e = .returned (.bool false) ∧ w' = W := by
  have hn := neq_map0
  go_enter Try.func40, Try.ntmps40
  go_wp2
  go_ret
  exact ⟨rfl, rfl⟩

theorem rlen_yes (h : RBox W rb ar n vv mb) : Calls Try.prog 19 #[.pointer (some ⟨rb, 0, none⟩)] W fun e w' => e = .returned (.int .i64 n) ∧ w' = W := by
  have hm := rmade_yes h
  have c1 := h.c1
  clear h
  go_enter Try.func19, Try.ntmps19
  go_wp2_with (go_at_call 40; refine hm.mono ?_; rintro e w9 ⟨rfl, hw⟩; have hw' := hw.symm; subst hw')
  go_ret
  exact ⟨rfl, rfl⟩

theorem two_eq {a b a' b' : Int} (h : a = a') (k : b = b') : Ending.returned (.tuple #[.int .i64 a, .int .i64 b]) = Ending.returned (.tuple #[.int .i64 a', .int .i64 b']) := by rw [h, k]

/-- The stretch of places from x on, below y, of n. -/
def bF (x : Int) : Int := max x 0
def bE (x y : Int) (n : Nat) : Int := max (max x 0) (min y n)

theorem bounds_yes (h : RBox W rb ar n vv mb) (x y : Int) : Calls Try.prog 46 #[.pointer (some ⟨rb, 0, none⟩), .int .i64 x, .int .i64 y] W fun e w' => e = .returned (.tuple #[.int .i64 (bF x), .int .i64 (bE x y n)]) ∧ ∃ d, w' = W.drewN d := by
  have hm := rmade_yes h
  have c1 := h.c1
  clear h
  go_enter Try.func46, Try.ntmps46
  go_wp2_with (go_at_call 40; refine hm.mono ?_; rintro e w9 ⟨rfl, hw⟩; have hw' := hw.symm; subst hw')
  all_goals go_quiet (fail)
  all_goals go_wp2
  all_goals go_ret2
  all_goals exact ⟨two_eq (by unfold bF; omega) (by unfold bE; omega), nq, rfl⟩

theorem cell_of {w : World} {b : Nat} {cs : Array Value} {t : TypeId} {f : Nat × Nat} {k : Nat} {v : Value} (h : w.heap[b]? = some (.cells cs t f)) (hk : cs[k]? = some v) : w.cell? ⟨b, k, none⟩ = some v := by
  simp only [World.cell?, h]
  simpa using hk

theorem stretch_any (W : World) (p : Option Addr) (x y : Int) : Calls Try.prog 36 #[.pointer p, .int .i64 x, .int .i64 y] W fun e w' => ∃ V, e = .returned (.func (.func 54) #[] #[.pointer (some ⟨W.heap.size, 0, none⟩), .pointer (some ⟨W.heap.size + 1, 0, none⟩), .pointer (some ⟨W.heap.size + 2, 0, none⟩)]) ∧ w' = V ∧ Stay W V ∧ V.heap.size = W.heap.size + 3 ∧ (∀ k, W.heap.size ≤ k → k < V.heap.size → ∃ cs t f, V.heap[k]? = some (.cells cs t f)) ∧
    V.cell? ⟨W.heap.size, 0, none⟩ = some (.pointer p) ∧ V.cell? ⟨W.heap.size + 1, 0, none⟩ = some (.int .i64 x) ∧ V.cell? ⟨W.heap.size + 2, 0, none⟩ = some (.int .i64 y) := by
  go_enter Try.func36, Try.ntmps36
  go_wp2
  go_ret
  have h0 : (((W.alloc (.cells #[.pointer p] 24)).alloc (.cells #[.int .i64 x] 3)).alloc (.cells #[.int .i64 y] 3)).heap[W.heap.size]? = some (.cells #[.pointer p] 24 (0, 0)) := (Below.heap_alloc _ _ _ (by simp; omega)).trans ((Below.heap_alloc _ _ _ (by simp)).trans (heap_new _ _))
  have h1 : (((W.alloc (.cells #[.pointer p] 24)).alloc (.cells #[.int .i64 x] 3)).alloc (.cells #[.int .i64 y] 3)).heap[W.heap.size + 1]? = some (.cells #[.int .i64 x] 3 (0, 0)) := by
    refine (Below.heap_alloc _ _ _ (by simp)).trans ?_
    have := heap_new (W.alloc (.cells #[.pointer p] 24)) (.cells #[.int .i64 x] 3)
    rwa [World.size_alloc] at this
  have h2 : (((W.alloc (.cells #[.pointer p] 24)).alloc (.cells #[.int .i64 x] 3)).alloc (.cells #[.int .i64 y] 3)).heap[W.heap.size + 2]? = some (.cells #[.int .i64 y] 3 (0, 0)) := by
    have := heap_new ((W.alloc (.cells #[.pointer p] 24)).alloc (.cells #[.int .i64 x] 3)) (.cells #[.int .i64 y] 3)
    rwa [World.size_alloc, World.size_alloc] at this
  refine ⟨_, rfl, rfl, ((Stay.new _ _).alloc _).alloc _, by simp, fun k h3 h4 => ?_, cell_of h0 rfl, cell_of h1 rfl, cell_of h2 rfl⟩
  simp at h4
  have h5 : k = W.heap.size ∨ k = W.heap.size + 1 ∨ k = W.heap.size + 2 := by omega
  rcases h5 with rfl | rfl | rfl
  · exact ⟨_, _, _, h0⟩
  · exact ⟨_, _, _, h1⟩
  · exact ⟨_, _, _, h2⟩

/-- A place, as it is told. -/
def encPl (x : Nat) : Array Value := #[.int .i64 x]
/-- The places from f on, below g. -/
def pls (f g : Nat) : List Nat := (List.range (g - f)).map (f + ·)
theorem pls_len (f g : Nat) : (pls f g).length = g - f := by simp [pls]
theorem pls_succ (f k : Nat) : (List.range (k + 1)).map (f + ·) = (List.range k).map (f + ·) ++ [f + k] := by rw [List.range_succ, List.map_append]; rfl

set_option maxRecDepth 100000 in
set_option maxHeartbeats 2000000 in
theorem stretch1_in (m : Nat) (hm : 1 ≤ m) (l b1 b2 b3 : Nat) (J Jx : List Nat → World → Prop) (W : World) (h1 : W.cell? ⟨b1, 0, none⟩ = some (.pointer (some ⟨rb, 0, none⟩))) (x y : Int) (h2 : W.cell? ⟨b2, 0, none⟩ = some (.int .i64 x)) (h3 : W.cell? ⟨b3, 0, none⟩ = some (.int .i64 y))
    (h : RBox W rb ar n vv mb) (f g : Nat) (hf : bF x = f) (hg : bE x y n = g) (hfg : f ≤ g) (hgl : g ≤ 68719476736) (hA : AbidesFrom W.heap.size J)
    (hY : ∀ pre z W1, J pre W1 → pre.length < g - f → YieldAt Fence.wide (m - 1) Try.prog l (encPl z) W1 fun e W' =>
      (e = .returned (.bool true) ∧ J (pre ++ [z]) W' ∧ True) ∨ (e = .returned (.bool false) ∧ Jx (pre ++ [z]) W')) (h0 : J [] W) :
    CallsIn Fence.wide m Try.prog 54 #[.func (.yield l) #[] #[], .pointer (some ⟨b1, 0, none⟩), .pointer (some ⟨b2, 0, none⟩), .pointer (some ⟨b3, 0, none⟩)] W fun e W' => (∃ v, e = .returned v) ∧
      ((∃ ys, ys = pls f g ∧ J ys W') ∨ (∃ pre, (∃ k, k ≤ g - f ∧ pre = (List.range k).map (f + ·)) ∧ Jx pre W')) := by
  have hb := bounds_yes h x y
  rw [hf, hg] at hb
  clear h
  refine callsIn_of_wp Try.func54 rfl trivial ?_ rfl
  simp only [Try.ntmps54, List.size_toArray, List.length_cons, List.length_nil, Nat.reduceAdd, Nat.reduceSub, Array.replicate_succ, Array.replicate_zero, List.push_toArray, List.append_toArray, List.nil_append, List.cons_append]
  gi_wp2_with (refine ⟨trivial, ?_⟩; gi_at_call 46; refine CallsIn.mono (callsIn_wide.2 hb) ?_; rintro e w' ⟨rfl, d, rfl⟩)
  have hJ1 : J [] (W.drewN d) := hA [] W (W.drewN d) none h0 ⟨rfl, rfl, rfl, Nat.le_refl _, fun _ _ _ => rfl⟩ (fun r e => by cases e)
  have HI : Hid (J ((List.range 0).map (f + ·)) (W.drewN d)) := hJ1
  clear hb hJ1 h1 h2 h3
  gi_loopw [7] (fun ui wr => ∃ k : Nat, k ≤ g - f ∧ ui = .int .i64 ((f + k : Nat) : Int) ∧ J ((List.range k).map (f + ·)) wr) (fun ui _ => g - (intOf ui).toNat)
  case atStart => exact ⟨0, Nat.zero_le _, rfl, HI.out⟩
  case round =>
    obtain ⟨k, hk, rfl, hJ⟩ := hrel
    by_cases hlt : k < g - f
    · have hki : ((f + k : Nat) : Int) < (g : Int) := by omega
      have HSu : Hid ((List.range (k + 1)).map (f + ·) = (List.range k).map (f + ·) ++ [f + k]) := pls_succ f k
      obtain ⟨fn, tmps, assign, body, hy, hR⟩ := hY _ (f + k) _ hJ (by simpa using hlt)
      dsimp only [encPl] at hy
      rw [Int.natCast_add] at hy hki
      clear hJ hA hY
      gi_wp2
      refine hR.mono ?_
      rintro e9 W3 (⟨rfl, hJ3, _⟩ | ⟨rfl, hJx3⟩)
      · have HJ3 : Hid (J ((List.range (k + 1)).map (f + ·)) W3) := by rw [HSu.out]; exact hJ3
        clear hJ3
        gi_wp2
        go_roundw
        case rel => exact ⟨k + 1, by omega, by go_num, HJ3.out⟩
        case measure => simp [intOf]; omega
      · have HJ3 : Hid (Jx ((List.range (k + 1)).map (f + ·)) W3) := by rw [HSu.out]; exact hJx3
        clear hJx3
        gi_wp2
        refine bodyPost_ret (results_none rfl _ _ _) rfl ?_
        exact ⟨⟨_, rfl⟩, .inr ⟨_, ⟨k + 1, by omega, rfl⟩, HJ3.out⟩⟩
    · obtain rfl : k = g - f := by omega
      have HJ : Hid (J (pls f g) wr) := hJ
      have hki : ¬ ((f + (g - f) : Nat) : Int) < (g : Int) := by omega
      clear hJ hY hA
      gi_wp2
      go_end0
      exact ⟨⟨_, rfl⟩, .inl HJ.out⟩
end
end Go.Proofs.Ytnhmjheipfopoaa.L
