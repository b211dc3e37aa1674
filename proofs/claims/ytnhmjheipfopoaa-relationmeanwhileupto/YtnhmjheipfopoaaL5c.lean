/- The map of lookups: keys are rows of columns, values are pointers to lookups. made, Len, bounds, stretch. A relation in memory; New, piece. -/
import Derived.Test.YtnhmjheipfopoaaL4j
import Derived.DeepKeys4
import Derived.Maps.Range
import Derived.Maps.RangeWalk
import Derived.Maps.OwnSet
import Derived.Maps.Views
import Derived.RangeFuncNested
import Derived.RangeFuncWrites
import Derived.RangeFuncKeeps
import Derived.TacticsInMore
import Derived.LoopNIn
import Derived.LoopIn
namespace Go.Proofs.Ytnhmjheipfopoaa.L
open Go.RowKit Go.Maps Go.Proofs.Ytnhmjheipfopoaa

theorem laidOut : laidOutB Try.prog = true := by kernel_rfl
theorem keyT : Try.prog.keyTypeAt 5 64 = true := by kernel_rfl
theorem smallT : 5 + 1 ≤ 10000 := by omega
theorem rowT : 64 < Try.prog.types.size := of_decide_eq_true (by kernel_rfl)
set_option maxRecDepth 100000 in
theorem keyedR : Keyed Try.prog 64 := Keyed.of_law (deep_law_laid laidOut smallT rowT keyT (by kernel_rfl))

/-- What a row of columns reads as. -/
def keyR (c : Nat) : Lit := .string (keyBytes ((List.range 16).map fun i => Lit.bool (c.testBit i)))
theorem keyOf_row (c : Nat) : keyOf Try.prog 64 (.agg (rowV c)) = some (keyR c) := by kernel_rfl
theorem keyR_inj {c d : Nat} (hc : c < 65536) (hd : d < 65536) (h : keyR c = keyR d) : c = d := by
  have h1 := keyOf_row c
  rw [h] at h1
  have := keyedR.inj h1 (keyOf_row d)
  simp only [Value.agg.injEq] at this
  exact rowV_inj hc hd this

/-- A pointer to a box, or nil. -/
def mkP : Option Nat → Value
  | none => .pointer none
  | some b => .pointer (some ⟨b, 0, none⟩)
def encP : Option Nat → Int
  | none => -1
  | some b => b
def ptrE : Value → Option (DataW Unit × List MemPlace)
  | .pointer none => some (.lit (.int .i64 (-1)), [])
  | .pointer (some ⟨b, 0, none⟩) => some (.lit (.int .i64 b), [])
  | _ => none
theorem ptrE_mk (o : Option Nat) : ptrE (mkP o) = some (.lit (.int .i64 (encP o)), []) := by
  cases o <;> rfl
theorem ptrE_inv {v : Value} {y : DataW Unit × List MemPlace} (h : ptrE v = some y) : ∃ o, v = mkP o ∧ y = (.lit (.int .i64 (encP o)), []) := by
  unfold ptrE at h
  split at h
  · exact ⟨none, rfl, (Option.some.inj h).symm⟩
  · rename_i b
    exact ⟨some b, rfl, (Option.some.inj h).symm⟩
  · cases h
theorem encP_inj {a b : Option Nat} (h : encP a = encP b) : a = b := by
  cases a <;> cases b <;> simp [encP] at h ⊢ <;> omega

/-- The lookup of a row. -/
def lkp : List (Nat × Nat) → Nat → Option Nat
  | [], _ => none
  | p :: L, c => if p.1 = c then some p.2 else lkp L c
theorem lkp_snoc (L : List (Nat × Nat)) (c x d : Nat) : lkp (L ++ [(c, x)]) d = if (lkp L d).isSome then lkp L d else if c = d then some x else none := by
  induction L with
  | nil => simp [lkp]
  | cons p L ih =>
    rw [List.cons_append, lkp, lkp]
    by_cases h : p.1 = d
    · simp [h]
    · simp only [h, if_false]; exact ih
theorem lkp_mem {L : List (Nat × Nat)} {c x : Nat} (h : lkp L c = some x) : (c, x) ∈ L := by
  induction L with
  | nil => simp [lkp] at h
  | cons p L ih =>
    rw [lkp] at h
    by_cases e : p.1 = c
    · rw [if_pos e] at h
      obtain rfl := Option.some.inj h
      rw [← e]; exact List.mem_cons_self ..
    · rw [if_neg e] at h; exact List.mem_cons_of_mem _ (ih h)

/-- At mb lies the map of the lookups in L. -/
def LkM (W : World) (mb : Nat) (L : List (Nat × Nat)) : Prop :=
  ∃ D : DataW Unit, W.ownsMap Try.prog 64 ptrE mb L.length D ∧ (∀ c, c < 65536 → has D (keyR c) = (lkp L c).isSome) ∧ (∀ c, c < 65536 → D.atKey (keyR c) (.lit (.int .i64 (-1))) = .lit (.int .i64 (encP (lkp L c)))) ∧ ∀ kl, has D kl = true → ∃ c x, c < 65536 ∧ kl = keyR c ∧ lkp L c = some x

theorem LkM.keep {W W' : World} {mb : Nat} {L : List (Nat × Nat)} (h : LkM W mb L) (hb : W'.heap[mb]? = W.heap[mb]?) : LkM W' mb L := by
  obtain ⟨D, ⟨es, clock, h1, h2⟩, h3⟩ := h
  exact ⟨D, ⟨es, clock, hb.trans h1, h2⟩, h3⟩
theorem LkM.lt {W : World} {mb : Nat} {L : List (Nat × Nat)} (h : LkM W mb L) : mb < W.heap.size := by
  obtain ⟨D, h1, _⟩ := h; exact h1.lt
theorem LkM.turn {S : Nat → Prop} {W W' : World} {mb : Nat} {L : List (Nat × Nat)} (h : LkM W mb L) (ht : Turn S W W') (hn : ¬ S mb) : LkM W' mb L := h.keep (ht.block _ h.lt hn)
theorem LkM.stay {W W' : World} {mb : Nat} {L : List (Nat × Nat)} (h : LkM W mb L) (ht : Stay W W') : LkM W' mb L := h.keep (ht.block _ h.lt)
theorem lkM_new (W : World) : LkM (W.alloc (.map #[] 0)) W.heap.size [] := ⟨_, W.ownsMap_made _ _ _, fun c _ => by simp [has, lkp], fun c _ => by simp [DataW.atKey, lkp, encP], fun kl h => by simp [has] at h⟩
theorem run_mapL (W : World) : (Instr.makeMap 56 none).run Try.prog W = .ok (.map (some W.heap.size)) (W.alloc (.map #[] 0)) := by kernel_rfl
theorem zeroP (W : World) : (zeroValue 68).run Try.prog W = .ok (.pointer none) W := by kernel_rfl

theorem LkM.look {W : World} {mb : Nat} {L : List (Nat × Nat)} (h : LkM W mb L) {c : Nat} (hc : c < 65536) : (Instr.lookup 56 (.map (some mb)) (.agg (rowV c)) true).run Try.prog W = .ok (.tuple #[mkP (lkp L c), .bool (lkp L c).isSome]) W := by
  obtain ⟨D, h1, h2, h3, _⟩ := h
  obtain ⟨v, ps, hr, hv⟩ := h1.look_ok keyedR Try.underlying56 (zeroP W) (ptrE_mk none) (keyOf_row c)
  rw [show encP none = -1 from rfl, h3 c hc] at hv
  obtain ⟨o, rfl, ho⟩ := ptrE_inv hv
  simp only [Prod.mk.injEq, DataW.lit.injEq, Lit.int.injEq, true_and] at ho
  rw [hr, h2 c hc, ← encP_inj ho.1]

theorem LkM.put {W : World} {mb : Nat} {L : List (Nat × Nat)} (h : LkM W mb L) {c x : Nat} (hc : c < 65536) (hno : lkp L c = none) (hl : L.length < maxLen) : ∃ w', (Instr.mapUpdate 56 (.map (some mb)) (.agg (rowV c)) (.pointer (some ⟨x, 0, none⟩))).run Try.prog W = .ok () w' ∧ LkM w' mb (L ++ [(c, x)]) ∧ W.mapTurned w' mb := by
  obtain ⟨D, h1, h2, h3, h4⟩ := h
  obtain ⟨w', hr, ho, ht⟩ := h1.store keyedR Try.underlying56 hl (keyOf_row c) (ptrE_mk (some x))
  have hm := h1.isMap
  have hk : WideAt.IsKeyLit (keyR c) := by simp [keyR, WideAt.IsKeyLit]
  refine ⟨w', hr, ⟨_, by simpa using ho, fun d hd => ?_, fun d hd => ?_, fun kl hkl => ?_⟩, ht⟩
  · rw [lkp_snoc]
    by_cases e : d = c
    · subst e
      rw [has_put_same hm hk, hno]; simp
    · rw [has_put_other (fun q => e (keyR_inj hd hc q)), h2 d hd]
      cases lkp L d <;> simp [Ne.symm e]
  · rw [lkp_snoc]
    by_cases e : d = c
    · subst e
      rw [atKey_put_same hm hk, hno]; simp [encP]
    · rw [atKey_put_other (fun q => e (keyR_inj hd hc q)), h3 d hd]
      cases lkp L d <;> simp [Ne.symm e]
  · by_cases e : kl = keyR c
    · exact ⟨c, x, hc, e, by rw [lkp_snoc, hno]; simp⟩
    · rw [has_put_other e] at hkl
      obtain ⟨d, y, hd, rfl, hy⟩ := h4 kl hkl
      exact ⟨d, y, hd, rfl, by rw [lkp_snoc, hy]; simp⟩
end Go.Proofs.Ytnhmjheipfopoaa.L
namespace Go.Proofs.Ytnhmjheipfopoaa.L
open Go.RowKit Go.Maps Go.Proofs.Ytnhmjheipfopoaa

theorem neq_map (mb : Nat) (w : World) : (binOp .neq 56 (.map (some mb)) (.map none)).run Try.prog w = .ok (.bool true) w := by kernel_rfl
theorem neq_map0 (w : World) : (binOp .neq 56 (.map none) (.map none)).run Try.prog w = .ok (.bool false) w := by kernel_rfl

/-- At rb lies a relation's box. -/
def RBox (W : World) (rb ar n : Nat) (vv : Value) (mb : Nat) : Prop := W.heap[rb]? = some (.cells #[.int .i64 ar, .int .i64 n, vv, .map (some mb)] 58 (0, 0))
section
variable {W W' : World} {rb ar n : Nat} {vv : Value} {mb : Nat}
theorem RBox.c0 (h : RBox W rb ar n vv mb) : W.cell? ⟨rb, 0, none⟩ = some (.int .i64 ar) := by unfold RBox at h; simp [World.cell?, h]
theorem RBox.c1 (h : RBox W rb ar n vv mb) : W.cell? ⟨rb, 1, none⟩ = some (.int .i64 n) := by unfold RBox at h; simp [World.cell?, h]
theorem RBox.c2 (h : RBox W rb ar n vv mb) : W.cell? ⟨rb, 2, none⟩ = some vv := by unfold RBox at h; simp [World.cell?, h]
theorem RBox.c3 (h : RBox W rb ar n vv mb) : W.cell? ⟨rb, 3, none⟩ = some (.map (some mb)) := by unfold RBox at h; simp [World.cell?, h]
theorem RBox.free (h : RBox W rb ar n vv mb) (k : Nat) : W.frozen? ⟨rb, k, none⟩ = false := by unfold RBox at h; simp [World.frozen?, h]
theorem RBox.stay (h : RBox W rb ar n vv mb) (hs : Stay W W') : RBox W' rb ar n vv mb := hs.heap h

theorem rmade_yes (h : RBox W rb ar n vv mb) : Calls Try.prog 40 #[.pointer (some ⟨rb, 0, none⟩)] W fun e w' => e = .returned (.bool true) ∧ w' = W := by
  have c3 := h.c3
  have hn := neq_map
  clear h
  go_enter Try.func40, Try.ntmps40
  go_wp2
  go_ret
  exact ⟨rfl, rfl⟩
theorem rmade_nil (W : World) : Calls Try.prog 40 #[.pointer none] W fun e w' => e = .returned (.bool false) ∧ w' = W := by
  go_enter Try.func40, Try.ntmps40
  go_wp2
  go_ret
  exact ⟨rfl, rfl⟩
theorem rmade_zero (c3 : W.cell? ⟨rb, 3, none⟩ = some (.map none)) : Calls Try.prog 40 #[.pointer (some ⟨rb, 0, none⟩)] W fun e w' => e = .returned (.bool false) ∧ w' = W := by
  have hn := neq_map0
  go_enter Try.func40, Try.ntmps40
  go_wp2
  go_ret
  exact ⟨rfl, rfl⟩

theorem rlen_yes (h : RBox W rb ar n vv mb) : Calls Try.prog 19 #[.pointer (some ⟨rb, 0, none⟩)] W fun e w' => e = .returned (.int .i64 n) ∧ w' = W := by
  have hm := rmade_yes h
  have c1 := h.c1
  clear h
  go_enter Try.func19, Try.ntmps19
  go_wp2_with (go_at_call 40; refine hm.mono ?_; rintro e w9 ⟨rfl, hw⟩; have hw' := hw.symm; subst hw')
  go_ret
  exact ⟨rfl, rfl⟩

theorem two_eq {a b a' b' : Int} (h : a = a') (k : b = b') : Ending.returned (.tuple #[.int .i64 a, .int .i64 b]) = Ending.returned (.tuple #[.int .i64 a', .int .i64 b']) := by rw [h, k]

/-- The stretch of places from x on, below y, of n. -/
def bF (x : Int) : Int := max x 0
def bE (x y : Int) (n : Nat) : Int := max (max x 0) (min y n)

theorem bounds_yes (h : RBox W rb ar n vv mb) (x y : Int) : Calls Try.prog 46 #[.pointer (some ⟨rb, 0, none⟩), .int .i64 x, .int .i64 y] W fun e w' => e = .returned (.tuple #[.int .i64 (bF x), .int .i64 (bE x y n)]) ∧ ∃ d, w' = W.drewN d := by
  have hm := rmade_yes h
  have c1 := h.c1
  clear h
  go_enter Try.func46, Try.ntmps46
  go_wp2_with (go_at_call 40; refine hm.mono ?_; rintro e w9 ⟨rfl, hw⟩; have hw' := hw.symm; subst hw')
  all_goals go_quiet (fail)
  all_goals go_wp2
  all_goals go_ret2
  all_goals exact ⟨two_eq (by unfold bF; omega) (by unfold bE; omega), nq, rfl⟩

theorem cell_of {w : World} {b : Nat} {cs : Array Value} {t : TypeId} {f : Nat × Nat} {k : Nat} {v : Value} (h : w.heap[b]? = some (.cells cs t f)) (hk : cs[k]? = some v) : w.cell? ⟨b, k, none⟩ = some v := by
  simp only [World.cell?, h]
  simpa using hk

theorem stretch_any (W : World) (p : Option Addr) (x y : Int) : Calls Try.prog 36 #[.pointer p, .int .i64 x, .int .i64 y] W fun e w' => ∃ V, e = .returned (.func (.func 54) #[] #[.pointer (some ⟨W.heap.size, 0, none⟩), .pointer (some ⟨W.heap.size + 1, 0, none⟩), .pointer (some ⟨W.heap.size + 2, 0, none⟩)]) ∧ w' = V ∧ Stay W V ∧ V.heap.size = W.heap.size + 3 ∧ (∀ k, W.heap.size ≤ k → k < V.heap.size → ∃ cs t f, V.heap[k]? = some (.cells cs t f)) ∧
    V.cell? ⟨W.heap.size, 0, none⟩ = some (.pointer p) ∧ V.cell? ⟨W.heap.size + 1, 0, none⟩ = some (.int .i64 x) ∧ V.cell? ⟨W.heap.size + 2, 0, none⟩ = some (.int .i64 y) := by
  go_enter Try.func36, Try.ntmps36
  go_wp2
  go_ret
  have h0 : (((W.alloc (.cells #[.pointer p] 24)).alloc (.cells #[.int .i64 x] 3)).alloc (.cells #[.int .i64 y] 3)).heap[W.heap.size]? = some (.cells #[.pointer p] 24 (0, 0)) := (Below.heap_alloc _ _ _ (by simp; omega)).trans ((Below.heap_alloc _ _ _ (by simp)).trans (heap_new _ _))
  have h1 : (((W.alloc (.cells #[.pointer p] 24)).alloc (.cells #[.int .i64 x] 3)).alloc (.cells #[.int .i64 y] 3)).heap[W.heap.size + 1]? = some (.cells #[.int .i64 x] 3 (0, 0)) := by
    refine (Below.heap_alloc _ _ _ (by simp)).trans ?_
    have := heap_new (W.alloc (.cells #[.pointer p] 24)) (.cells #[.int .i64 x] 3)
    rwa [World.size_alloc] at this
  have h2 : (((W.alloc (.cells #[.pointer p] 24)).alloc (.cells #[.int .i64 x] 3)).alloc (.cells #[.int .i64 y] 3)).heap[W.heap.size + 2]? = some (.cells #[.int .i64 y] 3 (0, 0)) := by
    have := heap_new ((W.alloc (.cells #[.pointer p] 24)).alloc (.cells #[.int .i64 x] 3)) (.cells #[.int .i64 y] 3)
    rwa [World.size_alloc, World.size_alloc] at this
  refine ⟨_, rfl, rfl, ((Stay.new _ _).alloc _).alloc _, by simp, fun k h3 h4 => ?_, cell_of h0 rfl, cell_of h1 rfl, cell_of h2 rfl⟩
  simp at h4
  have h5 : k = W.heap.size ∨ k = W.heap.size + 1 ∨ k = W.heap.size + 2 := by omega
  rcases h5 with rfl | rfl | rfl
  · exact ⟨_, _, _, h0⟩
  · exact ⟨_, _, _, h1⟩
  · exact ⟨_, _, _, h2⟩

/-- A place, as it is told. -/
def encPl (x : Nat) : Array Value := #[.int .i64 x]
/-- The places from f on, below g. -/
def pls (f g : Nat) : List Nat := (List.range (g - f)).map (f + ·)
theorem pls_len (f g : Nat) : (pls f g).length = g - f := by simp [pls]
theorem pls_succ (f k : Nat) : (List.range (k + 1)).map (f + ·) = (List.range k).map (f + ·) ++ [f + k] := by rw [List.range_succ, List.map_append]; rfl

set_option maxRecDepth 100000 in
set_option maxHeartbeats 2000000 in
theorem stretch1_in (m : Nat) (hm : 1 ≤ m) (l b1 b2 b3 : Nat) (J Jx : List Nat → World → Prop) (W : World) (h1 : W.cell? ⟨b1, 0, none⟩ = some (.pointer (some ⟨rb, 0, none⟩))) (x y : Int) (h2 : W.cell? ⟨b2, 0, none⟩ = some (.int .i64 x)) (h3 : W.cell? ⟨b3, 0, none⟩ = some (.int .i64 y))
    (h : RBox W rb ar n vv mb) (f g : Nat) (hf : bF x = f) (hg : bE x y n = g) (hfg : f ≤ g) (hgl : g ≤ 68719476736) (hA : AbidesFrom W.heap.size J)
    (hY : ∀ pre z W1, J pre W1 → pre.length < g - f → YieldAt Fence.wide (m - 1) Try.prog l (encPl z) W1 fun e W' =>
      (e = .returned (.bool true) ∧ J (pre ++ [z]) W' ∧ True) ∨ (e = .returned (.bool false) ∧ Jx (pre ++ [z]) W')) (h0 : J [] W) :
    CallsIn Fence.wide m Try.prog 54 #[.func (.yield l) #[] #[], .pointer (some ⟨b1, 0, none⟩), .pointer (some ⟨b2, 0, none⟩), .pointer (some ⟨b3, 0, none⟩)] W fun e W' => (∃ v, e = .returned v) ∧
      ((∃ ys, ys = pls f g ∧ J ys W') ∨ (∃ pre, (∃ k, k ≤ g - f ∧ pre = (List.range k).map (f + ·)) ∧ Jx pre W')) := by
  have hb := bounds_yes h x y
  rw [hf, hg] at hb
  clear h
  refine callsIn_of_wp Try.func54 rfl trivial ?_ rfl
  simp only [Try.ntmps54, List.size_toArray, List.length_cons, List.length_nil, Nat.reduceAdd, Nat.reduceSub, Array.replicate_succ, Array.replicate_zero, List.push_toArray, List.append_toArray, List.nil_append, List.cons_append]
  gi_wp2_with (refine ⟨trivial, ?_⟩; gi_at_call 46; refine CallsIn.mono (callsIn_wide.2 hb) ?_; rintro e w' ⟨rfl, d, rfl⟩)
  have hJ1 : J [] (W.drewN d) := hA [] W (W.drewN d) none h0 ⟨rfl, rfl, rfl, Nat.le_refl _, fun _ _ _ => rfl⟩ (fun r e => by cases e)
  have HI : Hid (J ((List.range 0).map (f + ·)) (W.drewN d)) := hJ1
  clear hb hJ1 h1 h2 h3
  gi_loopw [7] (fun ui wr => ∃ k : Nat, k ≤ g - f ∧ ui = .int .i64 ((f + k : Nat) : Int) ∧ J ((List.range k).map (f + ·)) wr) (fun ui _ => g - (intOf ui).toNat)
  case atStart => exact ⟨0, Nat.zero_le _, rfl, HI.out⟩
  case round =>
    obtain ⟨k, hk, rfl, hJ⟩ := hrel
    by_cases hlt : k < g - f
    · have hki : ((f + k : Nat) : Int) < (g : Int) := by omega
      have HSu : Hid ((List.range (k + 1)).map (f + ·) = (List.range k).map (f + ·) ++ [f + k]) := pls_succ f k
      obtain ⟨fn, tmps, assign, body, hy, hR⟩ := hY _ (f + k) _ hJ (by simpa using hlt)
      dsimp only [encPl] at hy
      rw [Int.natCast_add] at hy hki
      clear hJ hA hY
      gi_wp2
      refine hR.mono ?_
      rintro e9 W3 (⟨rfl, hJ3, _⟩ | ⟨rfl, hJx3⟩)
      · have HJ3 : Hid (J ((List.range (k + 1)).map (f + ·)) W3) := by rw [HSu.out]; exact hJ3
        clear hJ3
        gi_wp2
        go_roundw
        case rel => exact ⟨k + 1, by omega, by go_num, HJ3.out⟩
        case measure => simp [intOf]; omega
      · have HJ3 : Hid (Jx ((List.range (k + 1)).map (f + ·)) W3) := by rw [HSu.out]; exact hJx3
        clear hJx3
        gi_wp2
        refine bodyPost_ret (results_none rfl _ _ _) rfl ?_
        exact ⟨⟨_, rfl⟩, .inr ⟨_, ⟨k + 1, by omega, rfl⟩, HJ3.out⟩⟩
    · obtain rfl : k = g - f := by omega
      have HJ : Hid (J (pls f g) wr) := hJ
      have hki : ¬ ((f + (g - f) : Nat) : Int) < (g : Int) := by omega
      clear hJ hY hA
      gi_wp2
      go_end0
      exact ⟨⟨_, rfl⟩, .inl HJ.out⟩
end
end Go.Proofs.Ytnhmjheipfopoaa.L
namespace Go.Proofs.Ytnhmjheipfopoaa.L
open Go.RowKit Go.Maps Go.Proofs.Ytnhmjheipfopoaa

structure Rl (W : World) (F : Nat → Prop) (rb ar : Nat) (T : List (List Int)) (vv : Value) (mb : Nat) (L : List (Nat × Nat)) (Fs : Nat → Nat → Prop) : Prop where
  box : RBox W rb ar T.length vv mb
  vals : OwnI 0 W vv T.flatten
  rows : ∀ t ∈ T, t.length = ar
  arle : ar ≤ 16
  nodup : T.Nodup
  map : LkM W mb L
  small : ∀ p ∈ L, p.1 < 2 ^ ar
  nodupL : (L.map (·.1)).Nodup
  looks : ∀ c x, lkp L c = some x → LkS W (Fs x) x c T
  apart : ∀ c x d y, lkp L c = some x → lkp L d = some y → c ≠ d → ∀ k, Fs x k → ¬ Fs y k
  mine : rb ≠ mb ∧ (∀ k, vv.ownBlock = some k → k ≠ rb ∧ k ≠ mb) ∧ ∀ c x, lkp L c = some x → ∀ k, Fs x k → k ≠ rb ∧ k ≠ mb ∧ vv.ownBlock ≠ some k
  foot : F rb ∧ F mb ∧ (∀ k, vv.ownBlock = some k → F k) ∧ ∀ c x, lkp L c = some x → ∀ k, Fs x k → F k
  lt : ∀ k, F k → k < W.heap.size

/-- At rb lies a relation of the tuples T; all its blocks are in F. -/
def RelS (W : World) (F : Nat → Prop) (rb ar : Nat) (T : List (List Int)) : Prop := ∃ vv mb L Fs, Rl W F rb ar T vv mb L Fs

theorem pow_ar {ar c : Nat} (h : c < 2 ^ ar) (ha : ar ≤ 16) : c < 65536 := Nat.lt_of_lt_of_le h (by have := Nat.pow_le_pow_right (show 0 < 2 by decide) ha; simpa using this)

section
variable {W W' : World} {F : Nat → Prop} {rb ar : Nat} {T : List (List Int)} {vv : Value} {mb : Nat} {L : List (Nat × Nat)} {Fs : Nat → Nat → Prop}

theorem Rl.turn {S : Nat → Prop} (h : Rl W F rb ar T vv mb L Fs) (ht : Turn S W W') (hn : ∀ k, F k → ¬ S k) : Rl W' F rb ar T vv mb L Fs :=
  { h with
    box := ht.heap h.box (hn _ h.foot.1)
    vals := ownI_turn h.vals ht (fun k hk => hn k (h.foot.2.2.1 k hk))
    map := h.map.turn ht (hn _ h.foot.2.1)
    looks := fun c x hc => (h.looks c x hc).turn ht (fun k hk => hn k (h.foot.2.2.2 c x hc k hk))
    lt := fun k hk => Nat.lt_of_lt_of_le (h.lt k hk) ht.size }
theorem Rl.stay (h : Rl W F rb ar T vv mb L Fs) (ht : Stay W W') : Rl W' F rb ar T vv mb L Fs := h.turn (S := fun _ => False) (Turn.of_stay ht) (fun _ _ e => e)
theorem RelS.turn {S : Nat → Prop} (h : RelS W F rb ar T) (ht : Turn S W W') (hn : ∀ k, F k → ¬ S k) : RelS W' F rb ar T := by
  obtain ⟨vv, mb, L, Fs, h⟩ := h
  exact ⟨_, _, _, _, h.turn ht hn⟩
theorem RelS.stay (h : RelS W F rb ar T) (ht : Stay W W') : RelS W' F rb ar T := h.turn (S := fun _ => False) (Turn.of_stay ht) (fun _ _ e => e)

theorem flat_rows : ∀ {T : List (List Int)}, (∀ t ∈ T, t.length = ar) → T.flatten.length = T.length * ar
  | [], _ => by simp
  | t :: T, h => by
    rw [List.flatten_cons, List.length_append, h t (List.mem_cons_self ..), flat_rows (fun s hs => h s (List.mem_cons_of_mem _ hs)), List.length_cons, Nat.add_mul]
    omega
theorem flat_row : ∀ {T : List (List Int)}, (∀ t ∈ T, t.length = ar) → ∀ {p : Nat} {t : List Int}, T[p]? = some t → ∀ j, j < ar → T.flatten[p * ar + j]? = t[j]?
  | [], _, p, t, h, _, _ => by simp at h
  | s :: T, h, 0, t, hp, j, hj => by
    simp at hp
    subst hp
    rw [List.flatten_cons, Nat.zero_mul, Nat.zero_add, List.getElem?_append_left (by rw [h s (List.mem_cons_self ..)]; exact hj)]
  | s :: T, h, p + 1, t, hp, j, hj => by
    have hs := h s (List.mem_cons_self ..)
    rw [List.flatten_cons, Nat.add_mul, Nat.one_mul, List.getElem?_append_right (by omega), hs, show p * ar + ar + j - ar = p * ar + j by omega]
    exact flat_row (fun s hs => h s (List.mem_cons_of_mem _ hs)) (by simpa using hp) j hj

/-- New. -/
theorem new_rel (W : World) (ha : ar ≤ 16) : Calls Try.prog 16 #[.int .i64 ar] W fun e w' => e = .returned (.tuple #[.pointer (some ⟨W.heap.size + 1, 0, none⟩), .int .i64 0]) ∧ RelS w' (fun k => W.heap.size ≤ k ∧ k < w'.heap.size) (W.heap.size + 1) ar [] ∧ Stay W w' := by
  have hmk := run_mapL W
  have h1 : ¬ (ar : Int) < 0 := by omega
  have h2 : (ar : Int) ≤ 16 := by omega
  have HR : Hid (RelS ((W.alloc (.map #[] 0)).alloc (.cells #[.int .i64 ar, .int .i64 0, .slice none 0 0, .map (some W.heap.size)] 58)) (fun k => W.heap.size ≤ k ∧ k < ((W.alloc (.map #[] 0)).alloc (.cells #[.int .i64 ar, .int .i64 0, .slice none 0 0, .map (some W.heap.size)] 58)).heap.size) (W.heap.size + 1) ar []) := by
    have hb := heap_new (W.alloc (.map #[] 0)) (.cells #[.int .i64 ar, .int .i64 0, .slice none 0 0, .map (some W.heap.size)] 58)
    rw [World.size_alloc] at hb
    refine ⟨.slice none 0 0, W.heap.size, [], fun _ _ => False, hb, ⟨rfl, .inl ⟨rfl, rfl⟩⟩, fun t ht => by simp at ht, ha, List.nodup_nil, (lkM_new W).stay (Stay.new _ _), fun p hp => by simp at hp, List.nodup_nil, fun c x hc => by simp [lkp] at hc, fun c x d y hc => by simp [lkp] at hc, ⟨by omega, fun k hk => by simp [Value.ownBlock] at hk, fun c x hc => by simp [lkp] at hc⟩, ⟨by simp, by simp; omega, fun k hk => by simp [Value.ownBlock] at hk, fun c x hc => by simp [lkp] at hc⟩, fun k hk => hk.2⟩
  go_enter Try.func16, Try.ntmps16
  go_wp2
  go_ret2
  exact ⟨by simp, HR.out, (Stay.new _ _).alloc _⟩

theorem mul_wrap64 (a b : Nat) (h : a * b ≤ 1152921504606846976) : RowKit.wrap64 ((a : Int) * (b : Int)) = ((a * b : Nat) : Int) := by
  rw [← Int.natCast_mul]
  unfold RowKit.wrap64
  omega

set_option maxRecDepth 100000 in
set_option maxHeartbeats 1000000 in
/-- piece: a tuple, where it lies. -/
theorem piece_any (h : Rl W F rb ar T vv mb L Fs) (hT : T.length ≤ 68719476736) {p : Nat} {t : List Int} (hp : T[p]? = some t) :
    Calls Try.prog 51 #[.pointer (some ⟨rb, 0, none⟩), .int .i64 p] W fun e w' => ∃ a b off cap, e = .returned (.slice a t.length cap) ∧ IntsS w' a b off t ∧ ∃ d, w' = W.drewN d := by
  have hpl := (List.getElem?_eq_some_iff.1 hp).1
  have htl : t.length = ar := h.rows t (List.mem_of_getElem? hp)
  have hfl := flat_rows h.rows
  have ha := h.arle
  have hs1 : p * ar ≤ (p + 1) * ar := Nat.mul_le_mul_right _ (by omega)
  have hs2 : (p + 1) * ar ≤ T.length * ar := Nat.mul_le_mul_right _ (by omega)
  have hs3 : T.length * ar ≤ 68719476736 * 16 := Nat.mul_le_mul hT ha
  have hs4 : (p + 1) * ar = p * ar + ar := by rw [Nat.add_mul, Nat.one_mul]
  have hm2 := mul_wrap64 (p + 1) ar (by omega)
  rw [Int.natCast_add] at hm2
  have hm1 : (p : Int) * (ar : Int) = ((p * ar : Nat) : Int) := (Int.natCast_mul p ar).symm
  have hrow := fun j hj => flat_row h.rows hp j hj
  have c0 := h.box.c0
  have c2 := h.box.c2
  obtain ⟨a6, b6, c6, hc6, ha6, hnone, hcap, hI⟩ : ∃ a6 b6 c6, vv = .slice a6 T.flatten.length c6 ∧ (∀ x, a6 = some x → x = ⟨b6, 0, none⟩) ∧ (a6 = none → T.flatten.length = 0 ∧ c6 = 0) ∧ (T.flatten.length ≤ c6 ∧ c6 ≤ maxLen) ∧ IntsS W a6 b6 0 T.flatten := by
    obtain ⟨a6, b6, c6, rfl, hI⟩ := h.vals.ints
    rcases h.vals.2 with ⟨hx, h0⟩ | ⟨g, c9, cur, hx, _, _, k1, k2, _⟩
    · simp only [Value.slice.injEq] at hx
      obtain ⟨rfl, h1, rfl⟩ := hx
      exact ⟨none, b6, 0, rfl, fun x hx => by simp at hx, fun _ => ⟨h1, rfl⟩, ⟨by omega, by unfold maxLen; omega⟩, hI⟩
    · simp only [Value.slice.injEq] at hx
      obtain ⟨rfl, _, rfl⟩ := hx
      refine ⟨_, g, c6, rfl, fun x hx => (Option.some.inj hx).symm, fun hx => by simp at hx, ⟨k1, k2⟩, ?_⟩
      by_cases h0 : 0 < T.flatten.length
      · have := hI.1 h0
        simp only [Option.some.injEq, Addr.mk.injEq, and_true] at this
        rw [this]; rw [this] at hI; exact hI
      · exact ⟨fun q => absurd q h0, fun j hj => absurd (Nat.lt_of_le_of_lt (Nat.zero_le j) hj) h0⟩
  subst hc6
  rw [htl]
  rw [hfl] at c2 hnone hcap
  have HV : Hid (∀ (a : Option Addr) (o : Nat), (ar = 0 ∨ (a = some ⟨b6, o, none⟩ ∧ o = p * ar)) → ∀ d, IntsS (W.drewN d) a b6 o t) := fun a o hq d => by
    refine ⟨fun h0 => ?_, fun j hj => ?_⟩
    · rcases hq with hq | hq
      · omega
      · exact hq.1
    · have h1 := hrow j (by omega)
      have h2 : p * ar + j < T.flatten.length := by rw [hfl]; omega
      have h3 := hI.2 (p * ar + j) h2
      rw [List.getElem?_eq_getElem h2, List.getElem?_eq_getElem hj] at h1
      rcases hq with hq | hq
      · omega
      · rw [hq.2, ← Option.some.inj h1, ← h3, Nat.zero_add]
        rfl
  have HW : Hid (RowKit.wrap64 (RowKit.wrap64 ((p : Int) + 1) * (ar : Int)) = (((p + 1) * ar : Nat) : Int)) := by
    show RowKit.wrap64 (RowKit.wrap64 ((p : Int) + 1) * (ar : Int)) = (((p + 1) * ar : Nat) : Int)
    rw [show RowKit.wrap64 ((p : Int) + 1) = (p : Int) + 1 by unfold RowKit.wrap64; omega]
    exact hm2
  clear h hI hrow hp hfl hpl hm2
  generalize T.length * ar = n6 at c2 hnone hcap hs2 hs3
  generalize (p + 1) * ar = e6 at hs1 hs2 hs4 HW
  generalize p * ar = s6 at hs1 hs4 hm1 HV
  obtain ⟨hcap1, hcap2⟩ := hcap
  unfold maxLen at hcap2
  go_enter Try.func51, Try.ntmps51
  go_wp2_with fail
  go_quiet (fail)
  rw [HW.out]
  cases a6 with
  | none =>
    obtain ⟨rfl, rfl⟩ := hnone rfl
    obtain rfl : 0 = e6 := by omega
    obtain rfl : 0 = s6 := by omega
    have ha0 : ar = 0 := by omega
    clear hs1 hs2 hs3 hs4 hcap1 hcap2 HW
    go_wp2_with fail
    go_ret
    exact ⟨none, ⟨0, by simp⟩, ⟨b6, 0, HV.out none 0 (.inl ha0) nq⟩, nq, rfl⟩
  | some ad =>
    obtain rfl := ha6 ad rfl
    have e1 : e6 ≤ 1152921504606846976 := by omega
    have e2 : e6 - s6 = ar := by omega
    clear HW ha6 hnone
    go_wp2_with fail
    all_goals go_ret
    all_goals first
      | exact ⟨some ⟨b6, s6, none⟩, ⟨ar, rfl⟩, ⟨b6, s6, HV.out _ _ (.inr ⟨rfl, rfl⟩) nq⟩, nq, rfl⟩
      | (have ha0 : ar = 0 := by omega
         exact ⟨some ⟨b6, 0, none⟩, ⟨0, by rw [ha0]; rfl⟩, ⟨b6, 0, HV.out _ 0 (.inl ha0) nq⟩, nq, rfl⟩)
end
end Go.Proofs.Ytnhmjheipfopoaa.L
