/- All: what it tells, for every loop over it. -/
import Derived.Test.YtdmopioiaaecfaaWalksC
import Derived.RangeFuncNested
import Derived.RangeFuncBound
import Derived.RangeFuncCalls
import Derived.RangeFuncLeaves
import Derived.RangeFuncBox
import Derived.Shelf.Abstract
import Derived.Shelf.RegionOpen
import Derived.WalkKit
import Derived.OwnWalkIn
import Derived.TacticsInMore
import Derived.LoopNIn
import Derived.LoopIn
import Derived.Maps.OwnIn
namespace Go.Proofs.Ytdmopioiaaecfaa
open Go.RowKit Go.Maps Go.Shelf
attribute [local go_sem] Oper.semAt_some

/-- The first places of block g hold what they held. -/
def KRow (g N : Nat) (W W' : World) : Prop := ∀ j, j < N → W'.cell? ⟨g, j, none⟩ = W.cell? ⟨g, j, none⟩

theorem krow_t {g N : Nat} {A B C : World} (h : KRow g N A B) (k : KRow g N B C) : KRow g N A C := fun j hj => (k j hj).trans (h j hj)
theorem krow_b {g N : Nat} {w : World} (hg : g < w.heap.size) (W : World) (l : Nat) (o o' : Obj) (hl : w.heap.size ≤ l) (h : W.heap[l]? = some o) (_ : o.isCells = false) (_ : o.isWalk = false) : KRow g N W (W.putObj l o') := fun j _ =>
  World.cell?_of_block (a := ⟨g, j, none⟩) ((grownBy_putObj' W l o').block g (by have := (Array.getElem?_eq_some_iff.1 h).1; omega) (fun e => by cases e; omega))
theorem krow_below {g N n₀ : Nat} {W W' : World} (h : Below n₀ W W') (hg : g < n₀) : KRow g N W W' := fun j _ => h.cell (p := ⟨g, j, none⟩) hg

/-- What has come when k rounds are over. -/
def told (ts : List ByteArray) (k : Nat) : List (Nat × ByteArray) := (List.range k).map fun j => (j, ts[j]?.getD ⟨#[]⟩)
theorem told_succ (ts : List ByteArray) (k : Nat) : told ts (k + 1) = told ts k ++ [(k, ts[k]?.getD ⟨#[]⟩)] := by simp [told, List.range_succ]
theorem told_length (ts : List ByteArray) (k : Nat) : (told ts k).length = k := by simp [told]

def encs (x : Nat × ByteArray) : Array Value := #[.int .i64 (x.1 : Int), .string x.2]

theorem all_any (w : World) (p : Option Addr) : Calls Try.prog 21 #[.pointer p] w fun e w' => e = .returned (.func (.func 45) #[] #[.pointer (some ⟨w.heap.size, 0, none⟩)]) ∧ w' = w.alloc (.cells #[.pointer p] 23) := by
  go_enter Try.func21, Try.ntmps21
  go_wp2
  go_ret
  exact ⟨rfl, rfl⟩

set_option maxRecDepth 100000 in
set_option maxHeartbeats 1000000 in
theorem all1_in (n : Nat) (hn : 1 ≤ n) (l Bn bt bm g cap : Nat) (ts : List ByteArray) (J Jx : List (Nat × ByteArray) → World → Prop)
    (hY : ∀ pre x W, J pre W → pre.length < ts.length → YieldAt Fence.wide (n - 1) Try.prog l (encs x) W fun e W' =>
      (e = .returned (.bool true) ∧ J (pre ++ [x]) W' ∧ KRow g ts.length W W') ∨ (e = .returned (.bool false) ∧ Jx (pre ++ [x]) W'))
    (W : World) (hBn : W.cell? ⟨Bn, 0, none⟩ = some (.pointer (some ⟨bt, 0, none⟩))) (hT : Tab W bt bm g cap ts) (h0 : J [] W) :
    CallsIn Fence.wide n Try.prog 45 #[.func (.yield l) #[] #[], .pointer (some ⟨Bn, 0, none⟩)] W fun e W' => (∃ v, e = .returned v) ∧
      ((∃ ys, ys = told ts ts.length ∧ J ys W') ∨ (∃ pre, (∃ k, k ≤ ts.length ∧ pre = told ts k) ∧ Jx pre W')) := by
  have hm := made_yes W bt bm hT.c1
  have c0 := hT.c0
  have hlen : ts.length ≤ 9223372036854775807 := by
    obtain ⟨_, _, h1, h2, _⟩ := hT.rowBlock
    unfold maxLen at h2
    omega
  have HT : Hid (Tab W bt bm g cap ts) := hT
  clear hT
  refine callsIn_of_wp Try.func45 rfl trivial ?_ rfl
  simp only [Try.ntmps45, List.size_toArray, List.length_cons, List.length_nil, Nat.reduceAdd, Nat.reduceSub, Array.replicate_succ, Array.replicate_zero, List.push_toArray, List.append_toArray, List.nil_append, List.cons_append]
  gi_wp2_with (refine ⟨trivial, ?_⟩; gi_at_call 34; refine CallsIn.mono (callsIn_wide.2 hm) ?_; rintro e w' ⟨rfl, rfl⟩)
  gi_loopw [13] (fun i wr => ∃ k : Nat, k ≤ ts.length ∧ i = .int .i64 k ∧ J (told ts k) wr ∧ KRow g ts.length w' wr) (fun i _ => ts.length - (intOf i).toNat)
  case atStart => exact ⟨0, Nat.zero_le _, rfl, h0, fun _ _ => rfl⟩
  case round =>
    obtain ⟨k, hk, rfl, hJs, hnx⟩ := hrel
    by_cases hlt : k < ts.length
    · have hcx : wr.cell? ⟨g, k, none⟩ = some (.string (ts[k]?.getD ⟨#[]⟩)) := by rw [hnx k hlt, HT.out.text hlt]; simp [hlt]
      have hsucc := told_succ ts k
      have hkl : (told ts k).length < ts.length := by rw [told_length]; exact hlt
      generalize ts[k]?.getD ⟨#[]⟩ = s at hcx hsucc
      have HSu : Hid (told ts (k + 1) = told ts k ++ [(k, s)]) := hsucc
      obtain ⟨fn, tmps, assign, body, hy, hR⟩ := hY _ (k, s) wr hJs hkl
      clear hsucc
      dsimp only [encs] at hy
      have HNX : Hid (KRow g ts.length w' wr) := hnx
      clear hnx
      gi_wp2
      refine hR.mono ?_
      rintro e W3 (⟨rfl, hJ3, hk3⟩ | ⟨rfl, hJx3⟩)
      · gi_wp2
        go_roundw
        case rel => exact ⟨k + 1, by omega, by simp, by rw [HSu.out]; exact hJ3, krow_t HNX.out hk3⟩
        case measure => simp [intOf]; omega
      · gi_wp2
        refine bodyPost_ret (results_none rfl _ _ _) rfl ?_
        exact ⟨⟨_, rfl⟩, .inr ⟨_, ⟨k + 1, by omega, HSu.out.symm⟩, hJx3⟩⟩
    · obtain rfl : k = ts.length := by omega
      gi_wp2
      go_end0
      exact ⟨⟨_, rfl⟩, .inl ⟨_, rfl, hJs⟩⟩

/-- All of a table hands back a value that tells the table's texts in their order. -/
theorem all_stops (n : Nat) (hn : 1 ≤ n) (Bn bt bm g cap : Nat) (ts : List ByteArray) (w : World) (hc : w.cell? ⟨Bn, 0, none⟩ = some (.pointer (some ⟨bt, 0, none⟩))) (hT : Tab w bt bm g cap ts) :
    SeqStopsK Fence.wide n Try.prog 45 #[.pointer (some ⟨Bn, 0, none⟩)] encs (KRow g ts.length) (fun ys => ys = told ts ts.length) (fun pre => ∃ k, k ≤ ts.length ∧ pre = told ts k) ts.length w := fun l J Jx W hW _ _ hY h0 =>
  all1_in n hn l Bn bt bm g cap ts J Jx hY W ((hW.cell (p := ⟨Bn, 0, none⟩) (World.block_lt_of_cell? w _ hc)).trans hc) (hT.kept (Turn.of_below hW) (by have := hT.lt; rintro k (rfl | rfl | rfl) <;> omega)) h0

set_option maxRecDepth 100000 in
set_option maxHeartbeats 1000000 in
/-- All of a table that is not there tells nothing. -/
theorem none1_in (n l Bn : Nat) (hn : 1 ≤ n) (p : Option Addr) (J : List (Nat × ByteArray) → World → Prop) (W : World) (hBn : W.cell? ⟨Bn, 0, none⟩ = some (.pointer p)) (hm : NoTab (.pointer p) W) (h0 : J [] W) :
    CallsIn Fence.wide n Try.prog 45 #[.func (.yield l) #[] #[], .pointer (some ⟨Bn, 0, none⟩)] W fun e W' => (∃ v, e = .returned v) ∧ J [] W' := by
  have hm1 : Calls Try.prog 34 #[.pointer p] W fun e w' => e = .returned (.bool false) ∧ w' = W := hm
  clear hm
  refine callsIn_of_wp Try.func45 rfl trivial ?_ rfl
  simp only [Try.ntmps45, List.size_toArray, List.length_cons, List.length_nil, Nat.reduceAdd, Nat.reduceSub, Array.replicate_succ, Array.replicate_zero, List.push_toArray, List.append_toArray, List.nil_append, List.cons_append]
  gi_wp2_with (refine ⟨trivial, ?_⟩; gi_at_call 34; refine CallsIn.mono (callsIn_wide.2 hm1) ?_; rintro e w' ⟨rfl, rfl⟩)
  refine bodyPost_ret (results_none rfl _ _ _) rfl ?_
  exact ⟨⟨_, rfl⟩, h0⟩

theorem none_stops (n Bn : Nat) (hn : 1 ≤ n) (p : Option Addr) (w : World) (hc : w.cell? ⟨Bn, 0, none⟩ = some (.pointer p)) (hm : ∀ W, Below w.heap.size w W → NoTab (.pointer p) W) :
    SeqStopsK Fence.wide n Try.prog 45 #[.pointer (some ⟨Bn, 0, none⟩)] encs (Below 0) (fun ys => ys = []) (fun _ => False) 0 w := fun l J _ W hW _ _ _ h0 =>
  (none1_in n l Bn hn p J W ((hW.cell (p := ⟨Bn, 0, none⟩) (World.block_lt_of_cell? w _ hc)).trans hc) (hm W hW) h0).mono fun _ _ ⟨he, hj⟩ => ⟨he, .inl ⟨_, rfl, hj⟩⟩

end Go.Proofs.Ytdmopioiaaecfaa
