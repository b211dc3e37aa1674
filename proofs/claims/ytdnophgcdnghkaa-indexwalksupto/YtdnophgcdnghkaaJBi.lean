/- All: what it tells, for every loop over it. -/
import Derived.Test.YtdnophgcdnghkaaJAi
import Derived.RangeFuncNested
import Derived.RangeFuncBound
import Derived.RangeFuncCalls
import Derived.RangeFuncLeaves
import Derived.RangeFuncBox
import Derived.Shelf.Abstract
import Derived.Shelf.RegionOpen
import Derived.WalkKit
import Derived.OwnWalkIn
import Derived.TacticsInMore
import Derived.LoopNIn
import Derived.LoopIn
import Derived.Maps.OwnIn
namespace Go.Proofs.Ytdnophgcdnghkaa.I
open Go.RowKit Go.Maps Go.Shelf Go.Proofs.Ytdnophgcdnghkaa
attribute [local go_sem] Oper.semAt_some

/-- From B on nothing of cells has turned but what M names; what M names is new, or was named. -/
structure Keep (B : Nat) (M : World → Nat → Prop) (W W' : World) : Prop where
  size : W.heap.size ≤ W'.heap.size
  same : ∀ (k : Nat) cs t f, B ≤ k → W.heap[k]? = some (.cells cs t f) → ¬ M W k → W'.heap[k]? = some (.cells cs t f)
  more : ∀ k, M W' k → M W k ∨ W.heap.size ≤ k

theorem Keep.trans {B : Nat} {M : World → Nat → Prop} {X Y Z : World} (h : Keep B M X Y) (k : Keep B M Y Z) : Keep B M X Z := by
  refine ⟨Nat.le_trans h.size k.size, fun i cs t f hB hi hn => k.same i cs t f hB (h.same i cs t f hB hi hn) (fun hm => ?_), fun i hm => ?_⟩
  · rcases h.more i hm with h1 | h1
    · exact hn h1
    · have := (Array.getElem?_eq_some_iff.1 hi).1; omega
  · rcases k.more i hm with h1 | h1
    · exact h.more i h1
    · exact .inr (Nat.le_trans h.size h1)
theorem Keep.refl (B : Nat) (M : World → Nat → Prop) (W : World) : Keep B M W W := ⟨Nat.le_refl _, fun _ _ _ _ _ h _ => h, fun _ h => .inl h⟩

/-- What is told in a round, by the number of the round. -/
def encsL (L : List E) (x : Nat) : Array Value := #[.int .i64 ((L[x]?.getD gap).key), .int .i64 ((L[x]?.getD gap).val)]

section
variable {bt pb N len reach : Nat} {fp : Nat × Nat × Int} {cv : Value} {came : List E} {places : List Nat}

theorem all_any (w : World) (p : Option Addr) : Calls Try.prog 11 #[.pointer p] w fun e w' => e = .returned (.func (.func 35) #[] #[.pointer (some ⟨w.heap.size, 0, none⟩)]) ∧ w' = w.alloc (.cells #[.pointer p] 24) := by
  go_enter Try.func11, Try.ntmps11
  go_wp2
  go_ret
  exact ⟨rfl, rfl⟩

theorem stay_grown {w w' : World} (h : Stay w w') : w.grownBy w' none := ⟨h.os, h.tape, h.output, h.size, fun k hk _ => h.block k hk⟩

set_option maxRecDepth 100000 in
set_option maxHeartbeats 2000000 in
theorem all1_in (n : Nat) (hn : 1 ≤ n) (l Bn B : Nat) (M : World → Nat → Prop) (J Jx : List Nat → World → Prop) (W : World) (hBn : W.cell? ⟨Bn, 0, none⟩ = some (.pointer (some ⟨bt, 0, none⟩))) (hT : Tab W bt fp cv pb N len reach came places) (hsz : came.length ≤ 68719476736) (hBW : B ≤ W.heap.size)
    (hM0 : ∀ W', Stay W W' → ∀ k, M W' k → k < W.heap.size) (hMa : ∀ W' o k, W.heap.size ≤ W'.heap.size → M (W'.alloc o) k → M W' k) (hA : AbidesFrom W.heap.size J)
    (hY : ∀ pre x W1, J pre W1 → pre.length < (live came).length → YieldAt Fence.wide (n - 1) Try.prog l (encsL (live came) x) W1 fun e W' =>
      (e = .returned (.bool true) ∧ J (pre ++ [x]) W' ∧ Keep B M W1 W') ∨ (e = .returned (.bool false) ∧ Jx (pre ++ [x]) W')) (h0 : J [] W) :
    CallsIn Fence.wide n Try.prog 35 #[.func (.yield l) #[] #[], .pointer (some ⟨Bn, 0, none⟩)] W fun e W' => (∃ v, e = .returned v) ∧
      ((∃ ys, ys = List.range (live came).length ∧ J ys W') ∨ (∃ pre, (∃ k, k ≤ (live came).length ∧ pre = List.range k) ∧ Jx pre W')) := by
  have hio := inOrder_any hT hsz
  have hll := live_length_le came
  generalize hL : live came = L at hio hY hll ⊢
  have HT : Hid (live came = L) := hL
  clear hT hL
  refine callsIn_of_wp Try.func35 rfl trivial ?_ rfl
  simp only [Try.ntmps35, List.size_toArray, List.length_cons, List.length_nil, Nat.reduceAdd, Nat.reduceSub, Array.replicate_succ, Array.replicate_zero, List.push_toArray, List.append_toArray, List.nil_append, List.cons_append]
  gi_wp2_with (refine ⟨trivial, ?_⟩; gi_at_call 36; refine CallsIn.mono (callsIn_wide.2 hio) ?_; rintro e w' ⟨g, cap, rfl, hg, hC, hS⟩)
  have hJ1 : J [] w' := hA [] W w' none h0 (stay_grown hS) (fun r e => by cases e)
  have hnm : ¬ M w' g := fun hm => by have := hM0 w' hS g hm; omega
  have HI : Hid (J (List.range 0) w' ∧ Came w' g cap L ∧ ¬ M w' g ∧ W.heap.size ≤ w'.heap.size) := ⟨hJ1, hC, hnm, hS.size⟩
  have hsl : L.length ≤ 68719476736 := by omega
  clear hio hC hS hJ1 hnm
  gi_loopw [4, 8] (fun _ue ui wr => ∃ k : Nat, k ≤ L.length ∧ ui = .int .i64 (k : Int) ∧ J (List.range k) wr ∧ Came wr g cap L ∧ ¬ M wr g ∧ W.heap.size ≤ wr.heap.size) (fun _ue ui _ => L.length - (intOf ui).toNat)
  case atStart => exact ⟨0, Nat.zero_le _, rfl, HI.out⟩
  case round =>
    obtain ⟨k, hk, rfl, hJ, hC, hnm, hws⟩ := hrel
    by_cases hlt : k < L.length
    · obtain ⟨e, he⟩ : ∃ e, L[k]? = some e := ⟨_, List.getElem?_eq_getElem hlt⟩
      obtain ⟨c0, c1, c2, c3, c4⟩ := hC.cells k e he
      have hki : (k : Int) < (L.length : Int) := by omega
      have HSu : Hid (List.range (k + 1) = List.range k ++ [k]) := List.range_succ
      have hJ2 : J (List.range k) (wr.alloc (.cells #[.int .i64 (e.key), .int .i64 (e.val), .int .u64 e.hash, .int .i64 e.place, .bool e.there] 75)) := hA _ wr _ none hJ (World.grownBy_alloc wr _ none) (fun r e => by cases e)
      have hgl := hC.lt
      have HC : Hid (Came (wr.alloc (.cells #[.int .i64 (e.key), .int .i64 (e.val), .int .u64 e.hash, .int .i64 e.place, .bool e.there] 75)) g cap L ∧ ¬ M (wr.alloc (.cells #[.int .i64 (e.key), .int .i64 (e.val), .int .u64 e.hash, .int .i64 e.place, .bool e.there] 75)) g) :=
        ⟨hC.block (Below.heap_alloc wr _ g hgl), fun hm => hnm (hMa wr _ g hws hm)⟩
      obtain ⟨fn, tmps, assign, body, hy, hR⟩ := hY _ k _ hJ2 (by rw [List.length_range]; exact hlt)
      dsimp only [encsL] at hy
      rw [he] at hy
      dsimp only [Option.getD_some] at hy
      clear hJ hC hnm hJ2 he hA hY
      gi_wp2
      refine hR.mono ?_
      rintro e9 W3 (⟨rfl, hJ3, hk3⟩ | ⟨rfl, hJx3⟩)
      · gi_wp2
        have hC3 : Came W3 g cap L := by
          obtain ⟨cur, h1, h2⟩ := HC.out.1
          exact ⟨cur, hk3.same g _ _ _ (by omega) h1 HC.out.2, h2⟩
        have hn3 : ¬ M W3 g := fun hm => by
          rcases hk3.more g hm with h1 | h1
          · exact HC.out.2 h1
          · simp at h1; omega
        go_roundw
        case rel => exact ⟨k + 1, by omega, by simp, by rw [HSu.out]; exact hJ3, hC3, hn3, by have := hk3.size; simp at this; omega⟩
        case measure => simp [intOf]; omega
      · gi_wp2
        refine bodyPost_ret (results_none rfl _ _ _) rfl ?_
        exact ⟨⟨_, rfl⟩, .inr ⟨_, ⟨k + 1, by omega, HSu.out.symm⟩, hJx3⟩⟩
    · obtain rfl : k = L.length := by omega
      have HJ : Hid (J (List.range L.length) wr) := hJ
      clear hJ hC hnm hY hA
      gi_wp2
      go_end0
      exact ⟨⟨_, rfl⟩, .inl ⟨_, rfl, HJ.out⟩⟩

/-- All of a table hands back a value that tells what there is, in its order. -/
theorem all_stops (n : Nat) (hn : 1 ≤ n) (Bn : Nat) (M : World → Nat → Prop) (w : World) (hc : w.cell? ⟨Bn, 0, none⟩ = some (.pointer (some ⟨bt, 0, none⟩))) (hT : Tab w bt fp cv pb N len reach came places) (hsz : came.length ≤ 68719476736)
    (hM0 : ∀ W, Stay w W → ∀ k, M W k → k < w.heap.size) (hMa : ∀ W o k, w.heap.size ≤ W.heap.size → M (W.alloc o) k → M W k) :
    SeqStopsK Fence.wide n Try.prog 35 #[.pointer (some ⟨Bn, 0, none⟩)] (encsL (live came)) (Keep w.heap.size M) (fun ys => ys = List.range (live came).length) (fun pre => ∃ k, k ≤ (live came).length ∧ pre = List.range k) (live came).length w := fun l J Jx W hW hA _ hY h0 =>
  all1_in n hn l Bn w.heap.size M J Jx W ((hW.cell (p := ⟨Bn, 0, none⟩) (World.block_lt_of_cell? w _ hc)).trans hc) (hT.turn (S := fun k => w.heap.size ≤ k) (Turn.of_below hW) (fun k hk => by have := hT.lt k (.inl hk); omega) (fun k hk => by have := hT.lt k (.inr hk); omega)) hsz hW.size
    (fun W' hW' k hk => Nat.lt_of_lt_of_le (hM0 W' (Stay.trans hW hW') k hk) hW.size) (fun W' o k hle => hMa W' o k (Nat.le_trans hW.size hle)) hA hY h0
end
end Go.Proofs.Ytdnophgcdnghkaa.I
