/- slices.Collect of slices.Values: a list of lists of texts, as it stands, in memory of its own. -/
import Derived.Test.YtbbgembkdhcidaaFP
import Derived.RangeFuncNested
import Derived.RangeFuncBound
import Derived.RangeFuncCalls
import Derived.RangeFuncLeaves
import Derived.RangeFuncBox
import Derived.Shelf.Abstract
import Derived.Shelf.RegionOpen
import Derived.OwnWalkIn
import Derived.TacticsInMore
import Derived.LoopNIn
import Derived.LoopIn
import Derived.Maps.OwnIn
namespace Go.Proofs.Ytbbgembkdhcidaa
open Go.RowKit Go.Maps Go.Shelf
attribute [local go_sem] Oper.semAt_some

def noTx : Tx := ⟨none, 0, 0, 0, []⟩
/-- What is told in a round, by the number of the round. -/
def encsT (ts : List Tx) (x : Nat) : Array Value := #[(ts[x]?.getD noTx).v]
theorem below_put (B : Nat) (A : World) (l : Nat) (o : Obj) (h : B ≤ l) : Below B A (A.putObj l o) := by
  have g := grownBy_putObj' A l o
  exact ⟨g.os, g.tape, g.output, g.size, fun k hk => World.putObj_heap_other (by omega)⟩
theorem values_any (w : World) (a : Option Addr) (m c : Nat) : Calls Try.prog 37 #[.slice a m c] w fun e w' => e = .returned (.func (.func 55) #[] #[.pointer (some ⟨w.heap.size, 0, none⟩)]) ∧ w' = w.alloc (.cells #[.slice a m c] 22) := by
  go_enter Try.func37, Try.ntmps37
  go_wp2
  go_ret
  exact ⟨rfl, rfl⟩
theorem stay_grown {w w' : World} (h : Stay w w') : w.grownBy w' none := ⟨h.os, h.tape, h.output, h.size, fun k hk _ => h.block k hk⟩

set_option maxRecDepth 100000 in
set_option maxHeartbeats 2000000 in
theorem values1_in (n : Nat) (hn : 1 ≤ n) (l Bn B : Nat) {a : Option Addr} {b off c : Nat} {ts : List Tx} (J Jx : List Nat → World → Prop) (W : World) (hBn : W.cell? ⟨Bn, 0, none⟩ = some (.slice a ts.length c)) (hT : ∀ V, Below B W V → ∀ j (h : j < ts.length), V.cell? ⟨b, off + j, none⟩ = some ts[j].v) (ha : 0 < ts.length → a = some ⟨b, off, none⟩) (hsz : ts.length ≤ 68719476736000)
    (hY : ∀ pre x W1, J pre W1 → pre.length < ts.length → YieldAt Fence.wide (n - 1) Try.prog l (encsT ts x) W1 fun e W' =>
      (e = .returned (.bool true) ∧ J (pre ++ [x]) W' ∧ Below B W1 W') ∨ (e = .returned (.bool false) ∧ Jx (pre ++ [x]) W')) (h0 : J [] W) :
    CallsIn Fence.wide n Try.prog 55 #[.func (.yield l) #[] #[], .pointer (some ⟨Bn, 0, none⟩)] W fun e W' => (∃ v, e = .returned v) ∧
      ((∃ ys, ys = List.range ts.length ∧ J ys W') ∨ (∃ pre, (∃ k, k ≤ ts.length ∧ pre = List.range k) ∧ Jx pre W')) := by
  obtain ⟨N, hN⟩ : ∃ N, N = ts.length := ⟨_, rfl⟩
  have HX : Hid ((∀ V, Below B W V → ∀ j (h : j < ts.length), V.cell? ⟨b, off + j, none⟩ = some ts[j].v) ∧ (0 < ts.length → a = some ⟨b, off, none⟩) ∧ N = ts.length ∧ J [] W) := ⟨hT, ha, hN, h0⟩
  rw [← hN] at hBn hsz hY ⊢
  clear hT ha hN h0
  refine callsIn_of_wp Try.func55 rfl trivial ?_ rfl
  simp only [Try.ntmps55, List.size_toArray, List.length_cons, List.length_nil, Nat.reduceAdd, Nat.reduceSub, Array.replicate_succ, Array.replicate_zero, List.push_toArray, List.append_toArray, List.nil_append, List.cons_append]
  gi_wp2
  gi_loopw [4, 7] (fun _ue ui wr => ∃ k : Nat, k ≤ N ∧ ui = .int .i64 (k : Int) ∧ J (List.range k) wr ∧ Below B W wr) (fun _ue ui _ => N - (intOf ui).toNat)
  case atStart => exact ⟨0, Nat.zero_le _, rfl, HX.out.2.2.2, Below.refl _ _⟩
  case round =>
    obtain ⟨k, hk, rfl, hJ, hB⟩ := hrel
    by_cases hlt : k < N
    · have hks : k < ts.length := by rw [← HX.out.2.2.1]; exact hlt
      obtain rfl := HX.out.2.1 (by omega)
      have c0 := HX.out.1 wr hB k hks
      have hki : (k : Int) < (N : Int) := by omega
      have HSu : Hid (List.range (k + 1) = List.range k ++ [k] ∧ Below B W wr) := ⟨List.range_succ, hB⟩
      obtain ⟨fn, tmps, assign, body, hy, hR⟩ := hY _ k _ hJ (by rw [List.length_range]; exact hlt)
      dsimp only [encsT] at hy
      rw [List.getElem?_eq_getElem hks, Option.getD_some] at hy
      generalize ts[k] = t at hy c0
      unfold Tx.v at hy c0
      clear hJ hY hB hBn
      gi_wp2
      refine hR.mono ?_
      rintro e9 W3 (⟨rfl, hJ3, hk3⟩ | ⟨rfl, hJx3⟩)
      · gi_wp2
        go_roundw
        case rel => exact ⟨k + 1, by omega, by simp, by rw [HSu.out.1]; exact hJ3, HSu.out.2.trans hk3⟩
        case measure => simp [intOf]; omega
      · gi_wp2
        refine bodyPost_ret (results_none rfl _ _ _) rfl ?_
        exact ⟨⟨_, rfl⟩, .inr ⟨_, ⟨k + 1, by omega, HSu.out.1.symm⟩, hJx3⟩⟩
    · obtain rfl : k = N := by omega
      have HJ : Hid (J (List.range k) wr) := hJ
      clear hJ hY hBn hB
      gi_wp2
      go_end0
      exact ⟨⟨_, rfl⟩, .inl ⟨_, rfl, HJ.out⟩⟩
/-- What a loop over the values of a list goes by. -/
theorem values_stops (n : Nat) (hn : 1 ≤ n) (Bn : Nat) {a : Option Addr} {b off c : Nat} {ts : List Tx} (w0 w : World) (hs0 : Stay w0 w) (hc : w.cell? ⟨Bn, 0, none⟩ = some (.slice a ts.length c)) (hT : TxsS w0 a b off ts) (hsz : ts.length ≤ 68719476736000) :
    SeqStopsK Fence.wide n Try.prog 55 #[.pointer (some ⟨Bn, 0, none⟩)] (encsT ts) (Below w0.heap.size) (fun ys => ys = List.range ts.length) (fun pre => ∃ k, k ≤ ts.length ∧ pre = List.range k) ts.length w := fun l J Jx W hW _ _ hY h0 =>
  values1_in n hn l Bn w0.heap.size (b := b) (off := off) (c := c) J Jx W ((hW.cell (p := ⟨Bn, 0, none⟩) (World.block_lt_of_cell? w _ hc)).trans hc) (fun V hV j hj => Stay.cell (Below.trans (hs0.trans hW) hV : Stay w0 V) (hT.2 j hj).1) hT.1 hsz hY h0

/-- Between two rounds: the box holds a list of one's own with what came. -/
def ApI (w : World) (Bs : Nat) (ts : List Tx) (pre : List Nat) (W : World) : Prop :=
  (∃ v, Boxed W Bs 22 v ∧ W.ownsRow w.heap.size 39 1 v pre.length (pre.map fun x => (ts[x]?.getD noTx).v)) ∧ Below w.heap.size w W
theorem ApI.own {w : World} {Bs : Nat} {ts : List Tx} {B : Nat} (hB : w.heap.size ≤ B) : OwnFrom B (ApI w Bs ts) := by
  rintro pre W W' row ⟨⟨v, hb, ho⟩, hbl⟩ hg hr
  have ht : Turn (fun k => row = some k) W W' := Turn.of_grown hg
  have hno : ∀ k, (∃ cs t f, W.heap[k]? = some (.cells cs t f)) → ¬ row = some k := fun k ⟨cs, t, f, hc⟩ e => by
    obtain ⟨_, o, ho, hic⟩ := hr k e
    rw [hc] at ho; simp only [Option.some.injEq] at ho; subst ho; simp [Obj.isCells] at hic
  refine ⟨⟨v, ht.heap hb (hno _ ⟨_, _, _, hb⟩), ht.row ho (fun k hk => hno k ?_)⟩, hbl.grown hg hbl.size (fun k e => Nat.le_trans hB (hr k e).1)⟩
  obtain ⟨c, fz, hc⟩ := row_kind ho k hk
  exact ⟨c, _, fz, hc⟩
theorem own_one {w : World} {base : Nat} {e : TypeId} {v : Value} {n : Nat} {xs : List Value} (h : w.ownsRow base e 1 v n xs) : ∃ a m c, v = .slice a m c := by
  rcases h.2 with ⟨e, _⟩ | ⟨g, cap, cur, e, _⟩ <;> exact ⟨_, _, _, e⟩

set_option maxRecDepth 100000 in
set_option maxHeartbeats 2000000 in
theorem appendSeq_in {w : World} {Bn : Nat} {a : Option Addr} {b off c : Nat} {ts : List Tx} (hc : w.cell? ⟨Bn, 0, none⟩ = some (.slice a ts.length c)) (hT : TxsS w a b off ts) (hsz : ts.length * 24 ≤ 140737488355328) :
    CallsIn Fence.wide 5 Try.prog 64 #[.slice none 0 0, .func (.func 55) #[] #[.pointer (some ⟨Bn, 0, none⟩)]] w fun e w' => ∃ v, e = .returned v ∧ w'.ownsRow w.heap.size 39 1 v ts.length (ts.map Tx.v) ∧ Below w.heap.size w w' := by
  obtain ⟨i0, hi, hz0, hz1, hz2⟩ := info_parts infoSs
  have hseq := values_stops (5 - 1) (by decide) Bn w (w.alloc (.cells #[.slice none 0 0] 22)) (Stay.new w _) ((Stay.new w _).cell hc) hT (by omega)
  have h0 : ApI w w.heap.size ts [] (w.alloc (.cells #[.slice none 0 0] 22)) := ⟨⟨_, Boxed.new _ _ _, World.ownsRow_nil _ _ _ _⟩, (Below.refl _ w).alloc (Nat.le_refl _) _⟩
  refine callsIn_of_wp_marks Try.func64 rfl trivial ?_ rfl
  simp only [Try.ntmps64, List.size_toArray, List.length_cons, List.length_nil, Nat.reduceAdd, Nat.reduceSub, Array.replicate_succ, Array.replicate_zero, List.push_toArray, List.append_toArray, List.nil_append, List.cons_append]
  have hfw : ∀ f, Fence.wide.fn f := fun _ => trivial
  gi_wp2
  obtain ⟨W0, hW0⟩ : ∃ W0, w.alloc (.cells #[.slice none 0 0] 22) = W0 := ⟨_, rfl⟩
  rw [hW0] at hseq h0 ⊢
  have hz : W0.heap.size = w.heap.size + 1 := by rw [← hW0]; simp
  have hwb : Below w.heap.size w W0 := h0.2
  have HZ : Hid (W0.heap.size = w.heap.size + 1) := hz
  clear hW0 hz
  refine' wpIn_rangeFunc_ownG (α := Nat) rfl (by decide) (gf := 55) (lb := #[.pointer (some ⟨Bn, 0, none⟩)]) rfl trivial (enters_of Try.func55 (by kernel_rfl) rfl)
    hseq (fun h k => h.trans k) (fun W l o o' hl _ _ _ => below_put _ _ _ _ (by have := HZ.out; omega)) (Below.refl _ _) (fun _ => rfl)
    (fun pre W => ApI w w.heap.size ts pre W) (fun _ _ _ => False)
    (ApI.own (by have := HZ.out; omega)) (fun _ _ _ _ _ hs _ _ => hs) h0 _ ?assign ?body ?done ?stop
  case assign =>
    intro l x W K hK
    dsimp only [encsT]
    gi_wp2
    exact hK
  case stop =>
    rintro _ _ _ _ _ _ h _
    exact h.elim
  case body =>
    rintro l pre x W ⟨⟨v, hb, ho⟩, hbl⟩ hlt
    have hbc := hb.cell
    have hbl2 := hb.lt
    have hzw := hbl.size
    obtain ⟨u, hu⟩ : ∃ u, u = (ts[x]?.getD noTx) := ⟨_, rfl⟩
    rw [← hu]
    have HI : Hid (Boxed W w.heap.size 22 v ∧ W.ownsRow w.heap.size 39 1 v pre.length (pre.map fun x => (ts[x]?.getD noTx).v) ∧ Below w.heap.size w W ∧ u = (ts[x]?.getD noTx)) := ⟨hb, ho, hbl, hu⟩
    clear hb ho hbl hu hseq h0 hc hT
    unfold Tx.v
    gi_wp2_with (gi_at_builtin; refine wpListIn_append_own _ rfl _ _ 22 rfl w.heap.size 39 i0 (.slice none 0 0) 1 24 Try.underlying22 hi hz0 hz1 hz2 rfl (by decide) _ _ _ rfl (HI.out.2.1.alloc _) ⟨W.heap.size, 0, none⟩ 1 1 [.slice u.a u.xs.length u.c] rfl rfl (cell_one_new _ _ _) (by simp [Value.oneCell']) (by unfold maxLen; omega) (by omega) (by simp; omega) ?_; intro v' w3 hown' hg3 hnil3; obtain ⟨q1, q2, q3, q4, q5⟩ := HI.out.1.appended (by decide) HI.out.2.1 hzw (Nat.le_refl _) hown' hg3; obtain ⟨a1, m1, c1, rfl⟩ := own_one hown'; have d1 := q1.cell; have d2 := q1.frozen; have HQ : Hid (ApI w w.heap.size ts (pre ++ [x]) (w3.setCell ⟨w.heap.size, 0, none⟩ (.slice a1 m1 c1)) ∧ KeepsOthers W (w3.setCell ⟨w.heap.size, 0, none⟩ (.slice a1 m1 c1)) ∧ Below w.heap.size W (w3.setCell ⟨w.heap.size, 0, none⟩ (.slice a1 m1 c1))) := ⟨⟨⟨_, q2, by rw [List.map_append, List.length_append, List.length_singleton, List.map_singleton, ← HI.out.2.2.2]; exact q3⟩, HI.out.2.2.1.trans q5⟩, q4, q5⟩; clear q1 q2 q3 q4 q5 hown' hg3 hnil3)
    exact ⟨HQ.out.2.1.from _, HQ.out.2.2, HQ.out.1⟩
  case done =>
    rintro D ys W hD rfl ⟨⟨v, hb, ho⟩, hbl⟩ hK
    have hbc := hb.cell
    have hm : (List.range ts.length).map (fun x => (ts[x]?.getD noTx).v) = ts.map Tx.v := by
      apply List.ext_getElem?
      intro j
      by_cases hj : j < ts.length
      · simp [hj]
      · rw [List.getElem?_eq_none (by simp; omega), List.getElem?_eq_none (by simp; omega)]
    rw [List.length_range, hm] at ho
    have HI : Hid (W.ownsRow w.heap.size 39 1 v ts.length (ts.map Tx.v) ∧ Below w.heap.size w W ∧ W.heap[D]? = some (.deferred (some [])) ∧ w.heap.size ≤ D) := ⟨ho, hbl, hK, by have := HZ.out; omega⟩
    clear hb ho hbl hK hseq h0 hc hT hm
    gi_wp2
    refine ⟨by simp, .inl ⟨_, _, rfl, run_takeDeferred HI.out.2.2.1, ?_⟩⟩
    have hg := grownBy_putObj' W D (.deferred none)
    refine ⟨_, results_tmp rfl _ _ _, v, rfl, ?_, HI.out.2.1.grown hg HI.out.2.1.size (fun k e => by cases e; exact HI.out.2.2.2)⟩
    refine HI.out.1.kept hg ?_
    rcases HI.out.1.2 with ⟨e, _⟩ | ⟨g, cap, cur, e, _, hh, _⟩
    · rw [e]; exact .inl rfl
    · rw [e]
      refine .inr (fun e' => ?_)
      simp only [Value.ownBlock, Option.some.injEq] at e'
      rw [e', HI.out.2.2.1] at hh
      cases hh
theorem collect_any {w : World} {Bn : Nat} {a : Option Addr} {b off c : Nat} {ts : List Tx} (hc : w.cell? ⟨Bn, 0, none⟩ = some (.slice a ts.length c)) (hT : TxsS w a b off ts) (hsz : ts.length * 24 ≤ 140737488355328) :
    Calls Try.prog 53 #[.func (.func 55) #[] #[.pointer (some ⟨Bn, 0, none⟩)]] w fun e w' => ∃ v, e = .returned v ∧ w'.ownsRow w.heap.size 39 1 v ts.length (ts.map Tx.v) ∧ Below w.heap.size w w' := by
  have h := callsIn_wide.1 (appendSeq_in hc hT hsz)
  clear hc hT hsz
  go_enter Try.func53, Try.ntmps53
  go_wp2_with (go_at_call 64; refine h.mono ?_; rintro e w' ⟨v, rfl, ho, hb⟩)
  go_ret
  exact ⟨v, rfl, ho, hb⟩
end Go.Proofs.Ytbbgembkdhcidaa
