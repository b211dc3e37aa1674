/- All once more: what it tells, as numbers. -/
import Derived.Test.YtdmopioiaaecfaaIter
import Derived.Test.YtdmopioiaaecfaaRefC
namespace Go.Proofs.Ytdmopioiaaecfaa
open Go.RowKit Go.Maps Go.Shelf
attribute [local go_sem] Oper.semAt_some

/-- The values of a round, of a number alone. -/
def encsN (ts : List ByteArray) (k : Nat) : Array Value := #[.int .i64 (k : Int), .string (ts[k]?.getD ⟨#[]⟩)]

set_option maxRecDepth 100000 in
set_option maxHeartbeats 1000000 in
theorem all1N_in (n : Nat) (hn : 1 ≤ n) (l Bn bt bm g cap : Nat) (ts : List ByteArray) (J Jx : List Nat → World → Prop)
    (hY : ∀ pre x W, J pre W → pre.length < ts.length → YieldAt Fence.wide (n - 1) Try.prog l (encsN ts x) W fun e W' =>
      (e = .returned (.bool true) ∧ J (pre ++ [x]) W' ∧ KRow g ts.length W W') ∨ (e = .returned (.bool false) ∧ Jx (pre ++ [x]) W'))
    (W : World) (hBn : W.cell? ⟨Bn, 0, none⟩ = some (.pointer (some ⟨bt, 0, none⟩))) (hT : Tab W bt bm g cap ts) (h0 : J [] W) :
    CallsIn Fence.wide n Try.prog 45 #[.func (.yield l) #[] #[], .pointer (some ⟨Bn, 0, none⟩)] W fun e W' => (∃ v, e = .returned v) ∧
      ((∃ ys, ys = List.range ts.length ∧ J ys W') ∨ (∃ pre, (∃ k, k ≤ ts.length ∧ pre = List.range k) ∧ Jx pre W')) := by
  have hm := made_yes W bt bm hT.c1
  have c0 := hT.c0
  have hlen : ts.length ≤ 9223372036854775807 := by
    obtain ⟨_, _, h1, h2, _⟩ := hT.rowBlock
    unfold maxLen at h2
    omega
  have HT : Hid (Tab W bt bm g cap ts) := hT
  clear hT
  refine callsIn_of_wp Try.func45 rfl trivial ?_ rfl
  simp only [Try.ntmps45, List.size_toArray, List.length_cons, List.length_nil, Nat.reduceAdd, Nat.reduceSub, Array.replicate_succ, Array.replicate_zero, List.push_toArray, List.append_toArray, List.nil_append, List.cons_append]
  gi_wp2_with (refine ⟨trivial, ?_⟩; gi_at_call 34; refine CallsIn.mono (callsIn_wide.2 hm) ?_; rintro e w' ⟨rfl, rfl⟩)
  gi_loopw [13] (fun i wr => ∃ k : Nat, k ≤ ts.length ∧ i = .int .i64 k ∧ J (List.range k) wr ∧ KRow g ts.length w' wr) (fun i _ => ts.length - (intOf i).toNat)
  case atStart => exact ⟨0, Nat.zero_le _, rfl, h0, fun _ _ => rfl⟩
  case round =>
    obtain ⟨k, hk, rfl, hJs, hnx⟩ := hrel
    by_cases hlt : k < ts.length
    · have hcx : wr.cell? ⟨g, k, none⟩ = some (.string (ts[k]?.getD ⟨#[]⟩)) := by rw [hnx k hlt, HT.out.text hlt]; simp [hlt]
      have HSu : Hid (List.range (k + 1) = List.range k ++ [k]) := List.range_succ
      obtain ⟨fn, tmps, assign, body, hy, hR⟩ := hY _ k wr hJs (by rw [List.length_range]; exact hlt)
      dsimp only [encsN] at hy
      generalize ts[k]?.getD ⟨#[]⟩ = s at hcx hy
      have HNX : Hid (KRow g ts.length w' wr) := hnx
      clear hnx
      gi_wp2
      refine hR.mono ?_
      rintro e W3 (⟨rfl, hJ3, hk3⟩ | ⟨rfl, hJx3⟩)
      · gi_wp2
        go_roundw
        case rel => exact ⟨k + 1, by omega, by simp, by rw [HSu.out]; exact hJ3, krow_t HNX.out hk3⟩
        case measure => simp [intOf]; omega
      · gi_wp2
        refine bodyPost_ret (results_none rfl _ _ _) rfl ?_
        exact ⟨⟨_, rfl⟩, .inr ⟨_, ⟨k + 1, by omega, HSu.out.symm⟩, hJx3⟩⟩
    · obtain rfl : k = ts.length := by omega
      gi_wp2
      go_end0
      exact ⟨⟨_, rfl⟩, .inl ⟨_, rfl, hJs⟩⟩

theorem allN_stops (n : Nat) (hn : 1 ≤ n) (Bn bt bm g cap : Nat) (ts : List ByteArray) (w : World) (hc : w.cell? ⟨Bn, 0, none⟩ = some (.pointer (some ⟨bt, 0, none⟩))) (hT : Tab w bt bm g cap ts) :
    SeqStopsK Fence.wide n Try.prog 45 #[.pointer (some ⟨Bn, 0, none⟩)] (encsN ts) (KRow g ts.length) (fun ys => ys = List.range ts.length) (fun pre => ∃ k, k ≤ ts.length ∧ pre = List.range k) ts.length w := fun l J Jx W hW _ _ hY h0 =>
  all1N_in n hn l Bn bt bm g cap ts J Jx hY W ((hW.cell (p := ⟨Bn, 0, none⟩) (World.block_lt_of_cell? w _ hc)).trans hc) (hT.kept (Turn.of_below hW) (by have := hT.lt; rintro k (rfl | rfl | rfl) <;> omega)) h0

end Go.Proofs.Ytdmopioiaaecfaa
