/- The law's lent and left: the walks. -/
import Derived.Test.YtbbgembkdhcidaaFWl
namespace Go.Proofs.Ytbbgembkdhcidaa
open Go.RowKit Go.Maps

def LentB (w : World) (n : Nat) (gs : List (List ByteArray)) (e : Ending) (w' : World) : Prop := ∃ G cap, e = .returned (.slice (some ⟨G, 0, none⟩) n cap) ∧ LentR w.heap.size w' G cap gs ∧ Stay w w'

set_option maxRecDepth 100000 in
set_option maxHeartbeats 4000000 in
theorem lent_any (w : World) (a : Option Addr) (b off c : Nat) (ts : List Tx) (hT : TxsS w a b off ts) (hnn : ∀ t ∈ ts, t.a = none → t.c = 0 ∧ t.xs = []) (hm : ∀ t ∈ ts, t.xs.length ≤ 1048576) (hl : ts.length ≤ 1048576) :
    Calls Try.prog 4 #[.slice a ts.length c] w (LentB w ts.length (ts.map Tx.xs)) := by
  obtain ⟨n, hn⟩ : ∃ n, n = ts.length := ⟨_, rfl⟩
  have HX : Hid (TxsS w a b off ts ∧ n = ts.length ∧ (∀ t ∈ ts, t.xs.length ≤ 1048576) ∧ ∀ t ∈ ts, t.a = none → t.c = 0 ∧ t.xs = []) := ⟨hT, hn, hm, hnn⟩
  rw [← hn]
  rw [← hn] at hl
  clear hT hn hm hnn
  go_enter Try.func4, Try.ntmps4
  go_wp2
  go_loopw [3, 4, 5] (fun v i _ wr => ∃ k : Nat, k ≤ n ∧ i = .int .i64 (k : Int) ∧ ∃ m : List Tx, m.map Tx.xs = (ts.map Tx.xs).take k ∧ LentM w wr v m) (fun _ i _ _ => n - (intOf i).toNat)
  case atStart => exact ⟨0, Nat.zero_le _, rfl, [], rfl, LentM.nil w⟩
  case round =>
    obtain ⟨k, hk, rfl, m, hmk, hM⟩ := hrel
    have hml : m.length = k := by
      have := congrArg List.length hmk
      rw [List.length_map, List.length_take, List.length_map, ← HX.out.2.1] at this
      omega
    obtain ⟨va, vn, vc, rfl⟩ := own_one hM.row
    by_cases hlt : k < n
    · have hks : k < ts.length := by rw [← HX.out.2.1]; exact hlt
      obtain rfl := HX.out.1.1 (by omega)
      obtain ⟨hc1, hS1⟩ := (HX.out.1.stay hM.stay).2 k hks
      have hki : (k : Int) < (n : Int) := by omega
      have hki0 : (0 : Int) ≤ (k : Int) := by omega
      have hml2 := HX.out.2.2.1 _ (List.getElem_mem hks)
      obtain ⟨u1, V1, hap1, G, cap, V2, hap2, hcap, hs2, v', V3, hap3, t, ht, hM'⟩ := hM.step hS1 (HX.out.2.2.2 _ (List.getElem_mem hks)) (by omega) (by omega)
      have hc2 := hs2.cell hc1
      have hcut := cutS_to G (ts[k].xs.length + 1) cap ts[k].xs.length (by omega)
      have HF : Hid (LentM w V3 v' (m ++ [t]) ∧ (m ++ [t]).map Tx.xs = (ts.map Tx.xs).take (k + 1)) := ⟨hM', by
        rw [List.take_succ_eq_append_getElem (by simpa using hks), List.map_append, hmk, List.getElem_map, List.map_singleton, ht]⟩
      unfold Tx.v at hc1 hc2
      clear hM hM' ht hmk hml hS1 hs2
      generalize ts[k] = x at *
      generalize x.xs.length = xn at *
      obtain ⟨xa, xb, xo, xc, xx⟩ := x
      dsimp only at *
      go_wp2_with (first
        | (at_builtin; refine wpList_append_run rfl _ _ 39 39 rfl _ _ rfl rfl hap1 ?_; clear hap1)
        | (at_builtin; refine wpList_append_run rfl _ _ 39 39 rfl _ _ rfl rfl hap2 ?_; clear hap2)
        | (at_builtin; refine wpList_append_run rfl _ _ 22 22 rfl _ _ rfl rfl hap3 ?_; clear hap3))
      go_roundw
      case rel => exact ⟨k + 1, by omega, by simp, _, HF.out.2, HF.out.1⟩
      case measure => simp [intOf]; omega
    · have hki : ¬ (k : Int) < (n : Int) := by omega
      obtain rfl : k = n := by omega
      obtain ⟨G, cap, V', hap, hcap, hR, hs⟩ := hM.done (by omega)
      rw [hml] at hap hcap
      have hcut := cutV_to G (k + 1) cap k hcap
      have HF : Hid (LentR w.heap.size V' G cap (ts.map Tx.xs) ∧ Stay w V') := by
        rw [List.take_of_length_le (by rw [List.length_map, ← HX.out.2.1]; omega)] at hmk
        rw [hmk] at hR
        exact ⟨hR, hs⟩
      clear hM hmk hml hR hs
      go_wp2_with (first
        | (at_builtin; refine wpList_append_run rfl _ _ 22 22 rfl _ _ rfl rfl hap ?_; clear hap))
      go_ret
      exact ⟨G, cap, rfl, HF.out.1, HF.out.2⟩

set_option maxRecDepth 100000 in
set_option maxHeartbeats 4000000 in
theorem left_any (w : World) (lo G cap : Nat) (a : Option Addr) (b off c : Nat) (ts : List Tx) (hR : LentR lo w G cap (ts.map Tx.xs)) (hT : TxsS w a b off ts) (hm : ∀ t ∈ ts, t.xs.length ≤ 1048576) (hl : ts.length ≤ 1048576) :
    Calls Try.prog 10 #[.slice (some ⟨G, 0, none⟩) ts.length cap, .slice a ts.length c] w fun e w' => e = .returned (.bool true) ∧ Stay w w' := by
  obtain ⟨xs, hx1, hx2, hx3⟩ := hR.is
  obtain ⟨M, hm1, hm2⟩ := hR.mrk
  have hlx : xs.length = ts.length := by simpa using congrArg List.length hx1
  have hsm := same_any w (some ⟨G, 0, none⟩) a G 0 b off cap c xs ts hx2 hT (by omega) (by omega) (fun t ht => by
    obtain ⟨y, hy, e⟩ := List.mem_map.1 (show t.xs ∈ ts.map Tx.xs by rw [← hx1]; exact List.mem_map.2 ⟨t, ht, rfl⟩)
    have := hm y hy
    rw [← e]
    unfold maxLen; omega) (fun t ht => by have := hm t ht; unfold maxLen; omega)
  rw [decide_eq_true hx1] at hsm
  obtain ⟨n, hn⟩ : ∃ n, n = ts.length := ⟨_, rfl⟩
  have hcap := hR.cap
  rw [List.length_map] at hcap hm1
  rw [hlx] at hsm
  rw [← hn] at hsm hcap hm1 hl ⊢
  have HX : Hid (TxsS w a b off ts ∧ n = ts.length ∧ (∀ t ∈ ts, t.xs.length ≤ 1048576) ∧ xs.map Tx.xs = ts.map Tx.xs ∧ TxsS w (some ⟨G, 0, none⟩) G 0 xs ∧ (∀ t ∈ xs, LentT w lo t) ∧ n = xs.length) := ⟨hT, hn, hm, hx1, hx2, hx3, by omega⟩
  have hcut : ∀ W, (Instr.slice 22 (.slice (some ⟨G, 0, none⟩) n cap) none (some (.int .i64 ((n : Int) + 1))) none).run Try.prog W = .ok (.slice (some ⟨G, 0, none⟩) (n + 1) cap) W := fun W => by
    have := cutV_to G n cap (n + 1) hcap W
    rwa [show ((n + 1 : Nat) : Int) = (n : Int) + 1 by omega] at this
  have hi1 : (n : Int) < ((n + 1 : Nat) : Int) := by omega
  have hi2 : (0 : Int) ≤ (n : Int) := by omega
  clear hT hn hm hx1 hx2 hx3 hlx hR
  go_enter Try.func10, Try.ntmps10
  go_wp2_with (first
    | (go_at_call 11; refine hsm.mono ?_; rintro e W1 ⟨rfl, hq⟩
       have hs1 : Stay w W1 := by (obtain ⟨q, hq⟩ := hq; rw [hq]; exact Stay.drewN _ _)
       have d1 := hs1.cell hm1
       have d2 := hs1.cell hm2
       clear hsm hq hm1 hm2))
  go_loopw [5, 6] (fun i _ wr => ∃ k : Nat, k ≤ n ∧ i = .int .i64 (k : Int) ∧ wr = W1) (fun i _ _ => n - (intOf i).toNat)
  case atStart => exact ⟨0, Nat.zero_le _, rfl, rfl⟩
  case round =>
    obtain ⟨k, hk, rfl, rfl⟩ := hrel
    by_cases hlt : k < n
    · have hks : k < ts.length := by rw [← HX.out.2.1]; exact hlt
      have hkx : k < xs.length := by rw [← HX.out.2.2.2.2.2.2]; exact hlt
      obtain rfl := HX.out.1.1 (by omega)
      obtain ⟨hc1, -⟩ := (HX.out.1.stay hs1).2 k hks
      obtain ⟨hc2, -⟩ := (HX.out.2.2.2.2.1.stay hs1).2 k hkx
      have hL := (HX.out.2.2.2.2.2.1 _ (List.getElem_mem hkx)).stay hs1
      have he : xs[k].xs = ts[k].xs := by
        have h1 : (xs.map Tx.xs)[k]'(by simpa using hkx) = (ts.map Tx.xs)[k]'(by simpa using hks) := by simp only [HX.out.2.2.2.1]
        simpa using h1
      have hki : (k : Int) < (n : Int) := by omega
      have hki0 : (0 : Int) ≤ (k : Int) := by omega
      have hml := HX.out.2.2.1 _ (List.getElem_mem hks)
      have hLm := hL.mrk
      have hLc := hL.c
      have hLa := hL.a
      unfold Tx.v at hc1 hc2
      rw [Nat.zero_add, he, hLa] at hc2
      rw [he] at hLm hLc
      have hcut2 : ∀ W, (Instr.slice 39 (.slice (some ⟨xs[k].b, 0, none⟩) ts[k].xs.length xs[k].c) none (some (.int .i64 ((ts[k].xs.length : Int) + 1))) none).run Try.prog W = .ok (.slice (some ⟨xs[k].b, 0, none⟩) (ts[k].xs.length + 1) xs[k].c) W := fun W => by
        have := cutS_to xs[k].b ts[k].xs.length xs[k].c (ts[k].xs.length + 1) hLc W
        rwa [show ((ts[k].xs.length + 1 : Nat) : Int) = (ts[k].xs.length : Int) + 1 by omega] at this
      have hi3 : (ts[k].xs.length : Int) < ((ts[k].xs.length + 1 : Nat) : Int) := by omega
      have hi4 : (0 : Int) ≤ (ts[k].xs.length : Int) := by omega
      clear hL he hLa hLc
      generalize ts[k].xs.length = m at *
      generalize ts[k] = t at *
      generalize xs[k] = x at *
      obtain ⟨ta, tb, to, tc, tx⟩ := t
      obtain ⟨xa, xb, xo, xc, xx⟩ := x
      dsimp only at *
      go_wp2
      go_roundw
      case rel => exact ⟨k + 1, by omega, by simp, by first | rfl | trivial⟩
      case measure => simp [intOf]; omega
    · have hki : ¬ (k : Int) < (n : Int) := by omega
      go_wp2
      go_ret
      exact ⟨rfl, hs1⟩
end Go.Proofs.Ytbbgembkdhcidaa
