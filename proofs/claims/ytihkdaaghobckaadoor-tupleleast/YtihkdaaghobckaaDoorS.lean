/- From, and the document's own Key: what each answers. -/
import Derived.Test.YtihkdaaghobckaaDoorR
namespace Go.Proofs.YtihkdaaghobckaaDoor
open Go.RowKit Go.Maps

theorem from_out (w : World) (K : Array Value) (n : Int) (hn : n < 0 ∨ 16 < n) : Calls Tryd.prog 12 #[.agg K, .int .i64 n] w fun e w' => e = .returned (.tuple #[.slice none 0 0, .int .i64 2]) ∧ Stay w w' := by
  rcases hn with h | h
  · go_enter Tryd.func12, Tryd.ntmps12
    go_wp2
    go_ret2
    exact ⟨rfl, Stay.new _ _⟩
  · have h2 : ¬ n < 0 := by omega
    go_enter Tryd.func12, Tryd.ntmps12
    go_wp2
    go_ret2
    exact ⟨rfl, Stay.new _ _⟩

theorem ints_arr (w : World) (zs : List Int) (n : Nat) (hn : n ≤ zs.length) : IntsS (w.alloc (.cells (arrV zs) 24)) (some ⟨w.heap.size, 0, none⟩) w.heap.size 0 (zs.take n) := by
  refine ⟨fun _ => rfl, fun j hj => ?_⟩
  have hj2 : j < zs.length := by rw [List.length_take] at hj; omega
  rw [List.getElem_take]
  have := new_cells w (zs.map (Value.int .i64)) 24 j (.int .i64 zs[j]) (by simp [hj2])
  rwa [add_at] at this

set_option maxRecDepth 100000 in
theorem from_any (w : World) (zs : List Int) (hz : zs.length = 16) (n : Nat) (hn : n ≤ 16) : Calls Tryd.prog 12 #[.agg (arrV zs), .int .i64 n] w fun e w' => ∃ v, e = .returned (.tuple #[v, .int .i64 0]) ∧ OwnI w.heap.size w' v (zs.take n) ∧ Stay w w' := by
  have hc := copied_any _ _ _ _ 16 (zs.take n) (ints_arr w zs n (by omega)) (by rw [List.length_take]; omega)
  rw [show (zs.take n).length = n by rw [List.length_take]; omega] at hc
  generalize arrV zs = K at hc
  have h1 : ¬ (n : Int) < 0 := by omega
  have h2 : (n : Int) ≤ 16 := by omega
  go_enter Tryd.func12, Tryd.ntmps12
  go_wp2_with fail
  refine hc.mono ?_
  rintro e w2 ⟨v, rfl, hown, hst⟩
  have HR : Hid (OwnI w.heap.size w2 v (zs.take n) ∧ Stay w w2) := ⟨hown.mono (by rw [World.size_alloc]; omega), (Stay.new _ _).trans hst⟩
  clear hown hst hc
  go_wp2_with fail
  go_ret2
  exact ⟨v, rfl, HR.out.1, HR.out.2⟩

theorem padI_at {xs : List Int} {k : Nat} (h : k < xs.length) (h2 : k < (padI xs).length) : (padI xs)[k] = xs[k] := List.getElem_append_left h
theorem padI_fill (xs : List Int) (h : xs.length ≤ 16) : fillL (padI xs) xs.length = padI xs := by
  unfold fillL
  rw [padI_len h]
  unfold padI
  rw [List.take_left']
  rfl

theorem make16 (W : World) : (Instr.makeSlice 22 (.int .i64 16) (.int .i64 16)).run Tryd.prog W = .ok (.slice (some ⟨W.heap.size, 0, none⟩) 16 16) (W.alloc (.cells (List.replicate 16 (Value.int .i64 0)).toArray 3)) := by
  have h := run_makeInts 16 16 (Nat.le_refl _) (by omega) W
  rw [show madeCells #[.int .i64 0] 16 = (List.replicate 16 (Value.int .i64 0)).toArray by rw [← toList_madeCells_one]] at h
  exact h

theorem rkey_long (w : World) (a1 : Option Addr) (c1 n : Nat) (hn : 16 < n) : Calls Tryd.prog 9 #[.slice a1 n c1] w fun e w' => ∃ v, e = .returned (.tuple #[v, .int .i64 3]) ∧ OwnI w.heap.size w' v (padI []) ∧ Stay w w' := by
  have hmk := make16 w
  rw [show List.replicate 16 (Value.int .i64 0) = (padI []).map (Value.int .i64) from rfl] at hmk
  have HO : Hid (OwnI w.heap.size (w.alloc (.cells ((padI []).map (Value.int .i64)).toArray 3)) (.slice (some ⟨w.heap.size, 0, none⟩) 16 16) (padI [])) := own_block (zs := padI []) (Nat.le_refl _) (heap_alloc_new _ _) (by decide)
  generalize ((padI []).map (Value.int .i64)).toArray = Z at hmk HO
  have hi : (16 : Int) < (n : Int) := by omega
  go_enter Tryd.func9, Tryd.ntmps9
  go_wp2
  go_ret2
  exact ⟨_, rfl, HO.out, Stay.new _ _⟩

set_option maxRecDepth 100000 in
set_option maxHeartbeats 1000000 in
theorem rkey_any (w : World) (a1 : Option Addr) (b1 o1 c1 : Nat) (xs : List Int) (hx : IntsS w a1 b1 o1 xs) (hlx : xs.length ≤ 16) : Calls Tryd.prog 9 #[.slice a1 xs.length c1] w fun e w' => ∃ v, e = .returned (.tuple #[v, .int .i64 0]) ∧ OwnI w.heap.size w' v (padI xs) ∧ Stay w w' := by
  have hmk := make16 w
  obtain ⟨M, hM⟩ : ∃ M, M = padI xs := ⟨_, rfl⟩
  have hml : M.length = 16 := by rw [hM]; exact padI_len hlx
  rw [show List.replicate 16 (Value.int .i64 0) = (fillL M 0).map (Value.int .i64) by rw [fillL_none, hml, List.map_replicate]] at hmk
  have HR : Hid (rowI (w.alloc (.cells ((fillL M 0).map (Value.int .i64)).toArray 3)) w.heap.size (fillL M 0) ∧ Stay w (w.alloc (.cells ((fillL M 0).map (Value.int .i64)).toArray 3))) := ⟨heap_alloc_new _ _, Stay.new _ _⟩
  generalize w.alloc (.cells ((fillL M 0).map (Value.int .i64)).toArray 3) = W0 at hmk HR
  have HM : Hid (M.length = 16 ∧ fillL M xs.length = M ∧ (∀ k (h : k < xs.length) (h2 : k < M.length), M[k] = xs[k]) ∧ M = padI xs) := ⟨hml, by rw [hM]; exact padI_fill xs hlx, fun k h h2 => by subst hM; exact padI_at h h2, hM⟩
  have HX : Hid (IntsS w a1 b1 o1 xs) := hx
  have hi : (xs.length : Int) ≤ 16 := by omega
  clear hx hM hml
  go_enter Tryd.func9, Tryd.ntmps9
  go_wp2
  go_loopw [5] (fun i wr => ∃ k : Nat, k ≤ xs.length ∧ i = .int .i64 k ∧ rowI wr w.heap.size (fillL M k) ∧ Stay w wr) (fun i _ => xs.length - (intOf i).toNat)
  case atStart => exact ⟨0, Nat.zero_le _, rfl, HR.out.1, HR.out.2⟩
  case round =>
    obtain ⟨k, hk, rfl, hrow, hst⟩ := hrel
    by_cases hlt : k < xs.length
    · have hi1 : (k : Int) < (xs.length : Int) := by omega
      have hkM : k < M.length := by rw [HM.out.1]; omega
      obtain rfl := HX.out.1 (by omega)
      have hcx := hst.cell (HX.out.2 k hlt)
      have hcg := hrow.cell k (by rw [fillL_len _ _ (by omega)]; exact hkM)
      have hfg := hrow.free k
      have e3 : M[k] = xs[k] := HM.out.2.2.1 k hlt hkM
      have HN : Hid (rowI (wr.setCell ⟨w.heap.size, k, none⟩ (.int .i64 xs[k])) w.heap.size (fillL M (k + 1)) ∧ Stay w (wr.setCell ⟨w.heap.size, k, none⟩ (.int .i64 xs[k]))) := by
        have h1 := hrow.set k xs[k]
        rw [← e3, fillL_set M k hkM, e3] at h1
        exact ⟨h1, stay_set hst (Nat.le_refl _) _⟩
      have hk16 : (k : Int) < 16 := by omega
      clear hrow hst e3 HR hmk
      generalize xs[k] = x at hcx HN
      generalize (fillL M k)[k]'_ = y at hcg
      go_wp2
      go_roundw
      case rel => exact ⟨k + 1, by omega, by go_num, HN.out.1, HN.out.2⟩
      case measure => simp [intOf]; omega
    · have hi1 : ¬ (k : Int) < (xs.length : Int) := by omega
      obtain rfl : k = xs.length := by omega
      rw [HM.out.2.1] at hrow
      have HN : Hid (OwnI w.heap.size wr (.slice (some ⟨w.heap.size, 0, none⟩) 16 16) (padI xs) ∧ Stay w wr) := by
        have h := own_block (Nat.le_refl w.heap.size) hrow (by rw [HM.out.1]; decide)
        rw [HM.out.1, HM.out.2.2.2] at h
        exact ⟨h, hst⟩
      clear hrow hst hmk
      go_wp2
      go_ret2
      exact ⟨_, rfl, HN.out.1, HN.out.2⟩
end Go.Proofs.YtihkdaaghobckaaDoor
