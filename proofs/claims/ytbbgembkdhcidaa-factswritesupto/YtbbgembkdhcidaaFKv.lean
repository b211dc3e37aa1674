/- The law's full: the walk. -/
import Derived.Test.YtbbgembkdhcidaaFKu
namespace Go.Proofs.Ytbbgembkdhcidaa
open Go.RowKit Go.Maps

set_option maxRecDepth 100000 in
set_option maxHeartbeats 8000000 in
theorem full_any (W : World) (base : Nat) (v : Value) (us : List Value) (ts : List (List ByteArray)) (mark : ByteArray) (h : OwnG base W v us ts) (hbase : base ≤ W.heap.size) (hn : ts.length ≤ 1048577) (hm : ∀ t ∈ ts, t.length ≤ 1048577) :
    Calls Try.prog 25 #[v, .string mark] W (FullQ W v us mark) := by
  obtain ⟨a, c, hv, hsp⟩ := row_spot h.row
  obtain ⟨n, hnn⟩ : ∃ n, n = us.length := ⟨_, rfl⟩
  have HL : Hid ((ts.map List.length).length = n ∧ n = us.length ∧ ∀ k m, (ts.map List.length)[k]? = some m → m ≤ 1048577) := ⟨by rw [List.length_map, ← h.len, hnn], hnn, fun k m hk => by
    rw [List.getElem?_map] at hk
    cases ht : ts[k]? with
    | none => rw [ht] at hk; cases hk
    | some t => rw [ht] at hk; have := hm t (List.mem_of_getElem? ht); simp at hk; omega⟩
  have hnb : n ≤ 1048577 := by rw [hnn, h.len]; exact hn
  have HS : Hid (Mk1 W base v us mark (ts.map List.length) 0 0 W) := Mk1.start h
  have hrow : ∀ wr k j (k' : Nat) (x : Value), Mk1 W base v us mark (ts.map List.length) k j wr → us[k']? = some x → ∃ g, a = some ⟨g, 0, none⟩ ∧ wr.cell? ⟨g, k', none⟩ = some x := fun wr k j k' x hM hx => by
    obtain ⟨ts', g1, _⟩ := hM.is
    obtain ⟨g, rfl, hg⟩ := hsp (by have := (List.getElem?_eq_some_iff.1 hx).1; omega)
    have := g1.row
    rw [hv] at this
    exact ⟨g, rfl, row_cell this k' x hx⟩
  have HR : Hid (∀ wr k j (k' : Nat) (x : Value), Mk1 W base v us mark (ts.map List.length) k j wr → us[k']? = some x → ∃ g, a = some ⟨g, 0, none⟩ ∧ wr.cell? ⟨g, k', none⟩ = some x) := hrow
  rw [← hnn] at hv
  generalize ts.map List.length = L at *
  clear hsp hrow h hm hnn hn
  have HV : Hid (v = .slice a n c) := hv
  subst hv
  go_enter Try.func25, Try.ntmps25
  go_wp2
  go_loopw [5] (fun i wr => ∃ k : Nat, k ≤ n ∧ i = .int .i64 (k : Int) ∧ Mk1 W base (.slice a n c) us mark L k 0 wr) (fun i _ => n - (intOf i).toNat)
  case atStart => exact ⟨0, Nat.zero_le _, rfl, HS.out⟩
  case round =>
    obtain ⟨k, hk, rfl, hM⟩ := hrel
    by_cases hlt : k < n
    · have hki : (k : Int) < (n : Int) := by omega
      obtain ⟨m, hmk⟩ : ∃ m, L[k]? = some m := ⟨L[k]'(by rw [HL.out.1]; exact hlt), List.getElem?_eq_getElem _⟩
      have hmb := HL.out.2.2 k m hmk
      have HM : Hid (L[k]? = some m) := hmk
      have HM0 : Hid (Mk1 W base (.slice a n c) us mark L k 0 wr) := hM
      clear hM hmk
      go_wp2
      go_loopw [6] (fun i wr' => ∃ j : Nat, j ≤ m ∧ i = .int .i64 (j : Int) ∧ Mk1 W base (.slice a n c) us mark L k j wr') (fun i _ => m - (intOf i).toNat)
      case atStart => exact ⟨0, Nat.zero_le _, rfl, HM0.out⟩
      case round =>
        clear HM0
        obtain ⟨j, hj, rfl, hM⟩ := hrel
        obtain ⟨ua, uc, hu, hcs⟩ := hM.at HM.out
        obtain ⟨g, rfl, hc1⟩ := HR.out wr k j k _ hM hu
        by_cases hlt2 : j < m
        · have hji : (j : Int) < (m : Int) := by omega
          obtain ⟨G, rfl, hcc⟩ := hcs (by omega)
          obtain ⟨x, hc2, hfz⟩ := hcc j hlt2
          have HF : Hid (Mk1 W base (.slice (some ⟨g, 0, none⟩) n c) us mark L k (j + 1) (wr.setCell ⟨G, j, none⟩ (.string mark))) := hM.set hu HM.out hlt2
          clear hM hu hcs hcc
          go_wp2
          go_roundw
          case rel => exact ⟨j + 1, by omega, by simp, HF.out⟩
          case measure => simp [intOf]; omega
        · have hji : ¬ (j : Int) < (m : Int) := by omega
          have HF : Hid (Mk1 W base (.slice (some ⟨g, 0, none⟩) n c) us mark L (k + 1) 0 wr) := hM.next (by rw [HM.out]; congr 1; omega)
          clear hM hu hcs
          go_wp2
          go_roundw
          case rel => exact ⟨k + 1, by omega, by simp, HF.out⟩
          case measure => simp [intOf]; omega
    · have hki : ¬ (k : Int) < (n : Int) := by omega
      obtain ⟨ts', hG, hL', hall, hT⟩ := hM.done (by rw [HL.out.1]; omega)
      have HG : Hid (OwnG base wr (.slice a n c) us ts' ∧ (∀ t ∈ ts', t.length ≤ 1048577 ∧ ∀ y ∈ t, y = mark) ∧ Turn (blkG (.slice a n c) us) W wr ∧ base ≤ wr.heap.size) := by
        refine ⟨hG, fun t ht => ⟨?_, hall t ht⟩, hT, Nat.le_trans hbase hT.size⟩
        obtain ⟨i, hi, rfl⟩ := List.mem_iff_getElem.1 ht
        exact HL.out.2.2 i _ (by rw [← hL', List.getElem?_map, List.getElem?_eq_getElem hi]; rfl)
      obtain ⟨W0, hW0⟩ : ∃ W0, W0 = wr := ⟨_, rfl⟩
      have HW0 : Hid (W0 = wr) := hW0
      have HLT : Hid (ts'.length = n) := by show _ = _; rw [← hG.len, ← HL.out.2.1]
      rw [← hW0] at HG
      clear hM hG hL' hall hT hW0
      go_wp2
      go_loopw [7, 8] (fun um i wr' => ∃ k ms, k ≤ n ∧ i = .int .i64 ((k : Nat) : Int) ∧ Mk3 W0 base (.slice a n c) us ts' mark k wr' um ms) (fun _ i _ => n - (intOf i).toNat)
      case atStart => exact ⟨0, [], Nat.zero_le _, rfl, by rw [← HW0.out]; exact Mk3.start HG.out.1 (fun t ht => ⟨by have := (HG.out.2.1 t ht).1; omega, (HG.out.2.1 t ht).2⟩)⟩
      case round =>
        clear hki hk hlt
        obtain ⟨k, ms, hk, rfl, hM⟩ := hrel
        by_cases hlt : k < n
        · have hki : (k : Int) < (n : Int) := by omega
          have hku : k < us.length := by rw [← HL.out.2.1]; exact hlt
          have hkt : k < ts'.length := by rw [HLT.out]; exact hlt
          have hu := List.getElem?_eq_getElem hku
          have ho := hM.own k us[k] ts'[k] (Nat.le_refl _) hu (List.getElem?_eq_getElem hkt)
          have hmt := HG.out.2.1 _ (List.getElem_mem hkt)
          obtain ⟨ra, rc, er, hrs⟩ := row_spot hM.row
          simp only [Value.slice.injEq] at er
          obtain ⟨rfl, -, rfl⟩ := er
          obtain ⟨g, rfl, -⟩ := hrs (by omega)
          have hrw := hM.row
          have hc1 : wr.cell? ⟨g, k, none⟩ = some us[k] := row_cell (n := n) (by rw [HL.out.2.1]; rw [HL.out.2.1] at hrw; exact hrw) k _ hu
          obtain ⟨ua, uc, eu, husp⟩ := ho.spot
          have HI : Hid (In4 wr base us[k] ts'[k].length mark 0 wr us[k]) := In4.start ho rfl hmt.2
          have HU : Hid (us[k]? = some us[k] ∧ ∃ ua uc, us[k] = .slice ua ts'[k].length uc ∧ (0 < ts'[k].length → ∃ g, ua = some ⟨g, 0, none⟩)) := ⟨hu, ua, uc, eu, fun h0 => by obtain ⟨G, e, _⟩ := husp h0; exact ⟨G, e⟩⟩
          have hmb := hmt.1
          have HM3 : Hid (Mk3 W0 base (.slice (some ⟨g, 0, none⟩) n c) us ts' mark k wr u7 ms) := hM
          have HZ : Hid (base ≤ wr.heap.size) := Nat.le_trans HG.out.2.2.2 hM.turn.size
          generalize us[k] = u at *
          generalize ts'[k].length = m at *
          subst eu
          clear hM hu ho hmt hrs hrw husp hku hkt
          go_wp2
          go_loopw [9, 10] (fun vt i wr' => ∃ j : Nat, j ≤ 20 ∧ i = .int .i64 (j : Int) ∧ In4 wr base (.slice ua m uc) m mark j wr' vt) (fun _ i _ => 20 - (intOf i).toNat)
          case atStart => exact ⟨0, Nat.zero_le _, rfl, HI.out⟩
          case round =>
            obtain ⟨j, hj, rfl, hI⟩ := hrel
            by_cases hlt2 : j < 20
            · have hji : (j : Int) < 20 := by omega
              obtain ⟨v', V, hap, hI'⟩ := hI.step (by omega) (Nat.le_trans HZ.out hI.turn.size)
              have HF : Hid (In4 _ base (.slice ua m uc) m mark (j + 1) V v') := hI'
              clear hI hI'
              go_wp2_with (at_builtin; refine wpList_append_run rfl _ _ 39 39 rfl _ _ rfl rfl hap ?_)
              go_roundw
              case rel => exact ⟨j + 1, by omega, by simp, HF.out⟩
              case measure => simp [intOf]; omega
            · have hji : ¬ (j : Int) < 20 := by omega
              obtain ⟨um', w2, hap, hM'⟩ := HM3.out.step HG.out.1 HG.out.2.2.2 HU.out.1 hI (by omega) HU.out.2 (by omega)
              have HF : Hid (Mk3 W0 base (.slice (some ⟨g, 0, none⟩) n c) us ts' mark (k + 1) w2 um' (ms ++ [u9])) := hM'
              obtain ⟨ta, tn, tc, rfl⟩ := hI.own.choose_spec.1.slice
              clear hI hM'
              go_wp2_with (at_builtin; refine wpList_append_run rfl _ _ 22 22 rfl _ _ rfl rfl hap ?_)
              go_roundw
              case rel => exact ⟨k + 1, _, by omega, by simp, HF.out⟩
              case measure => simp [intOf]; omega
        · have hki : ¬ (k : Int) < (n : Int) := by omega
          have HM5 : Hid (Mk5 W0 base (.slice a n c) u7 us ms mark wr (.slice a n c) us ∧ ms.length = k) := ⟨Mk5.start hM HG.out.1, hM.len⟩
          clear hM
          go_wp2
          go_loopw [11, 12] (fun vm i wr' => ∃ j ls, j ≤ 20 ∧ i = .int .i64 ((j : Nat) : Int) ∧ ls.length = n + j ∧ Mk5 W0 base (.slice a n c) u7 us ms mark wr' vm ls) (fun _ i _ => 20 - (intOf i).toNat)
          case atStart => exact ⟨0, us, Nat.zero_le _, rfl, HL.out.2.1.symm, HM5.out.1⟩
          case round =>
            obtain ⟨j, ls, hj, rfl, hll, hM⟩ := hrel
            by_cases hlt2 : j < 20
            · have hji : (j : Int) < 20 := by omega
              obtain ⟨vm', V, hap, hM'⟩ := hM.step HG.out.1 HG.out.2.2.2 (by omega)
              have HF : Hid (Mk5 W0 base (.slice a n c) u7 us ms mark V vm' _) := hM'
              have HLL : Hid (ls.length = n + j) := hll
              clear hM hM' hll
              go_wp2_with (at_builtin; refine wpList_append_run rfl _ _ 22 22 rfl _ _ rfl rfl hap ?_)
              go_roundw
              case rel => exact ⟨j + 1, _, by omega, by simp, by rw [List.length_append, HLL.out]; rfl, HF.out⟩
              case measure => simp [intOf]; omega
            · have hji : ¬ (j : Int) < 20 := by omega
              obtain ⟨x, w2, hap, hQ⟩ := hM.done HG.out.1 HG.out.2.2.2 HG.out.2.2.1 (by omega) (by rw [HM5.out.2]; omega)
              have HF : Hid (FullQ W (.slice a n c) us mark (.returned x) w2) := hQ
              clear hM hQ hll
              go_wp2_with (at_builtin; refine wpList_append_run rfl _ _ 22 22 rfl _ _ rfl rfl hap ?_)
              go_ret
              exact HF.out
end Go.Proofs.Ytbbgembkdhcidaa
