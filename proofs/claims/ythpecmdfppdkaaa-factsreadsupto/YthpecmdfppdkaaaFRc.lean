/- The document's Scan. -/
import Derived.Test.YthpecmdfppdkaaaFRl
import Derived.Test.YthpecmdfppdkaaaFFa
namespace Go.Proofs.Ythpecmdfppdkaaa
open Go.RowKit Go.Maps

theorem eachT_drop {f : List UInt8 → Option Nat} {T : List (Nat × List UInt8)} {k : Nat} (h : k < T.length) : eachT f (T.drop k) = match f T[k].2 with
    | some j => some (T[k].1 + j)
    | none => eachT f (T.drop (k + 1)) := by
  rw [List.drop_eq_getElem_cons h, eachT]
  cases f T[k].2 <;> rfl
theorem lns_at {s : ByteArray} {k : Nat} (h : k < (lns 0 [] s.data.toList).length) : (lns 0 [] s.data.toList)[k].1 + (lns 0 [] s.data.toList)[k].2.length ≤ s.size := by
  have := (lns_in _ _ _ _ (List.getElem_mem h)).2
  simpa using this
theorem lns_len : ∀ (l c : List UInt8) (s : Nat), (lns s c l).length ≤ c.length + l.length
  | [], c, s => by
    unfold lns
    split
    · simp
    · rename_i h
      have : c.length ≠ 0 := fun e => h (List.eq_nil_of_length_eq_zero e)
      simp; omega
  | b :: l, c, s => by
    unfold lns
    split
    · have := lns_len l [] (s + c.length + 1); simp at this ⊢; omega
    · have := lns_len l (c ++ [b]) s; simp at this ⊢; omega

set_option maxRecDepth 100000 in
set_option maxHeartbeats 4000000 in
theorem rScan_any (s : ByteArray) (w : World) (hs : s.size ≤ 4398046511104) : Calls Try.prog 21 #[.string s] w fun e w' => e = .returned (.tuple #[.int .i64 (plcZ (scanT s.data.toList)), .int .i64 (errZ (scanT s.data.toList))]) ∧ Stay w w' := by
  have hl := rlines_any s w hs
  have hat := fun k (h : k < (lns 0 [] s.data.toList).length) => lns_at h
  have hln := lns_len s.data.toList [] 0
  rw [data_len] at hln
  obtain ⟨R, hR⟩ : ∃ R, R = scanT s.data.toList := ⟨_, rfl⟩
  rw [← hR]
  have HR : Hid (R = eachT (fun x => (splitT x).2) (lns 0 [] s.data.toList)) := hR
  clear hR
  generalize lns 0 [] s.data.toList = T at *
  obtain ⟨n, hn⟩ : ∃ n, n = T.length := ⟨_, rfl⟩
  have HN : Hid (n = T.length) := hn
  have hnl : n ≤ 4398046511104 := by rw [hn]; simp at hln; omega
  clear hn hln
  go_enter Try.func21, Try.ntmps21
  go_wp2_with (go_at_call 43; refine hl.mono ?_; rintro e W1 ⟨o, t, rfl, hown, hs1⟩; obtain ⟨a, c, rfl, hsp⟩ := hown.out.spot; obtain ⟨a', c', rfl, hsp'⟩ := hown.plc.spot; rw [List.length_map, ← HN.out] at hsp; rw [List.length_map, ← HN.out] at hsp'; rw [List.length_map, List.length_map, ← HN.out] at hown ⊢; have HO : Hid (OwnP w.heap.size W1 (.slice a n c) (.slice a' n c') (T.map fun x => toB x.2) (T.map Prod.fst)) := hown; clear hown hl)
  go_loopw [6] (fun i wr => ∃ k : Nat, k ≤ n ∧ i = .int .i64 (k : Int) ∧ Stay W1 wr ∧ R = eachT (fun x => (splitT x).2) (T.drop k)) (fun i _ => n - (intOf i).toNat)
  case atStart => exact ⟨0, Nat.zero_le _, rfl, Stay.refl _, by rw [List.drop_zero]; exact HR.out⟩
  case round =>
    obtain ⟨k, hk, rfl, hst, hu⟩ := hrel
    by_cases hlt : k < n
    · have hki : (k : Int) < (n : Int) := by omega
      have hkT : k < T.length := by rw [← HN.out]; exact hlt
      obtain ⟨G, rfl, _⟩ := hsp (by omega)
      obtain ⟨G', rfl, _⟩ := hsp' (by omega)
      obtain ⟨hc1, -⟩ := (HO.out.out.stay hst).at (j := k) (x := toB T[k].2) (by rw [List.getElem?_map, List.getElem?_eq_getElem hkT]; rfl)
      have hc2 := (HO.out.plc.stay hst).at (j := k) (x := T[k].1) (by rw [List.getElem?_map, List.getElem?_eq_getElem hkT]; rfl)
      have hbd := hat k hkT
      rw [eachT_drop hkT] at hu
      have hle := fun j => @split_le T[k].2 j
      have hsp := rSplit_any (toB T[k].2) wr (by rw [toB_size]; omega)
      rw [data_toB] at hsp
      generalize T[k].2 = x at *
      generalize T[k].1 = p at *
      generalize toB x = xb at *
      generalize splitT x = S at *
      obtain ⟨S1, S2⟩ := S
      dsimp only at *
      cases S2 with
      | none =>
        simp only [plcZ, errZ, okL] at hsp hu
        have HU : Hid (R = eachT (fun x => (splitT x).2) (T.drop (k + 1))) := hu
        clear hu hat hle hkT hsp'
        go_wp2_with (go_at_call 14; refine hsp.mono ?_; rintro e W2 ⟨v, rfl, ho, hs2⟩; have H2 : Hid (Stay wr W2) := hs2; clear ho hsp hs2)
        go_roundw
        case rel => exact ⟨k + 1, by omega, by simp, hst.trans H2.out, HU.out⟩
        case measure => simp [intOf]; omega
      | some j =>
        simp only [plcZ, errZ, okL, List.map_nil] at hsp hu
        have hj := hle j rfl
        have HU : Hid (R = some (p + j)) := hu
        clear hu hat hle hkT hsp'
        go_wp2_with (go_at_call 14; refine hsp.mono ?_; rintro e W2 ⟨v, rfl, ho, hs2⟩; have H2 : Hid (Stay wr W2) := hs2; have hc3 := hs2.cell hc2; clear ho hsp hs2)
        go_ret2
        rw [HU.out]
        exact ⟨by simp [plcZ, errZ], (hs1.trans hst).trans H2.out⟩
    · have hki : ¬ (k : Int) < (n : Int) := by omega
      rw [List.drop_eq_nil_of_le (by rw [← HN.out]; omega), eachT] at hu
      have HU : Hid (R = none) := hu
      clear hu hsp hsp' hat
      go_wp2
      go_ret2
      rw [HU.out]
      exact ⟨rfl, hs1.trans hst⟩
end Go.Proofs.Ythpecmdfppdkaaa
