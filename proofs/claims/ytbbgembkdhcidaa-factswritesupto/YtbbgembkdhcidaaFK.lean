/- eachLine. -/
import Derived.Test.YtbbgembkdhcidaaFI
namespace Go.Proofs.Ytbbgembkdhcidaa
open Go.RowKit Go.Maps

set_option maxRecDepth 100000 in
set_option maxHeartbeats 4000000 in
theorem eachLine_any {gf : Nat} {lb : Array Value} (eg : ∀ args w, (callFunc gf args).run Try.prog w = .ok (.enter gf args) w) (s : ByteArray) (w : World) (hs : s.size ≤ 4398046511104) (f : List UInt8 → Option Nat) (hf : ∀ x k, f x = some k → k ≤ x.length)
    (J : List (List UInt8) → World → Prop) (Jx : World → Prop) (hJ : ∀ pre A A', J pre A → Stay A A' → J pre A')
    (hW : ∀ pre x A, (∃ st, (st, x) ∈ lns 0 [] s.data.toList) → pre.length ≤ s.size → J pre A → Calls Try.prog gf (#[.string (toB x)] ++ lb) A fun e A' => e = .returned (.int .i64 (plcZ (f x))) ∧ (f x = none → J (pre ++ [x]) A') ∧ (f x ≠ none → Jx A'))
    (h0 : J [] w) :
    Calls Try.prog 44 #[.string s, .func (.func gf) #[] lb] w fun e w' => e = .returned (.int .i64 (plcZ (eachT f (lns 0 [] s.data.toList)))) ∧ (eachT f (lns 0 [] s.data.toList) = none → J ((lns 0 [] s.data.toList).map (·.2)) w') ∧ (eachT f (lns 0 [] s.data.toList) ≠ none → Jx w') := by
  obtain ⟨L, hL⟩ : ∃ L, s.data.toList = L := ⟨_, rfl⟩
  have hlen : L.length = s.size := by rw [← hL]; simp
  rw [hL] at hW ⊢
  obtain ⟨T, hT⟩ : ∃ T, eachT f (lns 0 [] L) = T := ⟨_, rfl⟩
  rw [hT]
  have HX : Hid (s.data.toList = L ∧ L.length = s.size ∧ eachT f (lns 0 [] L) = T ∧ J [] w ∧ (∀ x k, f x = some k → k ≤ x.length)) := ⟨hL, hlen, hT, h0, hf⟩
  clear hL hlen hT h0 hf
  go_enter Try.func44, Try.ntmps44
  go_wp2_with fail
  go_loopw [5, 6, 7, 8, 9] (fun i _ _ _ _ wr => ∃ (st : Nat) (pre : List (Nat × List UInt8)), st ≤ s.size + 1 ∧ i = .int .i64 (st : Int) ∧ pre.length ≤ st ∧ lns 0 [] L = pre ++ lns st [] (L.drop st) ∧ (∀ x ∈ pre, f x.2 = none) ∧ J (pre.map (·.2)) wr) (fun i _ _ _ _ _ => s.size + 1 - (intOf i).toNat)
  case atStart => exact ⟨0, [], Nat.zero_le _, rfl, Nat.le_refl _, by simp, fun x h => by simp at h, HX.out.2.2.2.1⟩
  case round =>
    obtain ⟨st, pre, hst, rfl, hpl, hE, hno, hj⟩ := hrel
    by_cases hlt : st < s.size
    · have hki : (st : Int) < (s.size : Int) := by omega
      have hki2 : (st : Int) ≤ (s.size : Int) := by omega
      have hne : L.drop st ≠ [] := fun e => by have := congrArg List.length e; rw [List.length_drop, HX.out.2.1, List.length_nil] at this; omega
      have hh := lns_head (L.drop st) [] st (.inr hne)
      rw [List.nil_append, List.drop_drop] at hh
      have hxt : s.extract st s.size = toB (L.drop st) := by rw [extract_from, HX.out.1]
      have hts : (toB (L.drop st)).size ≤ s.size := by rw [toB_size, List.length_drop, HX.out.2.1]; omega
      have hcut := fun W => stCut_any (toB (L.drop st)) 10 W (by omega)
      rw [data_toB] at hcut
      have hhl := headB_len 10 (L.drop st)
      rw [List.length_drop, HX.out.2.1] at hhl
      unfold cutB at hcut
      dsimp only at hcut
      obtain ⟨x, hx⟩ : ∃ x, x = headB 10 (L.drop st) := ⟨_, rfl⟩
      rw [← hx] at hh hhl hcut
      have hmem : (st, x) ∈ lns 0 [] L := by rw [hE, hh]; simp
      have hxs : (toB x).size = x.length := toB_size x
      have hfx := HX.out.2.2.2.2 x
      have hw := fun W (hW' : Stay wr W) => hW (pre.map (·.2)) x W ⟨st, hmem⟩ (by rw [List.length_map]; omega) (hJ _ _ _ hj hW')
      have hx63 : (x.length : Int) ≤ 4398046511104 := by omega
      have HE : Hid (lns 0 [] L = pre ++ lns st [] (L.drop st) ∧ lns st [] (L.drop st) = (st, x) :: lns (st + x.length + 1) [] (L.drop (st + (x.length + 1))) ∧ (∀ y ∈ pre, f y.2 = none) ∧ pre.length ≤ st) := ⟨hE, hh, hno, hpl⟩
      generalize toB (L.drop st) = t at *
      generalize (toB (if hasB 10 (L.drop st) = true then (L.drop st).drop (x.length + 1) else [])) = t2 at *
      generalize hasB 10 (L.drop st) = t3 at *
      obtain ⟨xb, hxb⟩ : ∃ xb, xb = toB x := ⟨_, rfl⟩
      rw [← hxb] at hcut hw hxs
      clear hE hh hno hpl hj hmem hx hne hxb hts
      have hb1 : xb.size ≤ s.size - st := by omega
      have HB : Hid (xb.size = x.length) := hxs
      clear hxs hx63 hhl
      cases hfn : f x with
      | none =>
        rw [hfn] at hw
        have HN : Hid (f x = none) := hfn
        simp only [plcZ] at hw
        clear hfx hfn
        go_wp2_with (first
          | (go_at_call 60; refine (hcut _).mono ?_; rintro e W1 ⟨rfl, hs1⟩; have hw1 := hw W1 hs1; clear hcut hw)
          | (go_at_fn gf; refine hw1.mono ?_; rintro e W2 ⟨rfl, hj2, _⟩))
        go_roundw
        case rel =>
          refine ⟨st + (x.length + 1), pre ++ [(st, x)], ?_, ?_, ?_, ?_, ?_, ?_⟩
          · have := HB.out; omega
          · rw [HB.out]; simp
          · have := HE.out.2.2.2; rw [List.length_append, List.length_singleton]; omega
          · rw [HE.out.1, HE.out.2.1, Nat.add_assoc]; simp
          · intro y hy
            rcases List.mem_append.1 hy with h | h
            · exact HE.out.2.2.1 y h
            · simp at h; rw [h]; exact HN.out
          · rw [List.map_append]; exact hj2 trivial
        case measure => simp [intOf]; omega
      | some k =>
        rw [hfn] at hw
        have hk := hfx k hfn
        have HN : Hid (f x = some k) := hfn
        simp only [plcZ] at hw
        have hkb : k ≤ xb.size := by rw [HB.out]; exact hk
        have hkm : ((k : Int) == -1) = false := by simp
        clear hfx hfn hk
        go_wp2_with (first
          | (go_at_call 60; refine (hcut _).mono ?_; rintro e W1 ⟨rfl, hs1⟩; have hw1 := hw W1 hs1; clear hcut hw)
          | (go_at_fn gf; refine hw1.mono ?_; rintro e W2 ⟨rfl, _, hj2⟩))
        have hTk : T = some (st + k) := by rw [← HX.out.2.2.1, HE.out.1, eachT_app HE.out.2.2.1, HE.out.2.1, eachT, HN.out]
        go_ret
        rw [hTk]
        exact ⟨by simp [plcZ], fun h => by simp at h, fun _ => hj2 (by simp)⟩
    · have hki : ¬ (st : Int) < (s.size : Int) := by omega
      have hd : L.drop st = [] := List.drop_eq_nil_of_le (by rw [HX.out.2.1]; omega)
      rw [hd, lns_nil, List.append_nil] at hE
      have hTn : T = none := by rw [← HX.out.2.2.1, hE]; exact eachT_none.2 hno
      rw [← hE] at hj
      have HR : Hid (T = none ∧ J ((lns 0 [] L).map (·.2)) wr) := ⟨hTn, hj⟩
      clear hE hno hj hTn hd hW hJ
      go_wp2
      go_ret
      rw [HR.out.1]
      exact ⟨rfl, fun _ => HR.out.2, fun h => absurd rfl h⟩
end Go.Proofs.Ytbbgembkdhcidaa
