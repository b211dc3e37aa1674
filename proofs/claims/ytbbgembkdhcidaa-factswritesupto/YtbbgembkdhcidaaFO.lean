/- Read. -/
import Derived.Test.YtbbgembkdhcidaaFN
namespace Go.Proofs.Ytbbgembkdhcidaa
open Go.RowKit Go.Maps

/-- What Read answers: the tuples, the place, the error. -/
def readT (l : List UInt8) (z : Int) : List (List (List UInt8)) × Int × Int :=
  if (decide (0 ≤ z) && decide (z ≤ 16)) = true then
    match scanT l with
    | some k => ([], (k : Int), 11)
    | none => match eachT (arT z.toNat) (lns 0 [] l) with
      | some k => ([], (k : Int), 12)
      | none => ((lns 0 [] l).map (fun x => tupL x.2 z.toNat), -1, 0)
  else ([], -1, 2)
/-- Lists of texts, in memory. -/
def toG (l : List (List (List UInt8))) : List (List ByteArray) := l.map fun t => t.map toB

set_option maxRecDepth 100000 in
set_option maxHeartbeats 4000000 in
theorem Read_any (s : ByteArray) (z : Int) (w : World) (hs : s.size ≤ 4398046511104) : Calls Try.prog 27 #[.string s, .int .i64 z] w fun e w' => ∃ v us, e = .returned (.tuple #[v, .int .i64 (readT s.data.toList z).2.1, .int .i64 (readT s.data.toList z).2.2]) ∧ OwnG w.heap.size w' v us (toG (readT s.data.toList z).1) ∧ Stay w w' := by
  have ia := isArity_any z
  unfold readT
  cases hq : (decide (0 ≤ z) && decide (z ≤ 16)) with
  | false =>
    rw [if_neg (by decide)]
    rw [hq] at ia
    go_enter Try.func27, Try.ntmps27
    go_wp2_with (first
      | (go_at_call 29; refine (ia _).mono ?_; rintro e w' ⟨rfl, hw'⟩; have hw2 := hw'.symm; subst hw2))
    go_ret3
    exact ⟨_, [], rfl, OwnG.nil, Stay.new _ _⟩
  | true =>
    rw [if_pos rfl]
    rw [hq] at ia
    obtain ⟨n, rfl, hn⟩ : ∃ n : Nat, z = (n : Int) ∧ n ≤ 16 := by
      simp only [Bool.and_eq_true, decide_eq_true_eq] at hq
      exact ⟨z.toNat, by omega, by omega⟩
    rw [Int.toNat_natCast]
    clear hq
    have hsc := fun W => Scan_any s W hs
    cases hsT : scanT s.data.toList with
    | some k =>
      rw [hsT] at hsc
      simp only [plcZ, errZ] at hsc
      clear hsT
      dsimp only
      go_enter Try.func27, Try.ntmps27
      go_wp2_with (first
        | (go_at_call 29; refine (ia _).mono ?_; rintro e w' ⟨rfl, hw'⟩; have hw2 := hw'.symm; subst hw2)
        | (go_at_call 42; refine (hsc _).mono ?_; rintro e W1 ⟨rfl, hs1⟩))
      go_ret3
      exact ⟨_, [], rfl, OwnG.nil, (Stay.new w _).trans hs1⟩
    | none =>
      rw [hsT] at hsc
      simp only [plcZ, errZ] at hsc
      dsimp only
      have hr := fun W => roomFor_any s W
      obtain ⟨cap, hcap⟩ : ∃ cap, cap = min s.size 1024 := ⟨_, rfl⟩
      rw [← hcap] at hr
      have eg : ∀ args w, (callFunc 45 args).run Try.prog w = .ok (.enter 45 args) w := enters_of Try.func45 (by kernel_rfl) rfl
      have he : ∀ (W : World) (bt rb br : Nat), RJ w n w.heap.size bt rb br cap [] W → Calls Try.prog 44 #[.string s, .func (.func 45) #[] #[.pointer (some ⟨w.heap.size, 0, none⟩), .pointer (some ⟨bt, 0, none⟩), .pointer (some ⟨br, 0, none⟩)]] W fun e w' => e = .returned (.int .i64 (plcZ (eachT (arT n) (lns 0 [] s.data.toList)))) ∧ (eachT (arT n) (lns 0 [] s.data.toList) = none → RJ w n w.heap.size bt rb br cap ((lns 0 [] s.data.toList).map (·.2)) w') ∧ (eachT (arT n) (lns 0 [] s.data.toList) ≠ none → Stay w w') := fun W bt rb br hj =>
        eachLine_any eg (lb := #[.pointer (some ⟨w.heap.size, 0, none⟩), .pointer (some ⟨bt, 0, none⟩), .pointer (some ⟨br, 0, none⟩)]) s W hs (arT n) (fun x k h => by unfold arT at h; split at h <;> simp at h; omega) (RJ w n w.heap.size bt rb br cap) (Stay w)
          (fun pre A A' hj hst => hj.go hst)
          (fun pre x A hx hp hj => read1_any hj x (by have := lns_short hx; omega) (by have := lns_short hx; omega) hn (by omega)) hj
      have HM : Hid ((lns 0 [] s.data.toList).map (fun x => tupL x.2 n) = ((lns 0 [] s.data.toList).map (·.2)).map (fun x => tupL x n)) := by
        show _ = _
        rw [List.map_map]; rfl
      generalize eachT (arT n) (lns 0 [] s.data.toList) = T at *
      clear hsT hcap eg
      cases T with
      | some k =>
        simp only [plcZ] at he
        have hk : ((k : Int) == -1) = false := by simp
        dsimp only
        go_enter Try.func27, Try.ntmps27
        go_wp2_with (first
          | (go_at_call 29; refine (ia _).mono ?_; rintro e w' ⟨rfl, hw'⟩; have hw2 := hw'.symm; subst hw2)
          | (go_at_call 42; refine (hsc _).mono ?_; rintro e W1 ⟨rfl, hs1⟩; have hr1 := hr (W1.alloc (.cells #[.slice none 0 0] 22)); clear hsc hr ia)
          | (go_at_call 43; refine hr1.mono ?_; rintro e W2 ⟨rfl, hR2, hs2⟩; rw [World.size_alloc] at hR2; have hb1 := Boxed.new W2 42 (.slice (some ⟨W1.heap.size + 1, 0, none⟩) 0 cap); have hsA := Stay.new W2 (.cells #[.slice (some ⟨W1.heap.size + 1, 0, none⟩) 0 cap] 42); have hz1 := hs1.size; rw [World.size_alloc] at hz1; have he1 := he _ W1.heap.size (W1.heap.size + 1) W2.heap.size ⟨(((Stay.new w _).trans hs1).alloc _).trans (hs2.trans hsA), ((((Stay.refl _).trans hs1).alloc _).trans (hs2.trans hsA)).block _ (by simp) |>.trans (Boxed.new w 3 (.int .i64 (n : Int))), hb1, hR2.stay hsA, ⟨_, [], ((hs2.trans hsA).block _ (by simp)).trans (Boxed.new W1 22 (.slice none 0 0)), OwnG.nil⟩, Nat.le_refl _, by omega, by omega, by have := hR2.lt; omega⟩; clear hr1 he hsA hb1 hR2)
          | (go_at_call 44; refine he1.mono ?_; rintro e W3 ⟨rfl, _, hx3⟩; have hs3 := hx3 (by simp)))
        go_ret3
        exact ⟨_, [], rfl, OwnG.nil, hs3⟩
      | none =>
        simp only [plcZ] at he
        dsimp only
        go_enter Try.func27, Try.ntmps27
        go_wp2_with (first
          | (go_at_call 29; refine (ia _).mono ?_; rintro e w' ⟨rfl, hw'⟩; have hw2 := hw'.symm; subst hw2)
          | (go_at_call 42; refine (hsc _).mono ?_; rintro e W1 ⟨rfl, hs1⟩; have hr1 := hr (W1.alloc (.cells #[.slice none 0 0] 22)); clear hsc hr ia)
          | (go_at_call 43; refine hr1.mono ?_; rintro e W2 ⟨rfl, hR2, hs2⟩; rw [World.size_alloc] at hR2; have hb1 := Boxed.new W2 42 (.slice (some ⟨W1.heap.size + 1, 0, none⟩) 0 cap); have hsA := Stay.new W2 (.cells #[.slice (some ⟨W1.heap.size + 1, 0, none⟩) 0 cap] 42); have hz1 := hs1.size; rw [World.size_alloc] at hz1; have he1 := he _ W1.heap.size (W1.heap.size + 1) W2.heap.size ⟨(((Stay.new w _).trans hs1).alloc _).trans (hs2.trans hsA), ((((Stay.refl _).trans hs1).alloc _).trans (hs2.trans hsA)).block _ (by simp) |>.trans (Boxed.new w 3 (.int .i64 (n : Int))), hb1, hR2.stay hsA, ⟨_, [], ((hs2.trans hsA).block _ (by simp)).trans (Boxed.new W1 22 (.slice none 0 0)), OwnG.nil⟩, Nat.le_refl _, by omega, by omega, by have := hR2.lt; omega⟩; clear hr1 he hsA hb1 hR2)
          | (go_at_call 44; refine he1.mono ?_; rintro e W3 ⟨rfl, hj3, _⟩; obtain ⟨v, us, hb3, ho3⟩ := (hj3 trivial).t; have hcell := hb3.cell; have HF : Hid (OwnG w.heap.size W3 v us (toG ((lns 0 [] s.data.toList).map (fun x => tupL x.2 n))) ∧ Stay w W3) := ⟨(by rw [HM.out, toG, List.map_map]; exact ho3.low (by have := (hj3 trivial).ord; omega)), (hj3 trivial).stay⟩; clear hj3 ho3))
        go_ret3
        exact ⟨v, us, rfl, HF.out.1, HF.out.2⟩
end Go.Proofs.Ytbbgembkdhcidaa
