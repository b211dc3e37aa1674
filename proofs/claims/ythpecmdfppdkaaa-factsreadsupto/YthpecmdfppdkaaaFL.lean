/- Split, Unescape, Scan. -/
import Derived.Test.YthpecmdfppdkaaaFK
namespace Go.Proofs.Ythpecmdfppdkaaa
open Go.RowKit Go.Maps

mutual
theorem walkP_count : ∀ (c l : List UInt8), (walkP c l).2 = none → (walkP c l).1.length = l.count 9 + 1
  | c, [], _ => by simp [walkP]
  | c, b :: l, h => by
    rw [walkP] at h ⊢
    by_cases h9 : b = 9
    · rw [if_pos h9] at h ⊢
      have hn : (walkP [] l).2 = none := by simpa [lput] using h
      have := walkP_count [] l hn
      simp [lput, h9, this]
    · rw [if_neg h9] at h ⊢
      split at h
      · simp [lno] at h
      · rename_i hc
        rw [if_neg hc]
        split at h
        · rename_i h92
          rw [if_pos h92]
          have hn : (walkE c l).2 = none := by simpa [lskip] using h
          have := walkE_count c l hn
          simp [lskip, h9, this]
        · rename_i h92
          rw [if_neg h92]
          have hn : (walkP (c ++ [b]) l).2 = none := by simpa [lskip] using h
          have := walkP_count (c ++ [b]) l hn
          simp [lskip, h9, this]
theorem walkE_count : ∀ (c l : List UInt8), (walkE c l).2 = none → (walkE c l).1.length = l.count 9 + 1
  | c, [], h => by simp [walkE, lno] at h
  | c, d :: l, h => by
    rw [walkE] at h ⊢
    cases ht : turnB d with
    | none => rw [ht] at h; simp [lno] at h
    | some x =>
      rw [ht] at h
      dsimp only at h ⊢
      have hn : (walkP (c ++ [x]) l).2 = none := by simpa [lskip] using h
      have := walkP_count (c ++ [x]) l hn
      have h9 : d ≠ 9 := fun e => by rw [e] at ht; simp [turnB] at ht
      simp [lskip, h9, this]
end
theorem split_count {l : List UInt8} (h : (splitT l).2 = none) : (splitT l).1.length = l.count 9 + 1 := walkP_count [] l h
mutual
theorem walkP_le : ∀ (c l : List UInt8) (k : Nat), (walkP c l).2 = some k → k ≤ l.length
  | c, [], k, h => by simp [walkP] at h
  | c, b :: l, k, h => by
    rw [walkP] at h
    split at h
    · simp only [lput, Option.map_eq_some_iff] at h
      obtain ⟨j, h1, h2⟩ := h
      have := walkP_le [] l j h1
      simp; omega
    · split at h
      · simp [lno] at h; omega
      · split at h
        · simp only [lskip, Option.map_eq_some_iff] at h
          obtain ⟨j, h1, h2⟩ := h
          have := walkE_le c l j h1
          simp; omega
        · simp only [lskip, Option.map_eq_some_iff] at h
          obtain ⟨j, h1, h2⟩ := h
          have := walkP_le (c ++ [b]) l j h1
          simp; omega
theorem walkE_le : ∀ (c l : List UInt8) (k : Nat), (walkE c l).2 = some k → k ≤ l.length
  | c, [], k, h => by simp [walkE, lno] at h; omega
  | c, d :: l, k, h => by
    rw [walkE] at h
    cases ht : turnB d with
    | none => rw [ht] at h; simp [lno] at h; omega
    | some x =>
      rw [ht] at h
      simp only [lskip, Option.map_eq_some_iff] at h
      obtain ⟨j, h1, h2⟩ := h
      have := walkP_le (c ++ [x]) l j h1
      simp; omega
end
theorem split_le {l : List UInt8} {k : Nat} (h : (splitT l).2 = some k) : k ≤ l.length := walkP_le [] l k h
/-- The error that goes with a place. -/
def errZ : Option Nat → Int
  | none => 0
  | some _ => 11
/-- What Split answers: the constants, if nothing is wrong. -/
def okL (r : LR) : List (List UInt8) := match r.2 with
  | none => r.1
  | some _ => []

set_option maxRecDepth 100000 in
set_option maxHeartbeats 2000000 in
theorem Split_any (s : ByteArray) (w : World) (hs : s.size ≤ 4398046511104) : Calls Try.prog 13 #[.string s] w fun e w' => ∃ v, e = .returned (.tuple #[v, .int .i64 (plcZ (splitT s.data.toList).2), .int .i64 (errZ (splitT s.data.toList).2)]) ∧ OwnS w.heap.size w' v ((okL (splitT s.data.toList)).map toB) ∧ Stay w w' := by
  have hr := roomFor_any s w
  have hc := fun (W : World) (hR : Rm W w.heap.size (min s.size 1024) []) => cut_any s W hs (Nat.le_refl _) hR
  generalize splitT s.data.toList = T at *
  obtain ⟨T1, T2⟩ := T
  dsimp only at *
  generalize min s.size 1024 = cap at *
  cases T2 with
  | none =>
    simp only [plcZ, errZ, okL] at *
    go_enter Try.func13, Try.ntmps13
    go_wp2_with (first
      | (go_at_call 34; refine hr.mono ?_; rintro e W1 ⟨rfl, hR1, hs1⟩; have hc1 := hc W1 hR1; clear hc hr)
      | (go_at_call 33; refine hc1.mono ?_; rintro e W2 ⟨v, rfl, ho, ht⟩; have HO : Hid (OwnS W1.heap.size W2 v (T1.map toB)) := ho; clear ho))
    go_ret3
    exact ⟨v, rfl, HO.out.low hs1.size, ht.stay hs1 (fun k hk e => by omega)⟩
  | some k =>
    simp only [plcZ, errZ, okL, List.map_nil] at *
    have hk : ((k : Int) == -1) = false := by simp
    go_enter Try.func13, Try.ntmps13
    go_wp2_with (first
      | (go_at_call 34; refine hr.mono ?_; rintro e W1 ⟨rfl, hR1, hs1⟩; have hc1 := hc W1 hR1; clear hc hr)
      | (go_at_call 33; refine hc1.mono ?_; rintro e W2 ⟨v, rfl, ho, ht⟩; have HO : Hid (OwnS W1.heap.size W2 v (T1.map toB)) := ho; clear ho))
    go_ret3
    exact ⟨_, rfl, OwnS.nil, ht.stay hs1 (fun k hk e => by omega)⟩

/-- What Unescape answers. -/
def unT (l : List UInt8) : List UInt8 × Option Nat := match (splitT (headB 9 l)).2 with
  | some k => ([], some k)
  | none => if hasB 9 l then ([], some (headB 9 l).length) else ((splitT (headB 9 l)).1.headD [], none)

set_option maxRecDepth 100000 in
set_option maxHeartbeats 2000000 in
theorem Unescape_any (s : ByteArray) (w : World) (hs : s.size ≤ 4398046511104) : Calls Try.prog 11 #[.string s] w fun e w' => e = .returned (.tuple #[.string (toB (unT s.data.toList).1), .int .i64 (plcZ (unT s.data.toList).2), .int .i64 (errZ (unT s.data.toList).2)]) ∧ Stay w w' := by
  have hq := stCut_any s 9 w (by omega)
  unfold cutB at hq
  dsimp only at hq
  have hhl := headB_len 9 s.data.toList
  rw [data_len] at hhl
  unfold unT
  have hf := @split_count (headB 9 s.data.toList)
  generalize headB 9 s.data.toList = x at *
  obtain ⟨xb, hxb⟩ : ∃ xb, xb = toB x := ⟨_, rfl⟩
  have hxs : xb.size = x.length := by rw [hxb]; exact toB_size x
  have hr := fun W => roomFor_any xb W
  have hc := fun (W : World) (rb : Nat) (hR : Rm W rb (min xb.size 1024) []) => cut_any xb W (by omega) (Nat.le_refl _) hR
  rw [hxb, data_toB, ← hxb] at hc
  rw [← hxb] at hq
  generalize splitT x = T at *
  obtain ⟨T1, T2⟩ := T
  dsimp only at *
  generalize min xb.size 1024 = cap at *
  generalize toB (if hasB 9 s.data.toList = true then s.data.toList.drop (x.length + 1) else []) = t2 at *
  generalize hasB 9 s.data.toList = t3 at *
  have HXS : Hid (xb.size = x.length) := hxs
  clear hxb hxs
  cases T2 with
  | none =>
    simp only [plcZ, errZ] at *
    have hT1 := hf trivial
    clear hf
    cases t3 with
    | false =>
      simp only [Bool.false_eq_true, if_false]
      obtain ⟨y, T1, rfl⟩ : ∃ y r, T1 = y :: r := by cases T1 with
        | nil => simp at hT1
        | cons y r => exact ⟨y, r, rfl⟩
      rw [List.headD_cons]
      clear hT1
      go_enter Try.func11, Try.ntmps11
      go_wp2_with (first
        | (go_at_call 32; refine hq.mono ?_; rintro e W0 ⟨rfl, hs0⟩; have hr0 := hr W0; clear hr hq)
        | (go_at_call 34; refine hr0.mono ?_; rintro e W1 ⟨rfl, hR1, hs1⟩; have hc1 := hc W1 _ hR1; clear hc hr0)
        | (go_at_call 33; refine hc1.mono ?_; rintro e W2 ⟨v, rfl, ho, ht⟩; obtain ⟨⟨a, b, o, c, xs⟩, rfl, hxs2, hS, _, _, _⟩ := ho.tx; dsimp only at hxs2; subst hxs2; unfold Tx.S at hS; dsimp only at hS; obtain rfl := hS.1 (by simp); have hcell := hS.2 0 (by simp); simp only [List.map_cons, List.getElem_cons_zero, Nat.add_zero] at hcell; unfold Tx.v; dsimp only; have HO : Hid (Stay w W2) := hs0.trans (ht.stay hs1 (fun k hk e => by omega)); have hl : ((y :: T1).map toB).length = T1.length + 1 := (by simp); rw [hl]; clear ho ht hS hl))
      go_ret3
      exact ⟨rfl, HO.out⟩
    | true =>
      simp only [if_true]
      have hk2 : ((xb.size : Int) == -1) = false := by simp
      rw [show toB [] = ⟨#[]⟩ from rfl]
      rw [← HXS.out]
      go_enter Try.func11, Try.ntmps11
      go_wp2_with (first
        | (go_at_call 32; refine hq.mono ?_; rintro e W0 ⟨rfl, hs0⟩; have hr0 := hr W0; clear hr hq)
        | (go_at_call 34; refine hr0.mono ?_; rintro e W1 ⟨rfl, hR1, hs1⟩; have hc1 := hc W1 _ hR1; clear hc hr0)
        | (go_at_call 33; refine hc1.mono ?_; rintro e W2 ⟨v, rfl, ho, ht⟩; have HO : Hid (Stay w W2) := hs0.trans (ht.stay hs1 (fun k hk e => by omega)); clear ho ht))
      go_ret3
      exact ⟨rfl, HO.out⟩
  | some k =>
    simp only [plcZ, errZ] at *
    clear hf
    have hk : ((k : Int) == -1) = false := by simp
    rw [show toB [] = ⟨#[]⟩ from rfl]
    go_enter Try.func11, Try.ntmps11
    go_wp2_with (first
      | (go_at_call 32; refine hq.mono ?_; rintro e W0 ⟨rfl, hs0⟩; have hr0 := hr W0; clear hr hq)
      | (go_at_call 34; refine hr0.mono ?_; rintro e W1 ⟨rfl, hR1, hs1⟩; have hc1 := hc W1 _ hR1; clear hc hr0)
      | (go_at_call 33; refine hc1.mono ?_; rintro e W2 ⟨v, rfl, ho, ht⟩; have HO : Hid (Stay w W2) := hs0.trans (ht.stay hs1 (fun k hk e => by omega)); clear ho ht))
    go_ret3
    exact ⟨rfl, HO.out⟩
end Go.Proofs.Ythpecmdfppdkaaa
