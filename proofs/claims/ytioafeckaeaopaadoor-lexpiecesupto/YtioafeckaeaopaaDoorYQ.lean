/- The first token of a text that is cut behind it; a token's bytes alone. No walk here. -/
import Derived.Test.YtioafeckaeaopaaDoorYP
import Derived.Test.YtioafeckaeaopaaDoorYG
namespace Go.Proofs.YtioafeckaeaopaaDoor
open Go.RowKit Go.Maps

theorem runF_take_ge (p : Int → Bool) (k n : Nat) (l : List UInt8) (h : runF p k l ≤ n) : runF p k (l.take n) = runF p k l := by
  have ha := runF_app p (l.drop n) k (l.take n)
  rw [List.take_append_drop] at ha
  have hl := (runF_le p k l).2
  have ht : (l.take n).length = min n l.length := List.length_take
  have := (runF_le p k (l.take n)).2
  by_cases hc : runF p k (l.take n) < (l.take n).length
  · exact (ha.2 hc).symm
  · omega
theorem blanksN_take_ge (n : Nat) (l : List UInt8) (h : blanksN l ≤ n) : blanksN (l.take n) = blanksN l := by
  have ha := blanksN_app (l.take n) (l.drop n)
  rw [List.take_append_drop] at ha
  have hl := blanksN_le l
  have ht : (l.take n).length = min n l.length := List.length_take
  have := blanksN_le (l.take n)
  by_cases hc : blanksN (l.take n) < (l.take n).length
  · exact (ha.2 hc).symm
  · omega
theorem take_split {n m : Nat} (l : List UInt8) (h : n ≤ m) : l.take m = l.take n ++ (l.drop n).take (m - n) := by
  rw [← List.take_add, Nat.add_sub_cancel' h]
theorem commonN_take_ge (l s : List UInt8) (n : Nat) (h : commonN l s ≤ n) : commonN (l.take n) s = commonN l s := by
  have h1 := (commonN_app ((l.drop (commonN l s)).take (n - commonN l s)) (l.take (commonN l s)) s).1
  rw [← take_split l h, commonN_take] at h1
  have h2 := (commonN_app (l.drop n) (l.take n) s).1
  rw [List.take_append_drop] at h2
  omega
theorem take_ne {l : List UInt8} {n : Nat} (h : l ≠ []) (hn : 1 ≤ n) : l.take n ≠ [] := by
  intro e
  have := congrArg List.length e
  rw [List.length_take, List.length_nil] at this
  have := List.length_pos_iff.2 h
  omega
theorem signAt_take {l : List UInt8} (h : l ≠ []) (n : Nat) : ∀ (S : List (List UInt8)) (k : Nat), (signAt l k S).1.kind ≠ 0 → (signAt l k S).1.fin ≤ n → signAt (l.take n) k S = signAt l k S
  | [], k, _, _ => rfl
  | s :: S, k, hk, hn => by
    rw [signAt_cons] at hk hn ⊢
    rw [signAt_cons]
    by_cases h0 : 0 < commonN l s
    · rw [if_pos h0] at hk hn ⊢
      rw [commonN_take_ge l s n hn, if_pos h0]
    · rw [if_neg h0] at hk hn ⊢
      have hp := signAt_pos l S (k + 1) hk
      have hne := take_ne h (show 1 ≤ n by omega)
      have hh := commonN_head (l.drop n) s hne
      rw [List.take_append_drop] at hh
      rw [if_neg (by rw [← hh]; exact h0)]
      exact signAt_take h n S (k + 1) hk hn
theorem unqP_take_ge (c n : Nat) (l : List UInt8) (h : (unqP c l).2.1 ≤ n) : As (unqP c l) (unqP c (l.take n)) := by
  have h0 := unqP_take c l
  have h1 := unqP_app ((l.drop (unqP c l).2.1).take (n - (unqP c l).2.1)) c (l.take (unqP c l).2.1)
  rw [← take_split l h] at h1
  have h2 := unqP_app (l.drop n) c (l.take n)
  rw [List.take_append_drop] at h2
  cases hf : (unqP c l).2.2
  · refine ⟨?_, ?_, fun e => ?_⟩
    · have := h0.1
      omega
    · cases hg : (unqP c (l.take n)).2.2
      · exact hf.symm
      · rw [h2.2 hg, hg] at hf
        cases hf
    · rw [hf] at e
      cases e
  · rw [h1.2 (by rw [h0.2.1, hf])]
    exact h0
theorem unquoteT_take (l : List UInt8) (n : Nat) (h : (unquoteT l).2.1 ≤ n) : unquoteT (l.take n) = unquoteT l := by
  unfold unquoteT at *
  rw [fin_far] at h
  obtain ⟨m, rfl⟩ : ∃ m, n = m + 1 := ⟨n - 1, by omega⟩
  have hd : (l.take (m + 1)).drop 1 = (l.drop 1).take m := by rw [List.drop_take]; rfl
  rw [hd]
  have ha := unqP_take_ge 0 m (l.drop 1) (by omega)
  unfold fin
  rw [ha.2.1, ha.1]
  split
  · rename_i hc
    rw [ha.2.2 hc]
  · rfl
/-- The first token of a text that is cut no earlier than behind it. -/
theorem firstT_take (l : List UInt8) (n : Nat) (hk : (firstT l).1.kind ≠ 0) (hn : (firstT l).1.fin ≤ n) : firstT (l.take n) = firstT l := by
  have hpos := firstT_pos l hk
  have hne : l ≠ [] := by
    rintro rfl
    exact hk firstT_nil
  have hp := List.length_pos_iff.2 hne
  have hr : runeZ (l.take n) 0 = runeZ l 0 := by
    have := runeZ_app (l.take n) (l.drop n) (i := 0) (by rw [List.length_take]; omega)
    rw [List.take_append_drop] at this
    exact this.symm
  unfold firstT at hk hn hpos ⊢
  rw [hr]
  split
  · rename_i hw
    rw [if_pos hw] at hn
    have hn' : wordN l ≤ n := hn
    have hN : wordN (l.take n) = wordN l := by
      unfold wordN runN at hn' ⊢
      rw [hr]
      split
      · rename_i c; rw [if_pos c] at hn'; exact runF_take_ge _ _ _ _ hn'
      · rename_i c
        rw [if_neg c] at hn'
        split
        · rename_i c2; rw [if_pos c2] at hn'; exact runF_take_ge _ _ _ _ hn'
        · rename_i c2
          rw [if_neg c2] at hn'
          split
          · rename_i c3; rw [if_pos c3] at hn'; exact runF_take_ge _ _ _ _ hn'
          · rfl
    have hK : wordK (l.take n) = wordK l := by
      unfold wordK
      rw [hr]
      split
      · rename_i c
        have hs : runN wordZ l ≤ n := by
          unfold wordN at hn'
          rw [if_pos c] at hn'
          exact hn'
        have e : runN wordZ (l.take n) = runN wordZ l := runF_take_ge _ _ _ _ hs
        rw [e, List.take_take, Nat.min_eq_left hs]
      · rfl
    unfold firstWordT
    rw [hN, hK, List.take_take, Nat.min_eq_left hn']
  · rename_i hw
    rw [if_neg hw] at hk hn
    split
    · rename_i h2
      rw [if_pos h2] at hn
      unfold firstStringT at hn ⊢
      rw [unquoteT_take l n hn]
    · rename_i h2
      rw [if_neg h2] at hk hn
      exact signAt_take hne n signs 0 hk hn
theorem blanksF_done : ∀ (n : Nat) (l : List UInt8), l.length < n → blanksN (l.drop (blanksF n l)) = 0
  | 0, _, h => by omega
  | n + 1, [], _ => by simp [blanksF, blanksN]
  | n + 1, b :: l, h => by
    simp only [List.length_cons] at h
    rw [blanksF_cons]
    by_cases hb : blankB b = true
    · rw [if_pos hb, List.drop_succ_cons]
      exact blanksF_done n l (by omega)
    · rw [if_neg hb]
      by_cases h37 : b = 37
      · rw [if_pos h37, ← List.drop_drop]
        have hp := remarkN_pos l b h37
        exact blanksF_done n _ (by rw [List.length_drop, List.length_cons]; omega)
      · rw [if_neg h37, List.drop_zero]
        unfold blanksN
        rw [blanksF_cons, if_neg hb, if_neg h37]
theorem blanks_done (L : List UInt8) (far : Nat) : blanksN (L.drop (farB L far)) = 0 := by
  unfold farB
  rw [← List.drop_drop]
  exact blanksF_done _ _ (Nat.lt_succ_self _)
/-- A token's bytes alone are a row of it. -/
theorem lex_own (l : List UInt8) (hb : blanksN l = 0) (hk : (firstT l).1.kind ≠ 0) (hw : (firstT l).2 = true) : lexT (l.take (firstT l).1.fin) = ([(firstT l).1], tok0, (firstT l).1.fin, 0) := by
  have hle := (firstT_le l).2
  have hlen : (l.take (firstT l).1.fin).length = (firstT l).1.fin := by rw [List.length_take]; omega
  have h1 : firstT (l.take (firstT l).1.fin) = ((firstT l).1, true) := by
    rw [firstT_take l _ hk (Nat.le_refl _), ← hw]
  have h2 : blanksN (l.take (firstT l).1.fin) = 0 := by rw [blanksN_take_ge _ _ (by omega), hb]
  have := lex_one h1 h2 hk hlen.symm
  rw [hlen] at this
  exact this
end Go.Proofs.YtioafeckaeaopaaDoor
