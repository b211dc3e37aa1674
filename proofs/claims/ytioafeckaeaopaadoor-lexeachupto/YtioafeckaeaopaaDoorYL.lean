/- A text behind a row and a byte 10 has its own tokens, moved. No walk here. -/
import Derived.Test.YtioafeckaeaopaaDoorYI
namespace Go.Proofs.YtioafeckaeaopaaDoor
open Go.RowKit Go.Maps

theorem runF_stop (p : Int → Bool) (hp : p 10 = false) (Y : List UInt8) : ∀ (n : Nat) (l : List UInt8), runF p n (l ++ 10 :: Y) = runF p n l
  | 0, _ => by simp [runF]
  | n + 1, [] => by
    show (if p ((10 : UInt8).toNat : Int) then runF p n Y + 1 else 0) = 0
    rw [show ((10 : UInt8).toNat : Int) = 10 from rfl, hp]
    rfl
  | n + 1, b :: l => by
    rw [List.cons_append]
    unfold runF
    rw [runF_stop p hp Y n l]
theorem remarkN_stop (Y : List UInt8) : ∀ l : List UInt8, remarkN (l ++ 10 :: Y) = remarkN l
  | [] => by simp [remarkN]
  | b :: l => by
    rw [List.cons_append]
    unfold remarkN
    rw [remarkN_stop Y l]
theorem blanksF_stop (Y : List UInt8) : ∀ (n m : Nat) (l : List UInt8), l.length < n → l.length + Y.length + 1 < m → blanksF n l = l.length → blanksF m (l ++ 10 :: Y) = l.length + 1 + blanksN Y
  | 0, _, _, h, _, _ => by omega
  | _, 0, _, _, h, _ => by omega
  | n + 1, m + 1, [], _, h2, _ => by
    rw [List.nil_append, blanksF_cons, if_pos (by decide)]
    unfold blanksN
    rw [blanksF_fuel m (Y.length + 1) Y (by simp at h2; omega) (by omega)]
    simp; omega
  | n + 1, m + 1, b :: l, h1, h2, h => by
    simp only [List.length_cons] at h1 h2
    rw [List.cons_append, blanksF_cons]
    rw [blanksF_cons] at h
    by_cases hb : blankB b = true
    · rw [if_pos hb] at h ⊢
      simp only [List.length_cons] at h ⊢
      rw [blanksF_stop Y n m l (by omega) (by omega) (by omega)]
      omega
    · rw [if_neg hb] at h ⊢
      by_cases h37 : b = 37
      · rw [if_pos h37] at h ⊢
        have hr := remarkN_stop Y (b :: l)
        have hl := remarkN_le (b :: l)
        have hp := remarkN_pos l b h37
        rw [List.cons_append] at hr
        rw [hr]
        generalize remarkN (b :: l) = k at *
        have hd : (b :: (l ++ 10 :: Y)).drop k = (b :: l).drop k ++ 10 :: Y := by
          rw [← List.cons_append, List.drop_append_of_le_length hl]
        rw [hd, blanksF_stop Y n m ((b :: l).drop k) (by rw [List.length_drop, List.length_cons]; omega) (by rw [List.length_drop, List.length_cons]; omega) (by rw [List.length_drop]; omega)]
        rw [List.length_drop]
        omega
      · rw [if_neg h37] at h
        simp at h
theorem blanksN_stop (l Y : List UInt8) (h : blanksN l = l.length) : blanksN (l ++ 10 :: Y) = l.length + 1 + blanksN Y :=
  blanksF_stop Y _ _ l (Nat.lt_succ_self _) (by simp only [List.length_append, List.length_cons]; omega) h
theorem signAt_same (Y : List UInt8) {l : List UInt8} (h : l ≠ []) : ∀ (S : List (List UInt8)) (k : Nat), (signAt l k S).2 = true → signAt (l ++ Y) k S = signAt l k S
  | [], k, _ => rfl
  | s :: S, k, hw => by
    have hc := commonN_app Y l s
    rw [signAt_cons] at hw ⊢
    rw [signAt_cons]
    by_cases h0 : 0 < commonN l s
    · rw [if_pos h0] at hw ⊢
      rw [if_pos (by rw [commonN_head Y s h]; exact h0), hc.2 (of_decide_eq_true hw)]
    · rw [if_neg h0] at hw ⊢
      rw [if_neg (by rw [commonN_head Y s h]; exact h0)]
      exact signAt_same Y h S (k + 1) hw
/-- A token that is whole stays as it is ahead of a byte 10. -/
theorem firstT_stop (l Y : List UInt8) (h : l ≠ []) (hw : (firstT l).2 = true) : firstT (l ++ 10 :: Y) = firstT l := by
  have hp := List.length_pos_iff.2 h
  have hr : runeZ (l ++ 10 :: Y) 0 = runeZ l 0 := runeZ_app l _ (by omega)
  have n1 : runN wordZ (l ++ 10 :: Y) = runN wordZ l := runF_stop wordZ (by decide) Y 64 l
  have n2 : runN digitZ (l ++ 10 :: Y) = runN digitZ l := runF_stop digitZ (by decide) Y 64 l
  have hN : wordN (l ++ 10 :: Y) = wordN l := by unfold wordN; rw [hr, n1, n2]
  have hK : wordK (l ++ 10 :: Y) = wordK l := by
    unfold wordK
    rw [hr, n1, List.take_append_of_le_length (runN_le wordZ l).2]
  have hF : firstWordT (l ++ 10 :: Y) = firstWordT l := by
    unfold firstWordT
    rw [hN, hK, List.take_append_of_le_length (wordN_le l).2]
  unfold firstT at hw ⊢
  rw [hr]
  split
  · rw [hF]
  · rename_i h1
    rw [if_neg h1] at hw
    split
    · rename_i h2
      rw [if_pos h2] at hw
      have hu : unquoteT (l ++ 10 :: Y) = unquoteT l := by
        unfold firstStringT unquoteT at hw
        have hc' : (unqP 0 (l.drop 1)).2.2 = true := by
          dsimp only at hw
          unfold fin at hw
          split at hw
          · assumption
          · simp at hw
        unfold unquoteT
        rw [List.drop_append_of_le_length hp, (unqP_app (10 :: Y) 0 (l.drop 1)).2 hc']
      unfold firstStringT
      rw [hu]
    · rename_i h2
      rw [if_neg h2] at hw
      exact signAt_same (10 :: Y) h signs 0 hw
theorem stepT_of_farB {L : List UInt8} {far far' : Nat} (h : farB L far = farB L far') (o : Tok) : stepT L far o = stepT L far' o := by
  unfold stepT
  rw [h]
theorem tokF_of_farB {L : List UInt8} {far far' : Nat} (h : farB L far = farB L far') (f : Nat) (o : Tok) : tokF L (f + 1) far o = tokF L (f + 1) far' o := by
  unfold tokF
  rw [stepT_of_farB h]

/-- What is open behind is what is open there, moved. -/
def Ro (by_ : Nat) (o o2 : Tok) : Prop := o = tok0 ∧ o2 = tok0 ∨ o2.kind ≠ 0 ∧ o = o2.move by_
section
variable (L1 L2 : List UInt8)
theorem behind_drop (k : Nat) : (L1 ++ 10 :: L2).drop (k + (L1.length + 1)) = L2.drop k := by
  rw [show L1 ++ 10 :: L2 = (L1 ++ [10]) ++ L2 by simp, List.drop_append]
  rw [List.drop_eq_nil_of_le (by simp only [List.length_append, List.length_singleton]; omega)]
  simp
theorem behind_rune (k : Int) (h : 0 ≤ k) : runeZ (L1 ++ 10 :: L2) (k + (L1.length + 1 : Nat)) = runeZ L2 k := by
  obtain ⟨j, rfl⟩ : ∃ j : Nat, k = j := ⟨k.toNat, by omega⟩
  rw [show ((j : Int) + (L1.length + 1 : Nat)) = ((j + (L1.length + 1) : Nat) : Int) by omega, runeZ_nat, runeZ_nat]
  rw [List.getElem?_append_right (by omega), show j + (L1.length + 1) - L1.length = j + 1 by omega, List.getElem?_cons_succ]
theorem behind_word (B : Nat) : wordZ (runeZ (L1 ++ 10 :: L2) (((B + (L1.length + 1) : Nat) : Int) - 1)) = wordZ (runeZ L2 ((B : Int) - 1)) := by
  cases B with
  | zero =>
    rw [show (((0 + (L1.length + 1) : Nat) : Int) - 1) = ((L1.length : Nat) : Int) by omega, runeZ_nat, runeZ_neg L2 (by omega)]
    rw [List.getElem?_append_right (Nat.le_refl _), Nat.sub_self, List.getElem?_cons_zero]
    decide
  | succ B =>
    rw [show (((B + 1 + (L1.length + 1) : Nat) : Int) - 1) = (B : Int) + (L1.length + 1 : Nat) by omega, behind_rune L1 L2 _ (by omega), show (((B + 1 : Nat) : Int) - 1) = (B : Int) by omega]
theorem behind_farB (far : Nat) : farB (L1 ++ 10 :: L2) (far + (L1.length + 1)) = farB L2 far + (L1.length + 1) := by
  unfold farB
  rw [behind_drop]
  omega
theorem behind_step (far : Nat) (o o2 : Tok) (ho : Ro (L1.length + 1) o o2) :
    (stepT (L1 ++ 10 :: L2) (far + (L1.length + 1)) o).2.1 = (stepT L2 far o2).2.1 ∧
    ((stepT L2 far o2).2.1 = true → (stepT (L1 ++ 10 :: L2) (far + (L1.length + 1)) o).1 = (stepT L2 far o2).1.move (L1.length + 1)) ∧
    (stepT (L1 ++ 10 :: L2) (far + (L1.length + 1)) o).2.2.1 = (stepT L2 far o2).2.2.1 + (L1.length + 1) ∧
    Ro (L1.length + 1) (stepT (L1 ++ 10 :: L2) (far + (L1.length + 1)) o).2.2.2 (stepT L2 far o2).2.2.2 := by
  have hw := behind_word L1 L2 (farB L2 far)
  have hr := behind_rune L1 L2 (farB L2 far : Int) (by omega)
  rw [show ((farB L2 far : Int) + (L1.length + 1 : Nat)) = ((farB L2 far + (L1.length + 1) : Nat) : Int) by omega] at hr
  unfold stepT
  rw [behind_farB, behind_drop, hw, hr]
  split
  · exact ⟨rfl, fun h => by simp at h, rfl, ho⟩
  · rename_i hc
    split
    · refine ⟨rfl, fun _ => ?_, by dsimp only; omega, ho⟩
      simp [Tok.move, Nat.add_assoc]
    · refine ⟨rfl, fun h => by simp at h, by dsimp only; omega, Or.inr ⟨fun e => hc (.inl e), ?_⟩⟩
      simp [Tok.move, Nat.add_assoc]
theorem behind_tokF : ∀ (f g far : Nat) (o o2 : Tok), far ≤ L2.length → L2.length - far < f → L2.length - far < g → Ro (L1.length + 1) o o2 →
    (tokF (L1 ++ 10 :: L2) g (far + (L1.length + 1)) o).1 = (tokF L2 f far o2).1.map (·.move (L1.length + 1)) ∧ (tokF (L1 ++ 10 :: L2) g (far + (L1.length + 1)) o).2.1 = (tokF L2 f far o2).2.1 + (L1.length + 1) ∧
    Ro (L1.length + 1) (tokF (L1 ++ 10 :: L2) g (far + (L1.length + 1)) o).2.2 (tokF L2 f far o2).2.2
  | 0, _, _, _, _, _, h, _, _ => by omega
  | _, 0, _, _, _, _, _, h, _ => by omega
  | f + 1, g + 1, far, o, o2, h, h1, h2, ho => by
    obtain ⟨s1, s2, s3, s4⟩ := behind_step L1 L2 far o o2 ho
    have hs := stepT_far L2 far o2 h
    cases hb : (stepT L2 far o2).2.1
    · rw [hb] at s1
      rw [tokF_no hb, tokF_no s1]
      exact ⟨rfl, s3, s4⟩
    · rw [hb] at s1
      have hlt := hs.2.2 hb
      rw [tokF_yes hb, tokF_yes s1, s3]
      obtain ⟨q1, q2, q3⟩ := behind_tokF f g (stepT L2 far o2).2.2.1 _ _ hs.2.1 (by omega) (by omega) s4
      dsimp only
      rw [q1, q2, s2 hb, List.map_cons]
      exact ⟨rfl, rfl, q3⟩
theorem behind_row : ∀ (f g far : Nat), far ≤ L1.length → L1.length - far < f → L1.length + 1 + L2.length - far < g → (tokF L1 f far tok0).2.1 = L1.length → (tokF L1 f far tok0).2.2.kind = 0 →
    (tokF (L1 ++ 10 :: L2) g far tok0).1 = (tokF L1 f far tok0).1 ++ (tokT L2).1.map (·.move (L1.length + 1)) ∧ (tokF (L1 ++ 10 :: L2) g far tok0).2.1 = (tokT L2).2.1 + (L1.length + 1) ∧
    Ro (L1.length + 1) (tokF (L1 ++ 10 :: L2) g far tok0).2.2 (tokT L2).2.2
  | 0, _, _, _, h, _, _, _ => by omega
  | _, 0, _, _, _, h, _, _ => by omega
  | f + 1, g + 1, far, h, h1, h2, hfar, hk => by
    have hd : (L1 ++ 10 :: L2).drop far = L1.drop far ++ 10 :: L2 := List.drop_append_of_le_length h
    by_cases hlt : farB L1 far < L1.length
    · have hE : farB (L1 ++ 10 :: L2) far = farB L1 far := by
        unfold farB at hlt ⊢
        rw [hd, (blanksN_app (L1.drop far) (10 :: L2)).2 (by rw [List.length_drop]; omega)]
      have hdB : (L1 ++ 10 :: L2).drop (farB L1 far) = L1.drop (farB L1 far) ++ 10 :: L2 := List.drop_append_of_le_length (by omega)
      have hne : L1.drop (farB L1 far) ≠ [] := by
        intro e
        have := congrArg List.length e
        rw [List.length_drop, List.length_nil] at this
        omega
      have r1 : runeZ (L1 ++ 10 :: L2) ((farB L1 far : Int) - 1) = runeZ L1 ((farB L1 far : Int) - 1) := runeZ_app L1 _ (by omega)
      have r2 : runeZ (L1 ++ 10 :: L2) (farB L1 far : Int) = runeZ L1 (farB L1 far : Int) := runeZ_app L1 _ (by omega)
      by_cases hc : (firstT (L1.drop (farB L1 far))).1.kind = 0 ∨ (wordZ (runeZ L1 ((farB L1 far : Int) - 1)) && wordZ (runeZ L1 (farB L1 far : Int))) = true
      · exfalso
        have hs : stepT L1 far tok0 = (tok0, false, farB L1 far, tok0) := by unfold stepT; rw [if_pos hc]
        rw [tokF_no (by rw [hs]), hs] at hfar
        dsimp only at hfar
        omega
      · cases hw : (firstT (L1.drop (farB L1 far))).2
        · exfalso
          have hs : (stepT L1 far tok0).2.1 = false ∧ (stepT L1 far tok0).2.2.2.kind = (firstT (L1.drop (farB L1 far))).1.kind := by
            unfold stepT; rw [if_neg hc, if_neg (by rw [hw]; simp)]; exact ⟨rfl, rfl⟩
          rw [tokF_no hs.1] at hk
          dsimp only at hk
          rw [hs.2] at hk
          exact hc (.inl hk)
        · have hsame : stepT (L1 ++ 10 :: L2) far tok0 = stepT L1 far tok0 := by
            unfold stepT
            rw [hE, hdB, r1, r2, firstT_stop _ _ hne hw]
          have hs : (stepT L1 far tok0).2.1 = true ∧ (stepT L1 far tok0).2.2.2 = tok0 := by
            unfold stepT; rw [if_neg hc, if_pos hw]; exact ⟨rfl, rfl⟩
          have hS := stepT_far L1 far tok0 h
          have q1 := hS.2.2 hs.1
          rw [tokF_yes hs.1] at hfar hk ⊢
          rw [tokF_yes (by rw [hsame]; exact hs.1), hsame]
          dsimp only at hfar hk ⊢
          rw [hs.2] at hfar hk ⊢
          obtain ⟨a1, a2, a3⟩ := behind_row f g (stepT L1 far tok0).2.2.1 hS.2.1 (by omega) (by omega) hfar hk
          rw [a1, a2]
          exact ⟨rfl, rfl, a3⟩
    · have hle := (farB_le L1 far h).2
      have hB : farB L1 far = L1.length := by omega
      have hstop : stepT L1 far tok0 = (tok0, false, farB L1 far, tok0) := by
        unfold stepT
        rw [if_pos (.inl (by rw [hB, List.drop_eq_nil_of_le (Nat.le_refl _)]; exact firstT_nil))]
      have hb := blanksN_stop (L1.drop far) L2 (by unfold farB at hB; rw [List.length_drop]; omega)
      have hE : farB (L1 ++ 10 :: L2) far = farB (L1 ++ 10 :: L2) (0 + (L1.length + 1)) := by
        rw [behind_farB]
        unfold farB
        rw [hd, hb, List.length_drop, List.drop_zero]
        omega
      have hno : (tokF L1 (f + 1) far tok0).1 = [] := by rw [tokF_no (by rw [hstop])]
      rw [hno, List.nil_append, tokF_of_farB hE]
      exact behind_tokF L1 L2 (L2.length + 1) (g + 1) 0 tok0 tok0 (Nat.zero_le _) (by omega) (by omega) (.inl ⟨rfl, rfl⟩)
/-- A text behind a row and a byte 10. -/
theorem lex_behind (h : (lexT L1).2.2.2 = 0) : ∃ o, lexT (L1 ++ 10 :: L2) = ((lexT L1).1 ++ (lexT L2).1.map (·.move (L1.length + 1)), o, (lexT L2).2.2.1 + (L1.length + 1), (lexT L2).2.2.2) ∧ Ro (L1.length + 1) o (lexT L2).2.1 := by
  have hl1 : ¬ ((tokT L1).2.1 < L1.length ∨ (tokT L1).2.2.kind ≠ 0) := fun hc => by
    unfold lexT at h; rw [if_pos hc] at h; simp at h
  have hle := tokT_le L1
  have e1 : lexT L1 = ((tokT L1).1, tok0, (tokT L1).2.1, 0) := by unfold lexT; rw [if_neg hl1]
  have hf : (tokT L1).2.1 = L1.length := by
    have : ¬ (tokT L1).2.1 < L1.length := fun q => hl1 (.inl q)
    omega
  have hk : (tokT L1).2.2.kind = 0 := by
    by_cases q : (tokT L1).2.2.kind = 0
    · exact q
    · exact absurd (.inr q) hl1
  have hlen : (L1 ++ 10 :: L2).length = L1.length + 1 + L2.length := by simp; omega
  obtain ⟨a1, a2, a3⟩ := behind_row L1 L2 (L1.length + 1) ((L1 ++ 10 :: L2).length + 1) 0 (Nat.zero_le _) (by omega) (by omega) hf hk
  rw [e1]
  have b1 : (tokT (L1 ++ 10 :: L2)).1 = (tokT L1).1 ++ (tokT L2).1.map (·.move (L1.length + 1)) := a1
  have b2 : (tokT (L1 ++ 10 :: L2)).2.1 = (tokT L2).2.1 + (L1.length + 1) := a2
  have b3 : Ro (L1.length + 1) (tokT (L1 ++ 10 :: L2)).2.2 (tokT L2).2.2 := a3
  have hkk : (tokT (L1 ++ 10 :: L2)).2.2.kind = (tokT L2).2.2.kind := by
    rcases b3 with ⟨q1, q2⟩ | ⟨_, q⟩
    · rw [q1, q2]
    · rw [q]; rfl
  unfold lexT
  by_cases hc : (tokT L2).2.1 < L2.length ∨ (tokT L2).2.2.kind ≠ 0
  · rw [if_pos hc, if_pos (by rw [b2, hkk, hlen]; rcases hc with q | q; exact .inl (by omega); exact .inr q), b1, b2]
    exact ⟨_, rfl, b3⟩
  · rw [if_neg hc, if_neg (by rw [b2, hkk, hlen]; rintro (q | q); exact hc (.inl (by omega)); exact hc (.inr q)), b1, b2]
    exact ⟨_, rfl, .inl ⟨rfl, rfl⟩⟩
end
end Go.Proofs.YtioafeckaeaopaaDoor
