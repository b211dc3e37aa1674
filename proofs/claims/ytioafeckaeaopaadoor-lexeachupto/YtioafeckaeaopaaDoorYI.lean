/- What follows a text does not take back how far it goes. No walk here. -/
import Derived.Test.YtioafeckaeaopaaDoorXV
namespace Go.Proofs.YtioafeckaeaopaaDoor
open Go.RowKit Go.Maps

theorem runF_app (p : Int → Bool) (Y : List UInt8) : ∀ (n : Nat) (l : List UInt8), runF p n l ≤ runF p n (l ++ Y) ∧ (runF p n l < l.length → runF p n (l ++ Y) = runF p n l)
  | 0, _ => by simp [runF]
  | n + 1, [] => by simp [runF]
  | n + 1, b :: l => by
    have := runF_app p Y n l
    rw [List.cons_append]
    unfold runF
    split
    · simp only [List.length_cons]; omega
    · simp
theorem remarkN_app (Y : List UInt8) : ∀ l : List UInt8, remarkN l ≤ remarkN (l ++ Y) ∧ (remarkN l < l.length → remarkN (l ++ Y) = remarkN l)
  | [] => by simp [remarkN]
  | b :: l => by
    have := remarkN_app Y l
    rw [List.cons_append]
    unfold remarkN
    split
    · simp
    · simp only [List.length_cons]; omega
theorem blanksF_app (Y : List UInt8) : ∀ (n m : Nat) (l : List UInt8), l.length < n → l.length + Y.length < m → blanksF n l ≤ blanksF m (l ++ Y) ∧ (blanksF n l < l.length → blanksF m (l ++ Y) = blanksF n l)
  | 0, _, _, h, _ => by omega
  | _, 0, _, _, h => by omega
  | n + 1, m + 1, [], _, _ => by simp [blanksF]
  | n + 1, m + 1, b :: l, h1, h2 => by
    simp only [List.length_cons] at h1 h2
    rw [List.cons_append, blanksF_cons, blanksF_cons]
    by_cases hb : blankB b = true
    · rw [if_pos hb, if_pos hb]
      have := blanksF_app Y n m l (by omega) (by omega)
      simp only [List.length_cons]; omega
    · rw [if_neg hb, if_neg hb]
      by_cases h37 : b = 37
      · rw [if_pos h37, if_pos h37]
        have hr := remarkN_app Y (b :: l)
        have hl := remarkN_le (b :: l)
        have hp := remarkN_pos l b h37
        rw [List.cons_append] at hr
        by_cases hlt : remarkN (b :: l) < (b :: l).length
        · rw [hr.2 hlt]
          generalize remarkN (b :: l) = k at *
          have hd : (b :: (l ++ Y)).drop k = (b :: l).drop k ++ Y := by
            rw [← List.cons_append, List.drop_append_of_le_length hl]
          rw [hd]
          have := blanksF_app Y n m ((b :: l).drop k) (by rw [List.length_drop, List.length_cons]; omega) (by rw [List.length_drop, List.length_cons]; omega)
          rw [List.length_drop] at this
          omega
        · have he : blanksF n ((b :: l).drop (remarkN (b :: l))) = 0 := by
            rw [List.drop_eq_nil_of_le (by omega)]
            cases n <;> rfl
          rw [he]
          omega
      · rw [if_neg h37, if_neg h37]; simp
theorem blanksN_app (l Y : List UInt8) : blanksN l ≤ blanksN (l ++ Y) ∧ (blanksN l < l.length → blanksN (l ++ Y) = blanksN l) :=
  blanksF_app Y _ _ l (by omega) (by simp)
mutual
theorem unqP_app (Y : List UInt8) : ∀ (c : Nat) (l : List UInt8), (unqP c l).2.1 ≤ (unqP c (l ++ Y)).2.1 ∧ ((unqP c l).2.2 = true → unqP c (l ++ Y) = unqP c l)
  | _, [] => by simp [unqP, no]
  | c, b :: l => by
    have h1 := unqE_app Y c l
    have h2 := unqP_app Y (c + 1) l
    rw [List.cons_append]
    unfold unqP
    split
    · simp
    split
    · simp
    split
    · simp only [skip]
      exact ⟨by omega, fun h => by rw [h1.2 h]⟩
    split
    · simp only [put]
      exact ⟨by omega, fun h => by rw [h2.2 h]⟩
    · simp
theorem unqE_app (Y : List UInt8) : ∀ (c : Nat) (l : List UInt8), (unqE c l).2.1 ≤ (unqE c (l ++ Y)).2.1 ∧ ((unqE c l).2.2 = true → unqE c (l ++ Y) = unqE c l)
  | _, [] => by simp [unqE, no]
  | c, b :: l => by
    have h1 := unqD_app Y c l
    have h2 := unqP_app Y (c + 1) l
    rw [List.cons_append]
    unfold unqE
    split
    · simp only [put]
      exact ⟨by omega, fun h => by rw [h2.2 h]⟩
    split
    · simp only [put]
      exact ⟨by omega, fun h => by rw [h2.2 h]⟩
    split
    · simp only [put]
      exact ⟨by omega, fun h => by rw [h2.2 h]⟩
    split
    · simp only [skip]
      exact ⟨by omega, fun h => by rw [h1.2 h]⟩
    · simp
theorem unqD_app (Y : List UInt8) : ∀ (c : Nat) (l : List UInt8), (unqD c l).2.1 ≤ (unqD c (l ++ Y)).2.1 ∧ ((unqD c l).2.2 = true → unqD c (l ++ Y) = unqD c l)
  | _, [] => by simp [unqD, no]
  | c, [h] => by
    cases Y with
    | nil => simp
    | cons y Y =>
      rw [List.singleton_append]
      unfold unqD
      by_cases h1 : hexV (h.toNat : Int) < 0
      · rw [if_pos h1, if_pos h1]; simp
      · rw [if_neg h1, if_neg h1]
        split
        · simp
        · simp only [no, put]
          exact ⟨by omega, fun h => by simp at h⟩
  | c, h :: g :: l => by
    have h2 := unqP_app Y (c + 1) l
    rw [List.cons_append, List.cons_append]
    unfold unqD
    split
    · simp
    split
    · simp
    · simp only [put]
      exact ⟨by omega, fun h => by rw [h2.2 h]⟩
end
theorem commonN_app (Y : List UInt8) : ∀ (l s : List UInt8), commonN l s ≤ commonN (l ++ Y) s ∧ (commonN l s = s.length → commonN (l ++ Y) s = commonN l s)
  | [], s => by
    refine ⟨by simp [commonN], fun h => ?_⟩
    have h0 : commonN [] s = 0 := by simp [commonN]
    rw [h0] at h ⊢
    have := (commonN_le ([] ++ Y) s).2
    omega
  | a :: l, [] => by simp [commonN]
  | a :: l, b :: s => by
    have := commonN_app Y l s
    rw [List.cons_append]
    unfold commonN
    split
    · simp only [List.length_cons]; omega
    · simp
theorem commonN_head {l : List UInt8} (Y s : List UInt8) (h : l ≠ []) : (0 < commonN (l ++ Y) s) = (0 < commonN l s) := by
  cases l with
  | nil => exact absurd rfl h
  | cons a l =>
    cases s with
    | nil => simp [commonN]
    | cons b s =>
      rw [List.cons_append]
      unfold commonN
      split <;> simp
theorem signAt_app (Y : List UInt8) {l : List UInt8} (h : l ≠ []) : ∀ (S : List (List UInt8)) (k : Nat), (signAt (l ++ Y) k S).1.kind = (signAt l k S).1.kind ∧ (signAt l k S).1.fin ≤ (signAt (l ++ Y) k S).1.fin ∧ ((signAt l k S).2 = true → (signAt (l ++ Y) k S).1.fin = (signAt l k S).1.fin ∧ (signAt (l ++ Y) k S).2 = true)
  | [], k => by simp [signAt]
  | s :: S, k => by
    have hc := commonN_app Y l s
    rw [signAt_cons, signAt_cons]
    by_cases h0 : 0 < commonN l s
    · rw [if_pos h0, if_pos (by rw [commonN_head Y s h]; exact h0)]
      dsimp only
      refine ⟨rfl, hc.1, fun hw => ?_⟩
      have := of_decide_eq_true hw
      rw [hc.2 this]
      exact ⟨rfl, decide_eq_true this⟩
    · rw [if_neg h0, if_neg (by rw [commonN_head Y s h]; exact h0)]
      exact signAt_app Y h S (k + 1)
theorem runeZ_app (l Y : List UInt8) {i : Int} (h : i < (l.length : Int)) : runeZ (l ++ Y) i = runeZ l i := by
  unfold runeZ
  split
  · rfl
  · rw [List.getElem?_append_left (by omega)]
theorem wordK_ne (l : List UInt8) (h : (smallZ (runeZ l 0) || greatZ (runeZ l 0) || digitZ (runeZ l 0)) = true) : wordK l ≠ 0 := by
  unfold wordK
  split
  · split
    · decide
    · assumption
  · split
    · decide
    · split
      · decide
      · rename_i h1 h2 h3
        simp only [Bool.or_eq_true] at h
        rcases h with (h | h) | h
        · exact absurd h h1
        · exact absurd h h2
        · exact absurd h h3
theorem wordN_app (l Y : List UInt8) (h : l ≠ []) : wordN l ≤ wordN (l ++ Y) ∧ (wordN l < l.length → wordN (l ++ Y) = wordN l) := by
  have hr : runeZ (l ++ Y) 0 = runeZ l 0 := runeZ_app l Y (by have := List.length_pos_iff.2 h; omega)
  unfold wordN runN
  rw [hr]
  have h1 := runF_app wordZ Y 64 l
  have h2 := runF_app digitZ Y 64 l
  split
  · exact h1
  · split
    · exact h1
    · split
      · exact h2
      · simp
theorem firstT_app (l Y : List UInt8) (h : l ≠ []) : ((firstT l).1.kind ≠ 0 → (firstT (l ++ Y)).1.kind ≠ 0) ∧ (firstT l).1.fin ≤ (firstT (l ++ Y)).1.fin ∧ ((firstT l).2 = true → (firstT l).1.fin < l.length → (firstT (l ++ Y)).1.fin = (firstT l).1.fin ∧ (firstT (l ++ Y)).2 = true) := by
  have hp := List.length_pos_iff.2 h
  have hr : runeZ (l ++ Y) 0 = runeZ l 0 := runeZ_app l Y (by omega)
  unfold firstT
  rw [hr]
  split
  · rename_i hw
    have hn := wordN_app l Y h
    refine ⟨fun _ => by
      show ((wordK (l ++ Y) : Nat) : Int) ≠ 0
      have := wordK_ne (l ++ Y) (by rw [hr]; exact hw)
      omega, hn.1, fun _ hlt => ⟨hn.2 hlt, rfl⟩⟩
  · split
    · unfold firstStringT unquoteT
      dsimp only
      rw [fin_far, fin_far]
      have hd : (l ++ Y).drop 1 = l.drop 1 ++ Y := List.drop_append_of_le_length hp
      rw [hd]
      have hu := unqP_app Y 0 (l.drop 1)
      refine ⟨fun h => h, by omega, fun hc _ => ?_⟩
      have hc' : (unqP 0 (l.drop 1)).2.2 = true := by
        unfold fin at hc
        split at hc
        · assumption
        · simp at hc
      rw [hu.2 hc']
      exact ⟨rfl, hc⟩
    · have hs := signAt_app Y h signs 0
      unfold firstSignT
      exact ⟨fun hk => by rw [hs.1]; exact hk, hs.2.1, fun hc _ => hs.2.2 hc⟩
theorem firstT_nil : (firstT []).1.kind = 0 := by decide
theorem stepT_farB (L : List UInt8) (far : Nat) (o : Tok) : farB L far ≤ (stepT L far o).2.2.1 := by
  unfold stepT
  split
  · exact Nat.le_refl _
  · split <;> (dsimp only; omega)
theorem tokF_ge (L : List UInt8) : ∀ (f far : Nat) (o : Tok), far ≤ L.length → far ≤ (tokF L f far o).2.1
  | 0, far, o, _ => Nat.le_refl _
  | f + 1, far, o, h => by
    have hs := stepT_far L far o h
    cases hb : (stepT L far o).2.1
    · rw [tokF_no hb]; exact hs.1
    · rw [tokF_yes hb]
      exact Nat.le_trans hs.1 (tokF_ge L f _ _ hs.2.1)
theorem tokF_step (L : List UInt8) (f far : Nat) (o : Tok) (h : far ≤ L.length) : (stepT L far o).2.2.1 ≤ (tokF L (f + 1) far o).2.1 := by
  have hs := stepT_far L far o h
  cases hb : (stepT L far o).2.1
  · rw [tokF_no hb]; exact Nat.le_refl _
  · rw [tokF_yes hb]; exact tokF_ge L f _ _ hs.2.1
/-- More behind a text: it goes no less far. -/
theorem tokF_app (L Y : List UInt8) : ∀ (f g far : Nat) (o o' : Tok), far ≤ L.length → L.length - far < f → L.length + Y.length - far < g → (tokF L f far o).2.1 ≤ (tokF (L ++ Y) g far o').2.1
  | 0, _, _, _, _, _, h, _ => by omega
  | _, 0, _, _, _, _, _, h => by omega
  | f + 1, g + 1, far, o, o', h, h1, h2 => by
    have hl : far ≤ (L ++ Y).length := by rw [List.length_append]; omega
    have e1 := tokF_len L (f + 1) far o h
    have e2 := tokF_step (L ++ Y) g far o' hl
    have e3 := stepT_farB (L ++ Y) far o'
    have hd : (L ++ Y).drop far = L.drop far ++ Y := List.drop_append_of_le_length h
    have hb := blanksN_app (L.drop far) Y
    have hB : farB L far ≤ farB (L ++ Y) far := by unfold farB; rw [hd]; omega
    by_cases hlt : farB L far < L.length
    · have hE : farB (L ++ Y) far = farB L far := by
        unfold farB at hlt ⊢
        rw [hd, hb.2 (by rw [List.length_drop]; omega)]
      have hdB : (L ++ Y).drop (farB L far) = L.drop (farB L far) ++ Y := List.drop_append_of_le_length (by omega)
      have hne : L.drop (farB L far) ≠ [] := by
        intro e
        have := congrArg List.length e
        rw [List.length_drop, List.length_nil] at this
        omega
      have hF := firstT_app (L.drop (farB L far)) Y hne
      have hFl := (firstT_le (L.drop (farB L far))).2
      rw [List.length_drop] at hF hFl
      have r1 : runeZ (L ++ Y) ((farB L far : Int) - 1) = runeZ L ((farB L far : Int) - 1) := runeZ_app L Y (by omega)
      have r2 : runeZ (L ++ Y) (farB L far : Int) = runeZ L (farB L far : Int) := runeZ_app L Y (by omega)
      have hS := stepT_far L far o h
      have hS' := stepT_far (L ++ Y) far o' hl
      by_cases hc : (firstT (L.drop (farB L far))).1.kind = 0 ∨ (wordZ (runeZ L ((farB L far : Int) - 1)) && wordZ (runeZ L (farB L far : Int))) = true
      · have hs : stepT L far o = (tok0, false, farB L far, o) := by unfold stepT; rw [if_pos hc]
        rw [tokF_no (by rw [hs]), hs]
        dsimp only
        omega
      · have hc' : ¬ ((firstT ((L ++ Y).drop (farB (L ++ Y) far))).1.kind = 0 ∨ (wordZ (runeZ (L ++ Y) ((farB (L ++ Y) far : Int) - 1)) && wordZ (runeZ (L ++ Y) (farB (L ++ Y) far : Int))) = true) := by
          rw [hE, hdB, r1, r2]
          rintro (hk | hk)
          · exact hF.1 (fun e => hc (.inl e)) hk
          · exact hc (.inr hk)
        have hfar' : (stepT (L ++ Y) far o').2.2.1 = (firstT (L.drop (farB L far) ++ Y)).1.fin + farB L far := by
          unfold stepT
          rw [if_neg hc', hE, hdB]
          split <;> rfl
        cases hw : (firstT (L.drop (farB L far))).2
        · have hs : (stepT L far o).2.1 = false ∧ (stepT L far o).2.2.1 = (firstT (L.drop (farB L far))).1.fin + farB L far := by
            unfold stepT; rw [if_neg hc, if_neg (by rw [hw]; simp)]; exact ⟨rfl, rfl⟩
          rw [tokF_no hs.1]
          dsimp only
          rw [hs.2]
          omega
        · have hs : (stepT L far o).2.1 = true ∧ (stepT L far o).2.2.1 = (firstT (L.drop (farB L far))).1.fin + farB L far := by
            unfold stepT; rw [if_neg hc, if_pos hw]; exact ⟨rfl, rfl⟩
          by_cases hend : (firstT (L.drop (farB L far))).1.fin < L.length - farB L far
          · obtain ⟨k1, k2⟩ := hF.2.2 hw hend
            have hs' : (stepT (L ++ Y) far o').2.1 = true := by
              unfold stepT; rw [if_neg hc', hE, hdB, if_pos k2]
            have q1 := hS.2.2 hs.1
            have q2 := hS'.2.2 hs'
            rw [tokF_yes hs.1, tokF_yes hs']
            dsimp only
            rw [k1] at hfar'
            rw [hfar', hs.2]
            rw [hs.2] at q1
            exact tokF_app L Y f g _ _ _ (by omega) (by omega) (by omega)
          · omega
    · have := (farB_le L far h).2
      omega
theorem tokT_app (L Y : List UInt8) : (tokT L).2.1 ≤ (tokT (L ++ Y)).2.1 :=
  tokF_app L Y _ _ 0 tok0 tok0 (Nat.zero_le _) (by omega) (by rw [List.length_append]; omega)
theorem tokT_le (L : List UInt8) : (tokT L).2.1 ≤ L.length := (tokF_len L _ 0 tok0 (Nat.zero_le _)).2
/-- One byte more: as far as it went, or by one byte further. -/
theorem lex_byte (L : List UInt8) (m : UInt8) :
    ((lexT L).2.2.2 ≠ 0 → (lexT L).2.2.1 ≤ (lexT (L ++ [m])).2.2.1) ∧
    ((lexT L).2.2.2 = 0 → (lexT L).2.2.1 = L.length ∧ ((lexT (L ++ [m])).2.2.1 = (lexT L).2.2.1 ∧ (lexT (L ++ [m])).2.2.2 ≠ 0 ∨ (lexT (L ++ [m])).2.2.1 = (lexT L).2.2.1 + 1)) := by
  have h1 := tokT_app L [m]
  have h2 := tokT_le L
  have h3 := tokT_le (L ++ [m])
  have f : ∀ l : List UInt8, (lexT l).2.2.1 = (tokT l).2.1 := fun l => by unfold lexT; split <;> rfl
  have z : ∀ l : List UInt8, (lexT l).2.2.2 = 0 → ¬ (tokT l).2.1 < l.length := fun l hz hlt => by
    unfold lexT at hz; rw [if_pos (.inl hlt)] at hz; simp at hz
  rw [List.length_append, List.length_singleton] at h3
  rw [f, f]
  refine ⟨fun _ => h1, fun hz => ?_⟩
  have := z L hz
  refine ⟨by omega, ?_⟩
  by_cases he : (tokT (L ++ [m])).2.1 = (tokT L).2.1
  · left
    refine ⟨he, fun hz' => ?_⟩
    have := z _ hz'
    rw [List.length_append, List.length_singleton] at this
    omega
  · right; omega
end Go.Proofs.YtioafeckaeaopaaDoor
