/- The tokens of a text, one behind the other; a text cut where it goes no further. No walk here. -/
import Derived.Test.YtioafeckaeaopaaDoorYQ
namespace Go.Proofs.YtioafeckaeaopaaDoor
open Go.RowKit Go.Maps

/-- Tokens one behind the other, from a place on, none behind far; each one's bytes alone are a row of it. -/
def Ch (L : List UInt8) (far : Nat) : Nat → List Tok → Prop
  | _, [] => True
  | a, t :: ts => (a ≤ t.at_ ∧ t.at_ < t.fin ∧ t.fin ≤ far ∧ lexT ((L.drop t.at_).take (t.fin - t.at_)) = ([⟨t.kind, t.text, 0, t.fin - t.at_⟩], tok0, t.fin - t.at_, 0)) ∧ Ch L far t.fin ts
/-- Where the last of them ends. -/
def lastE : Nat → List Tok → Nat
  | a, [] => a
  | _, t :: ts => lastE t.fin ts
/-- What is open: nothing, or a token behind the last one, up to where the text goes. -/
def OpenAt (a far : Nat) (o : Tok) : Prop := o = tok0 ∨ o.kind ≠ 0 ∧ a ≤ o.at_ ∧ o.fin = far ∧ o.text = []
theorem signAt_text (l : List UInt8) : ∀ (S : List (List UInt8)) (k : Nat), (signAt l k S).1.text = []
  | [], _ => rfl
  | s :: S, k => by
    rw [signAt_cons]
    split
    · rfl
    · exact signAt_text l S (k + 1)
theorem firstT_open (l : List UInt8) (hw : (firstT l).2 = false) : (firstT l).1.text = [] := by
  unfold firstT at hw ⊢
  split
  · rename_i h1
    rw [if_pos h1] at hw
    cases hw
  · rename_i h1
    rw [if_neg h1] at hw
    split
    · rename_i h2
      rw [if_pos h2] at hw
      unfold firstStringT unquoteT fin at hw ⊢
      dsimp only at hw ⊢
      split
      · rename_i c
        rw [if_pos c] at hw
        cases hw
      · rfl
    · exact signAt_text l signs 0
theorem tokF_ch (L : List UInt8) : ∀ (f far : Nat) (o : Tok), far ≤ L.length → Ch L (tokF L f far o).2.1 far (tokF L f far o).1 ∧ (o = tok0 → OpenAt (lastE far (tokF L f far o).1) (tokF L f far o).2.1 (tokF L f far o).2.2)
  | 0, far, o, _ => ⟨trivial, fun h => .inl h⟩
  | f + 1, far, o, h => by
    have hs := stepT_far L far o h
    have hB := farB_le L far h
    have h0 := (firstT_le (L.drop (farB L far))).1
    by_cases hc : (firstT (L.drop (farB L far))).1.kind = 0 ∨ (wordZ (runeZ L ((farB L far : Int) - 1)) && wordZ (runeZ L (farB L far : Int))) = true
    · have e : stepT L far o = (tok0, false, farB L far, o) := by unfold stepT; rw [if_pos hc]
      rw [tokF_no (by rw [e]), e]
      exact ⟨trivial, fun h => .inl h⟩
    · have hk : (firstT (L.drop (farB L far))).1.kind ≠ 0 := fun e => hc (.inl e)
      cases hw : (firstT (L.drop (farB L far))).2
      · have e : stepT L far o = (tok0, false, (firstT (L.drop (farB L far))).1.fin + farB L far, (firstT (L.drop (farB L far))).1.move (farB L far)) := by
          unfold stepT; rw [if_neg hc, if_neg (by rw [hw]; simp)]
        rw [tokF_no (by rw [e]), e]
        refine ⟨trivial, fun _ => .inr ⟨hk, ?_, rfl, firstT_open _ hw⟩⟩
        show far ≤ (firstT (L.drop (farB L far))).1.at_ + farB L far
        omega
      · have e : stepT L far o = ((firstT (L.drop (farB L far))).1.move (farB L far), true, (firstT (L.drop (farB L far))).1.fin + farB L far, o) := by
          unfold stepT; rw [if_neg hc, if_pos hw]
        have hlo := lex_own _ (blanks_done L far) hk hw
        have hp := firstT_pos _ hk
        rw [e] at hs
        dsimp only at hs
        have ih := tokF_ch L f ((firstT (L.drop (farB L far))).1.fin + farB L far) o hs.2.1
        have hge := tokF_ge L f ((firstT (L.drop (farB L far))).1.fin + farB L far) o hs.2.1
        rw [tokF_yes (by rw [e]), e]
        dsimp only
        refine ⟨⟨⟨?_, ?_, hge, ?_⟩, ih.1⟩, ih.2⟩
        · show far ≤ (firstT (L.drop (farB L far))).1.at_ + farB L far
          omega
        · show (firstT (L.drop (farB L far))).1.at_ + farB L far < (firstT (L.drop (farB L far))).1.fin + farB L far
          omega
        · dsimp only [Tok.move]
          rw [h0, Nat.zero_add, Nat.add_sub_cancel, hlo]
          have : (firstT (L.drop (farB L far))).1 = ⟨(firstT (L.drop (farB L far))).1.kind, (firstT (L.drop (farB L far))).1.text, 0, (firstT (L.drop (farB L far))).1.fin⟩ := by
            generalize (firstT (L.drop (farB L far))).1 = t at h0
            obtain ⟨t1, t2, t3, t4⟩ := t
            dsimp only at h0
            rw [h0]
          rw [← this]
theorem tokF_take (L : List UInt8) : ∀ (f g far F : Nat) (o : Tok), far ≤ L.length → L.length - far < f → (tokF L f far o).2.1 = F → F - far < g → tokF (L.take F) g far o = tokF L f far o
  | 0, _, _, _, _, _, h, _, _ => by omega
  | _, 0, _, _, _, _, _, _, h => by omega
  | f + 1, g + 1, far, F, o, h, h1, hF, h2 => by
    have hs := stepT_far L far o h
    have hB := farB_le L far h
    have hst := tokF_step L f far o h
    have hfb := stepT_farB L far o
    have hFl := (tokF_len L (f + 1) far o h).2
    rw [hF] at hst hFl
    have hlen : (L.take F).length = F := by rw [List.length_take]; omega
    have hd : (L.take F).drop far = (L.drop far).take (F - far) := List.drop_take
    have hfB : farB (L.take F) far = farB L far := by
      unfold farB at hfb ⊢
      rw [hd, blanksN_take_ge _ _ (by omega)]
    have hdB : (L.take F).drop (farB L far) = (L.drop (farB L far)).take (F - farB L far) := List.drop_take
    by_cases hc : (firstT (L.drop (farB L far))).1.kind = 0 ∨ (wordZ (runeZ L ((farB L far : Int) - 1)) && wordZ (runeZ L (farB L far : Int))) = true
    · have e : stepT L far o = (tok0, false, farB L far, o) := by unfold stepT; rw [if_pos hc]
      have hFB : farB L far = F := by
        rw [tokF_no (by rw [e]), e] at hF
        exact hF
      have e2 : stepT (L.take F) far o = (tok0, false, farB L far, o) := by
        unfold stepT
        rw [hfB, if_pos (.inl (by rw [hdB, hFB, Nat.sub_self, List.take_zero]; exact firstT_nil))]
      have a1 : tokF L (f + 1) far o = ([], farB L far, o) := by rw [tokF_no (by rw [e]), e]
      have a2 : tokF (L.take F) (g + 1) far o = ([], farB L far, o) := by rw [tokF_no (by rw [e2]), e2]
      rw [a1, a2]
    · have hk : (firstT (L.drop (farB L far))).1.kind ≠ 0 := fun e => hc (.inl e)
      have hp := firstT_pos _ hk
      have hfin : (stepT L far o).2.2.1 = (firstT (L.drop (farB L far))).1.fin + farB L far := by
        unfold stepT
        rw [if_neg hc]
        split <;> rfl
      have hft : firstT ((L.take F).drop (farB L far)) = firstT (L.drop (farB L far)) := by
        rw [hdB]
        exact firstT_take _ _ hk (by omega)
      have hr : ∀ i : Int, i < (F : Int) → runeZ (L.take F) i = runeZ L i := fun i hi => by
        have := runeZ_app (L.take F) (L.drop F) (i := i) (by rw [hlen]; exact hi)
        rw [List.take_append_drop] at this
        exact this.symm
      have e : stepT (L.take F) far o = stepT L far o := by
        unfold stepT
        rw [hfB, hft, hr _ (by omega), hr _ (by omega)]
      cases hb : (stepT L far o).2.1
      · rw [tokF_no hb, tokF_no (by rw [e]; exact hb), e]
      · have hlt := hs.2.2 hb
        rw [tokF_yes hb] at hF ⊢
        dsimp only at hF
        rw [tokF_yes (by rw [e]; exact hb), e]
        rw [tokF_take L f g (stepT L far o).2.2.1 F (stepT L far o).2.2.2 hs.2.1 (by omega) hF (by omega)]
/-- What Tokens tells of a text, as P7.6 asks it. -/
theorem lex_pieces (L : List UInt8) : (lexT L).2.2.1 ≤ L.length ∧ ((lexT L).2.2.2 = 0 ∧ (lexT L).2.2.1 = L.length ∧ (lexT L).2.1 = tok0 ∨ (lexT L).2.2.2 = 11) ∧ Ch L (lexT L).2.2.1 0 (lexT L).1 ∧ OpenAt (lastE 0 (lexT L).1) (lexT L).2.2.1 (lexT L).2.1 ∧
    lexT (L.take (lexT L).2.2.1) = ((lexT L).1, (lexT L).2.1, (lexT L).2.2.1, if (lexT L).2.1.kind = 0 then 0 else 11) := by
  have hle := tokT_le L
  have hch := tokF_ch L (L.length + 1) 0 tok0 (Nat.zero_le _)
  have ho : OpenAt (lastE 0 (tokT L).1) (tokT L).2.1 (tokT L).2.2 := hch.2 rfl
  have hc1 : Ch L (tokT L).2.1 0 (tokT L).1 := hch.1
  have hlen : (L.take (tokT L).2.1).length = (tokT L).2.1 := by rw [List.length_take]; omega
  have ht : tokT (L.take (tokT L).2.1) = tokT L := by
    show tokF (L.take (tokT L).2.1) ((L.take (tokT L).2.1).length + 1) 0 tok0 = _
    exact tokF_take L (L.length + 1) _ 0 _ tok0 (Nat.zero_le _) (by omega) rfl (by omega)
  have hlt : lexT (L.take (tokT L).2.1) = if (tokT L).2.2.kind ≠ 0 then ((tokT L).1, (tokT L).2.2, (tokT L).2.1, 11) else ((tokT L).1, tok0, (tokT L).2.1, 0) := by
    unfold lexT
    rw [ht, hlen]
    by_cases hk : (tokT L).2.2.kind ≠ 0
    · rw [if_pos (.inr hk), if_pos hk]
    · rw [if_neg (by rintro (q | q); omega; exact hk q), if_neg hk]
  by_cases hc : (tokT L).2.1 < L.length ∨ (tokT L).2.2.kind ≠ 0
  · have e : lexT L = ((tokT L).1, (tokT L).2.2, (tokT L).2.1, 11) := by unfold lexT; rw [if_pos hc]
    rw [e]
    dsimp only
    refine ⟨hle, .inr rfl, hc1, ho, ?_⟩
    rw [hlt]
    by_cases hk : (tokT L).2.2.kind ≠ 0
    · rw [if_pos hk, if_neg hk]
    · rw [if_neg hk, if_pos (by simpa using hk)]
      rcases ho with q | q
      · rw [q]
      · exact absurd q.1 hk
  · have e : lexT L = ((tokT L).1, tok0, (tokT L).2.1, 0) := by unfold lexT; rw [if_neg hc]
    rw [e]
    dsimp only
    have hk : ¬ (tokT L).2.2.kind ≠ 0 := fun q => hc (.inr q)
    refine ⟨hle, .inl ⟨rfl, ?_, rfl⟩, hc1, .inl rfl, ?_⟩
    · have : ¬ (tokT L).2.1 < L.length := fun q => hc (.inl q)
      omega
    · rw [hlt, if_neg hk]
      rfl
end Go.Proofs.YtioafeckaeaopaaDoor
