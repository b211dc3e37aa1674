/- A constant comes back from its string, plainly. -/
import Derived.Test.YtioafeckaeaopaaDoorYE
namespace Go.Proofs.YtioafeckaeaopaaDoor
open Go.RowKit Go.Maps

/-- A text that is one token. -/
theorem lex_one {L : List UInt8} {t : Tok} (h1 : firstT L = (t, true)) (h2 : blanksN L = 0) (h3 : t.kind ≠ 0) (h5 : t.fin = L.length) : lexT L = ([t], tok0, L.length, 0) := by
  have h0 : (firstT L).1.at_ = 0 := (firstT_le L).1
  rw [h1] at h0
  dsimp only at h0
  have hp : 1 ≤ L.length := by
    have := firstT_pos L (by rw [h1]; exact h3)
    rw [h1] at this; dsimp only at this; omega
  have hf : farB L 0 = 0 := by unfold farB; rw [List.drop_zero, h2]
  have hm : t.move 0 = t := by unfold Tok.move; simp
  have s1 : stepT L 0 tok0 = (t, true, L.length, tok0) := by
    unfold stepT
    rw [hf, List.drop_zero, h1]
    have hw : wordZ (runeZ L (((0 : Nat) : Int) - 1)) = false := by rw [runeZ_neg L (by decide)]; decide
    rw [hw]
    dsimp only
    rw [if_neg (by simpa using h3), if_pos rfl, hm, h5]
    simp
  have hf2 : farB L L.length = L.length := by unfold farB; rw [List.drop_length]; rfl
  have s2 : stepT L L.length tok0 = (tok0, false, L.length, tok0) := by
    unfold stepT
    rw [hf2, List.drop_length]
    rw [if_pos (.inl (by decide))]
  obtain ⟨n, hn⟩ : ∃ n, L.length = n + 1 := ⟨L.length - 1, by omega⟩
  have htk : tokT L = ([t], L.length, tok0) := by
    unfold tokT
    rw [tokF_yes (by rw [s1]), s1]
    dsimp only
    have hx : tokF L L.length L.length tok0 = ([], L.length, tok0) := by
      conv => lhs; arg 2; rw [hn]
      rw [tokF_no (by rw [s2]), s2]
    rw [hx]
  unfold lexT
  rw [htk]
  dsimp only
  rw [if_neg (by simp [tok0])]

theorem put_skip (b : UInt8) (n m : Nat) (r : R) : skip n (put b m r) = put b (n + m) r := by simp [skip, put, Nat.add_assoc]
theorem hexV_hexs : ∀ n : Fin 16, hexV ((hexs.getD n.val 0).toNat : Int) = (n.val : Int) := by decide
/-- A piece is read as its byte. -/
theorem unq_piece (c : Nat) (b : UInt8) (X : List UInt8) (hc : c ≠ 1024) : unqP c (pieceL b ++ X) = put b (pieceL b).length (unqP (c + 1) X) := by
  unfold pieceL
  by_cases h1 : b = 34 ∨ b = 92
  · rw [if_pos h1]
    show unqP c (92 :: b :: X) = _
    rw [unqP, if_neg (by decide), if_neg hc, if_pos rfl, unqE, if_pos h1, put_skip]
    rfl
  · rw [if_neg h1]
    by_cases h2 : b = 10
    · subst h2
      rw [if_pos rfl]
      show unqP c (92 :: 110 :: X) = _
      rw [unqP, if_neg (by decide), if_neg hc, if_pos rfl, unqE, if_neg (by decide), if_pos rfl, put_skip]
      rfl
    · rw [if_neg h2]
      by_cases h3 : b = 9
      · subst h3
        rw [if_pos rfl]
        show unqP c (92 :: 116 :: X) = _
        rw [unqP, if_neg (by decide), if_neg hc, if_pos rfl, unqE, if_neg (by decide), if_neg (by decide), if_pos rfl, put_skip]
        rfl
      · rw [if_neg h3]
        by_cases h4 : plainZ (b.toNat : Int) = true
        · rw [if_pos h4]
          show unqP c (b :: X) = _
          rw [unqP, if_neg (fun e => h1 (.inl e)), if_neg hc, if_neg (fun e => h1 (.inr e)), if_pos h4]
          rfl
        · rw [if_neg h4]
          have hb : b.toNat < 256 := UInt8.toNat_lt b
          have v1 := hexV_hexs ⟨b.toNat / 16, by omega⟩
          have v2 := hexV_hexs ⟨b.toNat % 16, by omega⟩
          dsimp only at v1 v2
          show unqP c (92 :: 120 :: hexs.getD (b.toNat / 16) 0 :: hexs.getD (b.toNat % 16) 0 :: X) = _
          rw [unqP, if_neg (by decide), if_neg hc, if_pos rfl, unqE, if_neg (by decide), if_neg (by decide), if_neg (by decide), if_pos rfl, unqD, v1, v2, if_neg (by omega), if_neg (by omega)]
          rw [show (16 * ((b.toNat / 16 : Nat) : Int) + ((b.toNat % 16 : Nat) : Int)).toNat = b.toNat by omega]
          rw [show b.toNat.toUInt8 = b by simp]
          rw [put_skip, put_skip]
          rfl
theorem unq_pieces : ∀ (l : List UInt8) (c : Nat) (X : List UInt8), c + l.length ≤ 1024 → unqP c (l.flatMap pieceL ++ 34 :: X) = (l, (l.flatMap pieceL).length + 1, true)
  | [], c, X, _ => by
    rw [List.flatMap_nil, List.nil_append, unqP, if_pos rfl]; rfl
  | b :: l, c, X, h => by
    rw [List.flatMap_cons, List.append_assoc, unq_piece c b _ (by simp at h; omega), unq_pieces l (c + 1) X (by simp at h; omega)]
    simp only [put, List.length_append, Prod.mk.injEq, and_true]
    exact ⟨trivial, by omega⟩
theorem quoteL_len (l : List UInt8) : (quoteL l).length = (l.flatMap pieceL).length + 2 := by unfold quoteL; simp
theorem lex_quote (l : List UInt8) (h : l.length ≤ 1024) : lexT (quoteL l) = ([⟨4, l, 0, (quoteL l).length⟩], tok0, (quoteL l).length, 0) := by
  have hu : unquoteT (quoteL l) = (l, (quoteL l).length, true) := by
    unfold unquoteT
    rw [show (quoteL l).drop 1 = l.flatMap pieceL ++ 34 :: [] from rfl, unq_pieces l 0 [] (by omega)]
    unfold fin
    rw [if_pos rfl, quoteL_len]
    simp only [List.nil_append, Prod.mk.injEq, and_true, true_and]
    omega
  refine lex_one ?_ ?_ (by simp) rfl
  · unfold firstT
    rw [show runeZ (quoteL l) 0 = 34 from rfl, if_neg (by decide), if_pos rfl]
    unfold firstStringT
    rw [hu]
  · unfold blanksN quoteL
    rw [show ((34 : UInt8) :: (l.flatMap pieceL ++ [34])).length + 1 = (l.flatMap pieceL ++ [34]).length + 1 + 1 from rfl, blanksF_cons, if_neg (by decide), if_neg (by decide)]
theorem blanks_word {l : List UInt8} (h : wordZ (runeZ l 0) = true) : blanksN l = 0 := by
  cases l with
  | nil => rfl
  | cons b l =>
    have hb : wordZ (b.toNat : Int) = true := by simpa [runeZ] using h
    have hn : ∀ c : UInt8, wordZ (c.toNat : Int) = false → b ≠ c := fun c hc e => by rw [e, hc] at hb; simp at hb
    unfold blanksN
    rw [show (b :: l).length + 1 = l.length + 1 + 1 from rfl, blanksF_cons, if_neg, if_neg (hn 37 (by decide))]
    unfold blankB
    simp [hn 32 (by decide), hn 9 (by decide), hn 10 (by decide), hn 13 (by decide)]
theorem lex_name (l : List UInt8) (h : nameB l = true) : lexT l = ([⟨1, l, 0, l.length⟩], tok0, l.length, 0) := by
  have hw := word1_eq l
  rw [h, Bool.and_eq_true, decide_eq_true_eq, decide_eq_true_eq] at hw
  have hk : wordK l = 1 := by omega
  have hn : wordN l = l.length := by omega
  have hsm : smallZ (runeZ l 0) = true := by unfold nameB at h; simp at h; exact h.1.2
  refine lex_one ?_ (blanks_word (wordZ_of_small hsm)) (by simp) rfl
  unfold firstT
  rw [hsm]
  simp only [Bool.true_or, if_true]
  unfold firstWordT
  rw [hk, hn, List.take_length]
  rfl
theorem lex_number (l : List UInt8) (h : numB l = true) : lexT l = ([⟨3, l, 0, l.length⟩], tok0, l.length, 0) := by
  have hw := word3_eq l
  rw [h, Bool.and_eq_true, decide_eq_true_eq, decide_eq_true_eq] at hw
  have hk : wordK l = 3 := by omega
  have hn : wordN l = l.length := by omega
  have hd : digitZ (runeZ l 0) = true := by
    unfold numB allB at h
    simp at h
    cases l with
    | nil => simp at h
    | cons b l => simpa [runeZ] using h.1.1 b (by simp)
  refine lex_one ?_ (blanks_word (by unfold wordZ; rw [hd]; simp)) (by simp) rfl
  unfold firstT
  rw [hd]
  simp only [Bool.or_true, if_true]
  unfold firstWordT
  rw [hk, hn, List.take_length]
  rfl
theorem name_not_num {l : List UInt8} (h : nameB l = true) : numB l = false := by
  cases hn : numB l with
  | false => rfl
  | true =>
    have a := lex_name l h
    rw [lex_number l hn] at a
    simp at a
theorem pieces_ge (l : List UInt8) : l.length ≤ (l.flatMap pieceL).length := by
  induction l with
  | nil => simp
  | cons b l ih => have := pieceL_len b; rw [List.flatMap_cons, List.length_append, List.length_cons]; omega
/-- What Show tells is read as one token: its kind. -/
def showK (l : List UInt8) : Int := if nameB l then 1 else if numB l then 3 else 4
theorem lex_show (l : List UInt8) (h : l.length ≤ 1024) : lexT (showT l).1 = ([⟨showK l, l, 0, (showT l).1.length⟩], tok0, (showT l).1.length, 0) ∧ (showT l).2 = 0 ∧ (showT l).1.length ≤ (quoteL l).length := by
  have hg := pieces_ge l
  have hq := quoteL_len l
  unfold showT showK
  cases hn : nameB l
  · cases hm : numB l
    · simp only [Bool.or_false, Bool.false_eq_true, if_false]
      unfold quoteT
      rw [if_pos h]
      exact ⟨lex_quote l h, rfl, Nat.le_refl _⟩
    · simp only [Bool.or_true, if_true, Bool.false_eq_true, if_false]
      exact ⟨lex_number l hm, trivial, by omega⟩
  · simp only [Bool.true_or, if_true]
    exact ⟨lex_name l hn, trivial, by omega⟩
theorem show_long (l : List UInt8) (h : ¬ l.length ≤ 1024) : showT l = ([], 3) := by
  have h1 : nameB l = false := by unfold nameB allB; rw [show decide (l.length ≤ 64) = false from decide_eq_false (by omega)]; simp
  have h2 : numB l = false := by unfold numB allB; rw [show decide (l.length ≤ 64) = false from decide_eq_false (by omega)]; simp
  unfold showT
  rw [h1, h2]
  simp only [Bool.or_false, Bool.false_eq_true, if_false]
  unfold quoteT
  rw [if_neg h]
end Go.Proofs.YtioafeckaeaopaaDoor
