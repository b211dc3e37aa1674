/- The document's sign, word, longest. The document's word, plainly. No walk here. The document's sign, word, longest: the walks. -/
import Derived.Test.YtioafeckaeaopaaDoorV1
namespace Go.Proofs.YtioafeckaeaopaaDoor
open Go.RowKit Go.Maps

/-- The sign that a text begins with: its kind, how many bytes are there of those that it wants. -/
def signT : List UInt8 → Int × Int × Int
  | [] => (0, 0, 0)
  | c :: r => if c = 40 then (8, 1, 1) else if c = 41 then (9, 1, 1) else if c = 44 then (10, 1, 1) else if c = 46 then (11, 1, 1) else if c = 47 then (12, 1, 1)
    else if c = 58 then (if r.head? = some 45 then (13, 2, 2) else (13, 1, 2)) else if c = 33 then (if r.head? = some 61 then (14, 2, 2) else (14, 1, 2)) else (0, 0, 0)
theorem signT_cons (c : UInt8) (r : List UInt8) : signT (c :: r) = if c = 40 then (8, 1, 1) else if c = 41 then (9, 1, 1) else if c = 44 then (10, 1, 1) else if c = 46 then (11, 1, 1) else if c = 47 then (12, 1, 1)
    else if c = 58 then (if r.head? = some 45 then (13, 2, 2) else (13, 1, 2)) else if c = 33 then (if r.head? = some 61 then (14, 2, 2) else (14, 1, 2)) else (0, 0, 0) := rfl
theorem sign_eq (c : UInt8) (r : List UInt8) : (firstSignT (c :: r)).1 = ⟨(signT (c :: r)).1, [], 0, (signT (c :: r)).2.1.toNat⟩ ∧ 0 ≤ (signT (c :: r)).2.1 ∧ (signT (c :: r)).2.1 ≤ 2 ∧ ((signT (c :: r)).1 ≠ 0 → (firstSignT (c :: r)).2 = ((signT (c :: r)).2.1 == (signT (c :: r)).2.2)) := by
  rw [signT_cons]
  unfold firstSignT signs
  by_cases h1 : c = 40
  · subst h1; simp [signAt, commonN]
  by_cases h2 : c = 41
  · subst h2; simp [signAt, commonN]
  by_cases h3 : c = 44
  · subst h3; simp [signAt, commonN]
  by_cases h4 : c = 46
  · subst h4; simp [signAt, commonN]
  by_cases h5 : c = 47
  · subst h5; simp [signAt, commonN]
  by_cases h6 : c = 58
  · subst h6
    cases r with
    | nil => simp [signAt, commonN]
    | cons d r => by_cases hd : d = 45 <;> simp [signAt, commonN, hd]
  by_cases h7 : c = 33
  · subst h7
    cases r with
    | nil => simp [signAt, commonN]
    | cons d r => by_cases hd : d = 61 <;> simp [signAt, commonN, hd]
  simp [signAt, commonN, h1, h2, h3, h4, h5, h6, h7, tok0]

/-- The kind of a word; 0: it is none. -/
def wordW (l : List UInt8) : Nat := if resK l ≠ 0 then resK l else if numB l then 3 else if varB l then 2 else if nameB l then 1 else 0
theorem runF_pre (p : Int → Bool) : ∀ (n : Nat) (l : List UInt8) (m : Nat), m ≤ runF p n l → (l.take m).all (fun b => p (b.toNat : Int)) = true
  | 0, l, m, h => by simp [runF] at h; subst h; simp
  | n + 1, [], m, h => by simp
  | n + 1, b :: l, 0, h => by simp
  | n + 1, b :: l, m + 1, h => by
    unfold runF at h
    by_cases hb : p (b.toNat : Int) = true
    · rw [if_pos hb] at h
      have ih := runF_pre p n l m (by omega)
      simp only [List.take_succ_cons, List.all_cons, hb, ih, Bool.and_self]
    · rw [if_neg hb] at h; omega
theorem runF_bad (p : Int → Bool) : ∀ (n : Nat) (l : List UInt8), runF p n l < n → runF p n l < l.length → (l.take (runF p n l + 1)).all (fun b => p (b.toNat : Int)) = false
  | 0, l, h, _ => by omega
  | n + 1, [], _, h => by simp at h
  | n + 1, b :: l, h1, h2 => by
    have ih := runF_bad p n l
    have e : runF p (n + 1) (b :: l) = if p (b.toNat : Int) then runF p n l + 1 else 0 := rfl
    rw [e] at h1 h2 ⊢
    by_cases hb : p (b.toNat : Int) = true
    · rw [if_pos hb] at h1 h2 ⊢
      have := ih (by omega) (by simpa using h2)
      rw [List.take_succ_cons, List.all_cons, this, Bool.and_false]
    · rw [if_neg hb]
      simp [hb]
theorem rune_take (l : List UInt8) (m : Nat) (h : 1 ≤ m) : runeZ (l.take m) 0 = runeZ l 0 := by
  cases l with
  | nil => simp
  | cons b l => cases m with
    | zero => omega
    | succ m => simp [runeZ]
theorem allB_take (p : Int → Bool) (l : List UInt8) (m : Nat) (h1 : 1 ≤ m) (h2 : m ≤ runF p 64 l) : allB p (l.take m) = true := by
  have h3 := runF_le p 64 l
  unfold allB
  rw [runF_pre p 64 l m h2]
  simp only [List.length_take, Bool.true_and, Bool.and_eq_true, decide_eq_true_eq]
  omega
theorem allB_bad (p : Int → Bool) (l : List UInt8) (h1 : runF p 64 l < 64) (h2 : runF p 64 l < l.length) : allB p (l.take (runF p 64 l + 1)) = false := by
  unfold allB
  rw [runF_bad p 64 l h1 h2]
  rfl
theorem res_small {l : List UInt8} (h : smallZ (runeZ l 0) = false) : resK l = 0 := by
  unfold resK
  repeat' split
  · rename_i e; rw [e] at h; revert h; decide
  · rename_i e; rw [e] at h; revert h; decide
  · rename_i e; rw [e] at h; revert h; decide
  · rfl
theorem res_word {l : List UInt8} (h : resK l ≠ 0) : allB wordZ l = true := by
  unfold resK at h
  repeat' split at h
  · rename_i e; rw [e]; decide
  · rename_i e; rw [e]; decide
  · rename_i e; rw [e]; decide
  · exact absurd rfl h
theorem num_digit {l : List UInt8} (h : numB l = true) : digitZ (runeZ l 0) = true := by
  unfold numB allB at h
  cases l with
  | nil => simp at h
  | cons b l => simp only [List.all_cons, Bool.and_eq_true] at h; simpa [runeZ] using h.1.1.1
theorem digit_word {l : List UInt8} (h : allB digitZ l = true) : allB wordZ l = true := by
  unfold allB at *
  simp only [Bool.and_eq_true, List.all_eq_true] at *
  exact ⟨⟨fun x hx => by have := h.1.1 x hx; unfold wordZ; rw [this]; simp, h.1.2⟩, h.2⟩
/-- A beginning of a word that is no longer than the word. -/
theorem wordW_yes (l : List UInt8) (m : Nat) (h1 : 1 ≤ m) (h2 : m ≤ wordN l) : wordW (l.take m) ≠ 0 := by
  unfold wordN runN at h2
  unfold wordW
  by_cases hr : resK (l.take m) = 0
  · rw [if_neg (by simpa using hr)]
    cases hs : smallZ (runeZ l 0)
    · rw [hs] at h2
      cases hg : greatZ (runeZ l 0)
      · rw [hg] at h2
        cases hd : digitZ (runeZ l 0)
        · rw [hd] at h2; simp at h2; omega
        · rw [hd] at h2
          rw [if_pos (show numB (l.take m) = true from allB_take digitZ l m h1 (by simpa using h2))]; simp
      · rw [hg] at h2
        split
        · simp
        · rw [if_pos (show varB (l.take m) = true from by unfold varB; rw [allB_take wordZ l m h1 (by simpa using h2), rune_take l m h1, hg]; rfl)]; simp
    · rw [hs] at h2
      split
      · simp
      · split
        · simp
        · rw [if_pos (show nameB (l.take m) = true from by unfold nameB; rw [allB_take wordZ l m h1 (by simpa using h2), rune_take l m h1, hs, hr]; rfl)]; simp
  · rw [if_pos hr]; exact hr
theorem wordW_of {l : List UInt8} (h0 : wordW l ≠ 0) : (digitZ (runeZ l 0) = true ∧ allB digitZ l = true) ∨ (greatZ (runeZ l 0) = true ∧ allB wordZ l = true) ∨ (smallZ (runeZ l 0) = true ∧ allB wordZ l = true) := by
  unfold wordW at h0
  by_cases hr : resK l = 0
  · rw [if_neg (by simpa using hr)] at h0
    by_cases hn : numB l = true
    · exact .inl ⟨num_digit hn, hn⟩
    rw [if_neg hn] at h0
    by_cases hv : varB l = true
    · unfold varB at hv; rw [Bool.and_eq_true] at hv; exact .inr (.inl ⟨hv.2, hv.1⟩)
    rw [if_neg hv] at h0
    by_cases hm : nameB l = true
    · unfold nameB at hm; rw [Bool.and_eq_true, Bool.and_eq_true] at hm; exact .inr (.inr ⟨hm.1.2, hm.1.1⟩)
    rw [if_neg hm] at h0
    exact absurd rfl h0
  · refine .inr (.inr ⟨?_, res_word hr⟩)
    cases hs : smallZ (runeZ l 0)
    · exact absurd (res_small hs) hr
    · rfl
/-- One byte more than the longest word is none. -/
theorem wordW_no (l : List UInt8) (h1 : wordN l < 64) (h2 : wordN l < l.length) : wordW (l.take (wordN l + 1)) = 0 := by
  apply Decidable.byContradiction
  intro h0
  have h3 := wordW_of h0
  rw [rune_take l _ (by omega)] at h3
  rcases h3 with ⟨hd, ha⟩ | ⟨hg, ha⟩ | ⟨hs, ha⟩
  · have e : wordN l = runF digitZ 64 l := by unfold wordN runN; rw [(digitZ_not hd).1, (digitZ_not hd).2, hd]; rfl
    rw [e] at h1 h2 ha
    rw [allB_bad digitZ l h1 h2] at ha
    cases ha
  · have e : wordN l = runF wordZ 64 l := by unfold wordN runN; rw [(greatZ_not hg).1, hg]; rfl
    rw [e] at h1 h2 ha
    rw [allB_bad wordZ l h1 h2] at ha
    cases ha
  · have e : wordN l = runF wordZ 64 l := by unfold wordN runN; rw [hs]; rfl
    rw [e] at h1 h2 ha
    rw [allB_bad wordZ l h1 h2] at ha
    cases ha
/-- The longest word's kind. -/
theorem wordW_kind (l : List UInt8) (h : 1 ≤ wordN l) : wordW (l.take (wordN l)) = wordK l := by
  have h3 := wordW_yes l (wordN l) h (Nat.le_refl _)
  have hr := rune_take l (wordN l) h
  have hw : resK (l.take (wordN l)) = 0 → wordW (l.take (wordN l)) = if numB (l.take (wordN l)) then 3 else if varB (l.take (wordN l)) then 2 else if nameB (l.take (wordN l)) then 1 else 0 := fun h0 => by unfold wordW; rw [if_neg (by simpa using h0)]
  have hm : digitZ (runeZ l 0) = false → numB (l.take (wordN l)) = false := fun hd => by
    cases hm : numB (l.take (wordN l))
    · rfl
    · have := num_digit hm
      rw [hr, hd] at this
      cases this
  have hv : greatZ (runeZ l 0) = false → varB (l.take (wordN l)) = false := fun hd => by unfold varB; rw [hr, hd]; simp
  have hn : smallZ (runeZ l 0) = false → nameB (l.take (wordN l)) = false := fun hd => by unfold nameB; rw [hr, hd]; simp
  unfold wordK
  cases hs : smallZ (runeZ l 0)
  · have h0 : resK (l.take (wordN l)) = 0 := res_small (by rw [hr]; exact hs)
    have hw' := hw h0
    cases hg : greatZ (runeZ l 0)
    · rw [hv hg, hn hs] at hw'
      cases hd : digitZ (runeZ l 0)
      · rw [hm hd] at hw'
        exact absurd hw' h3
      · cases hk : numB (l.take (wordN l))
        · rw [hk] at hw'; exact absurd hw' h3
        · rw [hk] at hw'; simpa using hw'
    · rw [hm (greatZ_not hg).2, hn hs] at hw'
      cases hk : varB (l.take (wordN l))
      · rw [hk] at hw'; exact absurd hw' h3
      · rw [hk] at hw'; simpa using hw'
  · have e : wordN l = runN wordZ l := by unfold wordN; rw [hs]; rfl
    rw [← e]
    by_cases h0 : resK (l.take (wordN l)) = 0
    · have hw' := hw h0
      rw [hm (smallZ_not hs).2, hv (smallZ_not hs).1] at hw'
      cases hk : nameB (l.take (wordN l))
      · rw [hk] at hw'; exact absurd hw' h3
      · rw [hk] at hw'; rw [hw', h0]; rfl
    · simp only [if_true, h0, if_false]
      unfold wordW
      rw [if_pos h0]

set_option maxRecDepth 100000 in
set_option maxHeartbeats 1000000 in
theorem y_sign (s : ByteArray) (k : Nat) (hk : k < s.size) (w : World) (hs : s.size ≤ 140737488355328) :
    Calls Tryd.prog 47 #[.string s, .int .i64 (k : Int)] w fun e w' => e = .returned (.tuple #[.int .i64 (signT (s.data.toList.drop k)).1, .int .i64 (signT (s.data.toList.drop k)).2.1, .int .i64 (signT (s.data.toList.drop k)).2.2]) ∧ w' = w := by
  obtain ⟨c, hct, hd⟩ := byte_at s k hk
  have hki : (k : Int) < (s.size : Int) := by omega
  rw [hd, signT_cons]
  clear hd
  by_cases h40 : c = 40
  · rw [if_pos h40]
    rw [h40, show UInt8.toNat 40 = 40 from rfl] at hct
    clear h40
    go_enter Tryd.func47, Tryd.ntmps47
    go_wp2
    go_ret3
    exact ⟨rfl, rfl⟩
  rw [if_neg h40]
  have q40 := byte_ne h40
  rw [show ((UInt8.toNat 40 : Nat) : Int) = 40 from rfl] at q40
  by_cases h41 : c = 41
  · rw [if_pos h41]
    rw [h41, show UInt8.toNat 41 = 41 from rfl] at hct
    clear h40 q40 h41
    go_enter Tryd.func47, Tryd.ntmps47
    go_wp2
    go_ret3
    exact ⟨rfl, rfl⟩
  rw [if_neg h41]
  have q41 := byte_ne h41
  rw [show ((UInt8.toNat 41 : Nat) : Int) = 41 from rfl] at q41
  by_cases h44 : c = 44
  · rw [if_pos h44]
    rw [h44, show UInt8.toNat 44 = 44 from rfl] at hct
    clear h40 q40 h41 q41 h44
    go_enter Tryd.func47, Tryd.ntmps47
    go_wp2
    go_ret3
    exact ⟨rfl, rfl⟩
  rw [if_neg h44]
  have q44 := byte_ne h44
  rw [show ((UInt8.toNat 44 : Nat) : Int) = 44 from rfl] at q44
  by_cases h46 : c = 46
  · rw [if_pos h46]
    rw [h46, show UInt8.toNat 46 = 46 from rfl] at hct
    clear h40 q40 h41 q41 h44 q44 h46
    go_enter Tryd.func47, Tryd.ntmps47
    go_wp2
    go_ret3
    exact ⟨rfl, rfl⟩
  rw [if_neg h46]
  have q46 := byte_ne h46
  rw [show ((UInt8.toNat 46 : Nat) : Int) = 46 from rfl] at q46
  by_cases h47 : c = 47
  · rw [if_pos h47]
    rw [h47, show UInt8.toNat 47 = 47 from rfl] at hct
    clear h40 q40 h41 q41 h44 q44 h46 q46 h47
    go_enter Tryd.func47, Tryd.ntmps47
    go_wp2
    go_ret3
    exact ⟨rfl, rfl⟩
  rw [if_neg h47]
  have q47 := byte_ne h47
  rw [show ((UInt8.toNat 47 : Nat) : Int) = 47 from rfl] at q47
  by_cases h58 : c = 58
  · rw [if_pos h58]
    rw [h58, show UInt8.toNat 58 = 58 from rfl] at hct
    clear h40 q40 h41 q41 h44 q44 h46 q46 h47 q47 h58
    obtain ⟨k1, hk1⟩ : ∃ k1 : Nat, k1 = k + 1 := ⟨_, rfl⟩
    have w1 : IntKind.i64.wrap ((k : Int) + 1) = (k1 : Int) := by rw [IntKind.wrap_i64]; omega
    rw [← hk1]
    by_cases h1 : k1 < s.size
    · obtain ⟨e, het, hd⟩ := byte_at s k1 h1
      have hk1i : (k1 : Int) < (s.size : Int) := by omega
      rw [hd, List.head?_cons]
      clear hd
      by_cases he : e = 45
      · rw [if_pos (by rw [he])]
        rw [he, show UInt8.toNat 45 = 45 from rfl] at het
        clear hk1 he
        go_enter Tryd.func47, Tryd.ntmps47
        go_wp2
        go_ret3
        exact ⟨rfl, rfl⟩
      · rw [if_neg (by simpa using he)]
        have q := byte_ne he
        rw [show ((UInt8.toNat 45 : Nat) : Int) = 45 from rfl] at q
        clear hk1 he
        go_enter Tryd.func47, Tryd.ntmps47
        go_wp2
        go_ret3
        exact ⟨rfl, rfl⟩
    · rw [List.drop_eq_nil_of_le (by simpa using h1)]
      rw [if_neg (by simp)]
      have nk : ¬ (k1 : Int) < (s.size : Int) := by omega
      clear hk1
      go_enter Tryd.func47, Tryd.ntmps47
      go_wp2
      go_ret3
      exact ⟨rfl, rfl⟩
  rw [if_neg h58]
  have q58 := byte_ne h58
  rw [show ((UInt8.toNat 58 : Nat) : Int) = 58 from rfl] at q58
  by_cases h33 : c = 33
  · rw [if_pos h33]
    rw [h33, show UInt8.toNat 33 = 33 from rfl] at hct
    clear h40 q40 h41 q41 h44 q44 h46 q46 h47 q47 h58 q58 h33
    obtain ⟨k1, hk1⟩ : ∃ k1 : Nat, k1 = k + 1 := ⟨_, rfl⟩
    have w1 : IntKind.i64.wrap ((k : Int) + 1) = (k1 : Int) := by rw [IntKind.wrap_i64]; omega
    rw [← hk1]
    by_cases h1 : k1 < s.size
    · obtain ⟨e, het, hd⟩ := byte_at s k1 h1
      have hk1i : (k1 : Int) < (s.size : Int) := by omega
      rw [hd, List.head?_cons]
      clear hd
      by_cases he : e = 61
      · rw [if_pos (by rw [he])]
        rw [he, show UInt8.toNat 61 = 61 from rfl] at het
        clear hk1 he
        go_enter Tryd.func47, Tryd.ntmps47
        go_wp2
        go_ret3
        exact ⟨rfl, rfl⟩
      · rw [if_neg (by simpa using he)]
        have q := byte_ne he
        rw [show ((UInt8.toNat 61 : Nat) : Int) = 61 from rfl] at q
        clear hk1 he
        go_enter Tryd.func47, Tryd.ntmps47
        go_wp2
        go_ret3
        exact ⟨rfl, rfl⟩
    · rw [List.drop_eq_nil_of_le (by simpa using h1)]
      rw [if_neg (by simp)]
      have nk : ¬ (k1 : Int) < (s.size : Int) := by omega
      clear hk1
      go_enter Tryd.func47, Tryd.ntmps47
      go_wp2
      go_ret3
      exact ⟨rfl, rfl⟩
  rw [if_neg h33]
  have q33 := byte_ne h33
  rw [show ((UInt8.toNat 33 : Nat) : Int) = 33 from rfl] at q33
  clear h40 h41 h44 h46 h47 h58 h33
  go_enter Tryd.func47, Tryd.ntmps47
  go_wp2
  go_ret3
  exact ⟨rfl, rfl⟩

set_option maxRecDepth 100000 in
set_option maxHeartbeats 1000000 in
theorem y_word (s : ByteArray) (w : World) (hs : s.size ≤ 140737488355328) : Calls Tryd.prog 49 #[.string s] w fun e w' => e = .returned (.int .i64 (wordW s.data.toList : Nat)) ∧ w' = w := by
  have k1 := y_Number s w hs
  have k2 := y_Variable s w hs
  have k3 := y_Name s w hs
  obtain ⟨L, hL⟩ : ∃ L, s.data.toList = L := ⟨_, rfl⟩
  rw [hL] at k1 k2 k3 ⊢
  rw [show allB digitZ L = numB L from rfl] at k1
  unfold wordW resK
  by_cases h0 : L = bInput
  · have t0 := toList_yes (hL.trans h0)
    rw [if_pos h0, if_pos (by decide)]
    unfold bInput at t0
    clear h0 hL k1 k2 k3
    go_enter Tryd.func49, Tryd.ntmps49
    go_wp2
    go_ret
    exact ⟨rfl, rfl⟩
  have t0 := toList_ne hL h0
  rw [if_neg h0]
  unfold bInput at t0
  by_cases h1 : L = bOutput
  · have t1 := toList_yes (hL.trans h1)
    rw [if_pos h1, if_pos (by decide)]
    unfold bOutput at t1
    clear h0 h1 hL k1 k2 k3
    go_enter Tryd.func49, Tryd.ntmps49
    go_wp2
    go_ret
    exact ⟨rfl, rfl⟩
  have t1 := toList_ne hL h1
  rw [if_neg h1]
  unfold bOutput at t1
  by_cases h2 : L = bNot
  · have t2 := toList_yes (hL.trans h2)
    rw [if_pos h2, if_pos (by decide)]
    unfold bNot at t2
    clear h0 h1 h2 hL k1 k2 k3
    go_enter Tryd.func49, Tryd.ntmps49
    go_wp2
    go_ret
    exact ⟨rfl, rfl⟩
  have t2 := toList_ne hL h2
  rw [if_neg h2]
  unfold bNot at t2
  rw [if_neg (by simp)]
  clear h0 h1 h2 hL
  generalize numB L = x1 at *
  generalize varB L = x2 at *
  generalize nameB L = x3 at *
  cases x1 <;> cases x2 <;> cases x3
  all_goals
    go_enter Tryd.func49, Tryd.ntmps49
    go_wp2_with (first
      | (go_at_call 22; refine k1.mono ?_; rintro e w' ⟨rfl, rfl⟩)
      | (go_at_call 20; refine k2.mono ?_; rintro e w' ⟨rfl, rfl⟩)
      | (go_at_call 16; refine k3.mono ?_; rintro e w' ⟨rfl, rfl⟩))
    go_ret
    exact ⟨rfl, rfl⟩

theorem take_extract (s : ByteArray) (k j : Nat) : (s.extract k (k + j)).data.toList = (s.data.toList.drop k).take j := by
  rw [Lib.extract_data]; simp
set_option maxRecDepth 100000 in
set_option maxHeartbeats 1000000 in
theorem y_longest (s : ByteArray) (k : Nat) (hk : k < s.size) (w : World) (hs : s.size ≤ 16777216) :
    Calls Tryd.prog 48 #[.string s, .int .i64 (k : Int)] w fun e w' => e = .returned (.int .i64 ((k + wordN (s.data.toList.drop k) : Nat) : Int)) ∧ w' = w := by
  obtain ⟨l, hl⟩ : ∃ l, s.data.toList.drop k = l := ⟨_, rfl⟩
  have hll : l.length = s.size - k := by rw [← hl, List.length_drop]; simp
  have hle := wordN_le l
  rw [hl]
  have HL : Hid (s.data.toList.drop k = l ∧ l.length = s.size - k ∧ k < s.size ∧ s.size ≤ 16777216) := ⟨hl, hll, hk, hs⟩
  have hyes := wordW_yes l
  have hno := wordW_no l
  have hwd := fun (j : Nat) (W : World) (hj : k + j ≤ s.size) => y_word (s.extract k (k + j)) W (by rw [ByteArray.size_extract]; omega)
  simp only [take_extract, hl] at hwd
  obtain ⟨N, hN⟩ : ∃ N, wordN l = N := ⟨_, rfl⟩
  rw [hN] at hle hyes hno ⊢
  have HY : Hid (N ≤ 64 ∧ N ≤ l.length ∧ (∀ m, 1 ≤ m → m ≤ N → wordW (l.take m) ≠ 0) ∧ (N < 64 → N < l.length → wordW (l.take (N + 1)) = 0)) := ⟨hle.1, hle.2, hyes, hno⟩
  clear hl hll hle hyes hno hN
  have wk : IntKind.i64.wrap ((k : Int) + 64) = (k : Int) + 64 := by rw [IntKind.wrap_i64]; omega
  have wk1 : IntKind.i64.wrap ((k : Int) + 1) = ((k + 0 + 1 : Nat) : Int) := by rw [IntKind.wrap_i64]; omega
  obtain ⟨i1, hi1⟩ : ∃ i1 : Nat, i1 = k + 0 + 1 := ⟨_, rfl⟩
  rw [← hi1] at wk1
  have HI : Hid (i1 = k + 0 + 1) := hi1
  clear hi1
  go_enter Tryd.func48, Tryd.ntmps48
  go_wp2
  go_loopw [5, 6] (fun en i wr => wr = w ∧ ∃ j m i' : Nat, j ≤ N ∧ m = k + j ∧ i' = k + j + 1 ∧ en = .int .i64 (m : Int) ∧ i = .int .i64 (i' : Int)) (fun _ i _ => s.size + 1 - (intOf i).toNat)
  case atStart => exact ⟨rfl, 0, k, i1, Nat.zero_le _, rfl, HI.out, rfl, rfl⟩
  case round =>
    obtain ⟨rfl, j, m, i, hj, hm, hi, rfl, rfl⟩ := hrel
    have HJ : Hid (j ≤ N ∧ m = k + j ∧ i = k + j + 1) := ⟨hj, hm, hi⟩
    by_cases h1 : i ≤ s.size
    · have g1 : (i : Int) ≤ (s.size : Int) := by omega
      by_cases h2 : i ≤ k + 64
      · have g2 : (i : Int) ≤ (k : Int) + 64 := by omega
        have g3 : (k : Int) ≤ (i : Int) := by omega
        have hw := hwd (j + 1) wr (by omega)
        rw [show k + (j + 1) = i by omega] at hw
        by_cases hjN : j < N
        · have h0 := HY.out.2.2.1 (j + 1) (by omega) (by omega)
          generalize wordW (l.take (j + 1)) = K at *
          have q : ((K : Int) == 0) = false := by simpa using h0
          obtain ⟨i2, hi2⟩ : ∃ i2 : Nat, i2 = i + 1 := ⟨_, rfl⟩
          have wi : IntKind.i64.wrap ((i : Int) + 1) = (i2 : Int) := by rw [IntKind.wrap_i64]; have := HL.out; omega
          have H2 : Hid (i2 = k + (j + 1) + 1 ∧ i = k + (j + 1) ∧ j + 1 ≤ N) := ⟨by omega, by omega, hjN⟩
          clear hj hm hi h0 hi2 hjN h1 h2
          go_wp2_with (go_at_call 49; refine hw.mono ?_; rintro e w' ⟨rfl, rfl⟩)
          go_roundw
          case rel => exact ⟨by trivial, j + 1, i, i2, H2.out.2.2, H2.out.2.1, H2.out.1, rfl, rfl⟩
          case measure => have h3 := H2.out; have h4 := HJ.out; simp [intOf]; omega
        · obtain rfl : j = N := by omega
          have h0 := HY.out.2.2.2 (by omega) (by have := HL.out.2.1; omega)
          rw [h0] at hw
          have H2 : Hid (m = k + j) := hm
          clear hj hm hi h0 hjN h1 h2
          go_wp2_with (go_at_call 49; refine hw.mono ?_; rintro e w' ⟨rfl, rfl⟩)
          go_ret
          exact ⟨by rw [H2.out]; rfl, rfl⟩
      · have g2 : ¬ (i : Int) ≤ (k : Int) + 64 := by omega
        have H2 : Hid (m = k + N) := by have := HY.out.1; show m = k + N; omega
        clear hj hm hi h1 h2
        go_wp2
        go_ret
        exact ⟨by rw [H2.out]; rfl, rfl⟩
    · have g1 : ¬ (i : Int) ≤ (s.size : Int) := by omega
      have H2 : Hid (m = k + N) := by have := HY.out.2.1; have := HL.out; show m = k + N; omega
      clear hj hm hi h1
      go_wp2
      go_ret
      exact ⟨by rw [H2.out]; rfl, rfl⟩
end Go.Proofs.YtioafeckaeaopaaDoor
