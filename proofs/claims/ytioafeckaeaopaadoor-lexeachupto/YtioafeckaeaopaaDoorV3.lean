/- The document's next. The document's next: the walk. Which tokens are words, by their last byte. No walk here. -/
import Derived.Test.YtioafeckaeaopaaDoorV2
import Derived.Test.YtioafeckaeaopaaDoorXT
import Derived.Test.YtioafeckaeaopaaDoorYI
namespace Go.Proofs.YtioafeckaeaopaaDoor
open Go.RowKit Go.Maps

/-- The document's token at a place. -/
def nextT (l : List UInt8) (k : Nat) : Tok := if (firstT l).1.kind = 0 then tok0 else (firstT l).1.move k
theorem signAt_none (l : List UInt8) : ∀ (S : List (List UInt8)) (k : Nat), (signAt l k S).1.kind = 0 → signAt l k S = (tok0, false)
  | [], _, _ => rfl
  | s :: S, k, h => by
    rw [signAt_cons] at h ⊢
    split
    · rename_i hc; rw [if_pos hc] at h; dsimp only at h; omega
    · rename_i hc; rw [if_neg hc] at h; exact signAt_none l S (k + 1) h
theorem unquote_no {l : List UInt8} (h : (unquoteT l).2.2 = false) : (unquoteT l).1 = [] := by
  unfold unquoteT fin at *
  split
  · rename_i hc; rw [if_pos hc] at h; cases h
  · rfl
/-- The three ways of the document's next. -/
theorem next_str {l : List UInt8} {r : List UInt8} (hl : l = 34 :: r) : firstT l = (⟨4, (unquoteT l).1, 0, (unquoteT l).2.1⟩, (unquoteT l).2.2) := by
  have hr : runeZ l 0 = 34 := by rw [hl]; rfl
  unfold firstT
  rw [hr, if_neg (by decide), if_pos rfl]
  rfl
theorem next_sign {c : UInt8} {r : List UInt8} (hs : (signT (c :: r)).1 ≠ 0) : firstT (c :: r) = (⟨(signT (c :: r)).1, [], 0, (signT (c :: r)).2.1.toNat⟩, (signT (c :: r)).2.1 == (signT (c :: r)).2.2) := by
  have e := sign_eq c r
  have hc : c = 40 ∨ c = 41 ∨ c = 44 ∨ c = 46 ∨ c = 47 ∨ c = 58 ∨ c = 33 := by
    apply Decidable.byContradiction
    intro hn
    simp only [not_or] at hn
    apply hs
    rw [signT_cons, if_neg hn.1, if_neg hn.2.1, if_neg hn.2.2.1, if_neg hn.2.2.2.1, if_neg hn.2.2.2.2.1, if_neg hn.2.2.2.2.2.1, if_neg hn.2.2.2.2.2.2]
  have h2 := e.2.2.2 hs
  have hf : firstT (c :: r) = firstSignT (c :: r) := by
    unfold firstT
    have hr : runeZ (c :: r) 0 = (c.toNat : Int) := by simp [runeZ]
    rw [hr]
    rcases hc with rfl | rfl | rfl | rfl | rfl | rfl | rfl <;> rfl
  rw [hf, ← e.1, ← h2]
theorem next_none {c : UInt8} {r : List UInt8} (h34 : c ≠ 34) (hs : (signT (c :: r)).1 = 0) (hw : wordN (c :: r) = 0) : firstT (c :: r) = (tok0, false) := by
  have e := sign_eq c r
  unfold firstT
  rw [if_neg (fun h => by have := wordN_pos (c :: r) h; omega)]
  have hr : runeZ (c :: r) 0 = (c.toNat : Int) := by simp [runeZ]
  rw [if_neg (by rw [hr]; intro h; exact h34 (UInt8.toNat_inj.1 (by simpa using (by omega : c.toNat = 34))))]
  exact signAt_none _ _ _ (by have := e.1; unfold firstSignT at this; rw [this]; exact hs)
theorem next_word {l : List UInt8} (hw : 1 ≤ wordN l) : firstT l = (firstWordT l, true) := by
  unfold firstT
  rw [if_pos]
  unfold wordN at hw
  cases h1 : smallZ (runeZ l 0)
  · cases h2 : greatZ (runeZ l 0)
    · cases h3 : digitZ (runeZ l 0)
      · rw [h1, h2, h3] at hw; simp at hw
      · rfl
    · rfl
  · rfl

theorem y_isWord (k : Int) (w : World) : Calls Tryd.prog 32 #[.int .i64 k] w fun e w' => e = .returned (.bool (decide (1 ≤ k) && decide (k ≤ 7) && !(k == 4))) ∧ w' = w := by
  by_cases h1 : 1 ≤ k
  · by_cases h2 : k ≤ 7
    · by_cases h3 : k = 4
      · subst h3
        go_enter Tryd.func32, Tryd.ntmps32
        go_wp2
        go_ret
        exact ⟨rfl, rfl⟩
      · have h4 : (k == 4) = false := by simpa using h3
        have h5 : (k != 4) = true := by rw [bne, h4]; rfl
        rw [h4, decide_eq_true h1, decide_eq_true h2]
        clear h3 h4
        go_enter Tryd.func32, Tryd.ntmps32
        go_wp2
        go_ret
        exact ⟨rfl, rfl⟩
    · rw [decide_eq_false h2]
      go_enter Tryd.func32, Tryd.ntmps32
      go_wp2
      go_ret
      exact ⟨by simp, rfl⟩
  · rw [decide_eq_false h1]
    go_enter Tryd.func32, Tryd.ntmps32
    go_wp2
    go_ret
    exact ⟨by simp, rfl⟩

set_option maxRecDepth 100000 in
set_option maxHeartbeats 4000000 in
theorem y_next (s : ByteArray) (k : Nat) (hk : k < s.size) (w : World) (hs : s.size ≤ 16777216) :
    Calls Tryd.prog 31 #[.string s, .int .i64 (k : Int)] w fun e w' => e = .returned (.tuple #[(nextT (s.data.toList.drop k) k).val, .int .i64 ((k + (firstT (s.data.toList.drop k)).1.fin : Nat) : Int), .bool (firstT (s.data.toList.drop k)).2]) ∧ Stay w w' := by
  have hstr := fun W => y_str s k hk W hs
  have hsig := fun W => y_sign s k hk W (by omega)
  have hlon := fun W => y_longest s k hk W hs
  have hwd := fun (j : Nat) (W : World) (hj : k + j ≤ s.size) => y_word (s.extract k (k + j)) W (by rw [ByteArray.size_extract]; omega)
  simp only [take_extract] at hwd
  have hxs : ∀ j, s.extract k (k + j) = ⟨((s.data.toList.drop k).take j).toArray⟩ := fun j => by
    apply ByteArray.ext
    rw [← take_extract]
  have hsl : s.data.toList.length = s.size := by simp
  have hki : (k : Int) < (s.size : Int) := by omega
  obtain ⟨c, hct, hd⟩ := byte_at s k hk
  unfold nextT
  by_cases h34 : c = 34
  · have hf := next_str (l := s.data.toList.drop k) (by rw [hd, h34])
    rw [hf]
    rw [h34, show UInt8.toNat 34 = 34 from rfl] at hct
    have hno := unquote_no (l := s.data.toList.drop k)
    unfold strT at hstr
    generalize unquoteT (s.data.toList.drop k) = U at *
    obtain ⟨u1, u2, u3⟩ := U
    dsimp only [Tok.move] at *
    rw [if_neg (by omega)]
    obtain ⟨kk, hkk⟩ : ∃ kk : Nat, kk = k + u2 := ⟨_, rfl⟩
    rw [← hkk] at hstr ⊢
    have HK : Hid (kk = k + u2) := hkk
    clear hkk hsig hlon hwd hxs hsl hd hf h34
    cases u3
    · obtain rfl := hno rfl
      rw [if_neg (by simp)] at hstr
      dsimp only [Tok.val, Tok.cells, tok0] at hstr ⊢
      go_enter Tryd.func31, Tryd.ntmps31
      go_wp2_with (go_at_call 46; refine (hstr _).mono ?_; rintro e w2 ⟨rfl, hs2⟩; have ha := stay_of_new hs2; obtain ⟨a0, a1, a2, a3, a4, a5, a6, a7⟩ := four ha; have hlt2 : w.heap.size < w2.heap.size := (Array.getElem?_eq_some_iff.1 ha).1; have HS : Hid (Stay w w2 ∧ w2.heap[w.heap.size]? = some (.cells #[.int .i64 0, .string ⟨#[]⟩, .int .i64 0, .int .i64 0] 25 (0, 0))) := ⟨(Stay.new _ _).trans hs2, ha⟩; clear hs2 ha)
      obtain ⟨q0, q1, q2, q3, -⟩ := four ((Below.heap_alloc _ (.cells #[.int .i64 0, .string ⟨#[]⟩, .int .i64 0, .int .i64 0] 25) w.heap.size (by simpa using hlt2)).trans (set4 HS.out.2 (.int .i64 4) (.string ⟨#[]⟩) (.int .i64 (k : Int)) (.int .i64 (kk : Int))))
      refine bodyPost_ret (v := .tuple #[.agg #[.int .i64 4, .string ⟨#[]⟩, .int .i64 (k : Int), .int .i64 (kk : Int)], .int .i64 (kk : Int), .bool false]) (by simp [results, Tryd.results31, go_sem, q0, q1, q2, q3]) rfl ⟨?_, ?_⟩
      · have := HK.out; simp; omega
      · refine Stay.alloc ?_ _
        repeat (refine stay_set ?_ (by simp) _)
        exact HS.out.1
    · rw [if_pos rfl] at hstr
      dsimp only [Tok.val, Tok.cells, tok0] at hstr ⊢
      clear hno
      go_enter Tryd.func31, Tryd.ntmps31
      go_wp2_with (go_at_call 46; refine (hstr _).mono ?_; rintro e w2 ⟨rfl, hs2⟩; have ha := stay_of_new hs2; obtain ⟨a0, a1, a2, a3, a4, a5, a6, a7⟩ := four ha; have hlt2 : w.heap.size < w2.heap.size := (Array.getElem?_eq_some_iff.1 ha).1; have HS : Hid (Stay w w2 ∧ w2.heap[w.heap.size]? = some (.cells #[.int .i64 0, .string ⟨#[]⟩, .int .i64 0, .int .i64 0] 25 (0, 0))) := ⟨(Stay.new _ _).trans hs2, ha⟩; clear hs2 ha)
      obtain ⟨q0, q1, q2, q3, -⟩ := four ((Below.heap_alloc _ (.cells #[.int .i64 4, .string ⟨u1.toArray⟩, .int .i64 (k : Int), .int .i64 (kk : Int)] 25) w.heap.size (by simpa using hlt2)).trans (set4 HS.out.2 (.int .i64 4) (.string ⟨u1.toArray⟩) (.int .i64 (k : Int)) (.int .i64 (kk : Int))))
      refine bodyPost_ret (v := .tuple #[.agg #[.int .i64 4, .string ⟨u1.toArray⟩, .int .i64 (k : Int), .int .i64 (kk : Int)], .int .i64 (kk : Int), .bool true]) (by simp [results, Tryd.results31, go_sem, q0, q1, q2, q3]) rfl ⟨?_, ?_⟩
      · have := HK.out; simp; omega
      · refine Stay.alloc ?_ _
        repeat (refine stay_set ?_ (by simp) _)
        exact HS.out.1
  have q34 := byte_ne h34
  rw [show ((UInt8.toNat 34 : Nat) : Int) = 34 from rfl] at q34
  have hsq := sign_eq c (s.data.toList.drop (k + 1))
  by_cases hs0 : (signT (c :: s.data.toList.drop (k + 1))).1 = 0
  · by_cases hw0 : wordN (c :: s.data.toList.drop (k + 1)) = 0
    · rw [hd, next_none h34 hs0 hw0]
      rw [hd] at hsig hlon
      rw [hw0] at hlon
      rw [hs0] at hsig
      generalize signT (c :: s.data.toList.drop (k + 1)) = S at *
      obtain ⟨s1, s2, s3⟩ := S
      dsimp only at *
      rw [if_pos (show tok0.kind = 0 from rfl)]
      dsimp only [Tok.val, Tok.cells, tok0]
      have hkk : ((k : Int) == (k : Int)) = true := by simp
      clear hsq hwd hxs hsl hd h34 hstr hs0 hw0
      go_enter Tryd.func31, Tryd.ntmps31
      go_wp2_with (first
        | (go_at_call 47; refine (hsig _).mono ?_; rintro e w' ⟨rfl, rfl⟩)
        | (go_at_call 48; refine (hlon _).mono ?_; rintro e w' ⟨rfl, rfl⟩))
      refine bodyPost_ret (v := .tuple #[.agg #[.int .i64 0, .string ⟨#[]⟩, .int .i64 0, .int .i64 0], .int .i64 (k : Int), .bool false]) (by simp [results, Tryd.results31, go_sem]) rfl ⟨rfl, ?_⟩
      repeat (refine stay_set ?_ (by simp) _)
      exact Stay.new _ _
    · have hw1 : 1 ≤ wordN (c :: s.data.toList.drop (k + 1)) := by omega
      have hkd := wordW_kind _ hw1
      have hwl := wordN_le (c :: s.data.toList.drop (k + 1))
      have hlr : (c :: s.data.toList.drop (k + 1)).length = s.size - k := by rw [← hd, List.length_drop, hsl]
      rw [hd, next_word hw1]
      rw [hd] at hsig hlon
      rw [hs0] at hsig
      have hw := fun W => hwd (wordN (c :: s.data.toList.drop (k + 1))) W (by omega)
      have hx := hxs (wordN (c :: s.data.toList.drop (k + 1)))
      rw [hd] at hw hx
      rw [hkd] at hw
      unfold firstWordT
      have hk0 : wordK (c :: s.data.toList.drop (k + 1)) ≠ 0 := by rw [← hkd]; exact wordW_yes _ _ hw1 (Nat.le_refl _)
      generalize signT (c :: s.data.toList.drop (k + 1)) = S at *
      obtain ⟨s1, s2, s3⟩ := S
      generalize wordK (c :: s.data.toList.drop (k + 1)) = K at *
      generalize (c :: s.data.toList.drop (k + 1)).take (wordN (c :: s.data.toList.drop (k + 1))) = T at *
      generalize wordN (c :: s.data.toList.drop (k + 1)) = n at *
      dsimp only [Tok.move] at *
      rw [if_neg (by omega)]
      obtain ⟨kk, hkk⟩ : ∃ kk : Nat, kk = k + n := ⟨_, rfl⟩
      rw [← hkk] at hlon hw hx
      have HX : Hid (s.extract k kk = ⟨T.toArray⟩ ∧ kk = k + n) := ⟨hx, hkk⟩
      have g0 : ((kk : Int) == (k : Int)) = false := by simp; omega
      have g1 : (k : Int) ≤ (kk : Int) := by omega
      have g2 : (kk : Int) ≤ (s.size : Int) := by omega
      clear hsq hwd hxs hsl hd h34 hstr hs0 hw0 hw1 hkd hwl hlr hx hkk
      by_cases h123 : K = 1 ∨ K = 2 ∨ K = 3
      · rw [if_pos h123]
        rcases h123 with rfl | rfl | rfl
        all_goals
          go_enter Tryd.func31, Tryd.ntmps31
          go_wp2_with (first
            | (go_at_call 47; refine (hsig _).mono ?_; rintro e w' ⟨rfl, rfl⟩)
            | (go_at_call 48; refine (hlon _).mono ?_; rintro e w' ⟨rfl, rfl⟩)
            | (go_at_call 49; refine (hw _).mono ?_; rintro e w' ⟨rfl, rfl⟩))
        · refine bodyPost_ret (v := .tuple #[.agg #[.int .i64 1, .string (s.extract k kk), .int .i64 (k : Int), .int .i64 (kk : Int)], .int .i64 (kk : Int), .bool true]) (by simp [results, Tryd.results31, go_sem]) rfl ⟨?_, ?_⟩
          · have := HX.out.2; rw [HX.out.1]; simp [Tok.val, Tok.cells]; omega
          · repeat (refine stay_set ?_ (by simp) _)
            exact (Stay.new _ _).alloc _
        · refine bodyPost_ret (v := .tuple #[.agg #[.int .i64 2, .string (s.extract k kk), .int .i64 (k : Int), .int .i64 (kk : Int)], .int .i64 (kk : Int), .bool true]) (by simp [results, Tryd.results31, go_sem]) rfl ⟨?_, ?_⟩
          · have := HX.out.2; rw [HX.out.1]; simp [Tok.val, Tok.cells]; omega
          · repeat (refine stay_set ?_ (by simp) _)
            exact (Stay.new _ _).alloc _
        · refine bodyPost_ret (v := .tuple #[.agg #[.int .i64 3, .string (s.extract k kk), .int .i64 (k : Int), .int .i64 (kk : Int)], .int .i64 (kk : Int), .bool true]) (by simp [results, Tryd.results31, go_sem]) rfl ⟨?_, ?_⟩
          · have := HX.out.2; rw [HX.out.1]; simp [Tok.val, Tok.cells]; omega
          · repeat (refine stay_set ?_ (by simp) _)
            exact (Stay.new _ _).alloc _
      · rw [if_neg h123]
        have e1 : ((K : Int) == 1) = false := by simp; omega
        have e2 : ((K : Int) == 2) = false := by simp; omega
        have e3 : ((K : Int) == 3) = false := by simp; omega
        clear h123 hk0
        go_enter Tryd.func31, Tryd.ntmps31
        go_wp2_with (first
          | (go_at_call 47; refine (hsig _).mono ?_; rintro e w' ⟨rfl, rfl⟩)
          | (go_at_call 48; refine (hlon _).mono ?_; rintro e w' ⟨rfl, rfl⟩)
          | (go_at_call 49; refine (hw _).mono ?_; rintro e w' ⟨rfl, rfl⟩))
        refine bodyPost_ret (v := .tuple #[.agg #[.int .i64 (K : Int), .string ⟨#[]⟩, .int .i64 (k : Int), .int .i64 (kk : Int)], .int .i64 (kk : Int), .bool true]) (by simp [results, Tryd.results31, go_sem]) rfl ⟨?_, ?_⟩
        · have := HX.out.2; simp [Tok.val, Tok.cells]; omega
        · repeat (refine stay_set ?_ (by simp) _)
          exact (Stay.new _ _).alloc _
  · rw [hd, next_sign hs0]
    rw [hd] at hsig
    generalize signT (c :: s.data.toList.drop (k + 1)) = S at *
    obtain ⟨s1, s2, s3⟩ := S
    dsimp only [Tok.move] at *
    rw [if_neg hs0]
    obtain ⟨kk, hkk⟩ : ∃ kk : Nat, kk = k + s2.toNat := ⟨_, rfl⟩
    have wk : IntKind.i64.wrap ((k : Int) + s2) = (kk : Int) := by rw [IntKind.wrap_i64]; omega
    have g0 : (s1 == 0) = false := by simpa using hs0
    have g1 : (s1 != 0) = true := by rw [bne, g0]; rfl
    have HK : Hid (kk = k + s2.toNat) := hkk
    clear hsq hwd hxs hsl hd h34 hstr hs0 hkk g0
    go_enter Tryd.func31, Tryd.ntmps31
    go_wp2_with (go_at_call 47; refine (hsig _).mono ?_; rintro e w' ⟨rfl, rfl⟩)
    refine bodyPost_ret (v := .tuple #[.agg #[.int .i64 s1, .string ⟨#[]⟩, .int .i64 (k : Int), .int .i64 (kk : Int)], .int .i64 (kk : Int), .bool (s2 == s3)]) (by simp [results, Tryd.results31, go_sem]) rfl ⟨?_, ?_⟩
    · have := HK.out; simp [Tok.val, Tok.cells]; omega
    · repeat (refine stay_set ?_ (by simp) _)
      exact Stay.new _ _

def isWordB (k : Int) : Bool := decide (1 ≤ k) && decide (k ≤ 7) && !(k == 4)
/-- Behind blanks that end within the text stands a byte that is in no word. -/
theorem blanksF_last : ∀ (n : Nat) (l : List UInt8), l.length < n → 0 < blanksF n l → blanksF n l < l.length → wordZ (runeZ l ((blanksF n l : Int) - 1)) = false
  | 0, _, h, _, _ => by omega
  | _ + 1, [], _, h, _ => by simp [blanksF] at h
  | n + 1, b :: l, h1, h2, h3 => by
    rw [blanksF_cons] at h2 h3 ⊢
    by_cases hb : blankB b = true
    · rw [if_pos hb] at h2 h3 ⊢
      by_cases h0 : blanksF n l = 0
      · rw [h0]
        have : runeZ (b :: l) (((0 + 1 : Nat) : Int) - 1) = (b.toNat : Int) := by simp [runeZ]
        rw [this]
        unfold blankB at hb
        simp only [Bool.or_eq_true, beq_iff_eq] at hb
        rcases hb with ((rfl | rfl) | rfl) | rfl <;> decide
      · have ih := blanksF_last n l (by simpa using h1) (by omega) (by simpa using h3)
        rw [← ih]
        congr 1
        obtain ⟨m, hm⟩ : ∃ m, blanksF n l = m + 1 := ⟨blanksF n l - 1, by omega⟩
        rw [hm, show (((m + 1 + 1 : Nat) : Int) - 1) = ((m + 1 : Nat) : Int) by omega, show (((m + 1 : Nat) : Int) - 1) = ((m : Nat) : Int) by omega, runeZ_nat, runeZ_nat]
        simp
    · rw [if_neg hb] at h2 h3 ⊢
      by_cases h37 : b = 37
      · rw [if_pos h37] at h2 h3 ⊢
        have hp := remarkN_pos l b h37
        have hle := remarkN_le (b :: l)
        generalize hm : remarkN (b :: l) = m at *
        generalize b :: l = X at *
        have hd : (X.drop m).length < n := by rw [List.length_drop]; omega
        by_cases h0 : blanksF n (X.drop m) = 0
        · exfalso
          rw [h0] at h3
          have hmX : m < X.length := by omega
          have h10 : X[m] = 10 := by
            have : ∀ (Y : List UInt8) (k : Nat) (h : k < Y.length), remarkN Y = k → Y[k] = 10 := by
              intro Y
              induction Y with
              | nil => intro k h; simp at h
              | cons a Y ih =>
                intro k h hk
                unfold remarkN at hk
                by_cases ha : a = 10
                · rw [if_pos ha] at hk; subst hk; simpa using ha
                · rw [if_neg ha] at hk
                  subst hk
                  simpa using ih (remarkN Y) (by simpa using h) rfl
            exact this X m hmX hm
          rw [List.drop_eq_getElem_cons hmX] at h0 hd
          cases n with
          | zero => omega
          | succ n => rw [blanksF_cons, h10, if_pos (by decide)] at h0; omega
        · have ih := blanksF_last n (X.drop m) hd (by omega) (by rw [List.length_drop]; omega)
          rw [← ih]
          congr 1
          obtain ⟨j, hj⟩ : ∃ j, blanksF n (X.drop m) = j + 1 := ⟨blanksF n (X.drop m) - 1, by omega⟩
          rw [hj, show (((m + (j + 1) : Nat) : Int) - 1) = ((m + j : Nat) : Int) by omega, show (((j + 1 : Nat) : Int) - 1) = ((j : Nat) : Int) by omega, runeZ_nat, runeZ_nat, List.getElem?_drop]
      · rw [if_neg h37] at h2; omega
theorem farB_last (L : List UInt8) (far : Nat) (h : far < farB L far) (h2 : farB L far < L.length) : wordZ (runeZ L ((farB L far : Int) - 1)) = false := by
  obtain ⟨k, hk⟩ : ∃ k, blanksN (L.drop far) = k := ⟨_, rfl⟩
  have hB : farB L far = far + k := by unfold farB; rw [hk]
  rw [hB] at h h2 ⊢
  have ih := blanksF_last ((L.drop far).length + 1) (L.drop far) (Nat.lt_succ_self _)
  rw [show blanksF ((L.drop far).length + 1) (L.drop far) = k from hk] at ih
  have ih2 := ih (by omega) (by rw [List.length_drop]; omega)
  rw [← ih2]
  congr 1
  obtain ⟨j, rfl⟩ : ∃ j, k = j + 1 := ⟨k - 1, by omega⟩
  rw [show (((far + (j + 1) : Nat) : Int) - 1) = ((far + j : Nat) : Int) by omega, show (((j + 1 : Nat) : Int) - 1) = ((j : Nat) : Int) by omega, runeZ_nat, runeZ_nat, List.getElem?_drop]
/-- A string that is closed ends with a quotation mark. -/
def EndsQ (r : R) (l : List UInt8) : Prop := r.2.2 = true → ∃ p, l.take r.2.1 = p ++ [34]
theorem EndsQ.skip1 {r : R} {l : List UInt8} (h : EndsQ r l) (b : UInt8) : EndsQ (skip 1 r) (b :: l) := fun hw => by
  obtain ⟨p, hp⟩ := h hw
  refine ⟨b :: p, ?_⟩
  show (b :: l).take (1 + r.2.1) = _
  rw [Nat.add_comm, List.take_succ_cons, hp]; rfl
theorem EndsQ.put1 {r : R} {l : List UInt8} (h : EndsQ r l) (x b : UInt8) : EndsQ (put x 1 r) (b :: l) := fun hw => by
  obtain ⟨p, hp⟩ := h hw
  refine ⟨b :: p, ?_⟩
  show (b :: l).take (1 + r.2.1) = _
  rw [Nat.add_comm, List.take_succ_cons, hp]; rfl
theorem EndsQ.put2 {r : R} {l : List UInt8} (h : EndsQ r l) (x b c : UInt8) : EndsQ (put x 2 r) (b :: c :: l) := fun hw => by
  obtain ⟨p, hp⟩ := h hw
  refine ⟨b :: c :: p, ?_⟩
  show (b :: c :: l).take (2 + r.2.1) = _
  rw [Nat.add_comm, show r.2.1 + 2 = r.2.1 + 1 + 1 from rfl, List.take_succ_cons, List.take_succ_cons, hp]; rfl
theorem EndsQ.no (n : Nat) (l : List UInt8) : EndsQ (no n) l := fun h => by cases h
mutual
theorem unqP_ends : ∀ (c : Nat) (l : List UInt8), EndsQ (unqP c l) l
  | _, [] => EndsQ.no _ _
  | c, b :: l => by
    have h1 := unqE_ends c l
    have h2 := unqP_ends (c + 1) l
    unfold unqP
    by_cases hb : b = 34
    · rw [if_pos hb]; exact fun _ => ⟨[], by rw [hb]; rfl⟩
    rw [if_neg hb]
    by_cases hc : c = 1024
    · rw [if_pos hc]; exact EndsQ.no _ _
    rw [if_neg hc]
    by_cases h92 : b = 92
    · rw [if_pos h92]; exact h1.skip1 b
    rw [if_neg h92]
    by_cases hp : plainZ (b.toNat : Int) = true
    · rw [if_pos hp]; exact h2.put1 b b
    · rw [if_neg hp]; exact EndsQ.no _ _
theorem unqE_ends : ∀ (c : Nat) (l : List UInt8), EndsQ (unqE c l) l
  | _, [] => EndsQ.no _ _
  | c, e :: l => by
    have h1 := unqD_ends c l
    have h2 := unqP_ends (c + 1) l
    unfold unqE
    by_cases h34 : e = 34 ∨ e = 92
    · rw [if_pos h34]; exact h2.put1 e e
    rw [if_neg h34]
    by_cases h110 : e = 110
    · rw [if_pos h110]; exact h2.put1 10 e
    rw [if_neg h110]
    by_cases h116 : e = 116
    · rw [if_pos h116]; exact h2.put1 9 e
    rw [if_neg h116]
    by_cases h120 : e = 120
    · rw [if_pos h120]; exact h1.skip1 e
    · rw [if_neg h120]; exact EndsQ.no _ _
theorem unqD_ends : ∀ (c : Nat) (l : List UInt8), EndsQ (unqD c l) l
  | _, [] => EndsQ.no _ _
  | _, [h] => by
    unfold unqD
    split
    · exact EndsQ.no _ _
    · exact EndsQ.no _ _
  | c, h :: g :: l => by
    have h2 := unqP_ends (c + 1) l
    unfold unqD
    by_cases hh : hexV (h.toNat : Int) < 0
    · rw [if_pos hh]; exact EndsQ.no _ _
    rw [if_neg hh]
    by_cases hg : hexV (g.toNat : Int) < 0
    · rw [if_pos hg]; exact EndsQ.no _ _
    · rw [if_neg hg]; exact h2.put2 _ h g
end
theorem rune_take_last (l p : List UInt8) (n : Nat) (x : UInt8) (hn : n ≤ l.length) (h : l.take n = p ++ [x]) : runeZ l ((n : Int) - 1) = (x.toNat : Int) := by
  have hl : n = p.length + 1 := by
    have := congrArg List.length h
    simp at this; omega
  have e : l[p.length]? = some x := by
    have h1 : (l.take n)[p.length]? = some x := by rw [h]; simp
    rw [List.getElem?_take_of_lt (by omega)] at h1
    exact h1
  rw [hl, show (((p.length + 1 : Nat) : Int) - 1) = ((p.length : Nat) : Int) by omega, runeZ_nat, e]
theorem unquote_last (l : List UInt8) (h1 : 1 ≤ l.length) (h : (unquoteT l).2.2 = true) : runeZ l (((unquoteT l).2.1 : Int) - 1) = 34 := by
  have hle := (unquoteT_le l h1).2
  have e2 : (unquoteT l).2.1 = 1 + (unqP 0 (l.drop 1)).2.1 := fin_far _ _ _
  have e3 : (unqP 0 (l.drop 1)).2.2 = true := by
    unfold unquoteT fin at h
    split at h
    · rename_i hc; exact hc
    · cases h
  obtain ⟨p, hp⟩ := unqP_ends 0 (l.drop 1) e3
  cases l with
  | nil => simp at h1
  | cons b l =>
    refine rune_take_last (b :: l) (b :: p) _ 34 hle ?_
    rw [e2, Nat.add_comm, List.take_succ_cons, List.drop_one, List.tail_cons] at *
    rw [hp]; rfl
theorem rune_run (p : Int → Bool) (l : List UInt8) (n : Nat) (h1 : 1 ≤ n) (h2 : n ≤ runF p 64 l) : p (runeZ l ((n : Int) - 1)) = true := by
  have h3 := runF_le p 64 l
  have ha := runF_pre p 64 l n h2
  obtain ⟨j, rfl⟩ : ∃ j, n = j + 1 := ⟨n - 1, by omega⟩
  have hj : j < l.length := by omega
  rw [show (((j + 1 : Nat) : Int) - 1) = ((j : Nat) : Int) by omega, runeZ_in hj]
  rw [List.take_succ_eq_append_getElem hj, List.all_append, Bool.and_eq_true] at ha
  simpa using ha.2
theorem wordZ_digit {r : Int} (h : digitZ r = true) : wordZ r = true := by unfold wordZ; rw [h]; simp
theorem word_last (l : List UInt8) (h : 1 ≤ wordN l) : wordZ (runeZ l ((wordN l : Int) - 1)) = true := by
  cases h1 : smallZ (runeZ l 0)
  · cases h2 : greatZ (runeZ l 0)
    · cases h3 : digitZ (runeZ l 0)
      · unfold wordN at h; rw [h1, h2, h3] at h; simp at h
      · have e : wordN l = runF digitZ 64 l := by unfold wordN runN; rw [h1, h2, h3]; rfl
        rw [e] at h ⊢
        exact wordZ_digit (rune_run digitZ l _ h (Nat.le_refl _))
    · have e : wordN l = runF wordZ 64 l := by unfold wordN runN; rw [h1, h2]; rfl
      rw [e] at h ⊢
      exact rune_run wordZ l _ h (Nat.le_refl _)
  · have e : wordN l = runF wordZ 64 l := by unfold wordN runN; rw [h1]; rfl
    rw [e] at h ⊢
    exact rune_run wordZ l _ h (Nat.le_refl _)
theorem wordK_word (l : List UInt8) (h : wordK l ≠ 0) : isWordB (wordK l : Int) = true := by
  have hk : wordK l = 1 ∨ wordK l = 2 ∨ wordK l = 3 ∨ wordK l = 5 ∨ wordK l = 6 ∨ wordK l = 7 := by
    unfold wordK resK at *
    repeat' split
    all_goals first | (simp; done) | simp_all
  rcases hk with hk | hk | hk | hk | hk | hk <;> rw [hk] <;> decide
/-- Of a token that is whole: it is a word, just if its last byte may stand in one. -/
theorem first_last (l : List UInt8) (hl : 1 ≤ l.length) (hk : (firstT l).1.kind ≠ 0) (hw : (firstT l).2 = true) : wordZ (runeZ l (((firstT l).1.fin : Int) - 1)) = isWordB (firstT l).1.kind := by
  cases l with
  | nil => simp at hl
  | cons c r =>
    by_cases h34 : c = 34
    · have hf := next_str (l := c :: r) (r := r) (by rw [h34])
      rw [hf] at hw ⊢
      dsimp only at hw ⊢
      rw [unquote_last _ hl hw]
      decide
    · by_cases hs : (signT (c :: r)).1 = 0
      · by_cases hn : wordN (c :: r) = 0
        · rw [next_none h34 hs hn] at hw; cases hw
        · have hf := next_word (l := c :: r) (by omega)
          rw [hf]
          rw [hf] at hk
          unfold firstWordT at hk ⊢
          dsimp only at hk ⊢
          rw [word_last _ (by omega), wordK_word _ (by intro h0; rw [h0] at hk; exact hk rfl)]
      · have hf := next_sign hs
        rw [hf] at hw ⊢
        dsimp only at hw ⊢
        rw [signT_cons] at hw hs ⊢
        clear hf hk
        by_cases h1 : c = 40
        · subst h1; rfl
        by_cases h2 : c = 41
        · subst h2; rfl
        by_cases h3 : c = 44
        · subst h3; rfl
        by_cases h4 : c = 46
        · subst h4; rfl
        by_cases h5 : c = 47
        · subst h5; rfl
        rw [if_neg h1, if_neg h2, if_neg h3, if_neg h4, if_neg h5] at hw hs ⊢
        by_cases h6 : c = 58
        · rw [if_pos h6] at hw hs ⊢
          by_cases hd : r.head? = some 45
          · rw [if_pos hd]
            cases r with
            | nil => simp at hd
            | cons d r => simp at hd; subst hd; rfl
          · rw [if_neg hd] at hw; simp at hw
        rw [if_neg h6] at hw hs ⊢
        by_cases h7 : c = 33
        · rw [if_pos h7] at hw hs ⊢
          by_cases hd : r.head? = some 61
          · rw [if_pos hd]
            cases r with
            | nil => simp at hd
            | cons d r => simp at hd; subst hd; rfl
          · rw [if_neg hd] at hw; simp at hw
        rw [if_neg h7] at hs
        exact absurd rfl hs
/-- A token that begins with a byte that may stand in a word is a word; and a word begins so. -/
theorem first_word (l : List UInt8) (hk : (firstT l).1.kind ≠ 0) : isWordB (firstT l).1.kind = wordZ (runeZ l 0) := by
  cases l with
  | nil => exact absurd firstT_nil hk
  | cons c r =>
    have hr : runeZ (c :: r) 0 = (c.toNat : Int) := by simp [runeZ]
    by_cases h34 : c = 34
    · have hf := next_str (l := c :: r) (r := r) (by rw [h34])
      rw [hf, hr, h34]; rfl
    · by_cases hs : (signT (c :: r)).1 = 0
      · by_cases hn : wordN (c :: r) = 0
        · rw [next_none h34 hs hn] at hk; exact absurd rfl hk
        · have hf := next_word (l := c :: r) (by omega)
          rw [hf] at hk ⊢
          unfold firstWordT at hk ⊢
          dsimp only at hk ⊢
          rw [wordK_word _ (by intro h0; rw [h0] at hk; exact hk rfl)]
          have := rune_run
          cases h1 : smallZ (runeZ (c :: r) 0)
          · cases h2 : greatZ (runeZ (c :: r) 0)
            · cases h3 : digitZ (runeZ (c :: r) 0)
              · unfold wordN at hn; rw [h1, h2, h3] at hn; simp at hn
              · exact (wordZ_digit h3).symm
            · exact (wordZ_of_great h2).symm
          · exact (wordZ_of_small h1).symm
      · have hf := next_sign hs
        rw [hf, hr]
        dsimp only
        rw [signT_cons] at hs ⊢
        clear hf hk hr
        by_cases h1 : c = 40
        · subst h1; rfl
        by_cases h2 : c = 41
        · subst h2; rfl
        by_cases h3 : c = 44
        · subst h3; rfl
        by_cases h4 : c = 46
        · subst h4; rfl
        by_cases h5 : c = 47
        · subst h5; rfl
        rw [if_neg h1, if_neg h2, if_neg h3, if_neg h4, if_neg h5] at hs ⊢
        by_cases h6 : c = 58
        · rw [if_pos h6]
          subst h6
          split <;> rfl
        rw [if_neg h6] at hs ⊢
        by_cases h7 : c = 33
        · rw [if_pos h7]
          subst h7
          split <;> rfl
        rw [if_neg h7] at hs
        exact absurd rfl hs
end Go.Proofs.YtioafeckaeaopaaDoor
