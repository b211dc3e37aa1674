/- A pair of tables, or none: each call of a step. -/
import Derived.Test.YtdmopioiaaecfaaRanksJ
import Derived.Test.YtdmopioiaaecfaaGoesN
namespace Go.Proofs.Ytdmopioiaaecfaa
open Go.RowKit Go.Maps

section
variable {W W1 W' w1 w2 w3 : World} {P : Nat → Prop} {p q : Value} {ts us : List ByteArray} {bt bm g cap br : Nat} {sv : Value}

theorem Goes.before (h : Goes W1 P p q us W') (hb : Below W.heap.size W W1) : Goes W P p q us W' := by
  obtain ⟨P', h1, h2, h3⟩ := h
  have hs := hb.size
  exact ⟨P', h1, fun k hk => (h2 k hk).imp id (fun h => by omega), ((Turn.of_below hb).mono (S' := P) (fun i hi e => by omega)).trans h3 (fun _ _ e => e)⟩

/-- What is left of a pair behind a text that is put in by both. -/
theorem put_left (hT : Tab w1 bt bm g cap ts) (hR : RTab w1 br sv ts) (hd : ∀ k, foot bt bm g k → ¬ rfoot br sv k) (hP : ∀ k, P k ↔ (foot bt bm g k ∨ rfoot br sv k))
    (h1 : Puts w1 bt bm g us w2) (h2 : RPuts w2 br sv us w3) : Goes w1 P (.pointer (some ⟨bt, 0, none⟩)) (.pointer (some ⟨br, 0, none⟩)) us w3 := by
  obtain ⟨g', cap', hT2, hg', ht2⟩ := h1
  obtain ⟨sv', hR3, hs', ht3⟩ := h2
  have hlt := hT.lt
  have hrl := hR.lt
  have hlt2 := hT2.lt
  have hs2 := ht2.size
  have hT3 : Tab w3 bt bm g' cap' us := hT2.kept ht3 (fun k hk hf => by
    rcases hk with rfl | rfl | rfl
    · exact hd _ (.inl rfl) hf
    · exact hd _ (.inr (.inl rfl)) hf
    · rcases hg' with rfl | hg'
      · exact hd _ (.inr (.inr rfl)) hf
      · have := hrl _ hf; omega)
  refine ⟨fun k => foot bt bm g' k ∨ rfoot br sv' k, .inr ⟨bt, bm, g', cap', br, sv', rfl, rfl, hT3, hR3, ?_, fun _ => Iff.rfl⟩, ?_, ?_⟩
  · intro k hk hf
    have hk2 : k < w2.heap.size := by rcases hk with rfl | rfl | rfl <;> omega
    have hrf : rfoot br sv k := by
      rcases hf with rfl | hf
      · exact .inl rfl
      · rcases hs' k hf with h | h
        · exact .inr h
        · omega
    rcases hk with rfl | rfl | rfl
    · exact hd _ (.inl rfl) hrf
    · exact hd _ (.inr (.inl rfl)) hrf
    · rcases hg' with rfl | hg'
      · exact hd _ (.inr (.inr rfl)) hrf
      · have := hrl _ hrf; omega
  · rintro k (hk | hk)
    · rcases hk with rfl | rfl | rfl
      · exact .inl ((hP _).2 (.inl (.inl rfl)))
      · exact .inl ((hP _).2 (.inl (.inr (.inl rfl))))
      · rcases hg' with rfl | hg'
        · exact .inl ((hP _).2 (.inl (.inr (.inr rfl))))
        · exact .inr (by omega)
    · rcases hk with rfl | hk
      · exact .inl ((hP _).2 (.inr (.inl rfl)))
      · rcases hs' k hk with h | h
        · exact .inl ((hP _).2 (.inr (.inr h)))
        · exact .inr (by omega)
  · have e1 : Turn P w1 w2 := ht2.mono (fun i hi hf => (hP i).2 (.inl hf))
    exact e1.trans ht3 (fun i hi hf => (hP i).2 (.inr hf))

theorem put_pair (h : Pr W P p q ts) (s : ByteArray) (hs : s.size ≤ 281474976710656) (hl : ts.length + 1 ≤ 8796093022208) :
    Calls Try.prog 22 #[p, .string s] W fun e w2 => ∃ a er : Int, e = .returned (.tuple #[.int .i64 a, .int .i64 er]) ∧ Turn P W w2 ∧
      Calls Try.prog 23 #[q, .string s] w2 fun e w3 => e = .returned (.tuple #[.int .i64 a, .int .i64 er]) ∧ ∃ us, us.length ≤ ts.length + 1 ∧ Goes W P p q us w3 := by
  rcases h with ⟨rfl, rfl, rfl, hP⟩ | ⟨bt, bm, g, cap, br, sv, rfl, rfl, hT, hR, hd, hP⟩
  · refine (put_no W _ s (made_nil W)).mono ?_
    rintro e w2 ⟨rfl, rfl⟩
    refine ⟨0, 1, rfl, Turn.refl _ _, (rput_no _ s).mono ?_⟩
    rintro e w3 ⟨rfl, rfl⟩
    exact ⟨rfl, [], by simp, P, .inl ⟨rfl, rfl, rfl, hP⟩, fun _ hk => .inl hk, Turn.refl _ _⟩
  · refine (put_yes hT s hs (le16' hl)).mono ?_
    rintro e w2 ⟨rfl, hp⟩
    obtain ⟨g', cap', hT2, hg', ht2⟩ := id hp
    refine ⟨_, _, rfl, ht2.mono (fun i hi hf => (hP i).2 (.inl hf)), (rput_yes (hR.kept ht2 (fun k hk hf => hd k hf hk)) s (le16' hl)).mono ?_⟩
    rintro e w3 ⟨rfl, hr⟩
    exact ⟨rfl, put1 ts s, (put1_len ts s).2, put_left hT hR hd hP hp hr⟩

set_option maxRecDepth 100000 in
set_option maxHeartbeats 2000000 in
theorem puts_no (W : World) (a : Option Addr) (b off c : Nat) (ss : List ByteArray) (hS : StrsAt W a b off ss) (ha : a = none → c = 0 ∧ ss = []) (hl : ss.length + 2 ≤ 8796093022208) :
    Calls Try.prog 36 #[.pointer none, .pointer none, .slice a ss.length c] W fun e W' => e = .returned (.bool true) ∧ Below W.heap.size W W' := by
  have hlent := lent_any W a b off c ss hS ha (le16' hl)
  have HS : Hid (StrsAt W a b off ss) := hS
  clear hS ha
  go_enter Try.func36, Try.ntmps36
  go_wp2_with fail
  refine hlent.mono ?_
  rintro e w1 ⟨bl, cl, rfl, hrow, hB1⟩
  obtain ⟨hl1, hl2⟩ := row_lt hrow
  have hput := fun l => putAll_no w1 _ l (made_nil w1)
  have hrput := fun l => rputAll_no w1 l
  have hsm := sameInts_same w1 none none 0 0 0 0 0 0 [] (ints_none _ _) (ints_none _ _) (by simp)
  obtain ⟨bb, hSb, hbb⟩ := HS.out.pick W.heap.size
  have hle : ∀ n, Calls Try.prog 52 #[.slice (some ⟨bl, 0, none⟩) ss.length cl, .slice a ss.length c] (w1.drewN n) _ := fun n => leftTexts_yes (w1.drewN n) bl cl a bb off c W.heap.size ss (row_drewN hrow) ((hSb.below hB1).kept (Turn.drewN (fun _ => False) w1 n) (fun e => e))
  have HR : Hid (Room w1 9 bl ss.length ∧ Below W.heap.size W w1 ∧ W.heap.size ≤ bl) := ⟨room_row hrow (by omega), hB1, hl1⟩
  clear hlent hrow hB1 hl1 hl2 HS hSb hbb
  dsimp only [List.length_nil] at hsm
  go_wp2_with (first | (go_at_call 18; refine (hput _).mono ?_; rintro e w' ⟨rfl, hw⟩; have hw' := hw.symm; subst hw') | (go_at_call 20; refine (hrput _).mono ?_; rintro e w' ⟨rfl, hw⟩; have hw' := hw.symm; subst hw') | (go_at_call 24; refine Calls.mono (num_any _ _) ?_; rintro e w' ⟨rfl, hw⟩; have hw' := hw.symm; subst hw') | (go_at_call 42; refine Calls.mono hsm ?_; rintro e w' ⟨rfl, n1, rfl⟩; clear hsm) | (go_at_call 52; refine Calls.mono (hle _) ?_; rintro e w' ⟨rfl, n2, rfl⟩; clear hle))
  have HQ : Hid (Turn (fun _ => False) w1 (w1.drewN (n1 + n2))) := Turn.drewN (fun _ => False) w1 (n1 + n2)
  generalize w1.drewN (n1 + n2) = w4 at HQ ⊢
  go_loopw [12] (fun i wr => ∃ k : Nat, k ≤ ss.length ∧ i = .int .i64 k ∧ Room wr 9 bl ss.length ∧ Turn (fun j => j = bl) w1 wr) (fun i _ => ss.length - (intOf i).toNat)
  case atStart => exact ⟨0, Nat.zero_le _, rfl, HR.out.1.kept HQ.out (fun e => e), HQ.out.mono (fun _ _ e => e.elim)⟩
  case round =>
    obtain ⟨k, hk, rfl, hR, ht⟩ := hrel
    by_cases hlt2 : k < ss.length
    · have hkb : (k : Int) < (ss.length : Int) := by omega
      obtain ⟨⟨x, hx⟩, hf⟩ := hR.at hlt2
      have HN : Hid (Room (wr.setCell ⟨bl, k, none⟩ (.string ⟨#[115, 112, 111, 105, 108, 116]⟩)) 9 bl ss.length ∧ Turn (fun j => j = bl) w1 (wr.setCell ⟨bl, k, none⟩ (.string ⟨#[115, 112, 111, 105, 108, 116]⟩))) := ⟨hR.set k _, ht.trans (Turn.setCell (fun j => j = bl) wr ⟨bl, k, none⟩ _ rfl) (fun _ _ e => e)⟩
      clear hR ht
      go_wp2
      go_roundw
      case rel => exact ⟨k + 1, by omega, by go_num, HN.out⟩
      case measure => simp [intOf]; omega
    · have hkb : ¬ (k : Int) < (ss.length : Int) := by omega
      obtain rfl : k = ss.length := by omega
      have HB : Hid (Below W.heap.size W wr) := HR.out.2.1.trans (ht.below HR.out.2.1.size (fun k e => by have := HR.out.2.2; omega))
      clear hR ht
      go_wp2
      go_loopw [13] (fun i wz => i = .int .i64 0 ∧ wr = wz) (fun _ _ => 0)
      case atStart => exact ⟨rfl, rfl⟩
      case round =>
        obtain ⟨rfl, rfl⟩ := hrel
        go_wp2
        go_ret
        exact ⟨rfl, HB.out⟩

theorem goes_self (h : Pr W P p q ts) (hb : Below W.heap.size W W') : ∃ us, us.length ≤ ts.length ∧ Goes W P p q us W' := ⟨ts, Nat.le_refl _, Goes.of_below h hb⟩

theorem puts_pair (h : Pr W P p q ts) (a : Option Addr) (b off c : Nat) (ss : List ByteArray) (hS : StrsAt W a b off ss) (ha : a = none → c = 0 ∧ ss = []) (hnb : 0 < ss.length → ¬ P b) (hsz : ∀ s ∈ ss, s.size ≤ 281474976710656) (hl : ts.length + ss.length + 2 ≤ 8796093022208) :
    Calls Try.prog 36 #[p, q, .slice a ss.length c] W fun e W' => e = .returned (.bool true) ∧ ∃ us, us.length ≤ ts.length + ss.length ∧ Goes W P p q us W' := by
  rcases h with h | h
  · have h' := h
    obtain ⟨rfl, rfl, rfl, hP⟩ := h
    refine (puts_no W a b off c ss hS ha (by omega)).mono ?_
    rintro e W' ⟨rfl, hB⟩
    exact ⟨rfl, [], by simp, Goes.of_below (.inl h') hB⟩
  · refine (puts_yes h a b off c ss hS ha hnb hsz hl).mono ?_
    rintro e W' ⟨rfl, hG⟩
    exact ⟨rfl, _, (putAll_len ts ss).2, hG⟩

theorem finds_pair (h : Pr W P p q ts) (a : Option Addr) (b off c : Nat) (ss : List ByteArray) (hS : StrsAt W a b off ss) (hsz : ∀ s ∈ ss, s.size ≤ 281474976710656) (hl : ss.length ≤ 8796093022208) :
    Calls Try.prog 37 #[p, q, .slice a ss.length c] W fun e W' => e = .returned (.bool true) ∧ Below W.heap.size W W' := by
  rcases h with ⟨rfl, rfl, rfl, hP⟩ | h
  · refine (finds_no W a b off c ss hS hl).mono ?_
    rintro e W' ⟨rfl, rfl⟩; exact ⟨rfl, Below.refl _ _⟩
  · refine (finds_yes h a b off c ss hS hsz hl).mono ?_
    rintro e W' ⟨rfl, rfl⟩; exact ⟨rfl, Below.refl _ _⟩

theorem text_pair (h : Pr W P p q ts) (z : Int) : ∃ s ok, (Calls Try.prog 30 #[p, .int .i64 z] W fun e w' => e = .returned (.tuple #[.string s, .bool ok]) ∧ w' = W) ∧ (Calls Try.prog 38 #[q, .int .i64 z] W fun e w' => e = .returned (.tuple #[.string s, .bool ok]) ∧ w' = W) := by
  rcases h with ⟨rfl, rfl, rfl, hP⟩ | ⟨bt, bm, g, cap, br, sv, rfl, rfl, hT, hR, hd, hP⟩
  · exact ⟨_, _, text_no W _ z (made_nil W), rtext_no W z⟩
  · exact ⟨_, _, text_any hT z, rtext_any hR z⟩

theorem len_pair (h : Pr W P p q ts) : ∃ n : Int, (Calls Try.prog 13 #[p] W fun e w' => e = .returned (.int .i64 n) ∧ w' = W) ∧ (Calls Try.prog 14 #[q] W fun e w' => e = .returned (.int .i64 n) ∧ w' = W) := by
  rcases h with ⟨rfl, rfl, rfl, hP⟩ | ⟨bt, bm, g, cap, br, sv, rfl, rfl, hT, hR, hd, hP⟩
  · exact ⟨_, len_no W _ (made_nil W), rlen_no W⟩
  · exact ⟨_, len_yes hT, rlen_yes hR⟩

theorem compare_pair (h : Pr W P p q ts) (x y : Int) : ∃ a er : Int, (Calls Try.prog 40 #[p, .int .i64 x, .int .i64 y] W fun e w' => e = .returned (.tuple #[.int .i64 a, .int .i64 er]) ∧ ∃ n, w' = W.drewN n) ∧
    (∀ n, Calls Try.prog 41 #[q, .int .i64 x, .int .i64 y] (W.drewN n) fun e w' => e = .returned (.tuple #[.int .i64 a, .int .i64 er]) ∧ w' = W.drewN n) := by
  rcases h with ⟨rfl, rfl, rfl, hP⟩ | ⟨bt, bm, g, cap, br, sv, rfl, rfl, hT, hR, hd, hP⟩
  · refine ⟨_, _, (compare_no W _ _ _ (made_nil W)).mono ?_, fun n => rcompare_no _ _ _⟩
    rintro e w' ⟨rfl, rfl⟩; exact ⟨rfl, 0, rfl⟩
  · exact ⟨_, _, compare_yes hT x y, fun n => rcompare_yes (rtab_drewN hR n) x y⟩

theorem goes_pair (h : Pr W P p q ts) (z : Int) (hl1 : -9223372036854775808 ≤ z) (hl2 : z ≤ 9223372036854775807) :
    Calls Try.prog 15 #[p, q, .int .i64 z] W fun e W' => e = .returned (.bool true) ∧ Below W.heap.size W W' := by
  rcases h with ⟨rfl, rfl, rfl, hP⟩ | ⟨bt, bm, g, cap, br, sv, rfl, rfl, hT, hR, hd, hP⟩
  · exact callsIn_wide.1 (goes_no W z hl1 hl2)
  · exact callsIn_wide.1 (goes_yes W bt bm g cap br sv ts z hT hR hl1 hl2)

theorem ranks_pair (h : Pr W P p q ts) (hl : ts.length ≤ 8796093022208) : Calls Try.prog 16 #[p, q] W fun e W' => e = .returned (.bool true) ∧ Below W.heap.size W W' := by
  rcases h with ⟨rfl, rfl, rfl, hP⟩ | h
  · exact ranks_any (rkc_no W)
  · obtain ⟨X, Y, hk⟩ := rkc_yes h hl
    exact ranks_any hk
end
end Go.Proofs.Ytdmopioiaaecfaa
