/- The document's loop over tokens, plainly: it tells what lex tells. No walk here. The document's Tokens: the walk. A list of tokens that is written over, and grown, while others stay. -/
import Derived.Test.YtioafeckaeaopaaDoorV3
import Derived.Test.YtioafeckaeaopaaDoorXV
import Derived.Test.YtioafeckaeaopaaDoorYM
import Derived.Maps.AppendAt
import Derived.Deep.CutRange
import Derived.Deep.Onto
import Derived.Test.YtioafeckaeaopaaDoorYN
namespace Go.Proofs.YtioafeckaeaopaaDoor
open Go.RowKit Go.Maps

/-- The last of some tokens ends here, and is a word. -/
def lastW (pre : List Tok) (at_ : Nat) : Bool := match pre.getLast? with
  | none => false
  | some t => decide (t.fin = at_) && isWordB t.kind
/-- Some tokens have come, up to a place; behind blanks one stands at another. -/
structure RI (L : List UInt8) (pre : List Tok) (far at_ : Nat) : Prop where
  le : far ≤ L.length
  at_eq : at_ = farB L far
  len : pre.length ≤ far
  rest : ∃ f, L.length - far < f ∧ tokT L = (pre ++ (tokF L f far tok0).1, (tokF L f far tok0).2)
  word : at_ < L.length → wordZ (runeZ L ((at_ : Int) - 1)) = lastW pre at_
theorem rune_drop (L : List UInt8) (B : Nat) : runeZ (L.drop B) 0 = runeZ L (B : Int) := by
  rw [show (0 : Int) = ((0 : Nat) : Int) from rfl, runeZ_nat, runeZ_nat, List.getElem?_drop, Nat.add_zero]
theorem rune_drop' (L : List UInt8) (B n : Nat) (h : 1 ≤ n) : runeZ (L.drop B) ((n : Int) - 1) = runeZ L (((B + n : Nat) : Int) - 1) := by
  obtain ⟨j, rfl⟩ : ∃ j, n = j + 1 := ⟨n - 1, by omega⟩
  rw [show (((j + 1 : Nat) : Int) - 1) = ((j : Nat) : Int) by omega, show (((B + (j + 1) : Nat) : Int) - 1) = ((B + j : Nat) : Int) by omega, runeZ_nat, runeZ_nat, List.getElem?_drop]
theorem first_none {l : List UInt8} (h : (firstT l).1.kind = 0) : firstT l = (tok0, false) := by
  cases l with
  | nil => decide
  | cons c r =>
    by_cases h34 : c = 34
    · rw [next_str (l := c :: r) (r := r) (by rw [h34])] at h
      dsimp only at h; omega
    · by_cases hs : (signT (c :: r)).1 = 0
      · by_cases hn : wordN (c :: r) = 0
        · exact next_none h34 hs hn
        · rw [next_word (l := c :: r) (by omega)] at h
          have h1 := wordW_kind (c :: r) (by omega)
          have h2 := wordW_yes (c :: r) _ (by omega) (Nat.le_refl _)
          unfold firstWordT at h
          dsimp only at h
          omega
      · rw [next_sign hs] at h
        exact absurd h hs
theorem RI.start (L : List UInt8) : RI L [] 0 (farB L 0) := by
  refine ⟨Nat.zero_le _, rfl, Nat.zero_le _, ⟨L.length + 1, by omega, rfl⟩, fun h => ?_⟩
  show _ = false
  by_cases h0 : 0 < farB L 0
  · exact farB_last L 0 h0 h
  · rw [show farB L 0 = 0 by omega, runeZ_neg L (by simp)]
    exact wordZ_neg
theorem RI.atLe {L : List UInt8} {pre : List Tok} {far at_ : Nat} (h : RI L pre far at_) : far ≤ at_ ∧ at_ ≤ L.length := by
  rw [h.at_eq]; exact farB_le L far h.le
theorem RI.done {L : List UInt8} {pre : List Tok} {far at_ : Nat} (h : RI L pre far at_) (he : at_ = L.length) : lexT L = (pre, tok0, L.length, 0) := by
  obtain ⟨f, hf, ht⟩ := h.rest
  obtain ⟨g, rfl⟩ : ∃ g, f = g + 1 := ⟨f - 1, by omega⟩
  have hB : farB L far = L.length := by rw [← h.at_eq]; exact he
  have hs : stepT L far tok0 = (tok0, false, L.length, tok0) := by
    unfold stepT
    rw [hB, List.drop_length, if_pos (.inl firstT_nil)]
  rw [tokF_no (by rw [hs]), hs, List.append_nil] at ht
  unfold lexT
  rw [ht, if_neg (by simp [tok0])]
theorem RI.bar {L : List UInt8} {pre : List Tok} {far at_ : Nat} (h : RI L pre far at_) (hl : at_ < L.length) (hw : lastW pre at_ = true) (ht : isWordB (nextT (L.drop at_) at_).kind = true) : lexT L = (pre, tok0, at_, 11) := by
  obtain ⟨f, hf, htk⟩ := h.rest
  obtain ⟨g, rfl⟩ : ∃ g, f = g + 1 := ⟨f - 1, by omega⟩
  have hk : (firstT (L.drop at_)).1.kind ≠ 0 := by
    intro h0
    unfold nextT at ht
    rw [if_pos h0] at ht
    cases ht
  have hs : stepT L far tok0 = (tok0, false, at_, tok0) := by
    have hb : (wordZ (runeZ L ((at_ : Int) - 1)) && wordZ (runeZ L (at_ : Int))) = true := by
      unfold nextT at ht
      rw [if_neg hk] at ht
      rw [h.word hl, hw, ← rune_drop, ← first_word _ hk]
      exact ht
    unfold stepT
    rw [← h.at_eq, if_pos (.inr hb)]
  rw [tokF_no (by rw [hs]), hs, List.append_nil] at htk
  unfold lexT
  rw [htk, if_pos (.inl hl)]
theorem RI.free {L : List UInt8} {pre : List Tok} {far at_ : Nat} (h : RI L pre far at_) (hl : at_ < L.length) (hc : (lastW pre at_ && isWordB (nextT (L.drop at_) at_).kind) = false) (hk : (firstT (L.drop at_)).1.kind ≠ 0) :
    ¬ ((firstT (L.drop at_)).1.kind = 0 ∨ (wordZ (runeZ L ((at_ : Int) - 1)) && wordZ (runeZ L (at_ : Int))) = true) := by
  rintro (h0 | h0)
  · exact hk h0
  · rw [h.word hl, ← rune_drop, ← first_word _ hk] at h0
    unfold nextT at hc
    rw [if_neg hk] at hc
    have e : ((firstT (L.drop at_)).1.move at_).kind = (firstT (L.drop at_)).1.kind := rfl
    rw [e, h0] at hc
    cases hc
theorem RI.half {L : List UInt8} {pre : List Tok} {far at_ : Nat} (h : RI L pre far at_) (hl : at_ < L.length) (hc : (lastW pre at_ && isWordB (nextT (L.drop at_) at_).kind) = false) (hw : (firstT (L.drop at_)).2 = false) : lexT L = (pre, nextT (L.drop at_) at_, at_ + (firstT (L.drop at_)).1.fin, 11) := by
  obtain ⟨f, hf, htk⟩ := h.rest
  obtain ⟨g, rfl⟩ : ∃ g, f = g + 1 := ⟨f - 1, by omega⟩
  by_cases hk : (firstT (L.drop at_)).1.kind = 0
  · have hs : stepT L far tok0 = (tok0, false, at_, tok0) := by
      unfold stepT
      rw [← h.at_eq, if_pos (.inl hk)]
    rw [tokF_no (by rw [hs]), hs, List.append_nil] at htk
    unfold nextT lexT
    rw [htk, if_pos (.inl hl), if_pos hk, first_none hk]
    rfl
  · have hs : stepT L far tok0 = (tok0, false, (firstT (L.drop at_)).1.fin + at_, (firstT (L.drop at_)).1.move at_) := by
      unfold stepT
      rw [← h.at_eq, if_neg (h.free hl hc hk), if_neg (by rw [hw]; simp)]
    rw [tokF_no (by rw [hs]), hs, List.append_nil] at htk
    unfold nextT lexT
    rw [htk, if_pos (.inr hk), if_neg hk, Nat.add_comm]
theorem RI.step {L : List UInt8} {pre : List Tok} {far at_ : Nat} (h : RI L pre far at_) (hl : at_ < L.length) (hc : (lastW pre at_ && isWordB (nextT (L.drop at_) at_).kind) = false) (hw : (firstT (L.drop at_)).2 = true) :
    RI L (pre ++ [nextT (L.drop at_) at_]) (at_ + (firstT (L.drop at_)).1.fin) (farB L (at_ + (firstT (L.drop at_)).1.fin)) ∧ at_ < at_ + (firstT (L.drop at_)).1.fin := by
  obtain ⟨f, hf, htk⟩ := h.rest
  obtain ⟨g, rfl⟩ : ∃ g, f = g + 1 := ⟨f - 1, by omega⟩
  have hal := h.atLe
  have hk : (firstT (L.drop at_)).1.kind ≠ 0 := by
    intro h0
    rw [first_none h0] at hw
    cases hw
  have hpos := firstT_pos _ hk
  have hfl := (firstT_le (L.drop at_)).2
  rw [List.length_drop] at hfl
  have hs : stepT L far tok0 = ((firstT (L.drop at_)).1.move at_, true, (firstT (L.drop at_)).1.fin + at_, tok0) := by
    unfold stepT
    rw [← h.at_eq, if_neg (h.free hl hc hk), if_pos hw]
  have hn : nextT (L.drop at_) at_ = (firstT (L.drop at_)).1.move at_ := by unfold nextT; rw [if_neg hk]
  rw [hn]
  rw [tokF_yes (by rw [hs]), hs] at htk
  dsimp only at htk
  have hlast := first_last (L.drop at_) (by rw [List.length_drop]; omega) hk hw
  rw [rune_drop' _ _ _ hpos] at hlast
  refine ⟨⟨by omega, rfl, by have := h.len; simp; omega, ⟨g, by omega, ?_⟩, fun hlt => ?_⟩, by omega⟩
  · rw [Nat.add_comm at_, htk, List.append_assoc]; rfl
  · unfold lastW
    rw [show (pre ++ [(firstT (L.drop at_)).1.move at_]).getLast? = some ((firstT (L.drop at_)).1.move at_) by simp]
    dsimp only [Tok.move]
    have hfb := (farB_le L (at_ + (firstT (L.drop at_)).1.fin) (by omega)).1
    by_cases he : farB L (at_ + (firstT (L.drop at_)).1.fin) = at_ + (firstT (L.drop at_)).1.fin
    · rw [he, hlast, decide_eq_true (by omega)]; rfl
    · rw [farB_last L _ (by omega) hlt, decide_eq_false (by omega)]; rfl

/-- A list of tokens of the call's own, and all that was there before. -/
def KR (w W : World) (v : Value) (ts : List Tok) : Prop := Below w.heap.size w W ∧ OwnK w.heap.size W v ts
theorem KR.nil {w W : World} (h : Below w.heap.size w W) : KR w W (.slice none 0 0) [] := ⟨h, World.ownsRow_nil _ _ _ _⟩
theorem KR.stay {w W W' : World} {v : Value} {ts : List Tok} (h : KR w W v ts) (hs : Stay W W') : KR w W' v ts := ⟨Below.trans h.1 (Below.mono hs h.1.size), OwnK.stay h.2 hs⟩
theorem KR.step {w X w1 : World} {v v' : Value} {pre : List Tok} {x : Tok} {o2 : Obj} (h : KR w X v pre)
    (hown : w1.ownsRow w.heap.size 25 4 v' (pre.length + 1) (cellsK pre ++ Tok.row x)) (hg : (X.alloc o2).grownBy w1 v.ownBlock) : KR w w1 v' (pre ++ [x]) := by
  refine ⟨?_, ?_⟩
  · have s2 : Below w.heap.size w (X.alloc o2) := Below.alloc h.1 h.1.size o2
    exact s2.grown hg s2.size (fun k e => (World.ownsRow.lt h.2 k e).1)
  · unfold OwnK
    rw [List.length_append, List.length_singleton, show cellsK (pre ++ [x]) = cellsK pre ++ Tok.row x by rw [cellsK_append]; simp [cellsK]]
    exact hown
theorem KR.put {w W0 A : World} {v : Value} {ts : List Tok} (h : KR W0 A v ts) (hW : W0.heap.size = w.heap.size + 1) (hst : Stay w A) (u0 u1 u2 u3 : Value) :
    OwnK w.heap.size ((((A.setCell ⟨w.heap.size, 0, none⟩ u0).setCell ⟨w.heap.size, 1, none⟩ u1).setCell ⟨w.heap.size, 2, none⟩ u2).setCell ⟨w.heap.size, 3, none⟩ u3) v ts ∧
      Stay w ((((A.setCell ⟨w.heap.size, 0, none⟩ u0).setCell ⟨w.heap.size, 1, none⟩ u1).setCell ⟨w.heap.size, 2, none⟩ u2).setCell ⟨w.heap.size, 3, none⟩ u3) := by
  refine ⟨World.ownsRow.mono (base := W0.heap.size) (OwnK.blocks h.2 (fun g cs t f hg hb => ?_)) (by omega), ?_⟩
  · have hne : g ≠ w.heap.size := by have := (World.ownsRow.lt h.2 g hg).1; omega
    exact ((Below.heap_setCell _ _ _ _ hne).trans ((Below.heap_setCell _ _ _ _ hne).trans ((Below.heap_setCell _ _ _ _ hne).trans (Below.heap_setCell _ _ _ _ hne)))).trans hb
  · repeat (refine stay_set ?_ (Nat.le_refl _) _)
    exact hst

set_option maxRecDepth 100000 in
set_option maxHeartbeats 4000000 in
theorem y_Tokens (s : ByteArray) (w : World) (hs : s.size ≤ 1048576) :
    Calls Tryd.prog 10 #[.string s] w fun e w' => ∃ v, e = .returned (.tuple #[v, (lexT s.data.toList).2.1.val, .int .i64 ((lexT s.data.toList).2.2.1 : Int), .int .i64 (lexT s.data.toList).2.2.2]) ∧ OwnK w.heap.size w' v (lexT s.data.toList).1 ∧ Stay w w' := by
  obtain ⟨i0, hi, hz0, hz1, hz2⟩ := info_parts infoTok
  have hsl : s.data.toList.length = s.size := by simp
  have hbl := fun (k : Nat) (hk : k ≤ s.size) W => y_blanks s k hk W (by omega)
  have hb0 := hbl 0 (Nat.zero_le _)
  rw [show ((0 : Nat) : Int) = 0 from rfl] at hb0
  have hnx := fun (k : Nat) (hk : k < s.size) W => y_next s k hk W (by omega)
  have hR0 := RI.start s.data.toList
  obtain ⟨a0, ha0⟩ : ∃ a0, farB s.data.toList 0 = a0 := ⟨_, rfl⟩
  rw [ha0] at hR0 hb0
  obtain ⟨U, hU⟩ : ∃ U, lexT s.data.toList = U := ⟨_, rfl⟩
  have HR : Hid (RI s.data.toList [] 0 a0 ∧ lexT s.data.toList = U ∧ s.data.toList.length = s.size) := ⟨hR0, hU, hsl⟩
  rw [hU]
  obtain ⟨W0, hW0⟩ : ∃ W0, W0 = w.alloc (.cells #[.int .i64 0, .string ⟨#[]⟩, .int .i64 0, .int .i64 0] 25) := ⟨_, rfl⟩
  have HW0 : Hid (W0 = w.alloc (.cells #[.int .i64 0, .string ⟨#[]⟩, .int .i64 0, .int .i64 0] 25) ∧ W0.heap.size = w.heap.size + 1) := ⟨hW0, by rw [hW0]; simp⟩
  have HP : Hid (∀ W1, Below W0.heap.size W0 W1 → W1.heap[w.heap.size]? = some (.cells #[.int .i64 0, .string ⟨#[]⟩, .int .i64 0, .int .i64 0] 25 (0, 0)) ∧ Stay w W1) := fun W1 h => by
    have h2 : Stay w W1 := by rw [hW0] at h; exact (Stay.new _ _).trans h
    refine ⟨(h.block w.heap.size (by rw [hW0]; simp)).trans ?_, h2⟩
    rw [hW0]; exact heap_new _ _
  clear hR0 ha0 hU hsl hW0
  go_enter Tryd.func10, Tryd.ntmps10
  go_wp2_with (first | (go_at_call 30; refine (hb0 _).mono ?_; rintro e w' ⟨rfl, hw'⟩; have hw2 := hw'.symm; subst hw2))
  rw [← HW0.out.1]
  clear hb0
  go_loopw [6, 7, 8, 9, 10, 11] (fun v i _ _ _ _ wr => ∃ (pre : List Tok) (far a : Nat), i = .int .i64 (a : Int) ∧ RI s.data.toList pre far a ∧ KR W0 wr v pre) (fun _ i _ _ _ _ _ => s.size - (intOf i).toNat)
  case atStart => exact ⟨[], 0, a0, rfl, HR.out.1, KR.nil (Below.refl _ _)⟩
  case round =>
    obtain ⟨pre, far, a, rfl, hRI, hKR⟩ := hrel
    have hal := hRI.atLe
    rw [HR.out.2.2] at hal
    have hplen : pre.length ≤ 1048576 := by have := hRI.len; omega
    by_cases hlt : a < s.size
    · have hltL : a < s.data.toList.length := by rw [HR.out.2.2]; exact hlt
      have nx := hnx a hlt
      have hfl := (firstT_le (s.data.toList.drop a)).2
      rw [List.length_drop, HR.out.2.2] at hfl
      have hai : (a : Int) < (s.size : Int) := by omega
      obtain ⟨TB, hTB⟩ : ∃ TB, (lastW pre a && isWordB (nextT (s.data.toList.drop a) a).kind) = TB := ⟨_, rfl⟩
      have HB : Hid (TB = true → U = (pre, tok0, a, 11)) := fun h => by
        rw [← hTB, Bool.and_eq_true] at h
        rw [← HR.out.2.1]; exact hRI.bar hltL h.1 h.2
      have HH : Hid (TB = false → (firstT (s.data.toList.drop a)).2 = false → U = (pre, nextT (s.data.toList.drop a) a, a + (firstT (s.data.toList.drop a)).1.fin, 11)) := fun h hw => by
        rw [← HR.out.2.1]; exact hRI.half hltL (hTB.trans h) hw
      have HS : Hid (TB = false → (firstT (s.data.toList.drop a)).2 = true → RI s.data.toList (pre ++ [nextT (s.data.toList.drop a) a]) (a + (firstT (s.data.toList.drop a)).1.fin) (farB s.data.toList (a + (firstT (s.data.toList.drop a)).1.fin)) ∧ a < a + (firstT (s.data.toList.drop a)).1.fin) := fun h hw => hRI.step hltL (hTB.trans h) hw
      have bl := hbl (a + (firstT (s.data.toList.drop a)).1.fin) (by omega)
      generalize nextT (s.data.toList.drop a) a = t at *
      generalize a + (firstT (s.data.toList.drop a)).1.fin = af at *
      generalize (firstT (s.data.toList.drop a)).2 = wh at *
      obtain ⟨t1, t2, t3, t4⟩ := t
      dsimp only [Tok.val, Tok.cells] at nx
      have HTB : Hid ((lastW pre a && isWordB t1) = TB) := hTB
      have HKR : Hid (KR W0 wr u6 pre) := hKR
      obtain ⟨av, bv, cv, hv, hk⟩ := hKR.2.form
      subst hv
      have HK : Hid (TkS wr av bv pre) := hk
      clear hfl hal hRI hKR hnx hbl hTB hltL hk
      go_upto_region 6 with (first | (go_at_call 31; refine (nx _).mono ?_; rintro e w2 ⟨rfl, hs2⟩; have HW2 : Hid (Stay wr w2) := hs2; clear hs2))
      go_cut [52] from 14 to 67 (fun vc wx => vc = .bool TB ∧ wx = w2.alloc (.cells #[.int .i64 t1, .string ⟨t2.toArray⟩, .int .i64 (t3 : Int), .int .i64 (t4 : Int)] 25))
      case first =>
        have kt : ∀ W, Calls Tryd.prog 32 #[.int .i64 t1] W fun e w' => e = .returned (.bool (isWordB t1)) ∧ w' = W := y_isWord t1
        rcases List.eq_nil_or_concat pre with hp | ⟨pp, x, hp⟩
        · have hTf : TB = false := by rw [← HTB.out, hp]; rfl
          have HTF : Hid (TB = false) := hTf
          have hl0 : pre.length = 0 := by rw [hp]; rfl
          have g1 : ¬ (0 : Int) < (pre.length : Int) := by omega
          have g0 : decide (0 < pre.length) = false := by rw [hl0]; rfl
          clear hTf hl0 hp
          go_wp2_with fail
          go_meet
          exact ⟨by rw [HTF.out], rfl⟩
        · have kx : ∀ W, Calls Tryd.prog 32 #[.int .i64 x.kind] W fun e w' => e = .returned (.bool (isWordB x.kind)) ∧ w' = W := y_isWord x.kind
          have hTf : (decide (x.fin = a) && isWordB x.kind && isWordB t1) = TB := by
            rw [← HTB.out, hp]; unfold lastW; simp
          obtain ⟨m, hm⟩ : ∃ m, pre.length = m + 1 := ⟨pp.length, by rw [hp]; simp⟩
          have hml : m < pre.length := by omega
          have hx : pre[m] = x := by
            have e1 : pre[m]? = some x := by
              have e2 : m = pp.length := by rw [hp] at hm; simp at hm; omega
              rw [e2, hp]; simp
            exact (List.getElem?_eq_some_iff.1 e1).2
          have sX : Stay wr (w2.alloc (.cells #[.int .i64 t1, .string ⟨t2.toArray⟩, .int .i64 (t3 : Int), .int .i64 (t4 : Int)] 25)) := HW2.out.trans (Stay.new _ _)
          obtain ⟨p0, p1, p2, p3⟩ := (HK.out.stay sX).2 m hml
          rw [hx] at p0 p1 p2 p3
          obtain rfl := HK.out.1 (by omega)
          have wm : IntKind.i64.wrap ((pre.length : Int) - 1) = (m : Int) := by rw [IntKind.wrap_i64]; omega
          have gm : (m : Int) < (pre.length : Int) := by omega
          have g1 : (0 : Int) < (pre.length : Int) := by omega
          have g0 : 0 < pre.length := by omega
          clear hp hm hx sX p1 p2
          obtain ⟨xk, xt, xa, xf⟩ := x
          dsimp only at *
          generalize isWordB xk = bx at *
          generalize isWordB t1 = bt at *
          by_cases hA : xf = a
          · have q : ((xf : Int) == (a : Int)) = true := by simp [hA]
            rw [decide_eq_true hA] at hTf
            have HTF : Hid ((true && bx && bt) = TB) := hTf
            clear hTf hA
            cases bx <;> cases bt
            all_goals
              go_wp2_with (first
                | (go_at_call 32; with_reducible refine (kx _).mono ?_; rintro e w' ⟨rfl, hw'⟩; have hw2 := hw'.symm; subst hw2)
                | (go_at_call 32; with_reducible refine (kt _).mono ?_; rintro e w' ⟨rfl, hw'⟩; have hw2 := hw'.symm; subst hw2))
              go_meet
              exact ⟨by rw [← HTF.out]; rfl, rfl⟩
          · have q : ((xf : Int) == (a : Int)) = false := by simp; omega
            rw [decide_eq_false hA] at hTf
            have HTF : Hid ((false && bx && bt) = TB) := hTf
            clear hTf hA
            go_wp2_with fail
            go_meet
            exact ⟨by rw [← HTF.out]; rfl, rfl⟩
      case rest =>
        obtain ⟨hvc, hwc⟩ := hcut
        subst hvc
        have sX : Stay wr wc := by rw [hwc]; exact HW2.out.trans (Stay.new _ _)
        have kX := HKR.out.stay sX
        obtain ⟨hq, hst⟩ := HP.out wc kX.1
        have hd : wc.heap[w2.heap.size]? = some (.cells #[.int .i64 t1, .string ⟨t2.toArray⟩, .int .i64 (t3 : Int), .int .i64 (t4 : Int)] 25 (0, 0)) := by rw [hwc]; exact heap_new _ _
        have HX : Hid (KR W0 wc (.slice av pre.length cv) pre ∧ wc.heap[w.heap.size]? = some (.cells #[.int .i64 0, .string ⟨#[]⟩, .int .i64 0, .int .i64 0] 25 (0, 0)) ∧ Stay w wc ∧ W0.heap.size ≤ wc.heap.size) := ⟨kX, hq, hst, kX.1.size⟩
        obtain ⟨c0, c1, c2, c3, c4, c5, c6, c7⟩ := four hq
        obtain ⟨d0, d1, d2, d3, -⟩ := four hd
        clear sX kX hq hst hd hwc
        cases TB
        · cases wh
          · have hU := HH.out rfl rfl
            subst hU
            go_wp2_with fail
            go_region
            go_wp2
            obtain ⟨q0, q1, q2, q3, -⟩ := four (set4 HX.out.2.1 (.int .i64 t1) (.string ⟨t2.toArray⟩) (.int .i64 (t3 : Int)) (.int .i64 (t4 : Int)))
            have hE := HX.out.1.put HW0.out.2 HX.out.2.2.1 (.int .i64 t1) (.string ⟨t2.toArray⟩) (.int .i64 (t3 : Int)) (.int .i64 (t4 : Int))
            refine bodyPost_ret (v := .tuple #[.slice av pre.length cv, .agg #[.int .i64 t1, .string ⟨t2.toArray⟩, .int .i64 (t3 : Int), .int .i64 (t4 : Int)], .int .i64 (af : Int), .int .i64 11]) (by simp [results, Tryd.results10, go_sem, q0, q1, q2, q3]) rfl ⟨_, rfl, ?_, ?_⟩
            · exact hE.1
            · exact hE.2.trans (Stay.drew _)
          · have hsz := HX.out.2.2.2
            have HSS : Hid (RI s.data.toList (pre ++ [⟨t1, t2, t3, t4⟩]) af (farB s.data.toList af) ∧ a < af) := HS.out rfl rfl
            clear HS HH HB
            go_wp2_with (first
              | (at_builtin; refine wpList_append_own _ rfl _ _ 22 rfl W0.heap.size 25 i0 _ 4 40 Tryd.underlying22 hi hz0 hz1 hz2 rfl (by decide) _ _ _ rfl (World.ownsRow.alloc HX.out.1.2 _) ⟨wc.heap.size, 0, none⟩ 1 1 (Tok.row ⟨t1, t2, t3, t4⟩) rfl rfl (new_cells wc (Tok.row ⟨t1, t2, t3, t4⟩) 25) (by simp [Tok.row, Value.oneCell']) (by unfold maxLen; omega) (by omega) (by simp; omega) ?_; intro v' w1 hown' hgrow _; have HN : Hid (KR W0 w1 v' (pre ++ [⟨t1, t2, t3, t4⟩])) := HX.out.1.step hown' hgrow; clear hown' hgrow)
              | (go_at_call 30; refine (bl _).mono ?_; rintro e w' ⟨rfl, hw'⟩; have hw2 := hw'.symm; subst hw2))
            go_roundw
            case rel => exact ⟨pre ++ [⟨t1, t2, t3, t4⟩], af, farB s.data.toList af, rfl, HSS.out.1, HN.out⟩
            case measure => have h1 := HSS.out.2; have h2 := HSS.out.1.atLe; simp [intOf]; omega
        · have hU := HB.out rfl
          subst hU
          go_wp2_with fail
          obtain ⟨q0, q1, q2, q3, -⟩ := four (set4 HX.out.2.1 (.int .i64 0) (.string ⟨#[]⟩) (.int .i64 0) (.int .i64 0))
          have hE := HX.out.1.put HW0.out.2 HX.out.2.2.1 (.int .i64 0) (.string ⟨#[]⟩) (.int .i64 0) (.int .i64 0)
          refine bodyPost_ret (v := .tuple #[.slice av pre.length cv, .agg #[.int .i64 0, .string ⟨#[]⟩, .int .i64 0, .int .i64 0], .int .i64 (a : Int), .int .i64 11]) (by simp [results, Tryd.results10, go_sem, q0, q1, q2, q3]) rfl ⟨_, rfl, ?_, ?_⟩
          · exact hE.1
          · exact hE.2
    · have hU : U = (pre, tok0, s.size, 0) := by rw [← HR.out.2.1, ← HR.out.2.2]; exact hRI.done (by rw [HR.out.2.2]; omega)
      subst hU
      obtain ⟨hq, hst⟩ := HP.out wr hKR.1
      have HX : Hid (KR W0 wr u6 pre ∧ wr.heap[w.heap.size]? = some (.cells #[.int .i64 0, .string ⟨#[]⟩, .int .i64 0, .int .i64 0] 25 (0, 0)) ∧ Stay w wr) := ⟨hKR, hq, hst⟩
      obtain ⟨c0, c1, c2, c3, c4, c5, c6, c7⟩ := four hq
      have hai : ¬ (a : Int) < (s.size : Int) := by omega
      obtain ⟨av, bv, cv, hv, -⟩ := hKR.2.form
      subst hv
      clear hal hRI hKR hnx hbl hq hst
      go_wp2_with fail
      obtain ⟨q0, q1, q2, q3, -⟩ := four (set4 HX.out.2.1 (.int .i64 0) (.string ⟨#[]⟩) (.int .i64 0) (.int .i64 0))
      have hE := HX.out.1.put HW0.out.2 HX.out.2.2 (.int .i64 0) (.string ⟨#[]⟩) (.int .i64 0) (.int .i64 0)
      refine bodyPost_ret (v := .tuple #[.slice av pre.length cv, .agg #[.int .i64 0, .string ⟨#[]⟩, .int .i64 0, .int .i64 0], .int .i64 (s.size : Int), .int .i64 0]) (by simp [results, Tryd.results10, go_sem, q0, q1, q2, q3]) rfl ⟨_, rfl, ?_, ?_⟩
      · exact hE.1
      · exact hE.2

theorem cellsK_cons (t : Tok) (ts : List Tok) : cellsK (t :: ts) = Tok.row t ++ cellsK ts := by simp [cellsK]
theorem cellsK_set (x : Tok) : ∀ (ts : List Tok) (i : Nat), i < ts.length → cellsK (ts.set i x) = ((((cellsK ts).set (i * 4) (.int .i64 x.kind)).set (i * 4 + 1) (.string ⟨x.text.toArray⟩)).set (i * 4 + 2) (.int .i64 (x.at_ : Int))).set (i * 4 + 3) (.int .i64 (x.fin : Int))
  | [], _, h => by simp at h
  | t :: ts, 0, _ => by
    rw [List.set_cons_zero, cellsK_cons, cellsK_cons]
    rfl
  | t :: ts, i + 1, h => by
    have ih := cellsK_set x ts i (by simpa using h)
    have hl : (Tok.row t).length = 4 := rfl
    have e : ∀ (X : List Value) (k : Nat) (u : Value), (Tok.row t ++ X).set ((i + 1) * 4 + k) u = Tok.row t ++ X.set (i * 4 + k) u := fun X k u => by
      rw [List.set_append_right _ _ (by rw [hl]; omega), hl, show (i + 1) * 4 + k - 4 = i * 4 + k by omega]
    have e0 := fun X u => e X 0 u
    simp only [Nat.add_zero] at e0
    rw [List.set_cons_succ, cellsK_cons, cellsK_cons, ih, e0, e, e, e]
theorem LB.set {w W0 W1 X wr : World} {g c : Nat} {pre : List Tok} (h : LB w W0 W1 X wr (.slice (some ⟨g, 0, none⟩) pre.length c) pre) (hw : w.heap.size ≤ W0.heap.size) (i : Nat) (hi : i < pre.length) (x : Tok) :
    LB w W0 W1 X ((((wr.setCell ⟨g, i * 4, none⟩ (.int .i64 x.kind)).setCell ⟨g, i * 4 + 1, none⟩ (.string ⟨x.text.toArray⟩)).setCell ⟨g, i * 4 + 2, none⟩ (.int .i64 (x.at_ : Int))).setCell ⟨g, i * 4 + 3, none⟩ (.int .i64 (x.fin : Int))) (.slice (some ⟨g, 0, none⟩) pre.length c) (pre.set i x) := by
  have h1 := World.ownsRow.stored h.own (i * 4) (.int .i64 x.kind)
  have h2 := World.ownsRow.stored h1.1 (i * 4 + 1) (.string ⟨x.text.toArray⟩)
  have h3 := World.ownsRow.stored h2.1 (i * 4 + 2) (.int .i64 (x.at_ : Int))
  have h4 := World.ownsRow.stored h3.1 (i * 4 + 3) (.int .i64 (x.fin : Int))
  have hg := h.blk g rfl
  have hlt := (World.ownsRow.lt h.own g rfl).1
  refine ⟨?_, h.blk, fun k k1 k2 => ?_, ?_, ?_⟩
  · unfold OwnK
    rw [List.length_set, cellsK_set x pre i hi]
    exact h4.1
  · have hne : k ≠ g := by omega
    exact ((Below.heap_setCell _ _ _ _ hne).trans ((Below.heap_setCell _ _ _ _ hne).trans ((Below.heap_setCell _ _ _ _ hne).trans (Below.heap_setCell _ _ _ _ hne)))).trans (h.mid k k1 k2)
  · have hwg : w.heap.size ≤ g := by omega
    exact stay_set (stay_set (stay_set (stay_set h.st hwg _) hwg _) hwg _) hwg _
  · have := h.size
    simpa [World.setCell] using this
theorem LB.step1 {w W0 W1 X wr w1 : World} {v v' : Value} {pre : List Tok} {x : Tok} {o2 : Obj} (h : LB w W0 W1 X wr v pre) (hw : w.heap.size ≤ W0.heap.size)
    (hown : w1.ownsRow W0.heap.size 25 4 v' (pre.length + 1) (cellsK pre ++ Tok.row x)) (hg : (wr.alloc o2).grownBy w1 v.ownBlock)
    (hob : v'.ownBlock = v.ownBlock ∨ v'.ownBlock = some (wr.alloc o2).heap.size) : LB w W0 W1 X w1 v' (pre ++ [x]) := by
  have hsz := h.size
  have hgs := hg.size
  rw [World.size_alloc] at hgs
  refine ⟨?_, fun j hj => ?_, fun k k1 k2 => ?_, ?_, by omega⟩
  · unfold OwnK
    rw [List.length_append, List.length_singleton, show cellsK (pre ++ [x]) = cellsK pre ++ Tok.row x by rw [cellsK_append]; simp [cellsK]]
    exact hown
  · rcases hob with e | e
    · exact h.blk j (e ▸ hj)
    · rw [e] at hj
      simp only [Option.some.injEq, World.size_alloc] at hj
      omega
  · refine (hg.block k (by rw [World.size_alloc]; omega) (fun e => ?_)).trans ?_
    · have := h.blk k e.symm
      omega
    · exact (Below.heap_alloc _ _ k (by omega)).trans (h.mid k k1 k2)
  · have s2 : Stay w (wr.alloc o2) := h.st.alloc _
    exact s2.grown hg s2.size (fun k e => Nat.le_trans hw (World.ownsRow.lt h.own k e).1)
theorem LB.drawN {w W0 W1 X wr : World} {v : Value} {pre : List Tok} (h : LB w W0 W1 X wr v pre) (m : Nat) : LB w W0 W1 X (wr.drewN m) v pre :=
  ⟨OwnK.stay h.own (Stay.drewN _ _), h.blk, fun k k1 k2 => h.mid k k1 k2, h.st.trans (Stay.drewN _ _), h.size⟩
/-- The first k are marked. -/
theorem mark_set (x : Tok) (l : List Tok) (k : Nat) (h : k < l.length) : (List.replicate k x ++ l.drop k).set k x = List.replicate (k + 1) x ++ l.drop (k + 1) := by
  rw [List.set_append_right _ _ (by simp), List.length_replicate, Nat.sub_self, List.drop_eq_getElem_cons h, List.set_cons_zero, List.replicate_succ']
  simp
end Go.Proofs.YtioafeckaeaopaaDoor
