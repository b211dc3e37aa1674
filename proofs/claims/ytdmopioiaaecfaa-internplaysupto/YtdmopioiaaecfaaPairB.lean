/- A pair of tables: puts (texts are put in by both, the list stays, what was answered is written over). -/
import Derived.Test.YtdmopioiaaecfaaPairA
namespace Go.Proofs.Ytdmopioiaaecfaa
open Go.RowKit Go.Maps

/-- Block b has n cells or more of type t. -/
def Room (w : World) (t : TypeId) (b n : Nat) : Prop := ∃ cur, w.heap[b]? = some (.cells cur t (0, 0)) ∧ n ≤ cur.size

section
variable {W W' : World} {t : TypeId} {b n : Nat}
theorem Room.at (h : Room W t b n) {k : Nat} (hk : k < n) : (∃ x, W.cell? ⟨b, k, none⟩ = some x) ∧ W.frozen? ⟨b, k, none⟩ = false := by
  obtain ⟨cur, h1, h2⟩ := h
  exact ⟨⟨cur[k]'(by omega), by simp [World.cell?, h1, show k < cur.size by omega]⟩, by simp [World.frozen?, h1]⟩
theorem Room.set (h : Room W t b n) (k : Nat) (v : Value) : Room (W.setCell ⟨b, k, none⟩ v) t b n := by
  obtain ⟨cur, h1, h2⟩ := h
  refine ⟨cur.setIfInBounds k v, ?_, by simpa using h2⟩
  simp only [World.setCell, Array.getElem?_modify, h1]
  simp
theorem Room.lt (h : Room W t b n) : b < W.heap.size := by
  obtain ⟨cur, h1, h2⟩ := h
  exact (Array.getElem?_eq_some_iff.1 h1).1
theorem Room.kept {S : Nat → Prop} (h : Room W t b n) (ht : Turn S W W') (hn : ¬ S b) : Room W' t b n := by
  have hl := h.lt
  obtain ⟨cur, h1, h2⟩ := h
  exact ⟨cur, (ht.block b hl hn).trans h1, h2⟩
theorem room_row {base n m c : Nat} {xs : List Value} (h : W.ownsRow base t 1 (.slice (some ⟨b, 0, none⟩) n c) n xs) (hm : m ≤ n) : Room W t b m := by
  rcases h.2 with ⟨hx, _⟩ | ⟨g, cap, cur, hv, hb, hh, h1, h2, h3, h4⟩
  · simp at hx
  · simp only [Value.slice.injEq, Option.some.injEq, Addr.mk.injEq, and_true, true_and] at hv
    obtain ⟨rfl, rfl⟩ := hv
    exact ⟨cur, hh, by omega⟩
theorem room_ints {zs : List Int} (h : IntsAt W b n zs) : Room W 3 b n := by
  obtain ⟨cur, h1, h2, _⟩ := h
  exact ⟨cur, h1, by omega⟩
end

section
variable {W W' w1 w2 w3 : World} {P : Nat → Prop} {p q : Value} {ts us : List ByteArray} {bt bm g cap br : Nat} {sv : Value}

/-- What is left of a pair behind a list that is put in by both. -/
theorem puts_left (hT : Tab W bt bm g cap ts) (hR : RTab W br sv ts) (hd : ∀ k, foot bt bm g k → ¬ rfoot br sv k) (hP : ∀ k, P k ↔ (foot bt bm g k ∨ rfoot br sv k)) (hB : Below W.heap.size W w1)
    (h1 : Puts w1 bt bm g us w2) {n : Nat} {zs : List Int} (hA : IntsAt w2 w1.heap.size n zs) (h2 : RPuts w2 br sv us w3) {bl : Nat} (hbl : W.heap.size ≤ bl ∧ bl < w1.heap.size) :
    ∃ P', Two w3 P' (.pointer (some ⟨bt, 0, none⟩)) (.pointer (some ⟨br, 0, none⟩)) us ∧ (∀ k, P' k → (P k ∨ W.heap.size ≤ k) ∧ k ≠ bl ∧ k ≠ w1.heap.size) ∧ Turn P W w3 := by
  obtain ⟨g', cap', hT2, hg', ht2⟩ := h1
  obtain ⟨sv', hR3, hs', ht3⟩ := h2
  have hlt := hT.lt
  have hrl := hR.lt
  have hlt2 := hT2.lt
  have hs1 := hB.size
  have hs2 := ht2.size
  have hne := hA.ne hT2
  have hT3 : Tab w3 bt bm g' cap' us := hT2.kept ht3 (fun k hk hf => by
    rcases hk with rfl | rfl | rfl
    · exact hd _ (.inl rfl) hf
    · exact hd _ (.inr (.inl rfl)) hf
    · rcases hg' with rfl | hg'
      · exact hd _ (.inr (.inr rfl)) hf
      · have := hrl _ hf; omega)
  refine ⟨fun k => foot bt bm g' k ∨ rfoot br sv' k, ⟨bt, bm, g', cap', br, sv', rfl, rfl, hT3, hR3, ?_, fun _ => Iff.rfl⟩, ?_, ?_⟩
  · intro k hk hf
    have hk2 : k < w2.heap.size := by rcases hk with rfl | rfl | rfl <;> omega
    have hrf : rfoot br sv k := by
      rcases hf with rfl | hf
      · exact .inl rfl
      · rcases hs' k hf with h | h
        · exact .inr h
        · omega
    rcases hk with rfl | rfl | rfl
    · exact hd _ (.inl rfl) hrf
    · exact hd _ (.inr (.inl rfl)) hrf
    · rcases hg' with rfl | hg'
      · exact hd _ (.inr (.inr rfl)) hrf
      · have := hrl _ hrf; omega
  · rintro k (hk | hk)
    · refine ⟨?_, ?_, hne k hk⟩
      · rcases hk with rfl | rfl | rfl
        · exact .inl ((hP _).2 (.inl (.inl rfl)))
        · exact .inl ((hP _).2 (.inl (.inr (.inl rfl))))
        · rcases hg' with rfl | hg'
          · exact .inl ((hP _).2 (.inl (.inr (.inr rfl))))
          · exact .inr (by omega)
      · rcases hk with rfl | rfl | rfl
        · omega
        · omega
        · rcases hg' with rfl | hg' <;> omega
    · have hlA := hA.lt
      rcases hk with rfl | hk
      · have := hrl _ (.inl rfl)
        exact ⟨.inl ((hP _).2 (.inr (.inl rfl))), by omega, by omega⟩
      · rcases hs' k hk with h | h
        · have := hrl _ (.inr h)
          exact ⟨.inl ((hP _).2 (.inr (.inr h))), by omega, by omega⟩
        · exact ⟨.inr (by omega), by omega, by omega⟩
  · have e1 : Turn P W w1 := (Turn.of_below hB).mono (fun i hi e => by omega)
    refine (e1.trans ht2 (fun i hi hf => (hP i).2 (.inl hf))).trans ht3 (fun i hi hf => (hP i).2 (.inr hf))

theorem Two.goes {P' : Nat → Prop} (h : Two w3 P' p q us) (hs : ∀ k, P' k → P k ∨ W.heap.size ≤ k) (ht : Turn P W w3) {S : Nat → Prop} (hk : Turn S w3 W') (hS : ∀ k, S k → W.heap.size ≤ k ∧ ¬ P' k) : Goes W P p q us W' :=
  ⟨P', .inr (h.kept hk (fun k hk hs => (hS k hs).2 hk)), hs, ht.trans hk (fun i hi e => by have := (hS i e).1; omega)⟩

theorem nums_len (ts ss : List ByteArray) : (nums ts ss).length = ss.length := by
  induction ss generalizing ts with
  | nil => rfl
  | cons s l ih => simp [nums, ih]

set_option maxRecDepth 100000 in
set_option maxHeartbeats 2000000 in
theorem puts_yes (h : Two W P p q ts) (a : Option Addr) (b off c : Nat) (ss : List ByteArray) (hS : StrsAt W a b off ss) (ha : a = none → c = 0 ∧ ss = []) (hnb : 0 < ss.length → ¬ P b) (hsz : ∀ s ∈ ss, s.size ≤ 281474976710656) (hl : (ts.length + ss.length + 2) ≤ 8796093022208) :
    Calls Try.prog 36 #[p, q, .slice a ss.length c] W fun e W' => e = .returned (.bool true) ∧ Goes W P p q (putAll ts ss) W' := by
  obtain ⟨bt, bm, g, cap, br, sv, rfl, rfl, hT, hR, hd, hP⟩ := h
  have hlt := hT.lt
  have hrl := hR.lt
  have hlent := lent_any W a b off c ss hS ha (le16' (by omega))
  have HT : Hid (Tab W bt bm g cap ts ∧ RTab W br sv ts ∧ (∀ k, foot bt bm g k → ¬ rfoot br sv k) ∧ (∀ k, P k ↔ (foot bt bm g k ∨ rfoot br sv k)) ∧ (∀ k, rfoot br sv k → k < W.heap.size)) := ⟨hT, hR, hd, hP, hrl⟩
  have HS : Hid (StrsAt W a b off ss ∧ (0 < ss.length → ¬ P b) ∧ ∀ s ∈ ss, s.size ≤ 281474976710656) := ⟨hS, hnb, hsz⟩
  clear hT hR hd hP hrl hS hnb hsz ha
  go_enter Try.func36, Try.ntmps36
  go_wp2_with fail
  refine hlent.mono ?_
  rintro e w1 ⟨bl, cl, rfl, hrow, hB1⟩
  obtain ⟨hl1, hl2⟩ := row_lt hrow
  have hs1 := hB1.size
  have hput := putAll_yes (HT.out.1.kept (Turn.of_below hB1) (by rintro k (rfl | rfl | rfl) <;> omega)) ss (some ⟨bl, 0, none⟩) bl 0 cl (strs_of_row hrow) (by rintro k (rfl | rfl | rfl) <;> omega) HS.out.2.2 (le16' (by omega))
  have H1 : Hid (w1.ownsRow W.heap.size 9 1 (.slice (some ⟨bl, 0, none⟩) (ss.length + 2) cl) (ss.length + 2) (ss.map Value.string ++ [mark, mark]) ∧ Below W.heap.size W w1 ∧ W.heap.size ≤ bl ∧ bl < w1.heap.size) := ⟨hrow, hB1, hl1, hl2⟩
  clear hrow hB1 hl1 hl2 hlent
  go_wp2_with fail
  refine hput.mono ?_
  rintro e w2 ⟨rfl, hA, hp⟩
  obtain ⟨g', cap', hT2, hg', ht2⟩ := id hp
  have hs2 := ht2.size
  have hR2 : RTab w2 br sv ts := ((HT.out.2.1.below H1.out.2.1).kept ht2 (fun k hk hf => HT.out.2.2.1 k hf hk))
  obtain ⟨bb, hSb, hbb⟩ : ∃ bb, StrsAt w2 a bb off ss ∧ ∀ k, rfoot br sv k → k ≠ bb := by
    by_cases h0 : 0 < ss.length
    · have hb0 := HS.out.2.1 h0
      refine ⟨b, (HS.out.1.below H1.out.2.1).kept ht2 (fun hf => hb0 ((HT.out.2.2.2.1 b).2 (.inl hf))), fun k hk e => hb0 ((HT.out.2.2.2.1 b).2 (.inr (e ▸ hk)))⟩
    · have h0' : ss = [] := List.length_eq_zero_iff.1 (by omega)
      subst h0'
      exact ⟨W.heap.size, ⟨fun h => absurd h (Nat.lt_irrefl _), fun j hj => by simp at hj⟩, fun k hk e => by have := HT.out.2.2.2.2 k hk; omega⟩
  have hrput := rputAll_yes hR2 ss a bb off c hSb hbb (le16' (by omega))
  have H2 : Hid (IntsAt w2 w1.heap.size ss.length ((nums ts ss).map Int.ofNat) ∧ Puts w1 bt bm g (putAll ts ss) w2) := ⟨hA, hp⟩
  have HSb : Hid (StrsAt w2 a bb off ss ∧ ∀ k, rfoot br sv k → k ≠ bb) := ⟨hSb, hbb⟩
  clear hput hA hp hT2 hg' ht2 hR2 hSb hbb
  go_wp2_with fail
  refine hrput.mono ?_
  rintro e w3 ⟨v3, rfl, hrow3, hrp⟩
  obtain ⟨hn3, a3, b3, c3, rfl, hI3, hm3, _⟩ := row_ints hrow3
  obtain ⟨sv', hR3, hs3', ht3⟩ := id hrp
  have hAr : ¬ rfoot br sv w1.heap.size := fun hf => by have := HT.out.2.2.2.2 _ hf; omega
  have hblr : ¬ rfoot br sv bl := fun hf => by have := HT.out.2.2.2.2 _ hf; have := H1.out.2.2.1; omega
  have hblf : ¬ foot bt bm g bl := by have := H1.out.2.2.1; rintro (rfl | rfl | rfl) <;> omega
  have hA3 : IntsAt w3 w1.heap.size ss.length ((nums ts ss).map Int.ofNat) := H2.out.1.kept ht3 hAr
  have hAS : IntsS w3 (some ⟨w1.heap.size, 0, none⟩) w1.heap.size 0 ((nums ts ss).map Int.ofNat) := ⟨fun _ => rfl, fun j hj => by rw [Nat.zero_add]; exact hA3.cell j hj⟩
  have hrow1 : w3.ownsRow W.heap.size 9 1 (.slice (some ⟨bl, 0, none⟩) (ss.length + 2) cl) (ss.length + 2) (ss.map Value.string ++ [mark, mark]) := by
    obtain ⟨g', cap', hT2, hg', ht2⟩ := H2.out.2
    exact ht3.row (ht2.row H1.out.1 (fun k hk hf => by simp [Value.ownBlock] at hk; subst hk; exact hblf hf)) (fun k hk hf => by simp [Value.ownBlock] at hk; subst hk; exact hblr hf)
  have hS3 : StrsAt w3 a bb off ss := HSb.out.1.kept ht3 (fun hf => HSb.out.2 _ hf rfl)
  obtain ⟨P', hP1, hP2, hP3⟩ := puts_left HT.out.1 HT.out.2.1 HT.out.2.2.1 HT.out.2.2.2.1 H1.out.2.1 H2.out.2 H2.out.1 hrp H1.out.2.2
  have hsm := sameInts_same w3 (some ⟨w1.heap.size, 0, none⟩) a3 w1.heap.size 0 b3 0 ss.length c3 _ hAS hI3 hm3
  rw [← hn3] at hsm ⊢
  have hle : ∀ n, Calls Try.prog 52 #[.slice (some ⟨bl, 0, none⟩) ss.length cl, .slice a ss.length c] (w3.drewN n) _ := fun n => leftTexts_yes (w3.drewN n) bl cl a bb off c W.heap.size ss (row_drewN hrow1) (hS3.kept (Turn.drewN (fun _ => False) w3 n) (fun e => e))
  have HP : Hid (Two w3 P' (.pointer (some ⟨bt, 0, none⟩)) (.pointer (some ⟨br, 0, none⟩)) (putAll ts ss) ∧ (∀ k, P' k → (P k ∨ W.heap.size ≤ k) ∧ k ≠ bl ∧ k ≠ w1.heap.size) ∧ Turn P W w3) := ⟨hP1, hP2, hP3⟩
  have HRm : Hid (Room w3 9 bl ss.length ∧ Room w3 3 w1.heap.size ss.length) := ⟨room_row hrow1 (by omega), room_ints hA3⟩
  have HBl : Hid (W.heap.size ≤ bl ∧ bl < w1.heap.size) := H1.out.2.2
  clear hrow3 hrput hrp hR3 hs3' ht3 hA3 hAS hrow1 hS3 hP1 hP2 hP3 hI3 hAr hblr hblf hn3 HSb H2 H1 hm3
  generalize w1.heap.size = A at hsm HP HRm HBl hs1 ⊢
  go_wp2_with (first | (go_at_call 24; refine Calls.mono (num_any _ _) ?_; rintro e w' ⟨rfl, hw⟩; have hw' := hw.symm; subst hw') | (go_at_call 42; refine Calls.mono hsm ?_; rintro e w' ⟨rfl, n1, rfl⟩; clear hsm) | (go_at_call 52; refine Calls.mono (hle _) ?_; rintro e w' ⟨rfl, n2, rfl⟩; clear hle))
  have HQ : Hid (Turn (fun _ => False) w3 (w3.drewN (n1 + n2))) := Turn.drewN (fun _ => False) w3 (n1 + n2)
  generalize w3.drewN (n1 + n2) = w4 at HQ ⊢
  go_loopw [12] (fun i wr => ∃ k : Nat, k ≤ ss.length ∧ i = .int .i64 k ∧ Room wr 9 bl ss.length ∧ Turn (fun j => j = bl) w3 wr) (fun i _ => ss.length - (intOf i).toNat)
  case atStart => exact ⟨0, Nat.zero_le _, rfl, HRm.out.1.kept HQ.out (fun e => e), HQ.out.mono (fun _ _ e => e.elim)⟩
  case round =>
    obtain ⟨k, hk, rfl, hR, ht⟩ := hrel
    by_cases hlt2 : k < ss.length
    · have hkb : (k : Int) < (ss.length : Int) := by omega
      obtain ⟨⟨x, hx⟩, hf⟩ := hR.at hlt2
      have HN : Hid (Room (wr.setCell ⟨bl, k, none⟩ (.string ⟨#[115, 112, 111, 105, 108, 116]⟩)) 9 bl ss.length ∧ Turn (fun j => j = bl) w3 (wr.setCell ⟨bl, k, none⟩ (.string ⟨#[115, 112, 111, 105, 108, 116]⟩))) := ⟨hR.set k _, ht.trans (Turn.setCell (fun j => j = bl) wr ⟨bl, k, none⟩ _ rfl) (fun _ _ e => e)⟩
      clear hR ht
      go_wp2
      go_roundw
      case rel => exact ⟨k + 1, by omega, by go_num, HN.out⟩
      case measure => simp [intOf]; omega
    · have hkb : ¬ (k : Int) < (ss.length : Int) := by omega
      obtain rfl : k = ss.length := by omega
      have HT5 : Hid (Turn (fun j => j = bl ∨ j = A) w3 wr) := ht.mono (fun _ _ e => .inl e)
      have HR5 : Hid (Room wr 3 A ss.length) := HRm.out.2.kept ht (fun e => by have := HBl.out; omega)
      clear hR ht
      go_wp2
      go_loopw [13] (fun i wr => ∃ k : Nat, k ≤ ss.length ∧ i = .int .i64 k ∧ Room wr 3 A ss.length ∧ Turn (fun j => j = bl ∨ j = A) w3 wr) (fun i _ => ss.length - (intOf i).toNat)
      case atStart => exact ⟨0, Nat.zero_le _, rfl, HR5.out, HT5.out⟩
      case round =>
        obtain ⟨k, hk, rfl, hR, ht⟩ := hrel
        by_cases hlt2 : k < ss.length
        · have hkb : (k : Int) < (ss.length : Int) := by omega
          obtain ⟨⟨x, hx⟩, hf⟩ := hR.at hlt2
          have HN : Hid (Room (wr.setCell ⟨A, k, none⟩ (.int .i64 (-5))) 3 A ss.length ∧ Turn (fun j => j = bl ∨ j = A) w3 (wr.setCell ⟨A, k, none⟩ (.int .i64 (-5)))) := ⟨hR.set k _, ht.trans (Turn.setCell (fun j => j = bl ∨ j = A) wr ⟨A, k, none⟩ _ (.inr rfl)) (fun _ _ e => e)⟩
          clear hR ht
          go_wp2
          go_roundw
          case rel => exact ⟨k + 1, by omega, by go_num, HN.out⟩
          case measure => simp [intOf]; omega
        · have hkb : ¬ (k : Int) < (ss.length : Int) := by omega
          have HT6 : Hid (Turn (fun j => j = bl ∨ j = A) w3 wr) := ht
          clear hR ht
          go_wp2
          go_ret
          refine ⟨rfl, HP.out.1.goes (fun k hk => (HP.out.2.1 k hk).1) HP.out.2.2 HT6.out (fun k hk => ?_)⟩
          have := HBl.out
          rcases hk with rfl | rfl
          · exact ⟨by omega, fun hp => (HP.out.2.1 _ hp).2.1 rfl⟩
          · exact ⟨by omega, fun hp => (HP.out.2.1 _ hp).2.2 rfl⟩
end
end Go.Proofs.Ytdmopioiaaecfaa
