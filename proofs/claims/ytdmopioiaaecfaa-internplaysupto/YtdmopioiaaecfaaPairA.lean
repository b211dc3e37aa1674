/- A pair of tables: the program's and the document's, with the same texts, or neither; finds, texts. -/
import Derived.Test.YtdmopioiaaecfaaLentB
namespace Go.Proofs.Ytdmopioiaaecfaa
open Go.RowKit Go.Maps

/-- The pointers p, q: two tables with the texts ts whose blocks are those of P. -/
def Two (W : World) (P : Nat → Prop) (p q : Value) (ts : List ByteArray) : Prop :=
  ∃ bt bm g cap br sv, p = .pointer (some ⟨bt, 0, none⟩) ∧ q = .pointer (some ⟨br, 0, none⟩) ∧ Tab W bt bm g cap ts ∧ RTab W br sv ts ∧ (∀ k, foot bt bm g k → ¬ rfoot br sv k) ∧ ∀ k, P k ↔ (foot bt bm g k ∨ rfoot br sv k)

/-- .. or no tables. -/
def Pr (W : World) (P : Nat → Prop) (p q : Value) (ts : List ByteArray) : Prop :=
  (p = .pointer none ∧ q = .pointer none ∧ ts = [] ∧ ∀ k, ¬ P k) ∨ Two W P p q ts

section
variable {W W' : World} {P : Nat → Prop} {p q : Value} {ts : List ByteArray}

theorem Two.lt (h : Two W P p q ts) : ∀ k, P k → k < W.heap.size := by
  obtain ⟨bt, bm, g, cap, br, sv, rfl, rfl, hT, hR, hd, hP⟩ := h
  intro k hk
  rcases (hP k).1 hk with h1 | h1
  · have := hT.lt; rcases h1 with rfl | rfl | rfl <;> omega
  · exact hR.lt k h1

theorem Pr.lt (h : Pr W P p q ts) : ∀ k, P k → k < W.heap.size := by
  rcases h with ⟨_, _, _, h⟩ | h
  · exact fun k hk => absurd hk (h k)
  · exact h.lt

theorem Two.kept {S : Nat → Prop} (h : Two W P p q ts) (ht : Turn S W W') (hn : ∀ k, P k → ¬ S k) : Two W' P p q ts := by
  obtain ⟨bt, bm, g, cap, br, sv, rfl, rfl, hT, hR, hd, hP⟩ := h
  exact ⟨bt, bm, g, cap, br, sv, rfl, rfl, hT.kept ht (fun k hk => hn k ((hP k).2 (.inl hk))), hR.kept ht (fun k hk => hn k ((hP k).2 (.inr hk))), hd, hP⟩

theorem Pr.kept {S : Nat → Prop} (h : Pr W P p q ts) (ht : Turn S W W') (hn : ∀ k, P k → ¬ S k) : Pr W' P p q ts :=
  h.imp id (fun h => h.kept ht hn)

theorem Two.below (h : Two W P p q ts) (hb : Below W.heap.size W W') : Two W' P p q ts := h.kept (Turn.of_below hb) (fun k hk => by have := h.lt k hk; omega)
theorem Pr.below (h : Pr W P p q ts) (hb : Below W.heap.size W W') : Pr W' P p q ts := h.kept (Turn.of_below hb) (fun k hk => by have := h.lt k hk; omega)
theorem Two.drewN (h : Two W P p q ts) (n : Nat) : Two (W.drewN n) P p q ts := h.kept (Turn.drewN (fun _ => False) W n) (fun _ _ e => e)

/-- What a step leaves: the pair with the texts us, in its own blocks or in new ones. -/
def Goes (W : World) (P : Nat → Prop) (p q : Value) (us : List ByteArray) (W' : World) : Prop :=
  ∃ P', Pr W' P' p q us ∧ (∀ k, P' k → P k ∨ W.heap.size ≤ k) ∧ Turn P W W'

theorem Goes.of_below (h : Pr W P p q ts) (hb : Below W.heap.size W W') : Goes W P p q ts W' :=
  ⟨P, h.below hb, fun _ hk => .inl hk, (Turn.of_below hb).mono (fun i hi e => by omega)⟩

theorem le16' {x : Nat} (h : x ≤ 8796093022208) : x * 16 ≤ 140737488355328 := Nat.le_trans (Nat.mul_le_mul_right 16 h) (by decide)
theorem below_drewN' (W : World) (n : Nat) : Below W.heap.size W (W.drewN n) := below_drewN (Below.refl _ _)

set_option maxRecDepth 100000 in
set_option maxHeartbeats 400000 in
theorem finds_yes (h : Two W P p q ts) (a : Option Addr) (b off c : Nat) (ss : List ByteArray) (hS : StrsAt W a b off ss) (hsz : ∀ s ∈ ss, s.size ≤ 281474976710656) (hl : ss.length ≤ 8796093022208) :
    Calls Try.prog 37 #[p, q, .slice a ss.length c] W fun e W' => e = .returned (.bool true) ∧ W' = W := by
  obtain ⟨bt, bm, g, cap, br, sv, rfl, rfl, hT, hR, hd, hP⟩ := h
  have H : Hid (Tab W bt bm g cap ts ∧ RTab W br sv ts ∧ StrsAt W a b off ss ∧ ∀ s ∈ ss, s.size ≤ 281474976710656) := ⟨hT, hR, hS, hsz⟩
  clear hT hR hd hP hS hsz
  go_enter Try.func37, Try.ntmps37
  go_wp2
  go_loop [7] (fun i => ∃ k : Nat, k ≤ ss.length ∧ i = .int .i64 k) (fun i => ss.length - (intOf i).toNat)
  case atStart => exact ⟨0, Nat.zero_le _, rfl⟩
  case round =>
    obtain ⟨k, hk, rfl⟩ := hrel
    by_cases hlt : k < ss.length
    · obtain rfl := H.out.2.2.1.1 (by omega)
      have hc := H.out.2.2.1.2 k hlt
      have hkb : (k : Int) < (ss.length : Int) := by omega
      have hf := find_yes H.out.1 ss[k] (by have := H.out.2.2.2 _ (List.getElem_mem hlt); unfold maxLen; omega)
      have hr := rfind_yes H.out.2.1 ss[k]
      generalize ss[k] = s at hc hf hr
      generalize found ts s = fd at hf hr
      generalize ts.contains s = ct at hf hr
      go_wp2_with (first | (go_at_call 31; refine Calls.mono hf ?_; rintro e w' ⟨rfl, hw⟩; have hw' := hw.symm; subst hw') | (go_at_call 47; refine Calls.mono hr ?_; rintro e w' ⟨rfl, hw⟩; have hw' := hw.symm; subst hw'))
      go_round
      case rel => exact ⟨k + 1, by omega, by go_num⟩
      case measure => simp [intOf]; omega
    · go_wp2
      go_ret
      exact ⟨rfl, rfl⟩

set_option maxRecDepth 100000 in
set_option maxHeartbeats 400000 in
theorem finds_no (W : World) (a : Option Addr) (b off c : Nat) (ss : List ByteArray) (hS : StrsAt W a b off ss) (hl : ss.length ≤ 8796093022208) :
    Calls Try.prog 37 #[.pointer none, .pointer none, .slice a ss.length c] W fun e W' => e = .returned (.bool true) ∧ W' = W := by
  have H : Hid (StrsAt W a b off ss) := hS
  clear hS
  go_enter Try.func37, Try.ntmps37
  go_wp2
  go_loop [7] (fun i => ∃ k : Nat, k ≤ ss.length ∧ i = .int .i64 k) (fun i => ss.length - (intOf i).toNat)
  case atStart => exact ⟨0, Nat.zero_le _, rfl⟩
  case round =>
    obtain ⟨k, hk, rfl⟩ := hrel
    by_cases hlt : k < ss.length
    · obtain rfl := H.out.1 (by omega)
      have hc := H.out.2 k hlt
      have hkb : (k : Int) < (ss.length : Int) := by omega
      have hf := find_no W (.pointer none) ss[k] (made_nil W)
      have hr := rfind_no W ss[k]
      generalize ss[k] = s at hc hf hr
      go_wp2_with (first | (go_at_call 31; refine Calls.mono hf ?_; rintro e w' ⟨rfl, hw⟩; have hw' := hw.symm; subst hw') | (go_at_call 47; refine Calls.mono hr ?_; rintro e w' ⟨rfl, hw⟩; have hw' := hw.symm; subst hw'))
      go_round
      case rel => exact ⟨k + 1, by omega, by go_num⟩
      case measure => simp [intOf]; omega
    · go_wp2
      go_ret
      exact ⟨rfl, rfl⟩

set_option maxRecDepth 100000 in
set_option maxHeartbeats 400000 in
theorem texts_pair (h : Pr W P p q ts) (a : Option Addr) (b off c : Nat) (zs : List Int) (hS : IntsS W a b off zs) (ha : a = none → c = 0 ∧ zs = []) (h0 : 0 < W.heap.size) (hl : zs.length ≤ 1099511627776) :
    Calls Try.prog 39 #[p, q, .slice a zs.length c] W fun e W' => e = .returned (.bool true) ∧ Below W.heap.size W W' := by
  have hlent := lentI_any W a b off c zs hS ha (by omega)
  obtain ⟨bz, hSz, hbz⟩ := hS.pick h0
  have HS : Hid (IntsS W a bz off zs ∧ bz < W.heap.size) := ⟨hSz, hbz⟩
  have HL : Hid (zs.length ≤ 1099511627776) := hl
  clear hS ha hSz hbz
  have HC : Hid (∀ W1 b1 c1, IntsS W1 (some ⟨b1, 0, none⟩) b1 0 zs → b1 < W1.heap.size → Below W.heap.size W W1 → ∃ us te, us.length ≤ zs.length ∧
      (Calls Try.prog 25 #[p, .slice (some ⟨b1, 0, none⟩) zs.length c1] W1 fun e w' => ∃ v, e = .returned (.tuple #[v, .int .i64 te]) ∧ Told W1 us v w') ∧
      (∀ W2, Below W1.heap.size W1 W2 → Calls Try.prog 26 #[q, .slice a zs.length c] W2 fun e w' => ∃ v, e = .returned (.tuple #[v, .int .i64 te]) ∧ Told W2 us v w')) := by
    intro W1 b1 c1 hI1 hb1 hB
    rcases h with ⟨rfl, rfl, _, _⟩ | h
    · refine ⟨[], 1, Nat.zero_le _, (texts_no W1 _ _ (made_nil W1)).mono ?_, fun W2 hB2 => (rtexts_no W2 _).mono ?_⟩
      · rintro e w' ⟨rfl, rfl⟩
        exact ⟨_, rfl, by simpa using World.ownsRow_nil w' w'.heap.size 9 1, Below.refl _ _⟩
      · rintro e w' ⟨rfl, rfl⟩
        exact ⟨_, rfl, by simpa using World.ownsRow_nil w' w'.heap.size 9 1, Below.refl _ _⟩
    · have h1 := h.below hB
      have hs1 := hB.size
      obtain ⟨bt, bm, g, cap, br, sv, rfl, rfl, hT, hR, _, _⟩ := h1
      refine ⟨ttx ts zs, terr ts zs, ttx_len ts zs, texts_yes hT zs _ b1 0 c1 hI1 hb1 (by have := HL.out; omega), fun W2 hB2 => ?_⟩
      have hBW2 : Below W.heap.size W W2 := hB.trans (hB2.mono hB.size)
      exact rtexts_yes (hR.below hB2) zs a bz off c (HS.out.1.below hBW2) (by have := HS.out.2; have := hBW2.size; omega) (le16' (by have := HL.out; omega))
  clear h
  go_enter Try.func39, Try.ntmps39
  go_wp2_with fail
  refine hlent.mono ?_
  rintro e W1 ⟨b1, c1, rfl, hrow, hB1⟩
  obtain ⟨us, te, hul, hc1, hc2⟩ := HC.out W1 b1 c1 (ints_of_row2 hrow) (hrow.lt b1 rfl).2 hB1
  have HR : Hid (W1.ownsRow W.heap.size 3 1 (.slice (some ⟨b1, 0, none⟩) (zs.length + 2) c1) (zs.length + 2) (zs.map (Value.int .i64) ++ [imark, imark]) ∧ Below W.heap.size W W1) := ⟨hrow, hB1⟩
  clear hrow hB1 hlent HC
  go_wp2_with fail
  refine hc1.mono ?_
  rintro e W2 ⟨v1, rfl, hr1, hB2⟩
  have hc3 := hc2 W2 hB2
  have HB2 : Hid (W2.ownsRow W1.heap.size 9 1 v1 us.length (us.map Value.string) ∧ Below W1.heap.size W1 W2) := ⟨hr1, hB2⟩
  clear hc1 hc2 hr1 hB2
  go_wp2_with fail
  refine hc3.mono ?_
  rintro e W3 ⟨v2, rfl, hr2, hB3⟩
  obtain ⟨_, a1, d1, e1, hv1, hst1, hm1, _⟩ := row_strs (row_below HB2.out.1 hB3)
  obtain ⟨_, a2, d2, e2, hv2, hst2, hm2, _⟩ := row_strs hr2
  subst hv1 hv2
  have hB13 : Below W1.heap.size W1 W3 := HB2.out.2.trans (hB3.mono HB2.out.2.size)
  have hB03 : Below W.heap.size W W3 := HR.out.2.trans (hB13.mono HR.out.2.size)
  have hsm := sameTexts_same W3 a1 a2 d1 0 d2 0 e1 e2 us hst1 hst2 hm1
  have hle : ∀ n, Calls Try.prog 54 #[.slice (some ⟨b1, 0, none⟩) zs.length c1, .slice a zs.length c] (W3.drewN n) _ := fun n => leftInts_yes (W3.drewN n) b1 c1 a bz off c W.heap.size zs (row_drewN (row_below HR.out.1 hB13)) ((HS.out.1.below hB03).drewN n)
  have HB : Hid (Below W.heap.size W W3) := hB03
  clear hc3 hr2 hB3 hst1 hst2 hB13 hB03 hm1 hm2
  go_wp2_with (first | (go_at_call 24; refine Calls.mono (num_any _ _) ?_; rintro e w' ⟨rfl, hw⟩; have hw' := hw.symm; subst hw') | (go_at_call 27; refine Calls.mono hsm ?_; rintro e w' ⟨rfl, n1, rfl⟩; clear hsm) | (go_at_call 54; refine Calls.mono (hle _) ?_; rintro e w' ⟨rfl, n2, rfl⟩; clear hle))
  go_ret
  exact ⟨rfl, below_drewN HB.out⟩
end
end Go.Proofs.Ytdmopioiaaecfaa
