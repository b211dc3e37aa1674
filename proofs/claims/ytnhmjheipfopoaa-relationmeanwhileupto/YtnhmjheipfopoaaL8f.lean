/- Add, while some list of places is gone through. -/
import Derived.Test.YtnhmjheipfopoaaL8e
import Derived.Deep.Cut
namespace Go.Proofs.Ytnhmjheipfopoaa.L
open Go.RowKit Go.Maps Go.Shelf Go.Proofs.Ytnhmjheipfopoaa

/-- What Add answers. -/
def addV (ar : Nat) (T : List (List Int)) (t : List Int) : Array Value :=
  if okT ar t = true then (match posL T t with
    | [] => #[.int .i64 T.length, .bool true, .int .i64 0]
    | p :: _ => #[.int .i64 p, .bool false, .int .i64 0]) else #[.int .i64 0, .bool false, .int .i64 2]

section
variable {W W' : World} {F : Nat → Prop} {rb ar : Nat} {T : List (List Int)}

set_option maxRecDepth 100000 in
/-- Add of a tuple that is there. -/
theorem add_oldN {k0 n0 : Nat} (h : RelN W F rb ar T k0 n0) (hTk : T = [] → ¬ F k0) (hT : T.length ≤ 68719476736) (a : Option Addr) (b o cap : Nat) (t : List Int) (hI : IntsS W a b o t) (hl : t.length ≤ maxLen) (hn : 0 < t.length → ¬ F b) (hok : okT ar t = true) {p : Nat} {l : List Nat} (hp : posL T t = p :: l) :
    Calls Try.prog 18 #[.pointer (some ⟨rb, 0, none⟩), .slice a t.length cap] W fun e w' => e = .returned (.tuple #[.int .i64 p, .bool false, .int .i64 0]) ∧ RelN w' (Grow F W.heap.size w') rb ar T k0 n0 ∧ Turn F W w' ∧ KeepC k0 n0 W w' := by
  obtain ⟨vv, mb, L, Fs, h⟩ := h
  have hm := rmade_yes h.rl.box
  have ht := takes_any h.rl.box a b o cap t hI hl
  rw [hok] at ht
  have hpl := place_N h hTk hT a b o cap t hI hl hn
  rw [hp] at hpl
  dsimp only [placeV] at hpl
  clear h hI hok hp hn
  go_enter Try.func18, Try.ntmps18
  go_wp2_with (first
    | (go_at_call 40; refine hm.mono ?_; rintro e w9 ⟨rfl, hw⟩; have hw' := hw.symm; subst hw'; clear hm)
    | (go_at_call 41; refine ht.mono ?_; rintro e w9 ⟨rfl, hw⟩; have hw' := hw.symm; subst hw'; clear ht)
    | (go_at_call 42; refine hpl.mono ?_; rintro e w1 ⟨rfl, hr⟩; have HR : Hid _ := hr; clear hr hpl))
  go_ret3
  obtain ⟨⟨vv, mb, L, Fs, h2, _⟩, h3⟩ := HR.out
  exact ⟨rfl, ⟨vv, mb, L, Fs, h2⟩, h3⟩

set_option maxRecDepth 100000 in
set_option maxHeartbeats 2000000 in
/-- Add of a new tuple. -/
theorem add_newN {k0 n0 : Nat} (h : RelN W F rb ar T k0 n0) (hTk : T = [] → ¬ F k0) (hT : T.length + 1 ≤ 68719476736) (b o cap : Nat) (t : List Int) (hI : IntsS W (some ⟨b, o, none⟩) b o t) (hbW : b < W.heap.size) (hn : ¬ F b) (hok : okT ar t = true) (hp : posL T t = []) :
    Calls Try.prog 18 #[.pointer (some ⟨rb, 0, none⟩), .slice (some ⟨b, o, none⟩) t.length cap] W fun e w' => e = .returned (.tuple #[.int .i64 T.length, .bool true, .int .i64 0]) ∧ RelN w' (Grow F W.heap.size w') rb ar (T ++ [t]) k0 n0 ∧ Turn F W w' ∧ KeepC k0 n0 W w' := by
  obtain ⟨vv0, mb0, L0, Fs0, h⟩ := h
  have htl : t.length = ar := by
    unfold okT at hok
    simp only [Bool.and_eq_true, beq_iff_eq] at hok
    exact hok.1
  have ha16 := h.rl.arle
  have hl : t.length ≤ maxLen := by unfold maxLen; omega
  have hm := rmade_yes h.rl.box
  have htk := takes_any h.rl.box _ b o cap t hI hl
  rw [hok] at htk
  have hpl := place_N h hTk (by omega) _ b o cap t hI hl (fun _ => hn)
  rw [hp] at hpl
  dsimp only [placeV] at hpl
  have HB : Hid (IntsS W (some ⟨b, o, none⟩) b o t ∧ ¬ F b ∧ posL T t = [] ∧ (∀ k, F k → k < W.heap.size) ∧ b < W.heap.size) := ⟨hI, hn, hp, h.rl.lt, hbW⟩
  obtain ⟨i0, hi, hz0, hz1, hz2⟩ := info_parts infoInt
  have hk0W : k0 < W.heap.size := h.kr.2.2.2
  have hfl0 := flat_rows h.rl.rows
  have hflb : T.flatten.length ≤ 1099511627776 := by
    rw [hfl0]
    have := Nat.mul_le_mul (show T.length ≤ 68719476736 by omega) ha16
    omega
  have HTl : Hid (t.length = ar) := htl
  have htl16 : t.length ≤ 16 := by omega
  clear h hI hok hp hn hfl0 htl
  go_enter Try.func18, Try.ntmps18
  go_upto_region 10 with (first
    | (go_at_call 40; refine hm.mono ?_; rintro e w9 ⟨rfl, hw⟩; have hw' := hw.symm; subst hw'; clear hm)
    | (go_at_call 41; refine htk.mono ?_; rintro e w9 ⟨rfl, hw⟩; have hw' := hw.symm; subst hw'; clear htk)
    | (go_at_call 42; refine hpl.mono ?_; rintro e w1 ⟨rfl, ⟨vv, mb, L, Fs, hRN, hwh⟩, ht1, hkc1⟩; have hR := hRN.rl; have HN1 : Hid (RlN w1 (Grow F W.heap.size w1) rb ar T vv mb L Fs k0 n0 ∧ (lkp L (2 ^ ar - 1)).isSome = true ∧ KeepC k0 n0 W w1) := ⟨hRN, hwh, hkc1⟩; clear hRN hwh hkc1; have H1 : Hid (Rl w1 (Grow F W.heap.size w1) rb ar T vv mb L Fs ∧ Turn F W w1) := ⟨hR, ht1⟩; have c1 := hR.box.c1; have c2 := hR.box.c2; have hown := hR.vals; have HNews : Hid (∀ j u, (t.map (Value.int .i64))[j]? = some u → w1.cell? ((⟨b, o, none⟩ : Addr).add j) = some u) := (tuple_cells (ints_turn HB.out.1 ht1 (fun _ => HB.out.2.1))); clear hR ht1 hpl)
    | (at_builtin; refine wpList_append_own_at _ rfl _ _ 23 rfl 0 3 i0 _ 1 8 Try.underlying23 hi hz0 hz1 hz2 rfl (by decide) vv T.flatten.length (T.flatten.map (Value.int .i64)) rfl hown ⟨b, o, none⟩ t.length cap (t.map (Value.int .i64)) rfl (by simp) HNews.out (by simp [Value.oneCell']) (by unfold maxLen; omega) (by omega) (Nat.zero_le _) ?_; intro v' w3 hown3 hgrow hnil hloc; obtain ⟨g3, N3, cap3, rfl⟩ := own_form' hown3; obtain ⟨hX, d1, d2, d3, f1, f2⟩ := add_vals H1.out.1 rfl hown3 hgrow hloc; have H3 : Hid _ := hX; clear hX hown3 hgrow hnil hloc hown HNews c1 c2))
  go_upto_region 11 with fail
  obtain ⟨w5, hw5⟩ : ∃ w5, w5 = (w3.setCell ⟨rb, 2, none⟩ (.slice g3 N3 cap3)).setCell ⟨rb, 1, none⟩ (.int .i64 ((T.length : Int) + 1)) := ⟨_, rfl⟩
  rw [← hw5] at H3 ⊢
  clear hw5 d1 d2 d3 f1 f2
  have c3 := H3.out.1.c3
  obtain ⟨D, hD, q1, q2, q3⟩ := H3.out.2.2.1
  have HD : Hid ((∀ c, c < 65536 → has D (keyR c) = (lkp L c).isSome) ∧ (∀ c, c < 65536 → D.atKey (keyR c) (.lit (.int .i64 (-1))) = .lit (.int .i64 (encP (lkp L c)))) ∧ ∀ kl, has D kl = true → ∃ c x, c < 65536 ∧ kl = keyR c ∧ lkp L c = some x) := ⟨q1, q2, q3⟩
  clear q1 q2 q3
  go_wp2_with (first | (at_range; refine wpList_range_own _ rfl _ 56 rfl 64 68 keyedR Try.underlying56 ptrE mb L.length D rfl hD ?_; intro w6 hrg hg6 hs6; have H6 : Hid (w6.ranges Try.prog 64 ptrE mb w5.heap.size L.length D (Maps.has D) (Maps.size D) ∧ Stay w5 w6 ∧ w6.heap.size = w5.heap.size + 1) := ⟨hrg, ⟨hg6.os, hg6.tape, hg6.output, hg6.size, fun k hk => hg6.block k hk (by simp)⟩, hs6⟩; clear hrg hg6 hs6 hD c3))
  have HC : Hid (Ac w6 w5.heap.size rb T t (.slice g3 N3 cap3) mb L Fs D b o ∧ ALN k0 n0 w6 w5.heap.size rb ar T t (.slice g3 N3 cap3) mb L Fs D (Maps.has D) (Maps.size D) w6) := by
    obtain ⟨hR, ht1⟩ := H1.out
    obtain ⟨e1, e2, e3, e4, e5, _, _, e8⟩ := H3.out
    obtain ⟨r1, r2, r3⟩ := H6.out
    have hz := e8.size
    have hrb := hR.lt _ hR.foot.1
    have hmb := hR.map.lt
    have hT1 : IntsS w1 (some ⟨b, o, none⟩) b o t := ints_turn HB.out.1 ht1 (fun _ => HB.out.2.1)
    have hbW : b < W.heap.size := HB.out.2.2.2.2
    have hW1 := ht1.size
    have hnG : ¬ Grow F W.heap.size w1 b := fun h => h.elim HB.out.2.1 (fun h => by omega)
    have hvb : ¬ (vv.ownBlock = some b ∨ b = rb) := by
      rintro (e | e)
      · exact hnG (hR.foot.2.2.1 b e)
      · exact hnG (e ▸ hR.foot.1)
    have hT6 : IntsS w6 (some ⟨b, o, none⟩) b o t := (ints_turn hT1 e8 (fun _ => hvb)).stay r2
    have hkn5 : ∀ c x, lkp L c = some x → LkN w5 (Fs x) x c T k0 n0 := fun c x hx => (HN1.out.1.kn c x hx).turn e8 (fun k hk => by
      rintro (q | q)
      · exact (hR.mine.2.2 c x hx k hk).2.2 q
      · exact (hR.mine.2.2 c x hx k hk).1 q)
    have hac : Ac w6 w5.heap.size rb T t (.slice g3 N3 cap3) mb L Fs D b o := by
      refine ⟨⟨by omega, by omega, fun k hk => by have := (e5 k hk).1; omega, fun c x hx k hk => ⟨(hR.mine.2.2 c x hx k hk).1, (hR.mine.2.2 c x hx k hk).2.1, fun e => (e5 k e).2.2.2 c x hx hk, by have := hR.below hx k hk; omega⟩⟩, ⟨by omega, by omega, by omega, fun k hk => by have := (e5 k hk).1; omega, fun c x hx k hk => by have := hR.below hx k hk; omega⟩, hT6, ?_, ⟨hT, by unfold maxLen; omega⟩, fun c x hx => ⟨pow_ar (hR.small _ (lkp_mem hx)) hR.arle, by rw [HTl.out]; exact bitLen_le (hR.small _ (lkp_mem hx)) hR.arle⟩, HD.out.1, HD.out.2.1, HD.out.2.2⟩
      rintro (⟨c, x, hx, hk⟩ | hk | hk)
      · exact hnG (hR.foot.2.2.2 c x hx b hk)
      · omega
      · omega
    have hA0 := ALN.begin hac r1 (e1.stay r2) (e2.stay r2) (e3.stay r2) (fun c x hx => (hkn5 c x hx).stay r2) hR.apart
    exact And.intro hac hA0
  have hk5 : k0 < w5.heap.size := by
    have h1 := H1.out.2.size; have h2 := H3.out.2.2.2.2.2.2.2.size; omega
  have hk6 : k0 < w6.heap.size := by have := H6.out.2.1.size; omega
  have hk5r : k0 ≠ w5.heap.size := by omega
  go_frame
  go_loopw [11] (fun _u wr => ∃ (left : Lit → Bool) (cnt : Nat), ALN k0 n0 w6 w5.heap.size rb ar T t (.slice g3 N3 cap3) mb L Fs D left cnt wr) (fun _ wr => wr.rangeLeft mb w5.heap.size)
  case atStart => exact ⟨_, _, HC.out.2⟩
  case round =>
    obtain ⟨left, cnt, hA⟩ := hrel
    have hrg := hA.ranges
    have HA : Hid (ALN k0 n0 w6 w5.heap.size rb ar T t (.slice g3 N3 cap3) mb L Fs D left cnt wr) := hA
    clear hA
    go_wp2_with (first
      | (at_next; refine wpList_next_ranges (α := Value) (β := Option Nat) _ rfl _ rfl 64 keyedR ptrE (fun v => v) mkP (fun key kl _ => ⟨key, rfl⟩) (fun v y h => by obtain ⟨o, hq, _⟩ := ptrE_inv h; exact ⟨o, hq⟩) mb w5.heap.size L.length D left cnt rfl hrg ?_ ?_))
    · intro hc0 hl0
      have hF : RelN wr (Grow F W.heap.size wr) rb ar (T ++ [t]) k0 n0 ∧ Turn F W wr ∧ KeepC k0 n0 W wr := by
        obtain ⟨hR, ht1⟩ := H1.out
        obtain ⟨e1, e2, e3, e4, e5, e6, e7, e8⟩ := H3.out
        obtain ⟨r1, r2, r3⟩ := H6.out
        have z1 := ht1.size
        have z5 := e8.size
        have hT8 := HA.out.turn
        have z8 := hT8.size
        have hup : ∀ k, Grow F W.heap.size w1 k → Grow F W.heap.size wr k := fun k hk => hk.imp id (fun hk => ⟨hk.1, by omega⟩)
        have hlow : ∀ k, k < W.heap.size → Grow F W.heap.size w1 k → F k := fun k hk h => h.elim id (fun h => by omega)
        obtain ⟨⟨G9, k1, k1n⟩, k2, k2k⟩ := HA.out.fin HC.out.1 hl0 hR.rows HTl.out hR.arle hR.nodup (posL_nil HB.out.2.2.1) hR.small hR.nodupL ⟨hR.mine.1, fun k hk => ⟨(e5 k hk).2.1, (e5 k hk).2.2.1⟩⟩ (F' := Grow F W.heap.size wr)
          ⟨hup _ hR.foot.1, hup _ hR.foot.2.1, fun k hk => (e6 k hk).elim (fun e => hup _ (hR.foot.2.2.1 k e)) (fun e => .inr ⟨by omega, by have := (e5 k hk).1; omega⟩), fun c x hx k hk => hup _ (hR.foot.2.2.2 c x hx k hk), fun k h1 h2 => .inr ⟨by omega, h2⟩⟩
          (fun k hk => hk.elim (fun h => by have := HB.out.2.2.2.1 k h; omega) (fun h => h.2))
        have hkr1 := HN1.out.1.kr
        have hkg : (Value.slice g3 N3 cap3).ownBlock ≠ some k0 := fun q => by
          rcases e6 k0 q with q2 | q2
          · exact hkr1.2.2.1 q2
          · omega
        have hkc5 : KeepC k0 n0 w1 w5 := KeepC.turn e8 hkr1.2.2.2 (by
          rintro (q | q)
          · exact hkr1.2.2.1 q
          · exact hkr1.1 q)
        refine ⟨⟨_, _, _, G9, k1, fun _ => HN1.out.2.1, k1n, hkr1.1, hkr1.2.1, hkg, by omega⟩, ((ht1.then e8 (fun i hi h => ?_)).trans (Turn.of_stay r2)).then k2 (fun i hi h => ?_), ((HN1.out.2.2.trans hkc5).trans (KeepC.stay r2 hk5)).trans k2k⟩
        · rcases h with h | h
          · exact hlow i hi (hR.foot.2.2.1 i h)
          · exact hlow i hi (h ▸ hR.foot.1)
        · rcases h with ⟨c, x, hx, h⟩ | h | h
          · exact hlow i hi (hR.foot.2.2.2 c x hx i h)
          · omega
          · omega
      have HF : Hid _ := hF
      clear hF hrg hc0 hl0
      go_wp2
      go_ret3
      exact ⟨rfl, HF.out⟩
    · intro x q kl y1 y2 w7 cnt' hkey hleft hy hat hrg7 hcnt hg7 hs7 hent
      obtain ⟨xb, rfl, hjoin⟩ := HA.out.more hk6 hk5r HC.out.1 hleft hy hat hrg7 hg7 cap
      dsimp only [mkP] at hent ⊢
      have HM : Hid (wr.rangeLeft mb w5.heap.size = cnt ∧ cnt' < cnt) := ⟨hrg.left_eq, hcnt⟩
      clear hkey hleft hy hat hrg7 hcnt hg7 hs7 hrg
      go_wp2_with (go_at_call 43; refine hjoin.mono ?_; rintro e w8 ⟨rfl, hA8⟩; have H8 : Hid _ := hA8; clear hA8 hjoin)
      go_roundw
      case rel => exact ⟨_, cnt', H8.out⟩
      case measure => rw [(ALN.ranges H8.out).left_eq, HM.out.1]; exact HM.out.2

/-- Add of any list. -/
theorem add_N {k0 n0 : Nat} (h : RelN W F rb ar T k0 n0) (hTk : T = [] → ¬ F k0) (hT : T.length + 1 ≤ 68719476736) (b o cap : Nat) (t : List Int) (hI : IntsS W (some ⟨b, o, none⟩) b o t) (hl : t.length ≤ maxLen) (hbW : b < W.heap.size) (hn : ¬ F b) :
    Calls Try.prog 18 #[.pointer (some ⟨rb, 0, none⟩), .slice (some ⟨b, o, none⟩) t.length cap] W fun e w' => e = .returned (.tuple (addV ar T t)) ∧ RelN w' (Grow F W.heap.size w') rb ar (addT ar T t) k0 n0 ∧ Turn F W w' ∧ KeepC k0 n0 W w' := by
  unfold addV addT
  by_cases hok : okT ar t = true
  · rw [if_pos hok]
    cases hp : posL T t with
    | nil =>
      rw [if_pos ⟨hok, rfl⟩]
      exact add_newN h hTk hT b o cap t hI hbW hn hok hp
    | cons p l =>
      rw [if_neg (fun h => by cases h.2)]
      exact add_oldN h hTk (by omega) _ b o cap t hI hl (fun _ => hn) hok hp
  · rw [if_neg hok, if_neg (fun h => hok h.1)]
    refine (add_bad h.rel _ b o cap t hI hl (by simpa using hok)).mono ?_
    rintro e w' ⟨rfl, rfl⟩
    have hlt := h.lt
    obtain ⟨vv, mb, L, Fs, h⟩ := h
    refine ⟨rfl, ⟨vv, mb, L, Fs, h.grow (fun k hk => .inl hk) (fun k hk => ?_)⟩, Turn.refl _ _, fun _ _ => rfl⟩
    rcases hk with hk | hk
    · exact hlt k hk
    · exact hk.2
end
end Go.Proofs.Ytnhmjheipfopoaa.L
