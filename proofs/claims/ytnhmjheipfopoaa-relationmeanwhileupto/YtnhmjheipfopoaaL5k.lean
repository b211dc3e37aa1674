/- Add. -/
import Derived.Test.YtnhmjheipfopoaaL5l
import Derived.Deep.Cut
namespace Go.Proofs.Ytnhmjheipfopoaa.L
open Go.RowKit Go.Maps Go.Shelf Go.Proofs.Ytnhmjheipfopoaa

section
variable {W W' : World} {F : Nat → Prop} {rb ar : Nat} {T : List (List Int)}

theorem RelS.box (h : RelS W F rb ar T) : ∃ vv mb, RBox W rb ar T.length vv mb := by
  obtain ⟨vv, mb, L, Fs, h⟩ := h
  exact ⟨vv, mb, h.box⟩

set_option maxRecDepth 100000 in
/-- Add of what is no tuple of the relation. -/
theorem add_bad (h : RelS W F rb ar T) (a : Option Addr) (b o cap : Nat) (t : List Int) (hI : IntsS W a b o t) (hl : t.length ≤ maxLen) (hok : okT ar t = false) :
    Calls Try.prog 18 #[.pointer (some ⟨rb, 0, none⟩), .slice a t.length cap] W fun e w' => e = .returned (.tuple #[.int .i64 0, .bool false, .int .i64 2]) ∧ w' = W := by
  obtain ⟨vv, mb, hb⟩ := h.box
  have hm := rmade_yes hb
  have ht := takes_any hb a b o cap t hI hl
  rw [hok] at ht
  clear h hI hb hok
  go_enter Try.func18, Try.ntmps18
  go_wp2_with (first
    | (go_at_call 40; refine hm.mono ?_; rintro e w9 ⟨rfl, hw⟩; have hw' := hw.symm; subst hw'; clear hm)
    | (go_at_call 41; refine ht.mono ?_; rintro e w9 ⟨rfl, hw⟩; have hw' := hw.symm; subst hw'; clear ht))
  go_ret3
  exact ⟨rfl, rfl⟩

set_option maxRecDepth 100000 in
/-- Add of a tuple that is there. -/
theorem add_old (h : RelS W F rb ar T) (hT : T.length ≤ 68719476736) (a : Option Addr) (b o cap : Nat) (t : List Int) (hI : IntsS W a b o t) (hl : t.length ≤ maxLen) (hn : 0 < t.length → ¬ F b) (hok : okT ar t = true) {p : Nat} {l : List Nat} (hp : posL T t = p :: l) :
    Calls Try.prog 18 #[.pointer (some ⟨rb, 0, none⟩), .slice a t.length cap] W fun e w' => e = .returned (.tuple #[.int .i64 p, .bool false, .int .i64 0]) ∧ RelS w' (Grow F W.heap.size w') rb ar T ∧ Turn F W w' := by
  obtain ⟨vv, mb, L, Fs, h⟩ := h
  have hm := rmade_yes h.box
  have ht := takes_any h.box a b o cap t hI hl
  rw [hok] at ht
  have hpl := place_any h hT a b o cap t hI hl hn
  rw [hp] at hpl
  dsimp only [placeV] at hpl
  clear h hI hok hp hn
  go_enter Try.func18, Try.ntmps18
  go_wp2_with (first
    | (go_at_call 40; refine hm.mono ?_; rintro e w9 ⟨rfl, hw⟩; have hw' := hw.symm; subst hw'; clear hm)
    | (go_at_call 41; refine ht.mono ?_; rintro e w9 ⟨rfl, hw⟩; have hw' := hw.symm; subst hw'; clear ht)
    | (go_at_call 42; refine hpl.mono ?_; rintro e w1 ⟨rfl, hr⟩; have HR : Hid _ := hr; clear hr hpl))
  go_ret3
  exact ⟨rfl, HR.out⟩

theorem RBox.setv {vv mb n v'} (h : RBox W rb ar n vv mb) : RBox (W.setCell ⟨rb, 2, none⟩ v') rb ar n v' mb := by
  unfold RBox at *
  rw [heap_setCell_same _ _ _ _ _ _ h]; simp
theorem RBox.setn {vv mb n} (h : RBox W rb ar n vv mb) (m : Nat) : RBox (W.setCell ⟨rb, 1, none⟩ (.int .i64 (m : Int))) rb ar m vv mb := by
  unfold RBox at *
  rw [heap_setCell_same _ _ _ _ _ _ h]; simp

theorem tuple_cells {w : World} {a : Option Addr} {b o : Nat} {t : List Int} (h : IntsS w a b o t) : ∀ j u, (t.map (Value.int .i64))[j]? = some u → w.cell? ((⟨b, o, none⟩ : Addr).add j) = some u := by
  intro j u hj
  rw [List.getElem?_map, Option.map_eq_some_iff] at hj
  obtain ⟨z, h1, rfl⟩ := hj
  obtain ⟨h2, rfl⟩ := List.getElem?_eq_some_iff.1 h1
  rw [add_at]
  exact h.2 j h2

theorem own_form' {w : World} {t : TypeId} {v : Value} {n : Nat} {xs : List Value} (h : w.ownsRow 0 t 1 v n xs) : ∃ a m cap, v = .slice a m cap := by
  rcases h.2 with ⟨h1, _⟩ | ⟨g, cap, cur, h1, _⟩
  · exact ⟨_, _, _, h1⟩
  · exact ⟨_, _, _, h1⟩

/-- Behind the append and the count: what Add's loop begins with. -/
def AddB (w1 : World) (rb ar : Nat) (T : List (List Int)) (t : List Int) (vv v' : Value) (mb : Nat) (L : List (Nat × Nat)) (Fs : Nat → Nat → Prop) (w5 : World) : Prop :=
  RBox w5 rb ar (T.length + 1) v' mb ∧ OwnI 0 w5 v' (T ++ [t]).flatten ∧ LkM w5 mb L ∧ (∀ c x, lkp L c = some x → LkS w5 (Fs x) x c T) ∧ (∀ k, v'.ownBlock = some k → k < w5.heap.size ∧ k ≠ rb ∧ k ≠ mb ∧ ∀ c x, lkp L c = some x → ¬ Fs x k) ∧ (∀ k, v'.ownBlock = some k → vv.ownBlock = some k ∨ w1.heap.size ≤ k) ∧ (∀ k, vv.ownBlock = some k → k ≠ rb ∧ k ≠ mb) ∧ Turn (fun k => vv.ownBlock = some k ∨ k = rb) w1 w5

theorem add_vals {w1 w3 : World} {F1 : Nat → Prop} {vv v' : Value} {mb : Nat} {L : List (Nat × Nat)} {Fs : Nat → Nat → Prop} {t : List Int} {n : Nat} (h : Rl w1 F1 rb ar T vv mb L Fs) (hn : n = t.length) (hown : w3.ownsRow 0 3 1 v' (T.flatten.length + n) (T.flatten.map (Value.int .i64) ++ t.map (Value.int .i64))) (hg : w1.grownBy w3 vv.ownBlock) (hloc : v'.ownBlock = vv.ownBlock ∨ v'.ownBlock = some w1.heap.size) :
    AddB w1 rb ar T t vv v' mb L Fs ((w3.setCell ⟨rb, 2, none⟩ v').setCell ⟨rb, 1, none⟩ (.int .i64 ((T.length : Int) + 1))) ∧ w3.cell? ⟨rb, 1, none⟩ = some (.int .i64 T.length) ∧ w3.cell? ⟨rb, 2, none⟩ = some vv ∧ w3.cell? ⟨rb, 3, none⟩ = some (.map (some mb)) ∧ w3.frozen? ⟨rb, 1, none⟩ = false ∧ w3.frozen? ⟨rb, 2, none⟩ = false := by
  rw [show ((T.length : Int) + 1) = ((T.length + 1 : Nat) : Int) by omega]
  subst hn
  have hT1 : Turn (fun k => vv.ownBlock = some k) w1 w3 := ⟨hg.os, hg.tape, hg.output, hg.size, fun k hk hn => hg.block k hk (fun e => hn e.symm)⟩
  have hb3 : RBox w3 rb ar T.length vv mb := hT1.heap h.box (fun e => (h.mine.2.1 _ e).1 rfl)
  have hT2 : Turn (fun k => vv.ownBlock = some k ∨ k = rb) w1 ((w3.setCell ⟨rb, 2, none⟩ v').setCell ⟨rb, 1, none⟩ (.int .i64 ((T.length + 1 : Nat) : Int))) := ((hT1.mono (fun _ _ h => .inl h)).set (.inr rfl) _ _).set (.inr rfl) _ _
  have hT3 : Turn (fun k => k = rb) w3 ((w3.setCell ⟨rb, 2, none⟩ v').setCell ⟨rb, 1, none⟩ (.int .i64 ((T.length + 1 : Nat) : Int))) := ((Turn.refl (fun k => k = rb) w3).set (g := rb) rfl _ _).set (g := rb) rfl _ _
  have hb5 := (hb3.setv (v' := v')).setn (T.length + 1)
  have hlo : ∀ k, v'.ownBlock = some k → vv.ownBlock = some k ∨ w1.heap.size = k := by
    intro k hk
    rcases hloc with e | e
    · exact .inl (e ▸ hk)
    · rw [e] at hk; exact .inr (Option.some.inj hk)
  have hrb := h.lt _ h.foot.1
  have hmb := h.lt _ h.foot.2.1
  have hvk : ∀ k, v'.ownBlock = some k → k ≠ rb ∧ k ≠ mb := fun k hk => by
    rcases hlo k hk with e | e
    · exact h.mine.2.1 k e
    · exact ⟨by omega, by omega⟩
  refine ⟨⟨hb5, ?_, h.map.turn hT2 ?_, fun c x hx => (h.looks c x hx).turn hT2 (fun k hk => ?_), fun k hk => ⟨?_, (hvk k hk).1, (hvk k hk).2, fun c x hx hf => ?_⟩, fun k hk => (hlo k hk).imp id (fun e => by omega), h.mine.2.1, hT2⟩, hb3.c1, hb3.c2, hb3.c3, hb3.free 1, hb3.free 2⟩
  · have : OwnI 0 w3 v' (T ++ [t]).flatten := by
      unfold OwnI
      rw [List.flatten_append, List.length_append, List.map_append]
      simpa using hown
    exact ownI_turn this hT3 (fun k hk => (hvk k hk).1)
  · rintro (e | e)
    · exact (h.mine.2.1 _ e).2 rfl
    · exact h.mine.1 e.symm
  · rintro (e | e)
    · exact (h.mine.2.2 c x hx k hk).2.2 e
    · exact (h.mine.2.2 c x hx k hk).1 e
  · have := own_at hown hk
    have := hT3.size
    omega
  · rcases hlo k hk with e | e
    · exact (h.mine.2.2 c x hx k hf).2.2 e
    · have := h.below hx k hf; omega

theorem posL_nil {T : List (List Int)} {t : List Int} (h : posL T t = []) : t ∉ T := by
  intro hm
  obtain ⟨i, hi, rfl⟩ := List.mem_iff_getElem.1 hm
  unfold posL at h
  rw [List.filter_eq_nil_iff] at h
  have := h i (by simpa using hi)
  simp [hi] at this

set_option maxRecDepth 100000 in
set_option maxHeartbeats 2000000 in
/-- Add of a new tuple. -/
theorem add_new (h : RelS W F rb ar T) (hT : T.length + 1 ≤ 68719476736) (b o cap : Nat) (t : List Int) (hI : IntsS W (some ⟨b, o, none⟩) b o t) (hbW : b < W.heap.size) (hn : ¬ F b) (hok : okT ar t = true) (hp : posL T t = []) :
    Calls Try.prog 18 #[.pointer (some ⟨rb, 0, none⟩), .slice (some ⟨b, o, none⟩) t.length cap] W fun e w' => e = .returned (.tuple #[.int .i64 T.length, .bool true, .int .i64 0]) ∧ RelS w' (Grow F W.heap.size w') rb ar (T ++ [t]) ∧ Turn F W w' := by
  obtain ⟨vv0, mb0, L0, Fs0, h⟩ := h
  have htl : t.length = ar := by
    unfold okT at hok
    simp only [Bool.and_eq_true, beq_iff_eq] at hok
    exact hok.1
  have ha16 := h.arle
  have hl : t.length ≤ maxLen := by unfold maxLen; omega
  have hm := rmade_yes h.box
  have htk := takes_any h.box _ b o cap t hI hl
  rw [hok] at htk
  have hpl := place_any h (by omega) _ b o cap t hI hl (fun _ => hn)
  rw [hp] at hpl
  dsimp only [placeV] at hpl
  have HB : Hid (IntsS W (some ⟨b, o, none⟩) b o t ∧ ¬ F b ∧ posL T t = [] ∧ (∀ k, F k → k < W.heap.size) ∧ b < W.heap.size) := ⟨hI, hn, hp, h.lt, hbW⟩
  obtain ⟨i0, hi, hz0, hz1, hz2⟩ := info_parts infoInt
  have hfl0 := flat_rows h.rows
  have hflb : T.flatten.length ≤ 1099511627776 := by
    rw [hfl0]
    have := Nat.mul_le_mul (show T.length ≤ 68719476736 by omega) ha16
    omega
  have HTl : Hid (t.length = ar) := htl
  have htl16 : t.length ≤ 16 := by omega
  clear h hI hok hp hn hfl0 htl
  go_enter Try.func18, Try.ntmps18
  go_upto_region 10 with (first
    | (go_at_call 40; refine hm.mono ?_; rintro e w9 ⟨rfl, hw⟩; have hw' := hw.symm; subst hw'; clear hm)
    | (go_at_call 41; refine htk.mono ?_; rintro e w9 ⟨rfl, hw⟩; have hw' := hw.symm; subst hw'; clear htk)
    | (go_at_call 42; refine hpl.mono ?_; rintro e w1 ⟨rfl, ⟨vv, mb, L, Fs, hR⟩, ht1⟩; have H1 : Hid (Rl w1 (Grow F W.heap.size w1) rb ar T vv mb L Fs ∧ Turn F W w1) := ⟨hR, ht1⟩; have c1 := hR.box.c1; have c2 := hR.box.c2; have hown := hR.vals; have HNews : Hid (∀ j u, (t.map (Value.int .i64))[j]? = some u → w1.cell? ((⟨b, o, none⟩ : Addr).add j) = some u) := (tuple_cells (ints_turn HB.out.1 ht1 (fun _ => HB.out.2.1))); clear hR ht1 hpl)
    | (at_builtin; refine wpList_append_own_at _ rfl _ _ 23 rfl 0 3 i0 _ 1 8 Try.underlying23 hi hz0 hz1 hz2 rfl (by decide) vv T.flatten.length (T.flatten.map (Value.int .i64)) rfl hown ⟨b, o, none⟩ t.length cap (t.map (Value.int .i64)) rfl (by simp) HNews.out (by simp [Value.oneCell']) (by unfold maxLen; omega) (by omega) (Nat.zero_le _) ?_; intro v' w3 hown3 hgrow hnil hloc; obtain ⟨g3, N3, cap3, rfl⟩ := own_form' hown3; obtain ⟨hX, d1, d2, d3, f1, f2⟩ := add_vals H1.out.1 rfl hown3 hgrow hloc; have H3 : Hid _ := hX; clear hX hown3 hgrow hnil hloc hown HNews c1 c2))
  go_upto_region 11 with fail
  obtain ⟨w5, hw5⟩ : ∃ w5, w5 = (w3.setCell ⟨rb, 2, none⟩ (.slice g3 N3 cap3)).setCell ⟨rb, 1, none⟩ (.int .i64 ((T.length : Int) + 1)) := ⟨_, rfl⟩
  rw [← hw5] at H3 ⊢
  clear hw5 d1 d2 d3 f1 f2
  have c3 := H3.out.1.c3
  obtain ⟨D, hD, q1, q2, q3⟩ := H3.out.2.2.1
  have HD : Hid ((∀ c, c < 65536 → has D (keyR c) = (lkp L c).isSome) ∧ (∀ c, c < 65536 → D.atKey (keyR c) (.lit (.int .i64 (-1))) = .lit (.int .i64 (encP (lkp L c)))) ∧ ∀ kl, has D kl = true → ∃ c x, c < 65536 ∧ kl = keyR c ∧ lkp L c = some x) := ⟨q1, q2, q3⟩
  clear q1 q2 q3
  go_wp2_with (first | (at_range; refine wpList_range_own _ rfl _ 56 rfl 64 68 keyedR Try.underlying56 ptrE mb L.length D rfl hD ?_; intro w6 hrg hg6 hs6; have H6 : Hid (w6.ranges Try.prog 64 ptrE mb w5.heap.size L.length D (Maps.has D) (Maps.size D) ∧ Stay w5 w6 ∧ w6.heap.size = w5.heap.size + 1) := ⟨hrg, ⟨hg6.os, hg6.tape, hg6.output, hg6.size, fun k hk => hg6.block k hk (by simp)⟩, hs6⟩; clear hrg hg6 hs6 hD c3))
  have HC : Hid (Ac w6 w5.heap.size rb T t (.slice g3 N3 cap3) mb L Fs D b o ∧ AL w6 w5.heap.size rb ar T t (.slice g3 N3 cap3) mb L Fs D (Maps.has D) (Maps.size D) w6) := by
    obtain ⟨hR, ht1⟩ := H1.out
    obtain ⟨e1, e2, e3, e4, e5, _, _, e8⟩ := H3.out
    obtain ⟨r1, r2, r3⟩ := H6.out
    have hz := e8.size
    have hrb := hR.lt _ hR.foot.1
    have hmb := hR.map.lt
    have hT1 : IntsS w1 (some ⟨b, o, none⟩) b o t := ints_turn HB.out.1 ht1 (fun _ => HB.out.2.1)
    have hbW : b < W.heap.size := HB.out.2.2.2.2
    have hW1 := ht1.size
    have hnG : ¬ Grow F W.heap.size w1 b := fun h => h.elim HB.out.2.1 (fun h => by omega)
    have hvb : ¬ (vv.ownBlock = some b ∨ b = rb) := by
      rintro (e | e)
      · exact hnG (hR.foot.2.2.1 b e)
      · exact hnG (e ▸ hR.foot.1)
    have hT6 : IntsS w6 (some ⟨b, o, none⟩) b o t := (ints_turn hT1 e8 (fun _ => hvb)).stay r2
    have hac : Ac w6 w5.heap.size rb T t (.slice g3 N3 cap3) mb L Fs D b o := by
      refine ⟨⟨by omega, by omega, fun k hk => by have := (e5 k hk).1; omega, fun c x hx k hk => ⟨(hR.mine.2.2 c x hx k hk).1, (hR.mine.2.2 c x hx k hk).2.1, fun e => (e5 k e).2.2.2 c x hx hk, by have := hR.below hx k hk; omega⟩⟩, ⟨by omega, by omega, by omega, fun k hk => by have := (e5 k hk).1; omega, fun c x hx k hk => by have := hR.below hx k hk; omega⟩, hT6, ?_, ⟨hT, by unfold maxLen; omega⟩, fun c x hx => ⟨pow_ar (hR.small _ (lkp_mem hx)) hR.arle, by rw [HTl.out]; exact bitLen_le (hR.small _ (lkp_mem hx)) hR.arle⟩, HD.out.1, HD.out.2.1, HD.out.2.2⟩
      rintro (⟨c, x, hx, hk⟩ | hk | hk)
      · exact hnG (hR.foot.2.2.2 c x hx b hk)
      · omega
      · omega
    have hA0 := AL.begin hac r1 (e1.stay r2) (e2.stay r2) (e3.stay r2) (fun c x hx => (e4 c x hx).stay r2) hR.apart
    exact And.intro hac hA0
  go_frame
  go_loopw [11] (fun _u wr => ∃ (left : Lit → Bool) (cnt : Nat), AL w6 w5.heap.size rb ar T t (.slice g3 N3 cap3) mb L Fs D left cnt wr) (fun _ wr => wr.rangeLeft mb w5.heap.size)
  case atStart => exact ⟨_, _, HC.out.2⟩
  case round =>
    obtain ⟨left, cnt, hA⟩ := hrel
    have hrg := hA.ranges
    have HA : Hid (AL w6 w5.heap.size rb ar T t (.slice g3 N3 cap3) mb L Fs D left cnt wr) := hA
    clear hA
    go_wp2_with (first
      | (at_next; refine wpList_next_ranges (α := Value) (β := Option Nat) _ rfl _ rfl 64 keyedR ptrE (fun v => v) mkP (fun key kl _ => ⟨key, rfl⟩) (fun v y h => by obtain ⟨o, hq, _⟩ := ptrE_inv h; exact ⟨o, hq⟩) mb w5.heap.size L.length D left cnt rfl hrg ?_ ?_))
    · intro hc0 hl0
      have hF : RelS wr (Grow F W.heap.size wr) rb ar (T ++ [t]) ∧ Turn F W wr := by
        obtain ⟨hR, ht1⟩ := H1.out
        obtain ⟨e1, e2, e3, e4, e5, e6, e7, e8⟩ := H3.out
        obtain ⟨r1, r2, r3⟩ := H6.out
        have z1 := ht1.size
        have z5 := e8.size
        have hT8 := HA.out.turn
        have z8 := hT8.size
        have hup : ∀ k, Grow F W.heap.size w1 k → Grow F W.heap.size wr k := fun k hk => hk.imp id (fun hk => ⟨hk.1, by omega⟩)
        have hlow : ∀ k, k < W.heap.size → Grow F W.heap.size w1 k → F k := fun k hk h => h.elim id (fun h => by omega)
        obtain ⟨k1, k2⟩ := HA.out.fin HC.out.1 hl0 hR.rows HTl.out hR.arle hR.nodup (posL_nil HB.out.2.2.1) hR.small hR.nodupL ⟨hR.mine.1, fun k hk => ⟨(e5 k hk).2.1, (e5 k hk).2.2.1⟩⟩ (F' := Grow F W.heap.size wr)
          ⟨hup _ hR.foot.1, hup _ hR.foot.2.1, fun k hk => (e6 k hk).elim (fun e => hup _ (hR.foot.2.2.1 k e)) (fun e => .inr ⟨by omega, by have := (e5 k hk).1; omega⟩), fun c x hx k hk => hup _ (hR.foot.2.2.2 c x hx k hk), fun k h1 h2 => .inr ⟨by omega, h2⟩⟩
          (fun k hk => hk.elim (fun h => by have := HB.out.2.2.2.1 k h; omega) (fun h => h.2))
        refine ⟨k1, ((ht1.then e8 (fun i hi h => ?_)).trans (Turn.of_stay r2)).then k2 (fun i hi h => ?_)⟩
        · rcases h with h | h
          · exact hlow i hi (hR.foot.2.2.1 i h)
          · exact hlow i hi (h ▸ hR.foot.1)
        · rcases h with ⟨c, x, hx, h⟩ | h | h
          · exact hlow i hi (hR.foot.2.2.2 c x hx i h)
          · omega
          · omega
      have HF : Hid _ := hF
      clear hF hrg hc0 hl0
      go_wp2
      go_ret3
      exact ⟨rfl, HF.out⟩
    · intro x q kl y1 y2 w7 cnt' hkey hleft hy hat hrg7 hcnt hg7 hs7 hent
      obtain ⟨xb, rfl, hjoin⟩ := HA.out.more HC.out.1 hleft hy hat hrg7 hg7 cap
      dsimp only [mkP] at hent ⊢
      have HM : Hid (wr.rangeLeft mb w5.heap.size = cnt ∧ cnt' < cnt) := ⟨hrg.left_eq, hcnt⟩
      clear hkey hleft hy hat hrg7 hcnt hg7 hs7 hrg
      go_wp2_with (go_at_call 43; refine hjoin.mono ?_; rintro e w8 ⟨rfl, hA8⟩; have H8 : Hid _ := hA8; clear hA8 hjoin)
      go_roundw
      case rel => exact ⟨_, cnt', H8.out⟩
      case measure => rw [(AL.ranges H8.out).left_eq, HM.out.1]; exact HM.out.2
end
end Go.Proofs.Ytnhmjheipfopoaa.L
