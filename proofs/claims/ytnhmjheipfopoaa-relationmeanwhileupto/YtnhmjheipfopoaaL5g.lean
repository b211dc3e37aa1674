/- stretch as a function that tells places one by one; a lookup's blocks are cells. A relation with one lookup more, plainly; what holds between two rounds of lookup's loop. -/
import Derived.Test.YtnhmjheipfopoaaL5d
import Derived.Test.YtnhmjheipfopoaaQA
namespace Go.Proofs.Ytnhmjheipfopoaa.L
open Go.RowKit Go.Maps Go.Shelf Go.Proofs.Ytnhmjheipfopoaa

/-- Any type: rounds may turn whatever holds cells. -/
abbrev AnyT : TypeId → Prop := fun _ => True

section
variable {W W' : World} {rb ar n : Nat} {vv : Value} {mb : Nat}

set_option maxRecDepth 100000 in
set_option maxHeartbeats 2000000 in
theorem stretch1_calls (l b1 b2 b3 : Nat) (J : Nat → World → Prop) (Z : World → Prop) (W : World) (h1 : W.cell? ⟨b1, 0, none⟩ = some (.pointer (some ⟨rb, 0, none⟩))) (x y : Int) (h2 : W.cell? ⟨b2, 0, none⟩ = some (.int .i64 x)) (h3 : W.cell? ⟨b3, 0, none⟩ = some (.int .i64 y))
    (h : RBox W rb ar n vv mb) (f g : Nat) (hf : bF x = f) (hg : bE x y n = g) (hfg : f ≤ g) (hgl : g ≤ 68719476736) (hA : ∀ d, J 0 W → J 0 (W.drewN d))
    (hY : ∀ k W1, k < g - f → J k W1 → YieldAt Fence.wide 0 Try.prog l (encPl (f + k)) W1 fun e W' => (e = .returned (.bool true) ∧ J (k + 1) W') ∨ (e = .returned (.bool false) ∧ Z W')) (h0 : J 0 W) :
    CallsIn Fence.wide 1 Try.prog 54 #[.func (.yield l) #[] #[], .pointer (some ⟨b1, 0, none⟩), .pointer (some ⟨b2, 0, none⟩), .pointer (some ⟨b3, 0, none⟩)] W fun e W' => (∃ v, e = .returned v) ∧ (J (g - f) W' ∨ Z W') := by
  have hb := bounds_yes h x y
  rw [hf, hg] at hb
  clear h
  refine callsIn_of_wp Try.func54 rfl trivial ?_ rfl
  simp only [Try.ntmps54, List.size_toArray, List.length_cons, List.length_nil, Nat.reduceAdd, Nat.reduceSub, Array.replicate_succ, Array.replicate_zero, List.push_toArray, List.append_toArray, List.nil_append, List.cons_append]
  gi_wp2_with (refine ⟨trivial, ?_⟩; gi_at_call 46; refine CallsIn.mono (callsIn_wide.2 hb) ?_; rintro e w' ⟨rfl, d, rfl⟩)
  have HI : Hid (J 0 (W.drewN d)) := hA d h0
  clear hb h1 h2 h3 hA
  gi_loopw [7] (fun ui wr => ∃ k : Nat, k ≤ g - f ∧ ui = .int .i64 ((f + k : Nat) : Int) ∧ J k wr) (fun ui _ => g - (intOf ui).toNat)
  case atStart => exact ⟨0, Nat.zero_le _, rfl, HI.out⟩
  case round =>
    obtain ⟨k, hk, rfl, hJ⟩ := hrel
    by_cases hlt : k < g - f
    · have hki : ((f + k : Nat) : Int) < (g : Int) := by omega
      obtain ⟨fn, tmps, assign, body, hy, hR⟩ := hY k _ hlt hJ
      dsimp only [encPl] at hy
      rw [Int.natCast_add] at hy hki
      clear hJ hY
      gi_wp2
      refine hR.mono ?_
      rintro e9 W3 (⟨rfl, hJ3⟩ | ⟨rfl, hJx3⟩)
      · have HJ3 : Hid (J (k + 1) W3) := hJ3
        clear hJ3
        gi_wp2
        go_roundw
        case rel => exact ⟨k + 1, by omega, by go_num, HJ3.out⟩
        case measure => simp [intOf]; omega
      · have HJ3 : Hid (Z W3) := hJx3
        clear hJx3
        gi_wp2
        refine bodyPost_ret (results_none rfl _ _ _) rfl ?_
        exact ⟨⟨_, rfl⟩, .inr HJ3.out⟩
    · obtain rfl : k = g - f := by omega
      have HJ : Hid (J (g - f) wr) := hJ
      have hki : ¬ ((f + (g - f) : Nat) : Int) < (g : Int) := by omega
      clear hJ hY
      gi_wp2
      go_end0
      exact ⟨⟨_, rfl⟩, .inl HJ.out⟩

theorem pls_at (f g k : Nat) (hk : k < (pls f g).length) : (pls f g)[k] = f + k := by simp [pls]

/-- stretch's function tells the places from x on, below y. -/
theorem stretch_seq (b1 b2 b3 : Nat) (V : World) (h1 : V.cell? ⟨b1, 0, none⟩ = some (.pointer (some ⟨rb, 0, none⟩))) (x y : Int) (h2 : V.cell? ⟨b2, 0, none⟩ = some (.int .i64 x)) (h3 : V.cell? ⟨b3, 0, none⟩ = some (.int .i64 y)) (h : RBox V rb ar n vv mb) (f g : Nat) (hf : bF x = f) (hg : bE x y n = g) (hfg : f ≤ g) (hgl : g ≤ 68719476736) :
    SeqL AnyT Try.prog 54 #[.pointer (some ⟨b1, 0, none⟩), .pointer (some ⟨b2, 0, none⟩), .pointer (some ⟨b3, 0, none⟩)] encPl (fun _ => False) (pls f g) V := by
  intro l J Jx W hW hJ hJx hY h0
  refine (callsIn_wide (n := 1)).1 ((stretch1_calls l b1 b2 b3 (fun k A => J k A ∧ W.heap.size ≤ A.heap.size) (fun A => ∃ k, k < (pls f g).length ∧ Jx (k + 1) A) W (hW.cell h1) x y (hW.cell h2) (hW.cell h3) (h.stay hW) f g hf hg hfg hgl (fun d hj => ⟨hJ _ _ _ hj.1 (Bel.of_stay (Stay.drewN _ _) (Nat.le_refl _)), hj.2⟩) (fun k A hk hj => ?_) ⟨h0, Nat.le_refl _⟩).mono ?_)
  · have hkl : k < (pls f g).length := by rw [pls_len]; exact hk
    have hy := hY k hkl A hj.1 hj.2
    rw [pls_at f g k hkl] at hy
    obtain ⟨fn, tmps, assign, body, hy1, hR⟩ := hy
    refine ⟨fn, tmps, assign, body, hy1, hR.mono fun e A' ht => ?_⟩
    obtain ⟨_, hz, ht | ht⟩ := ht
    · exact .inl ⟨ht.1, ht.2, Nat.le_trans hj.2 hz⟩
    · exact .inr ⟨ht.1, k, hkl, ht.2⟩
  · rintro e A ⟨hv, hj | hx⟩
    · exact ⟨hv, .inl (by rw [pls_len]; exact hj.1)⟩
    · exact ⟨hv, .inr hx⟩
end

section
variable {W W' : World} {F : Nat → Prop} {xb c : Nat} {T : List (List Int)} {tb : Nat} {fp : List LK} {cv : Value} {pb N len reach : Nat} {came : List E} {places : List Nat} {lv : Value} {vs : List Value} {ls : List (List Nat)} {kd : Nat → Nat}

def Cells (W : World) (k : Nat) : Prop := ∃ cs t f, W.heap[k]? = some (.cells cs t f)
theorem cells_of_cell {W : World} {p : Addr} {v : Value} (h : W.cell? p = some v) : Cells W p.block := by
  unfold World.cell? at h
  split at h
  · rename_i c e f hb
    exact ⟨c, e, f, hb⟩
  · cases h
theorem cells_of_row {w : World} {base : Nat} {t : TypeId} {s : Nat} {v : Value} {n : Nat} {xs : List Value} {k : Nat} (h : w.ownsRow base t s v n xs) (hk : v.ownBlock = some k) : Cells w k := by
  rcases h.2 with ⟨rfl, _⟩ | ⟨g, c2, cur, rfl, hb, hh, _⟩
  · simp [Value.ownBlock] at hk
  · simp only [Value.ownBlock, Option.some.injEq] at hk
    subst hk; exact ⟨_, _, _, hh⟩

/-- Of all its blocks those alone that are a lookup's: they hold cells. -/
theorem LkS.shrink (h : LkS W F xb c T) : ∃ F', LkS W F' xb c T ∧ (∀ k, F' k → F k) ∧ ∀ k, F' k → Cells W k := by
  obtain ⟨tb, fp, cv, pb, N, len, reach, came, places, lv, vs, ls, kd, h⟩ := h
  refine ⟨fun k => k = xb ∨ foot tb pb cv k ∨ fnfoot fp k ∨ lv.ownBlock = some k ∨ ∃ (i : Nat) (v : Value), vs[i]? = some v ∧ v.ownBlock = some k, ⟨_, _, _, _, _, _, _, _, _, _, _, _, _, { h with own := ⟨.inl rfl, fun k hk => .inr (.inl hk), fun k hk => .inr (.inr (.inl hk)), fun k hk => .inr (.inr (.inr (.inl hk))), fun i v k h1 h2 => .inr (.inr (.inr (.inr ⟨i, v, h1, h2⟩)))⟩, lt := ?_ }⟩, ?_, ?_⟩
  · rintro k (rfl | hk | hk | hk | ⟨i, v, h1, h2⟩)
    · exact h.lt _ h.own.1
    · exact h.lt _ (h.own.2.1 k hk)
    · exact h.lt _ (h.own.2.2.1 k hk)
    · exact h.lt _ (h.own.2.2.2.1 k hk)
    · exact h.lt _ (h.own.2.2.2.2 i v k h1 h2)
  · rintro k (rfl | hk | hk | hk | ⟨i, v, h1, h2⟩)
    · exact h.own.1
    · exact h.own.2.1 k hk
    · exact h.own.2.2.1 k hk
    · exact h.own.2.2.2.1 k hk
    · exact h.own.2.2.2.2 i v k h1 h2
  · rintro k (rfl | hk | hk | hk | ⟨i, v, h1, h2⟩)
    · exact ⟨_, _, _, h.box⟩
    · rcases hk with rfl | rfl | hk
      · obtain ⟨pc, hb⟩ := h.tab.box; exact ⟨_, _, _, hb⟩
      · obtain ⟨cur, hb, _⟩ := h.tab.spots; exact ⟨_, _, _, hb⟩
      · rcases h.tab.row with ⟨rfl, _⟩ | ⟨g, cap, rfl, cur, hb, _⟩
        · simp [Value.ownBlock] at hk
        · simp only [Value.ownBlock, Option.some.injEq] at hk
          subst hk; exact ⟨_, _, _, hb⟩
    · obtain ⟨y, hy, h0, rfl⟩ := hk
      exact cells_of_cell ((h.tab.fns y hy).1.2 0 h0)
    · exact cells_of_row h.lst.own hk
    · have hi := (List.getElem?_eq_some_iff.1 h1).1
      obtain ⟨ps, hps⟩ : ∃ ps, ls[i]? = some ps := ⟨_, List.getElem?_eq_getElem (by rw [← h.lst.len]; exact hi)⟩
      exact cells_of_row (h.lst.each i v ps h1 hps) h2

/-- What keeps all that holds cells keeps a lookup. -/
theorem LkS.bel {n : Nat} (h : LkS W F xb c T) (hF : ∀ k, F k → Cells W k) (hb : Bel AnyT n W W') : LkS W' F xb c T ∧ ∀ k, F k → Cells W' k := by
  have hc : ∀ k, F k → W'.heap[k]? = W.heap[k]? := fun k hk => by
    obtain ⟨cs, t, f, hh⟩ := hF k hk
    exact hb.2 k ⟨cs, t, f, hh, trivial⟩
  have ht : Turn (fun k => ¬ F k) W W' := ⟨hb.1.os, hb.1.tape, hb.1.output, hb.size, fun k _ hn => hc k (Classical.byContradiction hn)⟩
  refine ⟨h.turn ht (fun k hk hn => hn hk), fun k hk => ?_⟩
  obtain ⟨cs, t, f, hh⟩ := hF k hk
  exact ⟨cs, t, f, (hc k hk).trans hh⟩
end
end Go.Proofs.Ytnhmjheipfopoaa.L
namespace Go.Proofs.Ytnhmjheipfopoaa.L
open Go.RowKit Go.Maps Go.Shelf Go.Proofs.Ytnhmjheipfopoaa

section
variable {W W' : World} {F : Nat → Prop} {rb ar : Nat} {T : List (List Int)} {vv : Value} {mb : Nat} {L : List (Nat × Nat)} {Fs : Nat → Nat → Prop}

theorem LkS.self {F : Nat → Prop} {xb c : Nat} {T : List (List Int)} (h : LkS W F xb c T) : F xb := by
  obtain ⟨tb, fp, cv, pb, N, len, reach, came, places, lv, vs, ls, kd, h⟩ := h
  exact h.own.1
theorem LkS.lt {F : Nat → Prop} {xb c : Nat} {T : List (List Int)} (h : LkS W F xb c T) : ∀ k, F k → k < W.heap.size := by
  obtain ⟨tb, fp, cv, pb, N, len, reach, came, places, lv, vs, ls, kd, h⟩ := h
  exact h.lt

theorem Rl.below (h : Rl W F rb ar T vv mb L Fs) {c x : Nat} (hx : lkp L c = some x) : ∀ k, Fs x k → k < W.heap.size := fun k hk => h.lt _ (h.foot.2.2.2 c x hx k hk)

/-- One lookup more. -/
theorem Rl.added (h : Rl W F rb ar T vv mb L Fs) {S : Nat → Prop} (ht : Turn S W W') (hS : ∀ k, k < W.heap.size → S k → k = mb) {c xb : Nat} {Fx : Nat → Prop} (hM : LkM W' mb (L ++ [(c, xb)])) (hL : LkS W' Fx xb c T) (hFx : ∀ k, Fx k → W.heap.size ≤ k) (hc : c < 2 ^ ar) (hno : lkp L c = none) :
    Rl W' (fun k => F k ∨ Fx k) rb ar T vv mb (L ++ [(c, xb)]) (fun y => if y = xb then Fx else Fs y) := by
  have hxb : W.heap.size ≤ xb := hFx _ hL.self
  have hold : ∀ d y, lkp L d = some y → y ≠ xb := fun d y hy => by
    have := h.below hy y (h.looks d y hy).self
    omega
  have hcase : ∀ d y, lkp (L ++ [(c, xb)]) d = some y → (lkp L d = some y ∧ y ≠ xb) ∨ (d = c ∧ y = xb) := by
    intro d y hy
    rw [lkp_snoc] at hy
    cases hl : lkp L d with
    | some z =>
      rw [hl] at hy
      simp at hy
      subst hy
      exact .inl ⟨rfl, hold d z hl⟩
    | none =>
      rw [hl] at hy
      simp at hy
      exact .inr ⟨hy.1.symm, hy.2.symm⟩
  have hFs : ∀ d y, lkp L d = some y → (if y = xb then Fx else Fs y) = Fs y := fun d y hy => by simp [hold d y hy]
  have hFx' : (if xb = xb then Fx else Fs xb) = Fx := by simp
  have hno2 : ∀ k, F k → k ≠ mb → ¬ S k := fun k hk hn hs => hn (hS k (h.lt k hk) hs)
  have hlk := hL.lt
  refine ⟨ht.heap h.box (hno2 _ h.foot.1 h.mine.1), ownI_turn h.vals ht (fun k hk => hno2 _ (h.foot.2.2.1 k hk) (h.mine.2.1 k hk).2), h.rows, h.arle, h.nodup, hM, ?_, ?_, ?_, ?_, ?_, ?_, ?_⟩
  · intro p hp
    rcases List.mem_append.1 hp with hp | hp
    · exact h.small p hp
    · rw [List.mem_singleton.1 hp]; exact hc
  · rw [List.map_append, List.map_singleton]
    refine List.nodup_append.2 ⟨h.nodupL, List.nodup_cons.2 ⟨by simp, List.nodup_nil⟩, fun a ha b hb hab => ?_⟩
    rw [List.mem_singleton] at hb
    subst hb
    subst hab
    obtain ⟨p, hp, hpa⟩ := List.mem_map.1 ha
    have : ∀ (M : List (Nat × Nat)), p ∈ M → lkp M a ≠ none := by
      intro M hM
      induction M with
      | nil => simp at hM
      | cons q M ih =>
        rw [lkp]
        by_cases e : q.1 = a
        · simp [e]
        · rw [if_neg e]
          rcases List.mem_cons.1 hM with rfl | hM
          · exact absurd hpa e
          · exact ih hM
    exact this L hp hno
  · intro d y hy
    rcases hcase d y hy with ⟨h1, hne⟩ | ⟨rfl, rfl⟩
    · rw [hFs d y h1]
      exact (h.looks d y h1).turn ht (fun k hk => hno2 k (h.foot.2.2.2 d y h1 k hk) (h.mine.2.2 d y h1 k hk).2.1)
    · rw [hFx']; exact hL
  · intro d y d' y' hy hy' hne k hk
    rcases hcase d y hy with ⟨h1, _⟩ | ⟨rfl, rfl⟩
    · rw [hFs d y h1] at hk
      rcases hcase d' y' hy' with ⟨h2, _⟩ | ⟨rfl, rfl⟩
      · rw [hFs d' y' h2]; exact h.apart d y d' y' h1 h2 hne k hk
      · rw [hFx']
        intro hk2
        have := h.below h1 k hk
        have := hFx k hk2
        omega
    · rw [hFx'] at hk
      rcases hcase d' y' hy' with ⟨h2, _⟩ | ⟨rfl, rfl⟩
      · rw [hFs d' y' h2]
        intro hk2
        have := h.below h2 k hk2
        have := hFx k hk
        omega
      · exact absurd rfl hne
  · refine ⟨h.mine.1, h.mine.2.1, fun d y hy k hk => ?_⟩
    rcases hcase d y hy with ⟨h1, _⟩ | ⟨rfl, rfl⟩
    · rw [hFs d y h1] at hk; exact h.mine.2.2 d y h1 k hk
    · rw [hFx'] at hk
      have hk1 := hFx k hk
      have h1 := h.lt _ h.foot.1
      have h2 := h.lt _ h.foot.2.1
      exact ⟨by omega, by omega, fun e => by have := h.lt _ (h.foot.2.2.1 k e); omega⟩
  · refine ⟨.inl h.foot.1, .inl h.foot.2.1, fun k hk => .inl (h.foot.2.2.1 k hk), fun d y hy k hk => ?_⟩
    rcases hcase d y hy with ⟨h1, _⟩ | ⟨rfl, rfl⟩
    · rw [hFs d y h1] at hk; exact .inl (h.foot.2.2.2 d y h1 k hk)
    · rw [hFx'] at hk
      exact .inr hk
  · rintro k (hk | hk)
    · have := h.lt k hk; have := ht.size; omega
    · exact hlk k hk

theorem nodup_len : ∀ (N : Nat) (l : List Nat), l.Nodup → (∀ x ∈ l, x < N) → l.length ≤ N
  | 0, l, _, h => by
    cases l with
    | nil => simp
    | cons x l => exact absurd (h x (List.mem_cons_self ..)) (by omega)
  | N + 1, l, hn, h => by
    have h1 := nodup_len N (l.filter (· ≠ N)) (hn.filter _) (fun x hx => by
      have h2 := List.mem_filter.1 hx
      have h3 := h x h2.1
      have h4 : x ≠ N := by simpa using h2.2
      omega)
    have h5 : l.length ≤ (l.filter (· ≠ N)).length + 1 := by
      clear h1 h
      induction l with
      | nil => simp
      | cons x l ih =>
        obtain ⟨k1, k2⟩ := List.nodup_cons.1 hn
        by_cases e : x = N
        · subst e
          have : l.filter (· ≠ x) = l := by
            rw [List.filter_eq_self]
            intro y hy
            have : y ≠ x := fun q => k1 (q ▸ hy)
            simpa using this
          rw [List.filter_cons_of_neg (by simp), this]
          simp
        · rw [List.filter_cons_of_pos (by simpa using e), List.length_cons, List.length_cons]
          have := ih k2
          omega
    omega
theorem Rl.fewL (h : Rl W F rb ar T vv mb L Fs) : L.length ≤ 65536 := by
  have h1 := nodup_len 65536 (L.map (·.1)) h.nodupL (fun x hx => by
    obtain ⟨p, hp, rfl⟩ := List.mem_map.1 hx
    exact pow_ar (h.small p hp) h.arle)
  simpa using h1

/-- Where the blocks of the lookup under way may lie. -/
def Own3 (lo mid hi k : Nat) : Prop := (lo ≤ k ∧ k < mid) ∨ hi ≤ k
/-- Between two rounds of lookup's loop. -/
def LI (V : World) (lo mid xb c : Nat) (T : List (List Int)) (k : Nat) (Y : World) : Prop :=
  ∃ F', LkS Y F' xb c (T.take k) ∧ (∀ i, F' i → Own3 lo mid V.heap.size i) ∧ (∀ i, F' i → Cells Y i) ∧ Turn (Own3 lo mid V.heap.size) V Y

theorem LI.bel {V : World} {lo mid xb c k : Nat} {Y Y' : World} (h : LI V lo mid xb c T k Y) (hb : Bel AnyT V.heap.size Y Y') : LI V lo mid xb c T k Y' := by
  obtain ⟨F', h1, h2, h3, h4⟩ := h
  obtain ⟨k1, k2⟩ := h1.bel h3 hb
  exact ⟨F', k1, h2, k2, h4.trans ((Turn.of_below hb.1).mono (fun i _ hi => .inr hi))⟩

/-- A round of the loop. -/
theorem LI.next {V : World} {lo mid xb c k : Nat} {X Y Z : World} {F' : Nat → Prop} (hX : ∀ i, F' i → Own3 lo mid V.heap.size i) (hc : ∀ i, F' i → Cells X i) (hV : Turn (Own3 lo mid V.heap.size) V X) (hXY : Stay X Y) (hL : LkS Z (Grow F' Y.heap.size Z) xb c (T.take (k + 1))) (ht : Turn F' Y Z) :
    LI V lo mid xb c T (k + 1) Z ∧ Go.Proofs.Ytnhmjheipfopoaa.Holds (fun i => False ∨ Fr AnyT V.heap.size X i) X Z ∧ X.heap.size ≤ Z.heap.size := by
  obtain ⟨F2, k1, k2, k3⟩ := hL.shrink
  refine ⟨⟨F2, k1, fun i hi => ?_, k3, (hV.then (Turn.of_stay (S := F') hXY) (fun i _ hi => hX i hi)).then ht (fun i _ hi => hX i hi)⟩, ?_, Nat.le_trans hXY.size ht.size⟩
  · rcases k2 i hi with h1 | h1
    · exact hX i h1
    · exact .inr (Nat.le_trans hV.size (Nat.le_trans hXY.size h1.1))
  · rintro i (hi | hi)
    · exact hi.elim
    · refine (ht.block i (Nat.lt_of_lt_of_le hi.2.1 hXY.size) (fun hf => ?_)).trans (hXY.block i hi.2.1)
      obtain ⟨cs, t, f, hh⟩ := hc i hf
      exact hi.2.2 ⟨cs, t, f, hh, trivial⟩
end
end Go.Proofs.Ytnhmjheipfopoaa.L
