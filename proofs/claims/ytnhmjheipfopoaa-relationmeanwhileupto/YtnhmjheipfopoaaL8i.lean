/- stretch's and All's functions, whose rounds may turn the relation. -/
import Derived.Test.YtnhmjheipfopoaaL8h
import Derived.Test.YtnhmjheipfopoaaL6c
import Derived.Test.YtnhmjheipfopoaaL5q
namespace Go.Proofs.Ytnhmjheipfopoaa.L
open Go.RowKit Go.Maps Go.Shelf Go.Proofs.Ytnhmjheipfopoaa
attribute [local go_sem] Oper.semAt_some

/-- What is told at the k-th round: a place and its tuple, in new memory. -/
def mkR (ps : List Nat) (k : Nat) (v : Value) : Array Value := #[.int .i64 ((ps.getD k 0 : Nat) : Int), v]
def EncR (T : List (List Int)) (ps : List Nat) (k : Nat) (v : Value) (E : Nat → Prop) (A : World) : Prop := OwnI 0 A v (T.getD (ps.getD k 0) []) ∧ ∀ i, E i ↔ v.ownBlock = some i
/-- The cells of the list of places that is gone through. -/
def SnapAt (s : Mark) (A : World) : Prop := ∀ j, j < s.n → A.cell? ⟨s.k, j, none⟩ = s.cs j
/-- What a loop over a relation does at its beginning. -/
def OpR (F : Nat → Prop) (rb ar : Nat) (T : List (List Int)) (s : Mark) (Y V' : World) : Prop := RelN V' (Grow F Y.heap.size V') rb ar T s.k s.n ∧ SnapAt s V' ∧ (0 < s.n → F s.k ∨ Y.heap.size ≤ s.k)
/-- What it needs to find at each round: the relation, with more tuples maybe. -/
def InvR (rb ar : Nat) (T : List (List Int)) (s : Mark) (A : World) : Prop := (∃ F M, RelS A F rb ar (T ++ M) ∧ (T ++ M).length ≤ 68719476736) ∧ SnapAt s A
theorem EncR.keep {T : List (List Int)} {ps : List Nat} {k : Nat} {v : Value} {E : Nat → Prop} {A A' : World} (h : EncR T ps k v E A) (ht : Turn (fun i => ¬ E i) A A') : EncR T ps k v E A' :=
  ⟨ownI_turn h.1 ht (fun i hi hn => hn ((h.2 i).2 hi)), h.2⟩

section
variable {W W' w : World} {F : Nat → Prop} {rb ar n : Nat} {T : List (List Int)} {vv : Value} {mb : Nat} {L : List (Nat × Nat)} {Fs : Nat → Nat → Prop}

theorem stretch_own (b1 b2 b3 : Nat) (V : World) (h1 : V.cell? ⟨b1, 0, none⟩ = some (.pointer (some ⟨rb, 0, none⟩))) (x y : Int) (h2 : V.cell? ⟨b2, 0, none⟩ = some (.int .i64 x)) (h3 : V.cell? ⟨b3, 0, none⟩ = some (.int .i64 y)) (h : RBox V rb ar n vv mb) (f g : Nat) (hf : bF x = f) (hg : bE x y n = g) (hfg : f ≤ g) (hgl : g ≤ 68719476736) :
    SeqU Try.prog 54 #[.pointer (some ⟨b1, 0, none⟩), .pointer (some ⟨b2, 0, none⟩), .pointer (some ⟨b3, 0, none⟩)] (g - f) (fun k _ => encPl (f + k)) (fun _ _ E _ => ∀ i, ¬ E i) (fun _ Y V' => V' = Y) (fun _ _ => True) (fun _ => False) (fun _ => False) V := by
  intro l J W U0 hW _ _ hJ hinv hopen hY
  obtain ⟨U1, hU1, h0⟩ := hopen ⟨0, 0, fun _ => none⟩ W W (Stay.refl _) rfl (Turn.refl _ _)
  refine (callsIn_wide (n := 1)).1 ((stretch1_calls l b1 b2 b3 (fun k A => ∃ U, (∀ i, U i → U0 i ∨ W.heap.size ≤ i) ∧ J ⟨0, 0, fun _ => none⟩ k U A ∧ W.heap.size ≤ A.heap.size) (fun _ => False) W (hW.cell h1) x y (hW.cell h2) (hW.cell h3) (h.stay hW) f g hf hg hfg hgl (fun d hj => ?_) (fun k A hk hj => ?_) ⟨U1, hU1, h0, Nat.le_refl _⟩).mono ?_)
  · obtain ⟨U, hU, hj, hz⟩ := hj
    exact ⟨U, hU, hJ _ _ _ _ _ hj (Turn.of_stay (Stay.drewN _ _)), hz⟩
  · obtain ⟨U, hU, hj, hz⟩ := hj
    obtain ⟨fn, tmps, assign, body, hy1, hR⟩ := hY ⟨0, 0, fun _ => none⟩ k hk U .nilFunc (fun _ => False) A hj (fun _ e => e) (fun _ e => e.elim) hz
    refine ⟨fn, tmps, assign, body, hy1, hR.mono fun e A' ht => ?_⟩
    obtain ⟨he, U', hT, hU', hj'⟩ := ht
    refine .inl ⟨he, U', fun i hi => ?_, hj', Nat.le_trans hz hT.size⟩
    rcases hU' i hi with q | q | q
    · exact hU i q
    · exact q.elim
    · exact .inr (by omega)
  · rintro e A ⟨hv, ⟨U, hU, hj, _⟩ | hx⟩
    · exact ⟨hv, _, U, hU, hj⟩
    · exact hx.elim

set_option maxRecDepth 100000 in
set_option maxHeartbeats 2000000 in
theorem all1_own (h : Rl w F rb ar T vv mb L Fs) (hwh : T ≠ [] → (lkp L (2 ^ ar - 1)).isSome = true) (b1 b2 b3 : Nat) (h1 : w.cell? ⟨b1, 0, none⟩ = some (.pointer (some ⟨rb, 0, none⟩))) (x y : Int) (h2 : w.cell? ⟨b2, 0, none⟩ = some (.int .i64 x)) (h3 : w.cell? ⟨b3, 0, none⟩ = some (.int .i64 y)) (hb1 : ¬ F b1) (f g : Nat) (hf : bF x = f) (hg : bE x y T.length = g) (hfg : f ≤ g) (hgl : g ≤ 68719476736) :
    SeqU Try.prog 35 #[.pointer (some ⟨b1, 0, none⟩), .pointer (some ⟨b2, 0, none⟩), .pointer (some ⟨b3, 0, none⟩)] (g - f) (mkR (pls f g)) (EncR T (pls f g)) (OpR F rb ar T) (InvR rb ar T) F (fun i => i = b1 ∨ i = b2 ∨ i = b3) w := by
  intro l J W U0 hW hU0l hBx hJ hinv hopen hY
  have q1 := (hW.trans (Stay.new W (.cells #[.func (.yield l) #[] #[]] 67))).cell h1
  have q2 := (hW.trans (Stay.new W (.cells #[.func (.yield l) #[] #[]] 67))).cell h2
  have q3 := (hW.trans (Stay.new W (.cells #[.func (.yield l) #[] #[]] 67))).cell h3
  have hbox : (W.alloc (.cells #[.func (.yield l) #[] #[]] 67)).heap[W.heap.size]? = some (.cells #[.func (.yield l) #[] #[]] 67 (0, 0)) := heap_new _ _
  have hst := stretch_any (W.alloc (.cells #[.func (.yield l) #[] #[]] 67)) (some ⟨rb, 0, none⟩) x y
  have HR : Hid (Rl W F rb ar T vv mb L Fs) := h.stay hW
  have hb1l : b1 < W.heap.size := Nat.lt_of_lt_of_le (World.block_lt_of_cell? w _ h1) hW.size
  have HB : Hid ((W.alloc (.cells #[.func (.yield l) #[] #[]] 67)).cell? ⟨b1, 0, none⟩ = some (.pointer (some ⟨rb, 0, none⟩)) ∧ ¬ U0 b1) := ⟨q1, hBx b1 (.inl rfl)⟩
  clear h h1 h2 h3
  refine (callsIn_wide (n := 8)).1 (callsIn_of_wp_marks Try.func35 rfl trivial ?_ rfl)
  simp only [Try.ntmps35, List.size_toArray, List.length_cons, List.length_nil, Nat.reduceAdd, Nat.reduceSub, Array.replicate_succ, Array.replicate_zero, List.push_toArray, List.append_toArray, List.nil_append, List.cons_append]
  gi_wp2_with (refine ⟨trivial, ?_⟩; gi_at_call 36; refine CallsIn.mono (callsIn_wide.2 hst) ?_; rintro e w2 ⟨V, rfl, rfl, sV, zV, -, p1, p2, p3⟩)
  have stV : Stay W w2 := (Stay.new _ _).trans sV
  rw [World.size_alloc] at p1 p2 p3 zV
  have sW : w2.heap.size = W.heap.size + 1 + 3 := zV
  have hb2 := sV.heap hbox
  have hc1 := sV.cell HB.out.1
  have hR2 := HR.out.stay stV
  have hq := stretch_own _ _ _ w2 p1 x y p2 p3 hR2.box f g hf hg hfg hgl
  obtain ⟨U1, hU1, hJ1⟩ := hopen ⟨b1, 0, fun _ => none⟩ w2 w2 stV ⟨⟨vv, mb, L, Fs, (RlN.far hR2 hwh hb1 (by omega)).grow (fun k hk => .inl hk) (fun k hk => hk.elim (hR2.lt k) (fun q => q.2))⟩, ⟨fun j hj => (by cases hj), fun q => (by cases q)⟩⟩ (Turn.refl _ _)
  have HT : Hid (∀ k, k < g - f → ∃ t, T[f + k]? = some t ∧ (pls f g).getD k 0 = f + k ∧ T.getD ((pls f g).getD k 0) [] = t) := by
    intro k hk
    have hlt : f + k < T.length := by unfold bF at hf; unfold bE at hg; omega
    have hp : (pls f g).getD k 0 = f + k := by
      rw [List.getD_eq_getElem?_getD, List.getElem?_eq_getElem (by rw [pls_len]; exact hk), pls_at]; rfl
    exact ⟨T[f + k], List.getElem?_eq_getElem hlt, hp, by rw [hp]; simp [hlt]⟩
  clear hst q1 q2 q3 p1 p2 p3 sV zV hbox
  have hmix : Try.prog.follows .mixedOrders = true := by kernel_rfl
  refine' range_own (n := 8) (by decide) (gf := 54) (lb := _) rfl (enters_of Try.func54 (by kernel_rfl) rfl) hq (fun _ _ => rfl) (fun k v E A A' hE ht => hE)
    (fun _ k U A => J ⟨b1, 0, fun _ => none⟩ k U A ∧ A.heap[W.heap.size]? = some (.cells #[.func (.yield l) #[] #[]] 67 (0, 0)) ∧ A.cell? ⟨b1, 0, none⟩ = some (.pointer (some ⟨rb, 0, none⟩)) ∧ ∀ i, U i → U0 i ∨ w2.heap.size ≤ i) (fun s k U A A' hA ht => ?hI) (fun s k U A hA => ⟨(hinv _ _ _ _ hA.1).1, trivial⟩)
    U1 (hinv _ _ _ _ hJ1).1 (fun _ e => e.elim) (fun _ e => e.elim) (fun s Y V' hY hO hT => ?opening) _ ?assign ?body ?done
  case hI =>
    obtain ⟨h1, h2, h3, h4⟩ := hA
    refine ⟨hJ _ _ _ _ _ h1 (ht.mono fun i _ h => ⟨by have := stV.size; omega, h.2⟩), ht.heap h2 (fun h => by omega), ht.cell h3 (fun h => by have := h.1; dsimp only at this; omega), h4⟩
  case opening =>
    subst hO
    exact ⟨U1, fun i h => .inl h, hJ _ _ _ _ _ hJ1 (Turn.of_stay hY), hY.heap hb2, hY.cell hc1, hU1⟩
  case assign =>
    intro l' k v W' K hK
    dsimp only [encPl]
    gi_wp2
    exact hK
  case body =>
    intro l' s k hk U v E X hI hE hEf hzX
    obtain ⟨hJx, hbx, hc, hUU⟩ := hI
    have hcy : X.cell? ⟨W.heap.size, 0, none⟩ = some (.func (.yield l) #[] #[]) := by simp [World.cell?, hbx]
    obtain ⟨t, ht1, ht2, ht3⟩ := HT.out k hk
    obtain ⟨⟨F9, M, ⟨vv9, mb9, L9, Fs9, hR9⟩, hM⟩, -⟩ := (hinv _ _ _ _ hJx).2
    have htp : ∀ Y, Stay X Y → Calls Try.prog 34 #[.pointer (some ⟨rb, 0, none⟩), .int .i64 ((f : Int) + (k : Int))] Y fun e w' => ∃ a b c, e = .returned (.slice a t.length c) ∧ OwnI Y.heap.size w' (.slice a t.length c) t ∧ Stay Y w' := fun Y hY => by
      have := tuple_any (hR9.stay hY) hM (p := f + k) (t := t) (by rw [List.getElem?_append_left (List.getElem?_eq_some_iff.1 ht1).1]; exact ht1)
      rw [Int.natCast_add] at this
      refine this.mono ?_
      rintro e w' ⟨v, rfl, hO, hs⟩
      obtain ⟨a, b, c, rfl, hI⟩ := hO.ints
      exact ⟨a, b, c, rfl, hO, hs⟩
    have HY : Hid (∀ v Y, Stay X Y → OwnI X.heap.size Y v t → YieldAt (Fence.wide.inRound l') 5 Try.prog l #[.int .i64 ((f : Int) + (k : Int)), v] Y fun e A' => e = .returned (.bool true) ∧ ∃ U', Turn (fun i => U i ∨ v.ownBlock = some i) Y A' ∧ (∀ i, U' i → U i ∨ v.ownBlock = some i ∨ Y.heap.size ≤ i) ∧ J ⟨b1, 0, fun _ => none⟩ (k + 1) U' A') := fun v Y hs hO => by
      have hz := hs.size
      have := hY ⟨b1, 0, fun _ => none⟩ k hk U v (fun i => v.ownBlock = some i) Y (hJ _ _ _ _ _ hJx (Turn.of_stay hs)) ⟨by rw [ht3]; exact hO.mono (Nat.zero_le _), fun i => Iff.rfl⟩ (fun i hi => ⟨by have := (hO.lt i hi).1; have := stV.size; omega, (hO.lt i hi).2, fun hu => by have := (hinv _ _ _ _ hJx).1 i hu; have := (hO.lt i hi).1; omega⟩) (by have := stV.size; omega)
      unfold mkR at this
      rw [ht2, Int.natCast_add] at this
      exact yield_any (l' := l') (m' := 5) this
    have HF : Hid (∀ v Y Z, Stay X Y → OwnI X.heap.size Y v t → (∃ U', Turn (fun i => U i ∨ v.ownBlock = some i) Y Z ∧ (∀ i, U' i → U i ∨ v.ownBlock = some i ∨ Y.heap.size ≤ i) ∧ J ⟨b1, 0, fun _ => none⟩ (k + 1) U' Z) →
        ∃ U', Turn (fun i => U i ∨ E i) X Z ∧ (∀ i, U' i → U i ∨ E i ∨ X.heap.size ≤ i) ∧ J ⟨b1, 0, fun _ => none⟩ (k + 1) U' Z ∧ Z.heap[W.heap.size]? = some (.cells #[.func (.yield l) #[] #[]] 67 (0, 0)) ∧ Z.cell? ⟨b1, 0, none⟩ = some (.pointer (some ⟨rb, 0, none⟩)) ∧ ∀ i, U' i → U0 i ∨ w2.heap.size ≤ i) := by
      rintro v Y Z hs hO ⟨U', hT, hU', hJ'⟩
      have hz := hs.size
      have hTX : Turn U X Z := (Turn.of_stay (S := U) hs).then hT (fun i hi h => h.elim id (fun h => by have := (hO.lt i h).1; omega))
      have n1 : ¬ U W.heap.size := fun h => by
        rcases hUU _ h with h | h
        · have := hU0l _ h; omega
        · omega
      have n2 : ¬ U b1 := fun h => by
        rcases hUU _ h with h | h
        · exact HB.out.2 h
        · omega
      refine ⟨U', hTX.mono (fun _ _ h => .inl h), fun i h => ?_, hJ', hTX.heap hbx n1, hTX.cell hc n2, fun i h => ?_⟩
      · rcases hU' i h with h | h | h
        · exact .inl h
        · exact .inr (.inr (hO.lt i h).1)
        · exact .inr (.inr (by omega))
      · rcases hU' i h with h | h | h
        · exact hUU i h
        · exact .inr (by have := (hO.lt i h).1; omega)
        · exact .inr (by omega)
    clear hJx hbx hUU hR9 ht1 ht2 ht3 hY hopen hU1 hJ1 hq hb2 hc1 hR2 hJ hinv hBx hW stV HR HB HT hU0l hzX hE hEf hf hg hb1 hwh hM
    gi_wp2
    gi_region_with_o (first
      | (refine ⟨trivial, ?_⟩; gi_at_call 34; refine (CallsIn.inRound l' (callsIn_wide.2 (htp _ (Stay.drew _)))).mono ?_; rintro e Y ⟨a5, b5, c5, rfl, hO5, hs5⟩; have hsY : Stay X Y := (Stay.drew X).trans hs5; have hcyY := hsY.cell hcy; obtain ⟨fn, tm9, as9, bd9, hy9, hR9⟩ := HY.out _ Y hsY hO5; clear hs5)
      | (refine hR9.mono ?_; rintro e9 Z ⟨rfl, hZ⟩; have HZ : Hid _ := hZ; clear hZ))
    all_goals gi_wp2
    all_goals exact HF.out _ _ _ hsY hO5 HZ.out
  case done =>
    rintro s U A hUU ⟨hJA, -, -, hU4⟩ hdd hnU
    have HJ : Hid (∀ w', Turn (fun i => i ∈ [w2.heap.size]) A w' → (∀ i, U i → U0 i ∨ W.heap.size ≤ i) ∧ J ⟨b1, 0, fun _ => none⟩ (g - f) U w') := fun w' ht => ⟨fun i hi => (hU4 i hi).imp id (fun h => by omega), hJ _ _ _ _ _ hJA (ht.mono fun i _ h => by rw [List.mem_singleton.1 h]; exact ⟨by omega, hnU⟩)⟩
    clear hJA hU4 hq hUU hnU hJ hinv hopen hY HT hR2 HR hb2 hc1 hJ1
    gi_wp2
    exact leaves_turn [w2.heap.size] A (by simp) (by intro r hr; rw [List.mem_singleton.1 hr]; exact hdd) fun w' hw' => ⟨_, results_none rfl _ _ _, ⟨_, rfl⟩, _, U, (HJ.out w' hw').1, (HJ.out w' hw').2⟩
end
end Go.Proofs.Ytnhmjheipfopoaa.L
