/- What Match and All answer: functions that tell the document's places. Match and All: the functions that they answer. -/
import Derived.Test.YtnhmjheipfopoaaL8j
import Derived.Test.YtnhmjheipfopoaaL7e
namespace Go.Proofs.Ytnhmjheipfopoaa.L
open Go.RowKit Go.Maps Go.Shelf Go.Proofs.Ytnhmjheipfopoaa
attribute [local go_sem] Oper.semAt_some

theorem SeqU.bx {P : Program} {gf : Nat} {lb : Array Value} {cnt : Nat} {mk : Nat → Value → Array Value} {Enc : Nat → Value → (Nat → Prop) → World → Prop} {Op : Mark → World → World → Prop} {Inv : Mark → World → Prop} {F0 Bx Bx' : Nat → Prop} {w : World} (h : SeqU P gf lb cnt mk Enc Op Inv F0 Bx w) (hb : ∀ i, Bx i → Bx' i) : SeqU P gf lb cnt mk Enc Op Inv F0 Bx' w :=
  fun l J W U0 hW hU hB => h l J W U0 hW hU (fun i hi => hB i (hb i hi))

/-- The places of a stretch. -/
theorem mid_pls (x y : Int) (f : Nat) (hf : bF x = f) : ∀ n : Nat, ∃ g : Nat, bE x y n = g ∧ f ≤ g ∧ (f < g → g ≤ n) ∧ mid (List.range n) x y = pls f g
  | 0 => ⟨f, by unfold bF at hf; unfold bE; omega, Nat.le_refl _, fun h => by omega, by simp [mid, pls]⟩
  | n + 1 => by
    obtain ⟨g, h1, h2, h3, h4⟩ := mid_pls x y f hf n
    unfold bF at hf
    unfold bE at h1
    unfold mid at h4 ⊢
    rw [List.range_succ, List.filter_append, h4]
    by_cases hc : x ≤ (n : Int) ∧ (n : Int) < y
    · have hg : g = n ∨ (g = f ∧ f = n) := by omega
      have hgn : g = n := by omega
      subst hgn
      refine ⟨g + 1, by unfold bE; omega, by omega, fun _ => Nat.le_refl _, ?_⟩
      have : [g].filter (between x y) = [g] := by simp [between, hc]
      rw [this]
      unfold pls
      rw [show g + 1 - f = (g - f) + 1 by omega, pls_succ, show f + (g - f) = g by omega]
    · refine ⟨g, by unfold bE; omega, h2, fun h => by have := h3 h; omega, ?_⟩
      have : [n].filter (between x y) = [] := by simp [between]; omega
      rw [this, List.append_nil]

theorem plc_zero (T : List (List Int)) : plc 0 T [] = List.range T.length := by
  unfold plc
  rw [List.filter_eq_self.2]
  intro p _
  have : cols 0 16 = [] := by decide
  unfold cutL; rw [this]; simp
theorem rowB_row {ar : Nat} {C : List Int} : rowB ar C = true ↔ ∃ c, rowL ar C (-1) 0 = some c := by
  unfold rowB; rw [Option.isSome_iff_exists]
/-- What Match must tell, by the lookup's numbers. -/
theorem mtL_none {ar : Nat} {C K : List Int} (h : askL ar C K.length = none) (T : List (List Int)) (x y : Int) : mtL ar T C K x y = [] := by
  unfold askL at h
  unfold mtL
  rw [if_neg]
  rintro ⟨h1, h2⟩
  rw [if_pos h2] at h
  obtain ⟨c, hc⟩ := rowB_row.1 h1
  rw [hc] at h; cases h
theorem mtL_some {ar : Nat} (har : ar ≤ 16) {C K : List Int} {c : Nat} (h : askL ar C K.length = some c) (T : List (List Int)) (x y : Int) : mtL ar T C K x y = mid (plc c T K) x y := by
  unfold askL at h
  split at h
  · rename_i hl
    unfold mtL
    rw [if_pos ⟨rowB_row.2 ⟨c, h⟩, hl⟩]
    unfold mtP mid plc
    rw [List.filter_filter]
    apply List.filter_congr
    intro p _
    rw [cutC_cutL har h]
    unfold between
    by_cases h1 : x ≤ (p : Int) <;> by_cases h2 : (p : Int) < y <;> simp [h1, h2]
  · cases h

/-- A function that Match or All answered, with what it has kept. -/
def Clo (gf : Nat) (lb : Array Value) (rb ar : Nat) (C K : List Int) (x y : Int) (Bx : Nat → Prop) (A : World) : Prop :=
  (gf = 29 ∧ lb = #[] ∧ askL ar C K.length = none) ∨
  (gf = 35 ∧ ∃ b1 b2 b3, lb = #[.pointer (some ⟨b1, 0, none⟩), .pointer (some ⟨b2, 0, none⟩), .pointer (some ⟨b3, 0, none⟩)] ∧ A.cell? ⟨b1, 0, none⟩ = some (.pointer (some ⟨rb, 0, none⟩)) ∧ A.cell? ⟨b2, 0, none⟩ = some (.int .i64 x) ∧ A.cell? ⟨b3, 0, none⟩ = some (.int .i64 y) ∧ C = [] ∧ K = [] ∧ Bx b1 ∧ Bx b2 ∧ Bx b3) ∨
  (gf = 31 ∧ ∃ b1 b2 b3 b4 b5 c ka kb ko kc, lb = #[.pointer (some ⟨b1, 0, none⟩), .pointer (some ⟨b2, 0, none⟩), .pointer (some ⟨b3, 0, none⟩), .pointer (some ⟨b4, 0, none⟩), .pointer (some ⟨b5, 0, none⟩)] ∧ askL ar C K.length = some c ∧
    A.cell? ⟨b1, 0, none⟩ = some (.pointer (some ⟨rb, 0, none⟩)) ∧ A.heap[b2]? = some (.cells (rowV c) 64 (0, 0)) ∧ A.cell? ⟨b3, 0, none⟩ = some (.slice ka K.length kc) ∧ IntsS A ka kb ko K ∧ A.cell? ⟨b4, 0, none⟩ = some (.int .i64 x) ∧ A.cell? ⟨b5, 0, none⟩ = some (.int .i64 y) ∧ Bx b1 ∧ Bx b2 ∧ Bx b3 ∧ Bx b4 ∧ Bx b5 ∧ (0 < K.length → Bx kb))

section
variable {W W' A A' w : World} {F Bx : Nat → Prop} {rb ar n : Nat} {T : List (List Int)} {vv : Value} {mb : Nat} {L : List (Nat × Nat)} {Fs : Nat → Nat → Prop} {gf : Nat} {lb : Array Value} {C K : List Int} {x y : Int}

theorem Clo.turn {S : Nat → Prop} (h : Clo gf lb rb ar C K x y Bx A) (ht : Turn S A A') (hn : ∀ i, Bx i → ¬ S i) : Clo gf lb rb ar C K x y Bx A' := by
  rcases h with h | ⟨h0, b1, b2, b3, h1, h2, h3, h4, h5, h6, h7, h8, h9⟩ | ⟨h0, b1, b2, b3, b4, b5, c, ka, kb, ko, kc, h1, h2, h3, h4, h5, h6, h7, h8, k1, k2, k3, k4, k5, k6⟩
  · exact .inl h
  · exact .inr (.inl ⟨h0, b1, b2, b3, h1, ht.cell h2 (hn _ h7), ht.cell h3 (hn _ h8), ht.cell h4 (hn _ h9), h5, h6, h7, h8, h9⟩)
  · exact .inr (.inr ⟨h0, b1, b2, b3, b4, b5, c, ka, kb, ko, kc, h1, h2, ht.cell h3 (hn _ k1), ht.heap h4 (hn _ k2), ht.cell h5 (hn _ k3), ints_turn h6 ht (fun q => hn _ (k6 q)), ht.cell h7 (hn _ k4), ht.cell h8 (hn _ k5), k1, k2, k3, k4, k5, k6⟩)
theorem Clo.stay (h : Clo gf lb rb ar C K x y Bx A) (hs : Stay A A') : Clo gf lb rb ar C K x y Bx A' := h.turn (S := fun _ => False) (Turn.of_stay hs) (fun _ _ e => e)

set_option maxRecDepth 100000 in
theorem match1_own (h : Rl w F rb ar T vv mb L Fs) (hwh : T ≠ [] → (lkp L (2 ^ ar - 1)).isSome = true) (k9 : Nat) (hk9 : ¬ F k9) (hl9 : k9 < w.heap.size) :
    SeqU Try.prog 29 #[] 0 (mkR []) (EncR T []) (OpR F rb ar T) (InvR rb ar T) F Bx w := by
  intro l J W U0 hW hU0l hBx hJ hinv hopen hY
  have hR := h.stay hW
  obtain ⟨U1, hU1, h0⟩ := hopen ⟨k9, 0, fun _ => none⟩ W W (Stay.refl _) ⟨⟨vv, mb, L, Fs, (RlN.far hR hwh hk9 (Nat.lt_of_lt_of_le hl9 hW.size)).grow (fun k hk => .inl hk) (fun k hk => hk.elim (hR.lt k) (fun q => q.2))⟩, ⟨fun j hj => (by cases hj), fun q => (by cases q)⟩⟩ (Turn.refl _ _)
  have H0 : Hid ((∀ i, U1 i → U0 i ∨ W.heap.size ≤ i) ∧ J ⟨k9, 0, fun _ => none⟩ 0 U1 W) := ⟨hU1, h0⟩
  clear h hY hopen hinv hJ hBx hU0l hU1 h0
  refine (callsIn_wide (n := 1)).1 (callsIn_of_wp Try.func29 rfl trivial ?_ rfl)
  simp only [Try.ntmps29, List.size_toArray, List.length_cons, List.length_nil, Nat.reduceAdd, Nat.reduceSub, Array.replicate_succ, Array.replicate_zero, List.push_toArray, List.append_toArray, List.nil_append, List.cons_append]
  gi_wp2
  go_end0
  exact ⟨⟨_, rfl⟩, _, U1, H0.out.1, H0.out.2⟩

/-- Such a function tells the document's places. -/
theorem clo_seq (hC : Clo gf lb rb ar C K x y Bx w) (h : Rl w F rb ar T vv mb L Fs) (hwh : T ≠ [] → (lkp L (2 ^ ar - 1)).isSome = true) (hT : T.length ≤ 68719476736) (hx : x ≤ 68719476736) (hlK : K.length ≤ maxLen) (hB : ∀ i, Bx i → ¬ F i) (k9 : Nat) (hk9 : ¬ F k9) (hl9 : k9 < w.heap.size) :
    SeqU Try.prog gf lb (mtL ar T C K x y).length (mkR (mtL ar T C K x y)) (EncR T (mtL ar T C K x y)) (OpR F rb ar T) (InvR rb ar T) F Bx w ∧ ∀ args w, (callFunc gf args).run Try.prog w = .ok (.enter gf args) w := by
  rcases hC with ⟨rfl, rfl, ha⟩ | ⟨rfl, b1, b2, b3, rfl, h2, h3, h4, rfl, rfl, h7, h8, h9⟩ | ⟨rfl, b1, b2, b3, b4, b5, c, ka, kb, ko, kc, rfl, ha, h3, h4, h5, h6, h7, h8, k1, k2, k3, k4, k5, k6⟩
  · rw [mtL_none ha]
    exact ⟨match1_own h hwh k9 hk9 hl9, enters_of Try.func29 (by kernel_rfl) rfl⟩
  · refine ⟨?_, enters_of Try.func35 (by kernel_rfl) rfl⟩
    have hf : bF x = ((bF x).toNat : Nat) := by unfold bF; omega
    obtain ⟨g, hg, hfg, hgn, hm⟩ := mid_pls x y (bF x).toNat hf T.length
    have e : mtL ar T [] [] x y = pls (bF x).toNat g := by
      rw [mtL_some (c := 0) h.arle (by simp [askL, rowL]), plc_zero, hm]
    rw [e]
    have := all1_own h hwh b1 b2 b3 h2 x y h3 h4 (hB _ h7) (bF x).toNat g hf hg hfg (by
      by_cases q : (bF x).toNat < g
      · have := hgn q; omega
      · unfold bF at *; omega)
    rw [pls_len]
    refine this.bx ?_
    rintro i (rfl | rfl | rfl)
    · exact h7
    · exact h8
    · exact h9
  · refine ⟨?_, enters_of Try.func31 (by kernel_rfl) rfl⟩
    have hc2 : c < 2 ^ ar := by
      unfold askL at ha
      split at ha
      · exact rowL_lt C (-1) 0 (by omega) (Nat.two_pow_pos ar) c ha
      · cases ha
    refine (match2_own h hwh hT hc2 b1 b2 b3 b4 b5 h3 h4 ka kb ko kc K h5 h6 hlK x y h7 h8 ⟨hB _ k1, hB _ k2, hB _ k3, hB _ k4, hB _ k5⟩ (fun q => hB _ (k6 q)) _ (mtL_some h.arle ha T x y).symm).bx ?_
    rintro i (rfl | rfl | rfl | rfl | rfl)
    · exact k1
    · exact k2
    · exact k3
    · exact k4
    · exact k5
end
end Go.Proofs.Ytnhmjheipfopoaa.L
namespace Go.Proofs.Ytnhmjheipfopoaa.L
open Go.RowKit Go.Maps Go.Shelf Go.Proofs.Ytnhmjheipfopoaa

section
variable {W W' A A' w : World} {F Bx : Nat → Prop} {rb ar n : Nat} {T : List (List Int)} {vv : Value} {mb : Nat} {L : List (Nat × Nat)} {Fs : Nat → Nat → Prop} {gf : Nat} {lb : Array Value} {C K : List Int} {x y : Int}

/-- What is answered: a function, whose blocks are new. -/
def CloR (W : World) (rb ar : Nat) (C K : List Int) (x y : Int) (e : Ending) (w' : World) : Prop := ∃ gf lb Bx, e = .returned (.func (.func gf) #[] lb) ∧ Stay W w' ∧ Clo gf lb rb ar C K x y Bx w' ∧ ∀ i, Bx i → W.heap.size ≤ i ∧ i < w'.heap.size

theorem all_any (W : World) (rb ar : Nat) (x y : Int) : Calls Try.prog 12 #[.pointer (some ⟨rb, 0, none⟩), .int .i64 x, .int .i64 y] W (CloR W rb ar [] [] x y) := by
  refine (allR_any W (some ⟨rb, 0, none⟩) x y).mono ?_
  rintro e w' ⟨V, rfl, rfl, h3, hz, c1, c2, c3⟩
  exact ⟨_, _, fun i => W.heap.size ≤ i ∧ i < w'.heap.size, rfl, h3, .inr (.inl ⟨rfl, _, _, _, rfl, c1, c2, c3, rfl, rfl, ⟨Nat.le_refl _, by omega⟩, ⟨by omega, by omega⟩, ⟨by omega, by omega⟩⟩), fun i hi => hi⟩

theorem CloR.before {W0 : World} {e : Ending} {w' : World} (h : CloR W rb ar C K x y e w') (hs : Stay W0 W) : CloR W0 rb ar C K x y e w' := by
  obtain ⟨gf, lb, Bx, h1, h2, h3, h4⟩ := h
  exact ⟨gf, lb, Bx, h1, hs.trans h2, h3, fun i hi => ⟨Nat.le_trans hs.size (h4 i hi).1, (h4 i hi).2⟩⟩

set_option maxRecDepth 100000 in
set_option maxHeartbeats 2000000 in
theorem match_any (h : RBox W rb ar n vv mb) (har : ar ≤ 16) (a : Option Addr) (b o cap : Nat) (C : List Int) (hI : IntsS W a b o C) (hl : C.length ≤ maxLen) (a2 : Option Addr) (b2 o2 cap2 : Nat) (K : List Int) (hK : IntsS W a2 b2 o2 K) (hlK : K.length ≤ 1099511627776) (x y : Int) :
    Calls Try.prog 10 #[.pointer (some ⟨rb, 0, none⟩), .slice a C.length cap, .slice a2 K.length cap2, .int .i64 x, .int .i64 y] W (CloR W rb ar C K x y) := by
  obtain ⟨V, hV⟩ : ∃ V, V = (((W.alloc (.cells #[.pointer (some ⟨rb, 0, none⟩)] 24)).alloc (.cells #[.slice a2 K.length cap2] 23)).alloc (.cells #[.int .i64 x] 3)).alloc (.cells #[.int .i64 y] 3) := ⟨_, rfl⟩
  have hsV : Stay W V := by rw [hV]; exact (((Stay.new _ _).alloc _).alloc _).alloc _
  have hzV : V.heap.size = W.heap.size + 4 := by rw [hV]; simp
  have e1 : V.heap[W.heap.size]? = some (.cells #[.pointer (some ⟨rb, 0, none⟩)] 24 (0, 0)) := by
    rw [hV]; exact (((Stay.new _ _).alloc _).alloc _).heap (heap_new W _)
  have e2 : V.heap[W.heap.size + 1]? = some (.cells #[.slice a2 K.length cap2] 23 (0, 0)) := by
    have := heap_new (W.alloc (.cells #[.pointer (some ⟨rb, 0, none⟩)] 24)) (.cells #[.slice a2 K.length cap2] 23)
    rw [World.size_alloc] at this
    rw [hV]; exact ((Stay.new _ _).alloc _).heap this
  have e3 : V.heap[W.heap.size + 2]? = some (.cells #[.int .i64 x] 3 (0, 0)) := by
    have := heap_new ((W.alloc (.cells #[.pointer (some ⟨rb, 0, none⟩)] 24)).alloc (.cells #[.slice a2 K.length cap2] 23)) (.cells #[.int .i64 x] 3)
    rw [World.size_alloc, World.size_alloc] at this
    rw [hV]; exact (Stay.new _ _).heap this
  have e4 : V.heap[W.heap.size + 3]? = some (.cells #[.int .i64 y] 3 (0, 0)) := by
    have := heap_new (((W.alloc (.cells #[.pointer (some ⟨rb, 0, none⟩)] 24)).alloc (.cells #[.slice a2 K.length cap2] 23)).alloc (.cells #[.int .i64 x] 3)) (.cells #[.int .i64 y] 3)
    rw [World.size_alloc, World.size_alloc, World.size_alloc] at this
    rw [hV]; exact this
  have hask := ask_any (h.stay hsV) har a b o cap C (hI.stay hsV) hl a2 cap2 K.length
  have hz := zeroRow
  obtain ⟨Z, hZ⟩ : ∃ Z, Z = rowV 0 := ⟨_, rfl⟩
  rw [← hZ] at hz
  have H0 : Hid (Z = rowV 0) := hZ
  have HV : Hid (Stay W V ∧ V.heap.size = W.heap.size + 4 ∧ V.heap[W.heap.size]? = some (.cells #[.pointer (some ⟨rb, 0, none⟩)] 24 (0, 0)) ∧ V.heap[W.heap.size + 1]? = some (.cells #[.slice a2 K.length cap2] 23 (0, 0)) ∧ V.heap[W.heap.size + 2]? = some (.cells #[.int .i64 x] 3 (0, 0)) ∧ V.heap[W.heap.size + 3]? = some (.cells #[.int .i64 y] 3 (0, 0))) := ⟨hsV, hzV, e1, e2, e3, e4⟩
  have HK : Hid (IntsS W a2 b2 o2 K) := hK
  rw [hV] at hask
  clear hZ h hsV hI hK e1 e2 e3 e4 hzV
  cases hA : askL ar C K.length with
  | none =>
    rw [hA] at hask
    dsimp only [rowR] at hask
    rw [← H0.out] at hask
    go_enter Try.func10, Try.ntmps10
    go_wp2_with (first
      | (go_at_call 28; refine hask.mono ?_; rw [← hV]; rintro e w1 ⟨rfl, hs1⟩; have HS1 : Hid (Stay W w1) := HV.out.1.trans hs1; clear hs1 hask hV)
      | (refine wpList_store_fresh rfl 64 (.tmp 11) (.tmp 18) rfl Z Z rfl rfl 64 (by rw [H0.out]; exact sizeRow' _) rfl (by rw [H0.out]; exact rowV_one _) ?_))
    go_ret
    exact ⟨_, _, fun _ => False, rfl, HS1.out.alloc _, .inl ⟨rfl, rfl, hA⟩, fun _ e => e.elim⟩
  | some c =>
    rw [hA] at hask
    dsimp only [rowR] at hask
    obtain ⟨Rc, hRc⟩ : ∃ Rc, Rc = rowV c := ⟨_, rfl⟩
    rw [← hRc] at hask
    have HR : Hid (Rc = rowV c) := hRc
    clear hRc
    by_cases hC0 : C.length = 0
    · obtain rfl := List.length_eq_zero_iff.1 hC0
      have hK0 : K = [] := by
        unfold askL at hA
        split at hA
        · rename_i q; exact List.length_eq_zero_iff.1 (by simpa using q)
        · cases hA
      subst hK0
      have HAll : Hid (∀ Y, Calls Try.prog 12 #[.pointer (some ⟨rb, 0, none⟩), .int .i64 x, .int .i64 y] Y (CloR Y rb ar [] [] x y)) := fun Y => all_any Y rb ar x y
      clear hA hC0
      dsimp only [List.length_nil] at hask hV HV ⊢
      go_enter Try.func10, Try.ntmps10
      go_wp2_with (first
        | (go_at_call 28; refine hask.mono ?_; rw [← hV]; rintro e w1 ⟨rfl, hs1⟩; have HS1 : Hid (Stay V w1) := hs1; have c1 : w1.cell? ⟨W.heap.size, 0, none⟩ = some (.pointer (some ⟨rb, 0, none⟩)) := cell_of (hs1.heap HV.out.2.2.1) rfl; have c3 : w1.cell? ⟨W.heap.size + 2, 0, none⟩ = some (.int .i64 x) := cell_of (hs1.heap HV.out.2.2.2.2.1) rfl; have c4 : w1.cell? ⟨W.heap.size + 3, 0, none⟩ = some (.int .i64 y) := cell_of (hs1.heap HV.out.2.2.2.2.2) rfl; clear hs1 hask hV)
        | (refine wpList_store_fresh rfl 64 (.tmp 11) (.tmp 18) rfl Rc Z rfl rfl 64 (by rw [HR.out]; exact sizeRow' _) (by simp only [H0.out, HR.out, rowV_size]) (by rw [HR.out]; exact rowV_one _) ?_; have c1' := (Stay.new w1 (.cells Rc 64)).cell c1; have c3' := (Stay.new w1 (.cells Rc 64)).cell c3; have c4' := (Stay.new w1 (.cells Rc 64)).cell c4; have HS2 : Hid (Stay W (w1.alloc (.cells Rc 64))) := (HV.out.1.trans HS1.out).alloc _; generalize w1.alloc (.cells Rc 64) = w2 at c1' c3' c4' HS2 ⊢)
        | (go_at_call 12; refine (HAll.out _).mono ?_; rintro e w3 ⟨gf, lb, Bx, rfl, h3⟩; have H3 : Hid _ := h3; clear h3))
      go_ret
      obtain ⟨h1, h2, h3⟩ := H3.out
      exact ⟨gf, lb, Bx, rfl, HS2.out.trans h1, h2, fun i hi => ⟨Nat.le_trans HS2.out.size (h3 i hi).1, (h3 i hi).2⟩⟩
    · have hC1 : ((C.length : Int) == 0) = false := by rw [beq_eq_false_iff_ne]; omega
      have hCl : Hid (∀ Y, Stay W Y → Calls Try.prog 30 #[.slice a2 K.length cap2] Y fun e w' => ∃ a5 b5 c5, e = .returned (.slice a5 K.length c5) ∧ IntsS w' a5 b5 0 K ∧ (0 < K.length → Y.heap.size ≤ b5 ∧ b5 < w'.heap.size) ∧ Stay Y w') := fun Y hY => by
        refine (cloneInts_any Y a2 b2 o2 cap2 K (HK.out.stay hY) hlK).mono ?_
        rintro e w' ⟨v, rfl, hO, hs⟩
        obtain ⟨a5, b5, c5, rfl, hI5⟩ := hO.ints
        refine ⟨a5, b5, c5, rfl, hI5, fun h0 => ⟨?_, ints_lt hI5 h0⟩, hs⟩
        have := hI5.1 h0
        rw [this] at hO
        exact (hO.lt b5 rfl).1
      have hl' : (C.length : Int) ≤ 9223372036854775807 := by unfold maxLen at hl; omega
      clear hC0
      go_enter Try.func10, Try.ntmps10
      go_wp2_with (first
        | (go_at_call 28; refine hask.mono ?_; rw [← hV]; rintro e w1 ⟨rfl, hs1⟩; have HS1 : Hid (Stay V w1) := hs1; have c2 : w1.cell? ⟨W.heap.size + 1, 0, none⟩ = some (.slice a2 K.length cap2) := cell_of (hs1.heap HV.out.2.2.2.1) rfl; clear hs1 hask hV)
        | (refine wpList_store_fresh rfl 64 (.tmp 11) (.tmp 18) rfl Rc Z rfl rfl 64 (by rw [HR.out]; exact sizeRow' _) (by simp only [H0.out, HR.out, rowV_size]) (by rw [HR.out]; exact rowV_one _) ?_; have c2' := (Stay.new w1 (.cells Rc 64)).cell c2; have HS2 : Hid (Stay V (w1.alloc (.cells Rc 64)) ∧ (w1.alloc (.cells Rc 64)).heap[w1.heap.size]? = some (.cells Rc 64 (0, 0)) ∧ V.heap.size ≤ w1.heap.size ∧ w1.heap.size < (w1.alloc (.cells Rc 64)).heap.size) := ⟨HS1.out.alloc _, heap_alloc_new _ _, HS1.out.size, by rw [World.size_alloc]; omega⟩; generalize w1.alloc (.cells Rc 64) = w2 at c2' HS2 ⊢; generalize w1.heap.size = b11 at HS2 ⊢)
        | (go_at_call 30; refine (hCl.out _ (HV.out.1.trans HS2.out.1)).mono ?_; rintro e w3 ⟨a5, b5, c5, rfl, hI5, hb5, hs3⟩; have H3 : Hid (IntsS w3 a5 b5 0 K ∧ (0 < K.length → w2.heap.size ≤ b5 ∧ b5 < w3.heap.size) ∧ Stay w2 w3) := ⟨hI5, hb5, hs3⟩; have c2'' := hs3.cell c2'; have f2 : w3.frozen? ⟨W.heap.size + 1, 0, none⟩ = false := (by have := (HS2.out.1.trans hs3).heap HV.out.2.2.2.1; simp [World.frozen?, this]); clear hI5 hb5 hs3 hCl))
      go_ret
      have hs3 : Stay V w3 := HS2.out.1.trans H3.out.2.2
      have hzv := HV.out.2.1
      have hz2 := HS2.out.1.size
      have hz3 := H3.out.2.2.size
      have hset : Turn (fun k => k = W.heap.size + 1) w3 (w3.setCell ⟨W.heap.size + 1, 0, none⟩ (.slice a5 K.length c5)) := by exact Turn.set (g := W.heap.size + 1) (Turn.refl (fun k => k = W.heap.size + 1) w3) rfl 0 _
      have hz4 := hset.size
      have hrw : (w3.setCell ⟨W.heap.size + 1, 0, none⟩ (.slice a5 K.length c5)).heap[b11]? = some (.cells (rowV c) 64 (0, 0)) := by
        rw [← HR.out]; exact hset.heap (H3.out.2.2.heap HS2.out.2.1) (by have := HS2.out.2.2.1; omega)
      refine ⟨_, _, fun i => W.heap.size ≤ i ∧ i < (w3.setCell ⟨W.heap.size + 1, 0, none⟩ (.slice a5 K.length c5)).heap.size, rfl, Below.setCell (HV.out.1.trans hs3) (p := ⟨W.heap.size + 1, 0, none⟩) (by show W.heap.size ≤ W.heap.size + 1; omega) _, ?_, fun i hi => hi⟩
      refine .inr (.inr ⟨rfl, _, _, _, _, _, c, a5, b5, 0, c5, rfl, hA, hset.cell (cell_of (hs3.heap HV.out.2.2.1) rfl) (by dsimp only; omega), hrw, cell_of (heap_setCell_same _ _ _ _ _ _ (hs3.heap HV.out.2.2.2.1)) rfl, ints_turn H3.out.1 hset (fun h0 => by have := H3.out.2.1 h0; omega), hset.cell (cell_of (hs3.heap HV.out.2.2.2.2.1) rfl) (by dsimp only; omega), hset.cell (cell_of (hs3.heap HV.out.2.2.2.2.2) rfl) (by dsimp only; omega), ?_, ?_, ?_, ?_, ?_, fun h0 => ?_⟩)
      · dsimp only; omega
      · dsimp only; have := HS2.out.2.2; omega
      · dsimp only; omega
      · dsimp only; omega
      · dsimp only; omega
      · dsimp only; have := H3.out.2.1 h0; omega
end
end Go.Proofs.Ytnhmjheipfopoaa.L
