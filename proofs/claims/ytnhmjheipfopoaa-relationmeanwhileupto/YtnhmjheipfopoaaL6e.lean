/- A relation that came behind a world, call by call; a list beside it. RelationCuts' walk. -/
import Derived.Test.YtnhmjheipfopoaaL6c
import Derived.Test.YtnhmjheipfopoaaL5q
import Derived.Test.YtnhmjheipfopoaaL6o
namespace Go.Proofs.Ytnhmjheipfopoaa.L
open Go.RowKit Go.Maps Go.Shelf Go.Proofs.Ytnhmjheipfopoaa
section
variable {w0 w : World} {rb ar : Nat} {T : List (List Int)}

/-- Behind w0 there came a relation. -/
def KnA (w0 : World) (rb ar : Nat) (T : List (List Int)) (w : World) : Prop := ∃ F, RelS w F rb ar T ∧ (∀ k, F k → w0.heap.size ≤ k) ∧ Stay w0 w

theorem KnA.stay {w' : World} (h : KnA w0 rb ar T w) (hs : Stay w w') : KnA w0 rb ar T w' := by
  obtain ⟨F, h1, h2, h3⟩ := h
  exact ⟨F, h1.stay hs, h2, h3.trans hs⟩
theorem KnA.base (h : KnA w0 rb ar T w) : Stay w0 w := by
  obtain ⟨_, _, _, h⟩ := h; exact h
theorem KnA.arle (h : KnA w0 rb ar T w) : ar ≤ 16 := by
  obtain ⟨_, ⟨_, _, _, _, h⟩, _⟩ := h; exact h.arle
theorem KnA.rows (h : KnA w0 rb ar T w) : ∀ t ∈ T, t.length = ar := by
  obtain ⟨_, ⟨_, _, _, _, h⟩, _⟩ := h; exact h.rows
theorem KnA.grown {w1 w' : World} {F : Nat → Prop} (hF : ∀ k, F k → w0.heap.size ≤ k) (hs : Stay w0 w1) (hr : RelS w' (Grow F w1.heap.size w') rb ar T) (ht : Turn F w1 w') : KnA w0 rb ar T w' :=
  ⟨_, hr, fun k hk => hk.elim (hF k) (fun h => Nat.le_trans hs.size h.1), stay_turn hs ht hF⟩

/-- A relation's tuples behind an Add. -/
def addT (ar : Nat) (T : List (List Int)) (t : List Int) : List (List Int) := if okT ar t = true ∧ posL T t = [] then T ++ [t] else T
theorem addT_len (ar : Nat) (T : List (List Int)) (t : List Int) : (addT ar T t).length ≤ T.length + 1 := by
  unfold addT
  split
  · simp
  · omega

/-- Add of a list that was lent. -/
theorem ka_add (h : KnA w0 rb ar T w) (hl : T.length + 1 ≤ 68719476736) {w1 : World} (hs : Stay w w1) (b cap : Nat) (t : List Int) (hI : IntsS w1 (some ⟨b, 0, none⟩) b 0 t) (hb : w.heap.size ≤ b) (hb1 : b < w1.heap.size) (hlt : t.length ≤ maxLen) :
    Calls Try.prog 18 #[.pointer (some ⟨rb, 0, none⟩), .slice (some ⟨b, 0, none⟩) t.length cap] w1 fun e w' => ∃ v, e = .returned v ∧ KnA w0 rb ar (addT ar T t) w' := by
  obtain ⟨F, hr, hF, hs0⟩ := h
  have hnF : ¬ F b := fun hf => by have := hr.lt _ hf; omega
  unfold addT
  by_cases hok : okT ar t = true
  · cases hp : posL T t with
    | nil =>
      rw [if_pos ⟨hok, rfl⟩]
      refine (add_new (hr.stay hs) hl b 0 cap t hI hb1 hnF hok hp).mono ?_
      rintro e w' ⟨rfl, h2, h3⟩
      exact ⟨_, rfl, KnA.grown hF (hs0.trans hs) h2 h3⟩
    | cons p l =>
      rw [if_neg (fun h => by cases h.2)]
      refine (add_old (hr.stay hs) (by omega) _ b 0 cap t hI hlt (fun _ => hnF) hok hp).mono ?_
      rintro e w' ⟨rfl, h2, h3⟩
      exact ⟨_, rfl, KnA.grown hF (hs0.trans hs) h2 h3⟩
  · rw [if_neg (fun h => hok h.1)]
    refine (add_bad (hr.stay hs) _ b 0 cap t hI hlt (by simpa using hok)).mono ?_
    rintro e w' ⟨rfl, hw⟩
    subst hw
    exact ⟨_, rfl, F, hr.stay hs, hF, hs0.trans hs⟩

theorem ka_len (h : KnA w0 rb ar T w) : Calls Try.prog 19 #[.pointer (some ⟨rb, 0, none⟩)] w fun e w' => e = .returned (.int .i64 T.length) ∧ w' = w := by
  obtain ⟨F, hr, hF, hs⟩ := h
  obtain ⟨vv, mb, hb⟩ := hr.box
  exact rlen_yes hb

theorem ka_distinct (h : KnA w0 rb ar T w) (hT : T.length ≤ 68719476736) (a : Option Addr) (b o cap : Nat) (C : List Int) (hI : IntsS w0 a b o C) (hl : C.length ≤ maxLen) :
    Calls Try.prog 20 #[.pointer (some ⟨rb, 0, none⟩), .slice a C.length cap] w fun e w' => e = .returned (.tuple (distV ar T C)) ∧ KnA w0 rb ar T w' := by
  obtain ⟨F, ⟨vv, mb, L, Fs, hR⟩, hF, hs⟩ := h
  refine (distinct_any hR hT a b o cap C (hI.stay hs) hl).mono ?_
  rintro e w' ⟨rfl, h2, h3⟩
  exact ⟨rfl, KnA.grown hF hs h2 h3⟩

theorem ka_at (h : KnA w0 rb ar T w) (hT : T.length ≤ 68719476736) {p : Nat} {t : List Int} (hp : T[p]? = some t) :
    Calls Try.prog 21 #[.pointer (some ⟨rb, 0, none⟩), .int .i64 p] w fun e w' => ∃ a b c, e = .returned (.tuple #[.slice a t.length c, .bool true]) ∧ IntsS w' a b 0 t ∧ Stay w w' := by
  obtain ⟨F, ⟨vv, mb, L, Fs, hR⟩, hF, hs⟩ := h
  refine (at_yes hR hT hp).mono ?_
  rintro e w' ⟨v, rfl, hO, hs⟩
  obtain ⟨a, b, c, rfl, hI⟩ := hO.ints
  exact ⟨a, b, c, rfl, hI, hs⟩

/-- The relation, and a list of ints beside it. -/
def KeyA (w0 : World) (rb ar : Nat) (T : List (List Int)) (a : Option Addr) (b : Nat) (K : List Int) (w : World) : Prop := ∃ F, RelS w F rb ar T ∧ (∀ k, F k → w0.heap.size ≤ k) ∧ Stay w0 w ∧ IntsS w a b 0 K ∧ (0 < K.length → ¬ F b)
theorem KeyA.kn {a : Option Addr} {b : Nat} {K : List Int} (h : KeyA w0 rb ar T a b K w) : KnA w0 rb ar T w := by
  obtain ⟨F, h1, h2, h3, _⟩ := h
  exact ⟨F, h1, h2, h3⟩

/-- The document's Cut of what At gave. -/
theorem ka_cut (h : KnA w0 rb ar T w) {w1 : World} (hs : Stay w w1) (a1 : Option Addr) (b1 c1 : Nat) (t : List Int) (hx : IntsS w1 a1 b1 0 t) (htl : t.length = ar) (a2 : Option Addr) (b2 o2 c2 : Nat) (C : List Int) (hC : IntsS w0 a2 b2 o2 C) {c : Nat} (hrow : rowL ar C (-1) 0 = some c) :
    Calls Try.prog 22 #[.slice a1 t.length c1, .slice a2 C.length c2] w1 fun e w' => ∃ a b cp, e = .returned (.slice a (cutC t C).length cp) ∧ KeyA w0 rb ar T a b (cutC t C) w' := by
  obtain ⟨F, hr, hF, hs0⟩ := h
  have har : ar ≤ 16 := KnA.arle ⟨F, hr, hF, hs0⟩
  have hlC : C.length ≤ 16 := by rw [← row_cols har hrow]; exact cols_len c 16
  refine (y4Cut_any w1 a1 b1 0 c1 t hx (by unfold maxLen; omega) a2 b2 o2 c2 C (hC.stay (hs0.trans hs)) hlC (fun x hx => by have := row_in har hrow x hx; omega)).mono ?_
  rintro e w' ⟨v, rfl, hO, hs2⟩
  rcases hO.2 with ⟨h1, h2⟩ | ⟨g, cp, cur, h1, h2, h3⟩
  · subst h1
    have h0 : cutC t C = [] := by simpa using h2
    rw [h0]
    exact ⟨none, 0, 0, rfl, F, (hr.stay hs).stay hs2, hF, (hs0.trans hs).trans hs2, ⟨fun h => by simp at h, fun j h => by simp at h⟩, fun h => by simp at h⟩
  · subst h1
    refine ⟨some ⟨g, 0, none⟩, g, cp, rfl, F, (hr.stay hs).stay hs2, hF, (hs0.trans hs).trans hs2, ?_, fun _ hf => ?_⟩
    · have h9 := hO
      unfold OwnI at h9
      rw [← List.append_nil ((cutC t C).map (Value.int .i64))] at h9
      exact ints_of_row h9
    have := hr.lt _ hf
    have := hs.size
    omega

theorem cutC_cutL {ar : Nat} (har : ar ≤ 16) {C : List Int} {c : Nat} (h : rowL ar C (-1) 0 = some c) (t : List Int) : cutC t C = cutL t c := by
  unfold cutC cutL
  rw [row_cols har h]

theorem countV_mid {ar : Nat} {C K : List Int} {c : Nat} (h : rowL ar C (-1) 0 = some c) (hK : K.length = C.length) (T : List (List Int)) (x y : Int) : countV ar T C K x y = #[.int .i64 ((mid (plc c T K) x y).length : Int), .int .i64 0] := by
  unfold countV askL
  rw [if_pos hK, h]
  dsimp only
  by_cases hC : C = []
  · rw [if_pos hC]
    subst hC
    simp only [rowL, Option.some.injEq] at h
    subst h
    have hK0 : K = [] := List.length_eq_zero_iff.1 (by simpa using hK)
    subst hK0
    have : plc 0 T [] = List.range T.length := by
      unfold plc
      rw [List.filter_eq_self.2]
      intro p _
      have : cols 0 16 = [] := by decide
      unfold cutL; rw [this]; simp
    rw [this, mid_range]
  · rw [if_neg hC]

theorem ky_count {a2 : Option Addr} {b2 : Nat} {K : List Int} (h : KeyA w0 rb ar T a2 b2 K w) (hT : T.length ≤ 68719476736) (a : Option Addr) (b o cap cap2 : Nat) (C : List Int) (hI : IntsS w0 a b o C) (hl : C.length ≤ maxLen) {c : Nat} (hrow : rowL ar C (-1) 0 = some c) (hK : K.length = C.length) (x y : Int) :
    Calls Try.prog 23 #[.pointer (some ⟨rb, 0, none⟩), .slice a C.length cap, .slice a2 K.length cap2, .int .i64 x, .int .i64 y] w fun e w' => e = .returned (.tuple #[.int .i64 ((mid (plc c T K) x y).length : Int), .int .i64 0]) ∧ KeyA w0 rb ar T a2 b2 K w' := by
  obtain ⟨F, ⟨vv, mb, L, Fs, hR⟩, hF, hs, hKI, hn⟩ := h
  have hc := count_any hR hT a b o cap C (hI.stay hs) hl a2 b2 0 cap2 K hKI (by omega) hn x y
  rw [countV_mid hrow hK] at hc
  refine hc.mono ?_
  rintro e w' ⟨rfl, h2, h3⟩
  refine ⟨rfl, _, h2, fun k hk => hk.elim (hF k) (fun h => Nat.le_trans hs.size h.1), stay_turn hs h3 hF, ints_turn hKI h3 hn, fun h0 hf => ?_⟩
  rcases hf with hf | hf
  · exact hn h0 hf
  · have := ints_lt hKI h0; omega

theorem kn_begin (W : World) (har : ar ≤ 16) : Calls Try.prog 16 #[.int .i64 ar] W fun e w' => e = .returned (.tuple #[.pointer (some ⟨W.heap.size + 1, 0, none⟩), .int .i64 0]) ∧ KnA W (W.heap.size + 1) ar [] w' :=
  (new_rel W har).mono fun _ _ ⟨h1, h2, h3⟩ => ⟨h1, _, h2, fun _ hk => hk.1, h3⟩
end
end Go.Proofs.Ytnhmjheipfopoaa.L
namespace Go.Proofs.Ytnhmjheipfopoaa.L
open Go.RowKit Go.Maps Go.Shelf Go.Proofs.Ytnhmjheipfopoaa

/-- The tuples of a relation to which lists were added. -/
def foldT (ar : Nat) (us : List (List Int)) : List (List Int) := us.foldl (addT ar) []
theorem foldT_snoc (ar : Nat) (us : List (List Int)) (x : List Int) : foldT ar (us ++ [x]) = addT ar (foldT ar us) x := by
  unfold foldT
  rw [List.foldl_append]
  rfl
theorem foldT_len (ar : Nat) (us : List (List Int)) : (foldT ar us).length ≤ us.length := by
  refine snoc_ind (p := fun us => (foldT ar us).length ≤ us.length) (by simp [foldT]) (fun l x ih => ?_) us
  rw [foldT_snoc]
  have := addT_len ar (foldT ar l) x
  simp; omega

/-- The list of tuples that is handed in. -/
structure TupsA (w : World) (a : Option Addr) (b o : Nat) (us : List Tup) : Prop where
  at0 : 0 < us.length → a = some ⟨b, o, none⟩
  cells : ∀ j (h : j < us.length), w.cell? ⟨b, o + j, none⟩ = some us[j].v ∧ IntsS w us[j].a us[j].b us[j].o us[j].xs
  len : us.length ≤ 1048576
  each : ∀ u ∈ us, u.xs.length ≤ 1048576

theorem TupsA.stay {w w' : World} {a : Option Addr} {b o : Nat} {us : List Tup} (h : TupsA w a b o us) (hs : Stay w w') : TupsA w' a b o us :=
  ⟨h.at0, fun j hj => ⟨hs.cell (h.cells j hj).1, (h.cells j hj).2.stay hs⟩, h.len, h.each⟩

section
variable {w0 w : World} {rb ar : Nat} {T : List (List Int)}

/-- One of the tuples is lent and added. -/
theorem one_add {a0 : Option Addr} {b0 o0 : Nat} {us : List Tup} (hu : TupsA w0 a0 b0 o0 us) (h : KnA w0 rb ar T w) (hl : T.length + 1 ≤ 68719476736) {k : Nat} (hk : k < us.length) :
    w.cell? ⟨b0, o0 + k, none⟩ = some (.slice us[k].a us[k].xs.length us[k].c) ∧
    Calls Try.prog 11 #[.slice us[k].a us[k].xs.length us[k].c] w fun e w1 => ∃ g c, e = .returned (.slice (some ⟨g, 0, none⟩) us[k].xs.length c) ∧
      Calls Try.prog 18 #[.pointer (some ⟨rb, 0, none⟩), .slice (some ⟨g, 0, none⟩) us[k].xs.length c] w1 fun e w' => ∃ v, e = .returned v ∧ KnA w0 rb ar (addT ar T us[k].xs) w' := by
  have hb := h.base
  refine ⟨hb.cell (hu.cells k hk).1, ?_⟩
  have hlen := hu.each _ (List.getElem_mem hk)
  refine (lent_any w us[k].a us[k].b us[k].o us[k].c us[k].xs ((hu.cells k hk).2.stay hb) (by omega)).mono ?_
  rintro e w1 ⟨g, c, rfl, hL, hs⟩
  exact ⟨g, c, rfl, ka_add h hl hs g c _ hL.ints hL.bound.1 hL.bound.2.2.2 (by unfold maxLen; omega)⟩

/-- What is asked of one tuple. -/
structure OneC (c : Nat) (T : List (List Int)) (t : List Int) (k : Nat) (cut : Int) (ah lo wh : Nat) (hi : Int → Nat) : Prop where
  whole : 1 ≤ wh ∧ wh ≤ 1048576
  two : ∀ x : Int, x = max 0 cut → wh = lo + hi x
  sums : ah = 0 → tot c T (keyl c (T.take (k + 1))) = tot c T (keyl c (T.take k)) + wh ∧ (keyl c (T.take (k + 1))).length = (keyl c (T.take k)).length + 1
  same : ah ≠ 0 → keyl c (T.take (k + 1)) = keyl c (T.take k)

theorem oneC (c : Nat) (T : List (List Int)) (t : List Int) (k : Nat) (hk : T[k]? = some t) (cut : Int) (hT : T.length ≤ 1048576) :
    OneC c T t k cut (mid (plc c T (cutL t c)) 0 k).length (mid (plc c T (cutL t c)) 0 cut).length (mid (plc c T (cutL t c)) 0 T.length).length (fun x => (mid (plc c T (cutL t c)) x T.length).length) := by
  obtain ⟨hk1, hk2⟩ := List.getElem?_eq_some_iff.1 hk
  have hm := mid_two cut T.length (plc c T (cutL t c)) (fun p hp => (plc_mem hp).1)
  have hpk : k ∈ plc c T (cutL t c) := plc_of hk1 (by simp [hk])
  have hpos := List.length_pos_of_mem hpk
  have hle := plc_len c T (cutL t c)
  have ha := mid_ahead (c := c) (l := cutL t c) (show k ≤ T.length by omega)
  have htk : T.take (k + 1) = T.take k ++ [t] := by rw [List.take_succ_eq_append_getElem hk1, hk2]
  refine ⟨by omega, fun x hx => by subst hx; exact hm.1, fun h0 => ?_, fun h0 => ?_⟩
  · have := ha.1 h0
    rw [htk, keyl_snoc, if_neg this, tot_snoc, hm.2]
    simp
  · have : cutL t c ∈ keyl c (T.take k) := by
      apply Classical.byContradiction
      intro h
      exact h0 (ha.2 h)
    rw [htk, keyl_snoc, if_pos this]

theorem ptr_nil (w : World) : (binOp .eql 24 (.pointer none) (.pointer none)).run Try.prog w = .ok (.bool true) w := by kernel_rfl
theorem ptr_some (b : Nat) (w : World) : (binOp .eql 24 (.pointer (some ⟨b, 0, none⟩)) (.pointer none)).run Try.prog w = .ok (.bool false) w := by kernel_rfl

set_option maxRecDepth 100000 in
set_option maxHeartbeats 2000000 in
theorem cuts_bad (w : World) (x : Int) (hx : x < 0 ∨ 16 < x) (vt vc : Value) (cut : Int) :
    Calls Try.prog 4 #[.int .i64 x, vt, vc, .int .i64 cut] w fun e w' => e = .returned (.bool true) ∧ Stay w w' := by
  have h3 := known_any w
  have hN : Hid (∀ Y, Calls Try.prog 16 #[.int .i64 x] Y fun e w' => e = .returned (.tuple #[.pointer none, .int .i64 2]) ∧ Stay Y w') := fun Y => new_bad x hx Y
  have hnum := q4num_any
  have hp := ptr_nil
  by_cases hx0 : x < 0
  · clear hx
    go_enter Try.func4, Try.ntmps4
    go_wp2_with (first
      | (go_at_call 7; refine h3.mono ?_; rintro e w1 ⟨rfl, hs⟩; have H1 : Hid (Stay w w1) := hs; clear hs h3)
      | (go_at_call 16; refine (hN.out _).mono ?_; rintro e w2 ⟨rfl, hs⟩; have H2 : Hid (Stay w w2) := H1.out.trans hs; clear hs hN)
      | (go_at_call 17; refine (hnum _ _).mono ?_; rintro e w9 ⟨rfl, hw⟩; have hw' := hw.symm; subst hw'))
    go_ret
    exact ⟨rfl, H2.out⟩
  · have hx1 : 16 < x := by omega
    clear hx
    go_enter Try.func4, Try.ntmps4
    go_wp2_with (first
      | (go_at_call 7; refine h3.mono ?_; rintro e w1 ⟨rfl, hs⟩; have H1 : Hid (Stay w w1) := hs; clear hs h3)
      | (go_at_call 16; refine (hN.out _).mono ?_; rintro e w2 ⟨rfl, hs⟩; have H2 : Hid (Stay w w2) := H1.out.trans hs; clear hs hN)
      | (go_at_call 17; refine (hnum _ _).mono ?_; rintro e w9 ⟨rfl, hw⟩; have hw' := hw.symm; subst hw'))
    go_ret
    exact ⟨rfl, H2.out⟩
end
end Go.Proofs.Ytnhmjheipfopoaa.L
