/- RelationCuts' walk. -/
import Derived.Test.YtnhmjheipfopoaaL6d
import Derived.Test.YtnhmjheipfopoaaL6o
namespace Go.Proofs.Ytnhmjheipfopoaa.L
open Go.RowKit Go.Maps Go.Shelf Go.Proofs.Ytnhmjheipfopoaa

/-- The tuples of a relation to which lists were added. -/
def foldT (ar : Nat) (us : List (List Int)) : List (List Int) := us.foldl (addT ar) []
theorem foldT_snoc (ar : Nat) (us : List (List Int)) (x : List Int) : foldT ar (us ++ [x]) = addT ar (foldT ar us) x := by
  unfold foldT
  rw [List.foldl_append]
  rfl
theorem foldT_len (ar : Nat) (us : List (List Int)) : (foldT ar us).length ≤ us.length := by
  refine snoc_ind (p := fun us => (foldT ar us).length ≤ us.length) (by simp [foldT]) (fun l x ih => ?_) us
  rw [foldT_snoc]
  have := addT_len ar (foldT ar l) x
  simp; omega

/-- The list of tuples that is handed in. -/
structure TupsA (w : World) (a : Option Addr) (b o : Nat) (us : List Tup) : Prop where
  at0 : 0 < us.length → a = some ⟨b, o, none⟩
  cells : ∀ j (h : j < us.length), w.cell? ⟨b, o + j, none⟩ = some us[j].v ∧ IntsS w us[j].a us[j].b us[j].o us[j].xs
  len : us.length ≤ 1048576
  each : ∀ u ∈ us, u.xs.length ≤ 1048576

theorem TupsA.stay {w w' : World} {a : Option Addr} {b o : Nat} {us : List Tup} (h : TupsA w a b o us) (hs : Stay w w') : TupsA w' a b o us :=
  ⟨h.at0, fun j hj => ⟨hs.cell (h.cells j hj).1, (h.cells j hj).2.stay hs⟩, h.len, h.each⟩

section
variable {w0 w : World} {rb ar : Nat} {T : List (List Int)}

/-- One of the tuples is lent and added. -/
theorem one_add {a0 : Option Addr} {b0 o0 : Nat} {us : List Tup} (hu : TupsA w0 a0 b0 o0 us) (h : KnA w0 rb ar T w) (hl : T.length + 1 ≤ 68719476736) {k : Nat} (hk : k < us.length) :
    w.cell? ⟨b0, o0 + k, none⟩ = some (.slice us[k].a us[k].xs.length us[k].c) ∧
    Calls Try.prog 11 #[.slice us[k].a us[k].xs.length us[k].c] w fun e w1 => ∃ g c, e = .returned (.slice (some ⟨g, 0, none⟩) us[k].xs.length c) ∧
      Calls Try.prog 18 #[.pointer (some ⟨rb, 0, none⟩), .slice (some ⟨g, 0, none⟩) us[k].xs.length c] w1 fun e w' => ∃ v, e = .returned v ∧ KnA w0 rb ar (addT ar T us[k].xs) w' := by
  have hb := h.base
  refine ⟨hb.cell (hu.cells k hk).1, ?_⟩
  have hlen := hu.each _ (List.getElem_mem hk)
  refine (lent_any w us[k].a us[k].b us[k].o us[k].c us[k].xs ((hu.cells k hk).2.stay hb) (by omega)).mono ?_
  rintro e w1 ⟨g, c, rfl, hL, hs⟩
  exact ⟨g, c, rfl, ka_add h hl hs g c _ hL.ints hL.bound.1 hL.bound.2.2.2 (by unfold maxLen; omega)⟩

/-- What is asked of one tuple. -/
structure OneC (c : Nat) (T : List (List Int)) (t : List Int) (k : Nat) (cut : Int) (ah lo wh : Nat) (hi : Int → Nat) : Prop where
  whole : 1 ≤ wh ∧ wh ≤ 1048576
  two : ∀ x : Int, x = max 0 cut → wh = lo + hi x
  sums : ah = 0 → tot c T (keyl c (T.take (k + 1))) = tot c T (keyl c (T.take k)) + wh ∧ (keyl c (T.take (k + 1))).length = (keyl c (T.take k)).length + 1
  same : ah ≠ 0 → keyl c (T.take (k + 1)) = keyl c (T.take k)

theorem oneC (c : Nat) (T : List (List Int)) (t : List Int) (k : Nat) (hk : T[k]? = some t) (cut : Int) (hT : T.length ≤ 1048576) :
    OneC c T t k cut (mid (plc c T (cutL t c)) 0 k).length (mid (plc c T (cutL t c)) 0 cut).length (mid (plc c T (cutL t c)) 0 T.length).length (fun x => (mid (plc c T (cutL t c)) x T.length).length) := by
  obtain ⟨hk1, hk2⟩ := List.getElem?_eq_some_iff.1 hk
  have hm := mid_two cut T.length (plc c T (cutL t c)) (fun p hp => (plc_mem hp).1)
  have hpk : k ∈ plc c T (cutL t c) := plc_of hk1 (by simp [hk])
  have hpos := List.length_pos_of_mem hpk
  have hle := plc_len c T (cutL t c)
  have ha := mid_ahead (c := c) (l := cutL t c) (show k ≤ T.length by omega)
  have htk : T.take (k + 1) = T.take k ++ [t] := by rw [List.take_succ_eq_append_getElem hk1, hk2]
  refine ⟨by omega, fun x hx => by subst hx; exact hm.1, fun h0 => ?_, fun h0 => ?_⟩
  · have := ha.1 h0
    rw [htk, keyl_snoc, if_neg this, tot_snoc, hm.2]
    simp
  · have : cutL t c ∈ keyl c (T.take k) := by
      apply Classical.byContradiction
      intro h
      exact h0 (ha.2 h)
    rw [htk, keyl_snoc, if_pos this]

theorem ptr_nil (w : World) : (binOp .eql 24 (.pointer none) (.pointer none)).run Try.prog w = .ok (.bool true) w := by kernel_rfl
theorem ptr_some (b : Nat) (w : World) : (binOp .eql 24 (.pointer (some ⟨b, 0, none⟩)) (.pointer none)).run Try.prog w = .ok (.bool false) w := by kernel_rfl

set_option maxRecDepth 100000 in
set_option maxHeartbeats 2000000 in
theorem cuts_bad (w : World) (x : Int) (hx : x < 0 ∨ 16 < x) (vt vc : Value) (cut : Int) :
    Calls Try.prog 4 #[.int .i64 x, vt, vc, .int .i64 cut] w fun e w' => e = .returned (.bool true) ∧ Stay w w' := by
  have h3 := known_any w
  have hN : Hid (∀ Y, Calls Try.prog 16 #[.int .i64 x] Y fun e w' => e = .returned (.tuple #[.pointer none, .int .i64 2]) ∧ Stay Y w') := fun Y => new_bad x hx Y
  have hnum := q4num_any
  have hp := ptr_nil
  by_cases hx0 : x < 0
  · clear hx
    go_enter Try.func4, Try.ntmps4
    go_wp2_with (first
      | (go_at_call 7; refine h3.mono ?_; rintro e w1 ⟨rfl, hs⟩; have H1 : Hid (Stay w w1) := hs; clear hs h3)
      | (go_at_call 16; refine (hN.out _).mono ?_; rintro e w2 ⟨rfl, hs⟩; have H2 : Hid (Stay w w2) := H1.out.trans hs; clear hs hN)
      | (go_at_call 17; refine (hnum _ _).mono ?_; rintro e w9 ⟨rfl, hw⟩; have hw' := hw.symm; subst hw'))
    go_ret
    exact ⟨rfl, H2.out⟩
  · have hx1 : 16 < x := by omega
    clear hx
    go_enter Try.func4, Try.ntmps4
    go_wp2_with (first
      | (go_at_call 7; refine h3.mono ?_; rintro e w1 ⟨rfl, hs⟩; have H1 : Hid (Stay w w1) := hs; clear hs h3)
      | (go_at_call 16; refine (hN.out _).mono ?_; rintro e w2 ⟨rfl, hs⟩; have H2 : Hid (Stay w w2) := H1.out.trans hs; clear hs hN)
      | (go_at_call 17; refine (hnum _ _).mono ?_; rintro e w9 ⟨rfl, hw⟩; have hw' := hw.symm; subst hw'))
    go_ret
    exact ⟨rfl, H2.out⟩
end
end Go.Proofs.Ytnhmjheipfopoaa.L
