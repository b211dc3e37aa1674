/- Put of a new key, walked. New, Get, Place, Size, Probes. -/
import Derived.Test.YtnhmjheipfopoaaIMl
import Derived.Maps.AppendAt
namespace Go.Proofs.Ytnhmjheipfopoaa.L
open Go.RowKit Go.Maps Go.Proofs.Ytnhmjheipfopoaa

section
variable {w : World} {bt pb N len reach : Nat} {fp : List LK} {cv : Value} {came : List E} {places : List Nat}

/-- What a Put of a new key leaves. -/
def Added (w : World) (bt : Nat) (fp : List LK) (cv : Value) (pb N len : Nat) (came : List E) (k : LK) (v : Int) (w' : World) : Prop :=
  ∃ cv' pb' reach' came' places', Tab w' bt fp cv' pb' (if 3 * N < 4 * (len + 1) then 2 * N else N) (len + 1) reach' came' places' ∧ Sim (came ++ [(ent k v (hf fp k) 0)]) came' ∧
    Turn (foot bt pb cv) w w' ∧ (∀ j, foot bt pb' cv' j → foot bt pb cv j ∨ w.heap.size ≤ j)

set_option maxRecDepth 100000 in
set_option maxHeartbeats 2000000 in
theorem put_new (h : Tab w bt fp cv pb N len reach came places) (k : LK) (hk : KeyOk fp k) (v : Int) (hno : ∀ (t : Nat) (e : E), came[t]? = some e → e.there = true → sm fp e.key k = false) (hsz : came.length + 1 ≤ 68719476736) :
    Calls Try.prog 63 #[.pointer (some ⟨bt, 0, none⟩), k.v, .int .i64 (v)] w fun e' w' => e' = .returned (.tuple #[(.int .i64 0), .bool false, .int .i64 0]) ∧ Added w bt fp cv pb N len came k v w' := by
  have hm := made_yes h.box.c0
  have hh := hash_any h.fns k hk
  have hse := h.search k hk
  have c0 := h.box.c0
  have hll : len ≤ came.length := by rw [h.cnt]; exact live_length_le came
  have hpow := h.pow.bd
  have hfl := hf_lt fp k
  have HA : Hid (∀ r, Ends N (hf fp k % N) came places (hit fp (hf fp k) k) r → ∀ W, Stay w W → Calls Try.prog 77 #[.pointer (some ⟨bt, 0, none⟩), .int .i64 (r : Int)] W fun e w' => e = .returned (.pointer none) ∧ w' = W) :=
    fun r hE W hW => h.atNo hE.lt (h.ends_no hE hno).2.1 hW
  have HTb : Hid (Tab w bt fp cv pb N len reach came places) := h
  have HNo : Hid (∀ (t : Nat) (e : E), came[t]? = some e → e.there = true → sm fp e.key k = false) := hno
  obtain ⟨i0, hi, hz0, hz1, hz2⟩ := info_parts infoEnt
  have c4 := h.box.c4
  obtain ⟨pc3, c3⟩ := h.box.c3
  clear h hno
  by_cases hge : 3 * N < 4 * (len + 1)
  · have hN2 : N ≤ 274877906944 := by omega
    unfold Added
    rw [if_pos hge]
    have hgei : (3 * (N : Int)) < 4 * ((len : Int) + 1) := by omega
    have h8 := HTb.out.eight
    have hfew := HTb.out.few
    go_enter Try.func63, Try.ntmps63
    go_wp2_with fail
    refine hm.mono ?_
    rintro e9 w9 ⟨rfl, hw⟩
    have hw' := hw.symm; subst hw'
    clear hm
    go_wp2_with fail
    refine hh.mono ?_
    rintro e9 w9 ⟨rfl, hw⟩
    have hw' := hw.symm; subst hw'
    clear hh
    go_wp2_with fail
    refine hse.mono ?_
    rintro e9 W ⟨r, rfl, hE, hW⟩
    have hat := HA.out r hE W hW
    have HWW : Hid (Stay w W) := hW
    have c0 := hW.cell c0
    have c4 := hW.cell c4
    have c3 := hW.cell c3
    clear hse HA hW
    go_wp2_with fail
    refine hat.mono ?_
    rintro e9 w9 ⟨rfl, hw⟩
    have hw' := hw.symm; subst hw'
    clear hat
    go_wp2_with fail
    go_quiet (fail)
    have hd := double_tab ((HTb.out.stay HWW.out).drew nq) hge hN2
    go_wp2_with fail
    refine hd.mono ?_
    rintro e9 w1 ⟨rfl, came1, places1, reach1, hS, hT1, hS1'⟩
    have hS1 : Turn (foot bt pb cv) w w1 := (Turn.of_stay (HWW.out.trans (Stay.drewN W nq))).trans hS1'
    have HNo1 : Hid (∀ (t : Nat) (e : E), came1[t]? = some e → e.there = true → sm fp e.key k = false) := by
      intro t e he hth
      obtain ⟨p, hp⟩ := hS.at he
      exact HNo.out t { e with place := p } hp hth
    have HS : Hid (Sim came came1) := hS
    clear hd hS1'
    have c2 := hT1.box.c2
    have hlenC : came1.length = came.length := hS.len
    have hown := (hT1.row.owns).alloc (.cells #[k.v, .int .i64 (v), .int .u64 ((hf fp k : Nat) : Int), .int .i64 0, .bool true] 113)
    have hnews : ∀ j u, [k.v, .int .i64 (v), .int .u64 ((hf fp k : Nat) : Int), .int .i64 0, .bool true][j]? = some u → (w1.alloc (.cells #[k.v, .int .i64 (v), .int .u64 ((hf fp k : Nat) : Int), .int .i64 0, .bool true] 113)).cell? ((⟨w1.heap.size, 0, none⟩ : Addr).add j) = some u := new_cells w1 [k.v, .int .i64 (v), .int .u64 ((hf fp k : Nat) : Int), .int .i64 0, .bool true] 113
    have h63 : came1.length + 1 ≤ maxLen := by unfold maxLen; omega
    have hby : (came1.length + 1) * 56 ≤ 140737488355328 := by omega
    have HLC : Hid (came1.length = came.length) := hlenC
    have hsz1 : came1.length + 1 ≤ 68719476736 := by omega
    have HT1 : Hid (Tab w1 bt fp cv (W.drewN nq).heap.size (2 * N) len reach1 came1 places1) := hT1
    have HS1 : Hid (Turn (foot bt pb cv) w w1) := hS1
    clear hT1 hS1 hlenC hS
    go_wp2_with (at_builtin; refine wpList_append_own_at _ rfl _ _ 114 rfl 0 113 i0 _ 5 56 Try.underlying114 hi hz0 hz1 hz2 rfl (by decide) _ _ _ rfl hown ⟨w1.heap.size, 0, none⟩ 1 1 [k.v, .int .i64 (v), .int .u64 ((hf fp k : Nat) : Int), .int .i64 0, .bool true] rfl rfl hnews (by simp [Value.oneCell']) h63 hby (Nat.zero_le _) ?_; intro v' w2 hown2 hgrow hnil hloc; obtain ⟨g, cap, rfl, d2, f2, hM3, hT3, hg3⟩ := app_mem HT1.out (ent k v (hf fp k) 0) _ hown2 hgrow hnil hloc; have H3 : Hid _ := And.intro hM3 (And.intro hT3 hg3); clear hown2 hgrow hnil hloc hown hnews hM3 hT3 hg3)
    have hlay := lay_any (t := came1.length) (e := ent k v (hf fp k) 0) H3.out.1 HT1.out.pow (by have := HT1.out.zer; have := HT1.out.few; have := HT1.out.eight; omega) (by simp) hfl HT1.out.rlt (by simp; omega)
    refine hlay.mono ?_
    rintro e9 w4 ⟨rfl, r2, hF4, hM4, hT4⟩
    have d4 := hM4.box.c4
    have f4 := hM4.box.free 4
    have hlb : len ≤ 68719476736 := by omega
    have H4 : Hid _ := And.intro hF4 (And.intro hM4 hT4)
    clear hF4 hM4 hT4 hlay c2 d2 f2
    go_wp2
    go_ret3
    obtain ⟨hF4, hM4, hT4⟩ := H4.out
    obtain ⟨cv', pb', reach', hT5, hS5, hfoot⟩ := fin_tab HT1.out (by omega) (by omega) hk HNo1.out hF4 H3.out.2.2 H3.out.2.1 hM4 hT4
    refine ⟨rfl, cv', pb', reach', _, _, hT5, ?_, HS1.out.then hS5 ?_, ?_⟩
    · exact (HS.out.append (Sim.refl _)).trans ((Sim.refl _).append rfl)
    · rintro i hi (rfl | rfl | hh)
      · exact .inl rfl
      · exact absurd hi (Nat.not_lt_of_le (HWW.out.trans (Stay.drewN W nq)).size)
      · exact .inr (.inr hh)
    · intro j hj
      rcases hfoot j hj with (rfl | rfl | hh) | hh
      · exact .inl (.inl rfl)
      · exact .inr (HWW.out.trans (Stay.drewN W nq)).size
      · exact .inl (.inr (.inr hh))
      · exact .inr (Nat.le_trans HS1.out.size hh)
  · unfold Added
    rw [if_neg hge]
    have hgei : ¬ (3 * (N : Int)) < 4 * ((len : Int) + 1) := by omega
    go_enter Try.func63, Try.ntmps63
    go_wp2_with fail
    refine hm.mono ?_
    rintro e9 w9 ⟨rfl, hw⟩
    have hw' := hw.symm; subst hw'
    clear hm
    go_wp2_with fail
    refine hh.mono ?_
    rintro e9 w9 ⟨rfl, hw⟩
    have hw' := hw.symm; subst hw'
    clear hh
    go_wp2_with fail
    refine hse.mono ?_
    rintro e9 W ⟨r, rfl, hE, hW⟩
    have hat := HA.out r hE W hW
    have HWW : Hid (Stay w W) := hW
    have c0 := hW.cell c0
    have c4 := hW.cell c4
    have c3 := hW.cell c3
    clear hse HA hW
    go_wp2_with fail
    refine hat.mono ?_
    rintro e9 w9 ⟨rfl, hw⟩
    have hw' := hw.symm; subst hw'
    clear hat
    go_wp2_with fail
    go_quiet (fail)
    have hT1 := (HTb.out.stay HWW.out).drew nq
    have hS1 : Turn (foot bt pb cv) w (W.drewN nq) := Turn.of_stay (HWW.out.trans (Stay.drewN W nq))
    generalize W.drewN nq = w1 at hT1 hS1 ⊢
    have c2 := hT1.box.c2
    have hlenC : came.length = came.length := rfl
    have hown := (hT1.row.owns).alloc (.cells #[k.v, .int .i64 (v), .int .u64 ((hf fp k : Nat) : Int), .int .i64 0, .bool true] 113)
    have hnews : ∀ j u, [k.v, .int .i64 (v), .int .u64 ((hf fp k : Nat) : Int), .int .i64 0, .bool true][j]? = some u → (w1.alloc (.cells #[k.v, .int .i64 (v), .int .u64 ((hf fp k : Nat) : Int), .int .i64 0, .bool true] 113)).cell? ((⟨w1.heap.size, 0, none⟩ : Addr).add j) = some u := new_cells w1 [k.v, .int .i64 (v), .int .u64 ((hf fp k : Nat) : Int), .int .i64 0, .bool true] 113
    have h63 : came.length + 1 ≤ maxLen := by unfold maxLen; omega
    have hby : (came.length + 1) * 56 ≤ 140737488355328 := by omega
    have HLC : Hid (came.length = came.length) := hlenC
    have hsz1 : came.length + 1 ≤ 68719476736 := by omega
    have HT1 : Hid (Tab w1 bt fp cv pb N len reach came places) := hT1
    have HS1 : Hid (Turn (foot bt pb cv) w w1) := hS1
    clear hT1 hS1 hlenC
    go_wp2_with (at_builtin; refine wpList_append_own_at _ rfl _ _ 114 rfl 0 113 i0 _ 5 56 Try.underlying114 hi hz0 hz1 hz2 rfl (by decide) _ _ _ rfl hown ⟨w1.heap.size, 0, none⟩ 1 1 [k.v, .int .i64 (v), .int .u64 ((hf fp k : Nat) : Int), .int .i64 0, .bool true] rfl rfl hnews (by simp [Value.oneCell']) h63 hby (Nat.zero_le _) ?_; intro v' w2 hown2 hgrow hnil hloc; obtain ⟨g, cap, rfl, d2, f2, hM3, hT3, hg3⟩ := app_mem HT1.out (ent k v (hf fp k) 0) _ hown2 hgrow hnil hloc; have H3 : Hid _ := And.intro hM3 (And.intro hT3 hg3); clear hown2 hgrow hnil hloc hown hnews hM3 hT3 hg3)
    have hlay := lay_any (t := came.length) (e := ent k v (hf fp k) 0) H3.out.1 HT1.out.pow (by have := HT1.out.zer; have := HT1.out.few; have := HT1.out.eight; omega) (by simp) hfl HT1.out.rlt (by simp; omega)
    refine hlay.mono ?_
    rintro e9 w4 ⟨rfl, r2, hF4, hM4, hT4⟩
    have d4 := hM4.box.c4
    have f4 := hM4.box.free 4
    have hlb : len ≤ 68719476736 := by omega
    have H4 : Hid _ := And.intro hF4 (And.intro hM4 hT4)
    clear hF4 hM4 hT4 hlay c2 d2 f2
    go_wp2
    go_ret3
    obtain ⟨hF4, hM4, hT4⟩ := H4.out
    obtain ⟨cv', pb', reach', hT5, hS5, hfoot⟩ := fin_tab HT1.out (by omega) (by omega) hk HNo.out hF4 H3.out.2.2 H3.out.2.1 hM4 hT4
    refine ⟨rfl, cv', pb', reach', _, _, hT5, (Sim.refl _).append rfl, HS1.out.trans hS5, ?_⟩
    intro j hj
    rcases hfoot j hj with hh | hh
    · exact .inl hh
    · exact .inr (Nat.le_trans HS1.out.size hh)
end
end Go.Proofs.Ytnhmjheipfopoaa.L
namespace Go.Proofs.Ytnhmjheipfopoaa.L
open Go.RowKit Go.Maps Go.Proofs.Ytnhmjheipfopoaa

theorem eql_h (w : World) : (binOp .eql 102 hashV .nilFunc).run Try.prog w = .ok (.bool false) w := by kernel_rfl
theorem eql_s (w : World) : (binOp .eql 36 sameV .nilFunc).run Try.prog w = .ok (.bool false) w := by kernel_rfl

section
variable {w : World} {bt pb N len reach : Nat} {fp : List LK} {cv : Value} {came : List E} {places : List Nat}

theorem zero_spots : ((List.replicate 8 0).map fun (p : Nat) => Value.int .i64 (p : Int)).toArray = #[.int .i64 0, .int .i64 0, .int .i64 0, .int .i64 0, .int .i64 0, .int .i64 0, .int .i64 0, .int .i64 0] := rfl

theorem new_tab (hF : Fns w fp) : Tab ((w.alloc (.cells ((List.replicate 8 0).map fun (p : Nat) => Value.int .i64 (p : Int)).toArray 3)).alloc (.cells #[hashV, sameV, .slice none 0 0, .slice (some ⟨w.heap.size, 0, none⟩) 8 8, .int .i64 0, .int .i64 0] 116)) (w.heap.size + 1) fp (.slice none 0 0) w.heap.size 8 0 0 [] (List.replicate 8 0) := by
  have hs : (w.alloc (.cells ((List.replicate 8 0).map fun (p : Nat) => Value.int .i64 (p : Int)).toArray 3)).heap.size = w.heap.size + 1 := by simp
  have h1 := heap_new w (.cells ((List.replicate 8 0).map fun (p : Nat) => Value.int .i64 (p : Int)).toArray 3)
  have hT : Turn (fun _ => False) w (w.alloc (.cells ((List.replicate 8 0).map fun (p : Nat) => Value.int .i64 (p : Int)).toArray 3)) := Turn.of_stay (Stay.new w _)
  have hlt := fun k hk => hF.lt k hk
  generalize w.alloc (.cells ((List.replicate 8 0).map fun (p : Nat) => Value.int .i64 (p : Int)).toArray 3) = w1 at hs h1 hT ⊢
  refine ⟨?_, .inl ⟨rfl, rfl⟩, Spots.mk1 ((Below.heap_alloc w1 _ w.heap.size (by omega)).trans h1), hF.turn (hT.trans (Turn.of_stay (Stay.new w1 _))) (fun _ _ e => e), ⟨3, rfl, by decide⟩, by decide, Lies.empty 8 _, rfl, rfl, by decide, by decide, ?_, ?_, ?_, ⟨by omega, by simp [Value.ownBlock], by simp [Value.ownBlock]⟩, by simp⟩
  · refine ⟨8, ?_⟩
    rw [← hs]
    exact heap_new w1 _
  · intro t e he; simp at he
  · intro t e t' e' he; simp at he
  · intro k hk
    have := hlt k hk
    exact ⟨by omega, by omega, by simp [Value.ownBlock]⟩

set_option maxRecDepth 100000 in
theorem new_any (hF : Fns w fp) : Calls Try.prog 66 #[hashV, sameV] w fun e w' => e = .returned (.tuple #[.pointer (some ⟨w.heap.size + 1, 0, none⟩), .int .i64 0]) ∧ Tab w' (w.heap.size + 1) fp (.slice none 0 0) w.heap.size 8 0 0 [] (List.replicate 8 0) ∧ Stay w w' := by
  have HT : Hid (Tab _ (w.heap.size + 1) fp (.slice none 0 0) w.heap.size 8 0 0 [] (List.replicate 8 0)) := new_tab hF
  have hmk : (Instr.makeSlice 23 (.int .i64 8) (.int .i64 8)).run Try.prog w = _ := run_makeSpots 8 (by decide) w
  have HS : Hid (Stay w ((w.alloc (.cells ((List.replicate 8 0).map fun (p : Nat) => Value.int .i64 (p : Int)).toArray 3)).alloc (.cells #[hashV, sameV, .slice none 0 0, .slice (some ⟨w.heap.size, 0, none⟩) 8 8, .int .i64 0, .int .i64 0] 116))) := (Stay.new w _).alloc _
  generalize ((List.replicate 8 0).map fun (p : Nat) => Value.int .i64 (p : Int)).toArray = zs at hmk HT HS
  have h1 := eql_h
  have h2 := eql_s
  clear hF
  go_enter Try.func66, Try.ntmps66
  go_wp2
  go_ret2
  exact ⟨rfl, HT.out, HS.out⟩

theorem get_yes (h : Tab w bt fp cv pb N len reach came places) (k : LK) (hk : KeyOk fp k) {t : Nat} {e : E} (he : came[t]? = some e) (hth : e.there = true) (hs : sm fp e.key k = true) :
    Calls Try.prog 62 #[.pointer (some ⟨bt, 0, none⟩), k.v] w fun e' w' => e' = .returned (.tuple #[.int .i64 (e.val), .bool true]) ∧ Stay w w' := by
  obtain ⟨g, cap, hcv, hC⟩ := h.row.at he
  have hf := find_yes h k hk hcv hC he hth hs
  have HC : Hid (w.cell? ⟨g, t * 5 + 1, none⟩ = some (.int .i64 (e.val))) := (hC.cells t e he).2.1
  clear h hC he hcv
  go_enter Try.func62, Try.ntmps62
  go_wp2_with fail
  refine hf.mono ?_
  rintro e9 W ⟨rfl, hW⟩
  have HW : Hid (Stay w W) := hW
  clear hf hW
  have hc := HW.out.cell HC.out
  go_wp2
  go_ret2
  exact ⟨rfl, HW.out⟩

theorem get_no (h : Tab w bt fp cv pb N len reach came places) (k : LK) (hk : KeyOk fp k) (hno : ∀ (t : Nat) (e : E), came[t]? = some e → e.there = true → sm fp e.key k = false) :
    Calls Try.prog 62 #[.pointer (some ⟨bt, 0, none⟩), k.v] w fun e' w' => e' = .returned (.tuple #[(.int .i64 0), .bool false]) ∧ Stay w w' := by
  have hf := find_no h k hk hno
  clear h hno
  go_enter Try.func62, Try.ntmps62
  go_wp2_with fail
  refine hf.mono ?_
  rintro e9 W ⟨rfl, hW⟩
  have HW : Hid (Stay w W) := hW
  clear hf hW
  go_wp2
  go_ret2
  exact ⟨rfl, HW.out⟩

end
end Go.Proofs.Ytnhmjheipfopoaa.L
