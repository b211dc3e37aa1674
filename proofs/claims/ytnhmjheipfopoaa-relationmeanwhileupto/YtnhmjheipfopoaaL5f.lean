/- lookup: a row's lookup is made: the tuples are joined one by one. -/
import Derived.Test.YtnhmjheipfopoaaL5g
import Derived.Sort.CutIn
namespace Go.Proofs.Ytnhmjheipfopoaa.L
open Go.RowKit Go.Maps Go.Shelf Go.Proofs.Ytnhmjheipfopoaa
attribute [local go_sem] Oper.semAt_some

theorem s5_keep {Z W W' : World} {b rb : Nat} {u v : Value} (hs : Stay W W') (x : W.cell? ⟨b, 0, none⟩ = some u ∧ W.cell? ⟨rb, 1, none⟩ = some v ∧ Hid (Stay Z W)) : W'.cell? ⟨b, 0, none⟩ = some u ∧ W'.cell? ⟨rb, 1, none⟩ = some v ∧ Hid (Stay Z W') := ⟨hs.cell x.1, hs.cell x.2.1, x.2.2.out.trans hs⟩

theorem x7_keep {W W' : World} {b b2 : Nat} {u v : Value} (x : W.cell? ⟨b, 0, none⟩ = some u ∧ W.cell? ⟨b2, 0, none⟩ = some v ∧ True) (hs : Stay W W') : W'.cell? ⟨b, 0, none⟩ = some u ∧ W'.cell? ⟨b2, 0, none⟩ = some v ∧ True := ⟨hs.cell x.1, hs.cell x.2.1, trivial⟩
theorem listPost_norm {T : TypeId → Prop} {D : Nat} {Hs : Nat → Prop} {I : Nat → World → Prop} {Ix : Code → Nat → World → Prop} {k id : Nat} {W : World} {a : Act} {W' : World} (h1 : Go.Proofs.Ytnhmjheipfopoaa.Holds (fun i => Hs i ∨ Fr T D W i) W W') (h2 : W.heap.size ≤ W'.heap.size) (h3 : I k W') : (Exit.inBlock id (listPost T D Hs I Ix k W)) .normal a W' := ⟨h1, h2, h3⟩
theorem bitLen_le {c ar : Nat} (h : c < 2 ^ ar) (ha : ar ≤ 16) : Lib.bitLen c ≤ ar := by
  by_cases hc : c = 0
  · subst hc; have : Lib.bitLen 0 = 0 := by decide
    omega
  · have h2 := (bitLen_bound c (pow_ar h ha)).2.2 hc
    have h3 : 2 ^ (Lib.bitLen c - 1) < 2 ^ ar := Nat.lt_of_le_of_lt h2.2 h
    have := (Nat.pow_lt_pow_iff_right (a := 2) (by omega)).1 h3
    omega
theorem s5_stay {Z W : World} {b rb : Nat} {u v : Value} (x : W.cell? ⟨b, 0, none⟩ = some u ∧ W.cell? ⟨rb, 1, none⟩ = some v ∧ Hid (Stay Z W)) : Stay Z W := x.2.2.out
theorem bE_all (n : Nat) : bE 0 (n : Int) n = n := by unfold bE; omega

section
variable {W W' : World} {F : Nat → Prop} {rb ar : Nat} {T : List (List Int)} {vv : Value} {mb : Nat} {L : List (Nat × Nat)} {Fs : Nat → Nat → Prop}

set_option maxRecDepth 100000 in
set_option maxHeartbeats 2000000 in
theorem lookup_no (h : Rl W F rb ar T vv mb L Fs) (hT : T.length ≤ 68719476736) {c : Nat} (hc : c < 2 ^ ar) (hx : lkp L c = none) :
    Calls Try.prog 32 #[.pointer (some ⟨rb, 0, none⟩), .agg (rowV c)] W fun e w' => ∃ x L' Fs', e = .returned (.pointer (some ⟨x, 0, none⟩)) ∧ Rl w' (Grow F W.heap.size w') rb ar T vv mb L' Fs' ∧ lkp L' c = some x ∧ Turn F W w' := by
  obtain ⟨V, hV⟩ : ∃ V, V = rowV c := ⟨_, rfl⟩
  have HV : Hid (V = rowV c) := hV
  rw [← hV]
  clear hV
  have HH : Hid (Rl W F rb ar T vv mb L Fs ∧ c < 65536 ∧ c < 2 ^ ar ∧ lkp L c = none) := ⟨h, pow_ar hc h.arle, hc, hx⟩
  have c3 := h.box.c3
  have hlk : ∀ Y, Stay W Y → (Instr.lookup 56 (.map (some mb)) (.agg V) true).run Try.prog Y = .ok (.tuple #[.pointer none, .bool false]) Y := fun Y hY => by
    have := (h.map.stay hY).look (pow_ar hc h.arle)
    rw [hx] at this
    rw [HV.out]; exact this
  have hnl : ∀ Y, Calls Try.prog 50 #[.agg V] Y fun e w' => ∃ xb, e = .returned (.pointer (some ⟨xb, 0, none⟩)) ∧ Y.heap.size ≤ xb ∧ LkS w' (fun k => Y.heap.size ≤ k ∧ k < w'.heap.size) xb c [] ∧ Stay Y w' := fun Y => by
    rw [HV.out]; exact newLookup_any Y c HH.out.2.1
  clear h hx hc
  refine (callsIn_wide (n := 9)).1 ?_
  refine callsIn_of_wp_marks Try.func32 rfl trivial ?_ rfl
  simp only [Try.ntmps32, List.size_toArray, List.length_cons, List.length_nil, Nat.reduceAdd, Nat.reduceSub, Array.replicate_succ, Array.replicate_zero, List.push_toArray, List.append_toArray, List.nil_append, List.cons_append]
  gi_wp2_with fail
  obtain ⟨W1, hW1⟩ : ∃ W1, W1 = (W.alloc (.cells #[.pointer (some ⟨rb, 0, none⟩)] 24)).alloc (.cells V 64) := ⟨_, rfl⟩
  rw [← hW1]
  have HZ : Hid (Stay W W1) := by
    have : Stay W W1 := by rw [hW1]; exact (Stay.new _ _).alloc _
    exact this
  have hz1 : W1.heap.size = W.heap.size + 2 := by rw [hW1]; simp
  have hrow : W1.heap[W.heap.size + 1]? = some (.cells V 64 (0, 0)) := by rw [hW1]; exact heap_alloc2_new _ _ _
  have hbx : W1.cell? ⟨W.heap.size, 0, none⟩ = some (.pointer (some ⟨rb, 0, none⟩)) := by rw [hW1]; exact cell_of (heap_alloc2_old _ _ _) rfl
  have HR1 : Hid (W1.heap[W.heap.size + 1]? = some (.cells V 64 (0, 0)) ∧ W1.cell? ⟨W.heap.size, 0, none⟩ = some (.pointer (some ⟨rb, 0, none⟩)) ∧ W1.heap.size = W.heap.size + 2) := ⟨hrow, hbx, hz1⟩
  have c3' := HZ.out.cell c3
  clear hW1 c3
  refine wpIn_wide.2 ?_
  refine region_wpH (S := fun Y => Y.cell? ⟨W.heap.size, 0, none⟩ = some (.pointer (some ⟨rb, 0, none⟩)) ∧ Y.cell? ⟨rb, 3, none⟩ = some (.map (some mb)) ∧ Stay W1 Y) rfl ?_
  have hS : W1.drew.cell? ⟨W.heap.size, 0, none⟩ = some (.pointer (some ⟨rb, 0, none⟩)) ∧ W1.drew.cell? ⟨rb, 3, none⟩ = some (.map (some mb)) ∧ Stay W1 W1.drew := ⟨hbx, c3', Stay.drew _⟩
  clear hbx c3'
  --@N@
  refine wpAnyH_take (i := 0) (v := .pointer (some ⟨rb, 0, none⟩)) rfl (by kernel_rfl) (by kernel_rfl) (by kernel_rfl) (fun _ _ _ h => h) (Or.inl ⟨by rfl, fun W hW => by obtain ⟨q0, q1, q2⟩ := hW; first | (go_simp; done) | (go_simp; with_reducible rfl)⟩) hS ?_
  refine wpAnyH_take (i := 1) (v := .pointer (some ⟨rb, 0, none⟩)) rfl (by kernel_rfl) (by kernel_rfl) (by kernel_rfl) (fun _ _ _ h => h) (Or.inl ⟨by rfl, fun W _ => by first | (go_simp; done) | (go_simp; with_reducible rfl)⟩) hS ?_
  refine wpAnyH_take (i := 2) (v := .pointer (some ⟨rb, 3, none⟩)) rfl (by kernel_rfl) (by kernel_rfl) (by kernel_rfl) (fun _ _ _ h => h) (Or.inl ⟨by rfl, fun W _ => by first | (go_simp; done) | (go_simp; with_reducible rfl)⟩) hS ?_
  refine wpAnyH_take (i := 3) (v := .map (some mb)) rfl (by kernel_rfl) (by kernel_rfl) (by kernel_rfl) (fun _ _ _ h => h) (Or.inl ⟨by rfl, fun W hW => by obtain ⟨q0, q1, q2⟩ := hW; first | (go_simp; done) | (go_simp; with_reducible rfl)⟩) hS ?_
  refine wpAnyH_ready (rs := [4]) (by kernel_rfl) (by simp) (AllReadyH.cons (o := { dst := some 14, op := Op.load 64 (Operand.tmp 3), type := 64, pos := "relation.go:200", after := #[], guard := none }) rfl (fun K hK => ?_) AllReadyH.nil)
  refine step_load_row rfl 64 _ rfl (W.heap.size + 1) (by first | rfl | (simp [Act.eval]; done) | simp [Act.eval, Act.put]) 64 V (0, 0) (.array 16 4) (hS.2.2.heap hrow) Try.underlying64 rfl (by rw [HV.out]; exact sizeRow' _) ?_
  (try go_simp)
  refine hK.out _ _ hS (fun hS => ?_)
  clear hK K
  refine wpAnyH_ready (rs := [5]) (by kernel_rfl) (by simp) (AllReadyH.cons (o := { dst := some 15, op := Op.lookup 56 (Operand.tmp 13) (Operand.tmp 14) true, type := 86, pos := "relation.go:200", after := #[{ on := 3, ground := Ground.data }, { on := 4, ground := Ground.data }], guard := none }) rfl (fun K hK => ?_) AllReadyH.nil)
  refine step_lookup_ok rfl _ _ 56 rfl (by first | rfl | (simp [Act.eval]; done) | simp [Act.eval, Act.put]) (by first | rfl | (simp [Act.eval]; done) | simp [Act.eval, Act.put]) (hlk _ (HZ.out.trans hS.2.2)) ?_
  (try go_simp)
  refine hK.out _ _ hS (fun hS => ?_)
  clear hK K
  refine wpAnyH_take (i := 6) (v := .tuple #[.pointer none, .bool false]) rfl (by kernel_rfl) (by kernel_rfl) (by kernel_rfl) (fun _ _ _ h => h) (Or.inl ⟨by rfl, fun W _ => by first | (go_simp; done) | (go_simp; with_reducible rfl)⟩) hS ?_
  refine wpAnyH_take (i := 7) (v := .pointer none) rfl (by kernel_rfl) (by kernel_rfl) (by kernel_rfl) (fun _ _ _ h => h) (Or.inl ⟨by rfl, fun W _ => by first | (go_simp; done) | (go_simp; with_reducible rfl)⟩) hS ?_
  refine wpAnyH_take (i := 8) (v := .bool false) rfl (by kernel_rfl) (by kernel_rfl) (by kernel_rfl) (fun _ _ _ h => h) (Or.inl ⟨by rfl, fun W _ => by first | (go_simp; done) | (go_simp; with_reducible rfl)⟩) hS ?_
  refine wpAnyH_take (i := 9) (v := .pointer none) rfl (by kernel_rfl) (by kernel_rfl) (by kernel_rfl) (fun _ _ _ h => h) (Or.inl ⟨by rfl, fun W _ => by first | (go_simp; done) | (go_simp; with_reducible rfl)⟩) hS ?_
  refine wpAnyH_take (i := 10) (v := .bool false) rfl (by kernel_rfl) (by kernel_rfl) (by kernel_rfl) (fun _ _ _ h => h) (Or.inl ⟨by rfl, fun W _ => by first | (go_simp; done) | (go_simp; with_reducible rfl)⟩) hS ?_
  refine wpAnyH_done (by kernel_rfl) ?_ _
  unfold normQ
  have HS : Hid (Stay W W1.drew) := HZ.out.trans hS.2.2
  clear hS hlk
  dsimp only
  --@N.@
  clear hrow hz1
  gi_upto_region 4 with fail
  refine wpIn_wide.2 ?_
  go_wp2_with (first
    | (refine wpList_load_row rfl 64 (.tmp 3) rfl (W.heap.size + 1) rfl 64 V (0, 0) (.array 16 4) HR1.out.1 Try.underlying64 rfl (by rw [HV.out]; exact sizeRow' _) ?_)
    | (go_at_call 50; refine (hnl _).mono ?_; rintro e w2 ⟨xb, rfl, hxb, hL2, hs2⟩; have H2 : Hid (W1.heap.size ≤ xb ∧ LkS w2 (fun k => W1.heap.size ≤ k ∧ k < w2.heap.size) xb c [] ∧ Stay W1 w2) := ⟨hxb, hL2, (Stay.drew W1).trans hs2⟩; clear hxb hL2 hs2 hnl))
  gi_wp2_with fail
  obtain ⟨W3, hW3⟩ : ∃ W3, W3 = w2.alloc (.cells #[.pointer (some ⟨xb, 0, none⟩)] 68) := ⟨_, rfl⟩
  rw [← hW3]
  have hs3 : Stay w2 W3 := by rw [hW3]; exact Stay.new _ _
  have hz3 : W3.heap.size = w2.heap.size + 1 := by rw [hW3]; simp
  have hbx3 : W3.cell? ⟨w2.heap.size, 0, none⟩ = some (.pointer (some ⟨xb, 0, none⟩)) := by rw [hW3]; exact cell_of (heap_new _ _) rfl
  have hsW3 : Stay W1 W3 := H2.out.2.2.trans hs3
  have k2 := hsW3.cell HR1.out.2.1
  have k3 := (HZ.out.trans hsW3).cell HH.out.1.box.c1
  have H3 : Hid (W3.heap.size = w2.heap.size + 1 ∧ W3.cell? ⟨w2.heap.size, 0, none⟩ = some (.pointer (some ⟨xb, 0, none⟩)) ∧ Stay W1 W3 ∧ Stay w2 W3) := ⟨hz3, hbx3, hsW3, hs3⟩
  clear hW3 hs3 hz3 hbx3 hsW3
  refine wpIn_wide.2 ?_
  have hS0 := s5_keep (Stay.drew W3) ⟨k2, k3, (Stay.refl W3 : Hid (Stay W3 W3))⟩
  clear k2 k3
  go_region_held3 (fun Y => Y.cell? ⟨W.heap.size, 0, none⟩ = some (.pointer (some ⟨rb, 0, none⟩)) ∧ Y.cell? ⟨rb, 1, none⟩ = some (.int .i64 (T.length : Int)) ∧ Hid (Stay W3 Y)) (first | assumption | (exact s5_keep (by assumption) (by assumption))) (first
    | (go_at_call 36; refine (stretch_any _ _ _ _).mono ?_; rintro e9 Y9 ⟨W4, rfl, rfl, hs4, hz4, hq4, q1, q2, q3⟩))
  have HS4 : Hid (Stay W3 Y9) := s5_stay (by assumption)
  have hbx := (HS4.out).heap (((HZ.out.trans H3.out.2.2.1)).heap HH.out.1.box)
  have hs04 : Stay w2 Y9 := H3.out.2.2.2.trans HS4.out
  have hI0 : LI Y9 W1.heap.size w2.heap.size xb c T 0 Y9 := by
    obtain ⟨F', k1, k2, k3⟩ := H2.out.2.1.shrink
    refine ⟨F', k1.stay hs04, fun i hi => .inl (k2 i hi), fun i hi => ?_, Turn.refl _ _⟩
    obtain ⟨cs, t, f, hh⟩ := k3 i hi
    exact ⟨cs, t, f, hs04.heap hh⟩
  have hz0 : w2.heap.size < Y9.heap.size ∧ W1.heap.size ≤ w2.heap.size := ⟨Nat.lt_of_lt_of_le (by have := H3.out.1; omega) HS4.out.size, H2.out.2.2.size⟩
  clear hs4 hq4 hs04 hz4
  gi_wp2_with fail
  refine' range_list (α := Nat) (T := AnyT) (n := 9) (by decide) (gf := 54) (lb := _) rfl (enters_of Try.func54 (by kernel_rfl) rfl) (stretch_seq _ _ _ Y9 q1 0 (T.length : Int) q2 q3 hbx 0 T.length rfl (bE_all _) (Nat.zero_le _) hT) (fun i hi => hi.elim) (fun _ => rfl)
    (fun k Y => LI Y9 W1.heap.size w2.heap.size xb c T k Y) (fun _ _ _ => False) (fun k A A' hi hb => hi.bel hb) (fun _ _ _ _ hf _ => hf) hI0 (fun _ Y => Y) (fun _ Y => Stay.refl Y) _ ?assign ?body ?done ?stop
  case stop => exact fun _ _ _ _ h => h.elim
  case assign =>
    intro l x Y K hK
    dsimp only [encPl]
    gi_wp2
    exact hK
  case body =>
    intro l k hk Wz X hI _ _ _ _
    have hkT : k < T.length := by rw [pls_len] at hk; exact hk
    rw [show (pls 0 T.length)[k] = k by rw [pls_at]; omega]
    obtain ⟨F', hX0, hX1, hX2, hX3⟩ := hI
    have hlo : ∀ i, i < Y9.heap.size → ¬ Own3 W1.heap.size w2.heap.size Y9.heap.size i → X.heap[i]? = Y9.heap[i]? := fun i hi hn => hX3.block i hi hn
    have q7a : X.cell? ⟨w2.heap.size, 0, none⟩ = some (.pointer (some ⟨xb, 0, none⟩)) := hX3.cell (HS4.out.cell H3.out.2.1) (fun h => by have := hz0; unfold Own3 at h; (try dsimp only at h); omega)
    have q7b : X.cell? ⟨W.heap.size, 0, none⟩ = some (.pointer (some ⟨rb, 0, none⟩)) := hX3.cell ((H3.out.2.2.1.trans HS4.out).cell HR1.out.2.1) (fun h => by have := hz0; have := HR1.out.2.2; unfold Own3 at h; (try dsimp only at h); omega)
    have hSX : X.cell? ⟨w2.heap.size, 0, none⟩ = some (.pointer (some ⟨xb, 0, none⟩)) ∧ X.cell? ⟨W.heap.size, 0, none⟩ = some (.pointer (some ⟨rb, 0, none⟩)) ∧ True := ⟨q7a, q7b, trivial⟩
    have hRX : Rl X F rb ar T vv mb L Fs := ((HH.out.1.stay (HZ.out.trans (H3.out.2.2.1.trans HS4.out))).turn hX3 (fun i hi h => by have := hz0; have := HR1.out.2.2; have := HH.out.1.lt i hi; unfold Own3 at h; omega))
    have hpiece : ∀ Y, Stay X Y → Calls Try.prog 51 #[.pointer (some ⟨rb, 0, none⟩), .int .i64 k] Y fun e w' => ∃ a b off cap, e = .returned (.slice a (T[k]'hkT).length cap) ∧ IntsS w' a b off (T[k]'hkT) ∧ ∃ d, w' = Y.drewN d := fun Y hY => piece_any (hRX.stay hY) hT (List.getElem?_eq_getElem hkT)
    have hjoin : ∀ Y, Stay X Y → ∀ (a : Option Addr) (b o cap : Nat), IntsS Y a b o (T[k]'hkT) → Calls Try.prog 43 #[.pointer (some ⟨xb, 0, none⟩), .slice a (T[k]'hkT).length cap, .int .i64 k] Y fun e w' => e = .returned (.tuple #[]) ∧ LkS w' (Grow F' Y.heap.size w') xb c (T.take (k + 1)) ∧ Turn F' Y w' := fun Y hY a b o cap hI => by
      have hlen : (T[k]'hkT).length = ar := HH.out.1.rows _ (List.getElem_mem hkT)
      have h1 := join_any (hX0.stay hY) (by rw [List.length_take]; omega) a b o cap _ hI (by rw [hlen]; have := HH.out.1.arle; unfold maxLen; omega) (by rw [hlen]; exact bitLen_le HH.out.2.2.1 HH.out.1.arle)
      rw [List.length_take, Nat.min_eq_left (by omega)] at h1
      rw [List.take_succ_eq_append_getElem hkT]
      exact h1
    have nb1 : ¬ F' w2.heap.size := fun h => by have := hX1 _ h; unfold Own3 at this; omega
    have nb2 : ¬ F' W.heap.size := fun h => by have := hX1 _ h; have := HR1.out.2.2; unfold Own3 at *; omega
    have hq8 : ∀ Y1 Y2, Stay X Y1 → Turn F' Y1 Y2 → Y2.cell? ⟨w2.heap.size, 0, none⟩ = some (.pointer (some ⟨xb, 0, none⟩)) ∧ Y2.cell? ⟨W.heap.size, 0, none⟩ = some (.pointer (some ⟨rb, 0, none⟩)) ∧ True := fun Y1 Y2 h1 h2 =>
      ⟨h2.cell (h1.cell q7a) nb1, h2.cell (h1.cell q7b) nb2, trivial⟩
    have en1 : ∀ args w, (callFunc 51 args).run Try.prog w = .ok (.enter 51 args) w := enters_of Try.func51 (by kernel_rfl) rfl
    have en2 : ∀ args w, (callFunc 43 args).run Try.prog w = .ok (.enter 43 args) w := enters_of Try.func43 (by kernel_rfl) rfl
    clear hbx q1 q2 q3 hlo hRX hX0 q7a q7b
    gi_wp2_with fail
    refine region_roundH (S := fun Y => Y.cell? ⟨w2.heap.size, 0, none⟩ = some (.pointer (some ⟨xb, 0, none⟩)) ∧ Y.cell? ⟨W.heap.size, 0, none⟩ = some (.pointer (some ⟨rb, 0, none⟩)) ∧ True) rfl rfl (by rintro ⟨a, w, h⟩; exact h) ?_
    have hS := x7_keep hSX (Stay.drew X)
    --@7@
    refine wpAnyH_take (i := 0) (v := .pointer (some ⟨xb, 0, none⟩)) rfl (by kernel_rfl) (by kernel_rfl) (by kernel_rfl) (fun _ _ _ h => h) (Or.inl ⟨by rfl, fun W hW => by obtain ⟨q0, q1, q2⟩ := hW; first | (go_simp; done) | (go_simp; with_reducible rfl)⟩) hS ?_
    refine wpAnyH_take (i := 1) (v := .pointer (some ⟨rb, 0, none⟩)) rfl (by kernel_rfl) (by kernel_rfl) (by kernel_rfl) (fun _ _ _ h => h) (Or.inl ⟨by rfl, fun W hW => by obtain ⟨q0, q1, q2⟩ := hW; first | (go_simp; done) | (go_simp; with_reducible rfl)⟩) hS ?_
    refine wpAnyH_take (i := 2) (v := .int .i64 (k : Int)) rfl (by kernel_rfl) (by kernel_rfl) (by kernel_rfl) (fun _ _ _ h => h) (Or.inl ⟨by rfl, fun W _ => by first | (go_simp; done) | (go_simp; with_reducible rfl)⟩) hS ?_
    refine wpAnyH_take (i := 4) (v := .int .i64 (k : Int)) rfl (by kernel_rfl) (by kernel_rfl) (by kernel_rfl) (fun _ _ _ h => h) (Or.inl ⟨by rfl, fun W _ => by first | (go_simp; done) | (go_simp; with_reducible rfl)⟩) hS ?_
    refine wpAnyH_ready (rs := [3]) (by kernel_rfl) (by simp) (AllReadyH.cons (o := { dst := some 32, op := Op.call { callee := Callee.value (Operand.func 51), args := #[Operand.tmp 30, Operand.tmp 31], argTypes := #[24, 3] }, type := 23, pos := "relation.go:205", after := #[{ on := 1, ground := Ground.data }, { on := 2, ground := Ground.data }], guard := none }) rfl (fun K hK => ?_) AllReadyH.nil)
    refine step_goG (by rfl) 51 _ _ rfl (args := #[.pointer (some ⟨rb, 0, none⟩), .int .i64 (k : Int)]) (by first | rfl | (simp [Act.eval]; done) | simp [Act.eval, Act.put]) en1 ?_
    refine (hpiece _ (Stay.drew X)).mono ?_
    rintro e7 Y1 ⟨a7, b7, o7, c7, rfl, hI7, d7, hd7⟩
    have hs7 : Stay X Y1 := by rw [hd7]; exact (Stay.drew X).trans (Stay.drewN _ _)
    clear hd7
    refine ⟨_, rfl, ?_⟩
    (try go_simp)
    refine hK.out _ _ (x7_keep hSX hs7) (fun hS => ?_)
    clear hK K
    refine wpAnyH_ready (rs := [5]) (by kernel_rfl) (by simp) (AllReadyH.cons (o := { dst := some 34, op := Op.call { callee := Callee.value (Operand.func 43), args := #[Operand.tmp 29, Operand.tmp 32, Operand.tmp 33], argTypes := #[68, 23, 3] }, type := 0, pos := "relation.go:205", after := #[{ on := 0, ground := Ground.data }, { on := 3, ground := Ground.data }, { on := 4, ground := Ground.data }, { on := 3, ground := Ground.chain }], guard := none }) rfl (fun K hK => ?_) AllReadyH.nil)
    refine step_goG (by rfl) 43 _ _ rfl (args := #[.pointer (some ⟨xb, 0, none⟩), .slice a7 (T[k]'hkT).length c7, .int .i64 (k : Int)]) (by first | rfl | (simp [Act.eval]; done) | simp [Act.eval, Act.put]) en2 ?_
    refine (hjoin Y1 hs7 a7 b7 o7 c7 hI7).mono ?_
    rintro e8 Y2 ⟨rfl, hL8, hT8⟩
    have HN : Hid _ := LI.next hX1 hX2 hX3 hs7 hL8 hT8
    have hkeep := hq8 Y1 Y2 hs7 hT8
    refine ⟨_, rfl, ?_⟩
    (try go_simp)
    refine hK.out _ _ hkeep (fun hS => ?_)
    clear hK K
    refine wpAnyH_done (by kernel_rfl) ?_ _
    refine listPost_norm ?_ ?_ ?_
    · exact HN.out.2.1
    · exact HN.out.2.2
    · exact HN.out.1
    --@7.@
  case done =>
    intro Y hI hD
    obtain ⟨F', hX0, hX1, hX2, hX3⟩ := hI
    rw [pls_len, Nat.sub_zero, List.take_length] at hX0
    have hYs := hX3.size
    have hW1s : W1.heap.size = W.heap.size + 2 := HR1.out.2.2
    have hst : Stay W Y9 := HZ.out.trans (H3.out.2.2.1.trans HS4.out)
    have hzW := hst.size
    have hWY : Turn (Own3 W1.heap.size w2.heap.size Y9.heap.size) W Y := (Turn.of_stay hst).trans hX3
    have q8a : Y.cell? ⟨w2.heap.size, 0, none⟩ = some (.pointer (some ⟨xb, 0, none⟩)) := hX3.cell (HS4.out.cell H3.out.2.1) (fun h => by have := hz0; unfold Own3 at h; (try dsimp only at h); omega)
    have q8b : Y.cell? ⟨W.heap.size, 0, none⟩ = some (.pointer (some ⟨rb, 0, none⟩)) := hX3.cell ((H3.out.2.2.1.trans HS4.out).cell HR1.out.2.1) (fun h => by have := hz0; unfold Own3 at h; (try dsimp only at h); omega)
    have hrowY : Y.drew.heap[W.heap.size + 1]? = some (.cells V 64 (0, 0)) := hX3.heap ((H3.out.2.2.1.trans HS4.out).heap HR1.out.1) (fun h => by have := hz0; unfold Own3 at h; omega)
    have hRY : Rl Y F rb ar T vv mb L Fs := (HH.out.1.stay hst).turn hX3 (fun i hi h => by have := hz0; have := HH.out.1.lt i hi; unfold Own3 at h; omega)
    have q8c := hRY.box.c3
    obtain ⟨W9, hup, hM9, ht9⟩ := (hRY.map.stay (Stay.drew Y)).put (x := xb) HH.out.2.1 HH.out.2.2.2 (by have := hRY.fewL; unfold maxLen; omega)
    rw [← HV.out] at hup
    have hg9 := ht9.grown
    have hT9 : Turn (fun k => k = mb) Y W9 := ⟨hg9.os, hg9.tape, hg9.output, hg9.size, fun k hk hn => hg9.block k hk (fun e => hn (Option.some.inj e))⟩
    have hmbl := hRY.map.lt
    have hmW := HH.out.1.map.lt
    have hmF : ¬ F' mb := fun h => by have := hz0; have := hX1 _ h; unfold Own3 at this; omega
    have n1 : W.heap.size ≠ mb := by omega
    have n2 : w2.heap.size ≠ mb := by have := hz0; omega
    have n3 : rb ≠ mb := HH.out.1.mine.1
    have hS9 : W9.cell? ⟨W.heap.size, 0, none⟩ = some (.pointer (some ⟨rb, 0, none⟩)) ∧ W9.cell? ⟨rb, 3, none⟩ = some (.map (some mb)) ∧ W9.cell? ⟨w2.heap.size, 0, none⟩ = some (.pointer (some ⟨xb, 0, none⟩)) := ⟨hT9.cell q8b n1, hT9.cell q8c n3, hT9.cell q8a n2⟩
    have hD9 : W9.heap[Y9.heap.size]? = some (.deferred (some [])) := hT9.heap hD (by have := hst.size; omega)
    have hadd : Rl W9 (fun k => F k ∨ F' k) rb ar T vv mb (L ++ [(c, xb)]) (fun y => if y = xb then F' else Fs y) := by
      refine HH.out.1.added (S := fun k => Own3 W1.heap.size w2.heap.size Y9.heap.size k ∨ k = mb) ((hWY.mono (fun _ _ h => .inl h)).then hT9 (fun _ _ h => .inr h)) (fun k hk h => ?_) hM9 (hX0.turn hT9 (fun k hk e => hmF (e ▸ hk))) (fun k hk => ?_) HH.out.2.2.1 HH.out.2.2.2
      · rcases h with h | h
        · have := hz0; unfold Own3 at h; omega
        · exact h
      · have := hz0; have := hX1 k hk; unfold Own3 at this; omega
    have hcl9 : ∀ k, F' k → Cells W9 k := fun k hk => by
      obtain ⟨cs, t, f, hh⟩ := hX2 k hk
      exact ⟨cs, t, f, hT9.heap hh (fun e => hmF (e ▸ hk))⟩
    have HF : Hid (∀ w', Bel AnyT Y9.heap.size W9 w' → Rl w' (Grow F W.heap.size w') rb ar T vv mb (L ++ [(c, xb)]) (fun y => if y = xb then F' else Fs y) ∧ Turn F W w') := fun w' hb => by
      have ht : Turn (fun k => ¬ (F k ∨ F' k)) W9 w' := by
        refine ⟨hb.1.os, hb.1.tape, hb.1.output, hb.size, fun k hk hn => ?_⟩
        have hn2 : F k ∨ F' k := Classical.byContradiction hn
        rcases hn2 with h | h
        · exact hb.1.block k (by have := HH.out.1.lt k h; have := hst.size; omega)
        · obtain ⟨cs, t, f, hh⟩ := hcl9 k h
          exact hb.2 k ⟨cs, t, f, hh, trivial⟩
      refine ⟨(hadd.turn ht (fun k hk hn => hn hk)).grow (fun k hk => ?_) (fun k hk => ?_), ?_⟩
      · rcases hk with h | h
        · exact .inl h
        · refine .inr ⟨?_, ?_⟩
          · have := hz0; have := hX1 k h; unfold Own3 at this; omega
          · have := (hadd.lt k (.inr h)); have := hb.size; omega
      · rcases hk with h | h
        · have := HH.out.1.lt k h; have := hst.size; have := hb.size; have := hT9.size; omega
        · exact h.2
      · refine ⟨hb.1.os.trans (hT9.os.trans hWY.os), hb.1.tape.trans (hT9.tape.trans hWY.tape), hb.1.output.trans (hT9.output.trans hWY.output), by have := hb.size; have := hT9.size; have := hst.size; omega, fun k hk hn => ?_⟩
        have hk9 : k < Y9.heap.size := Nat.lt_of_lt_of_le hk hst.size
        refine (hb.1.block k hk9).trans ((hT9.block k (by omega) (fun e => hn (e ▸ HH.out.1.foot.2.1))).trans (hWY.block k hk (fun h => ?_)))
        have := hz0; unfold Own3 at h; omega
    have hdr : W9.heap.size = W9.heap.size := rfl
    have HL : Hid (lkp (L ++ [(c, xb)]) c = some xb) := by
      show lkp (L ++ [(c, xb)]) c = some xb
      rw [lkp_snoc, HH.out.2.2.2]; simp
    have hx9 := hS9.2.2
    clear hX0 hX1 hX2 hX3 hWY hRY hM9 ht9 hg9 hT9 hmbl hmW hmF hadd hcl9 hD hdr
    gi_wp2_with fail
    refine wpIn_wide.2 ?_
    refine region_wpH (S := fun Y => Y.cell? ⟨W.heap.size, 0, none⟩ = some (.pointer (some ⟨rb, 0, none⟩)) ∧ Y.cell? ⟨rb, 3, none⟩ = some (.map (some mb)) ∧ Y.cell? ⟨w2.heap.size, 0, none⟩ = some (.pointer (some ⟨xb, 0, none⟩))) rfl ?_
    have hS : Y.drew.cell? ⟨W.heap.size, 0, none⟩ = some (.pointer (some ⟨rb, 0, none⟩)) ∧ Y.drew.cell? ⟨rb, 3, none⟩ = some (.map (some mb)) ∧ Y.drew.cell? ⟨w2.heap.size, 0, none⟩ = some (.pointer (some ⟨xb, 0, none⟩)) := ⟨q8b, q8c, q8a⟩
    clear q8a q8b q8c hI0
    --@8@
    refine wpAnyH_take (i := 0) (v := .pointer (some ⟨rb, 0, none⟩)) rfl (by kernel_rfl) (by kernel_rfl) (by kernel_rfl) (fun _ _ _ h => h) (Or.inl ⟨by rfl, fun W hW => by obtain ⟨q0, q1, q2⟩ := hW; first | (go_simp; done) | (go_simp; with_reducible rfl)⟩) hS ?_
    refine wpAnyH_take (i := 1) (v := .pointer (some ⟨rb, 0, none⟩)) rfl (by kernel_rfl) (by kernel_rfl) (by kernel_rfl) (fun _ _ _ h => h) (Or.inl ⟨by rfl, fun W _ => by first | (go_simp; done) | (go_simp; with_reducible rfl)⟩) hS ?_
    refine wpAnyH_take (i := 2) (v := .pointer (some ⟨rb, 3, none⟩)) rfl (by kernel_rfl) (by kernel_rfl) (by kernel_rfl) (fun _ _ _ h => h) (Or.inl ⟨by rfl, fun W _ => by first | (go_simp; done) | (go_simp; with_reducible rfl)⟩) hS ?_
    refine wpAnyH_take (i := 3) (v := .map (some mb)) rfl (by kernel_rfl) (by kernel_rfl) (by kernel_rfl) (fun _ _ _ h => h) (Or.inl ⟨by rfl, fun W hW => by obtain ⟨q0, q1, q2⟩ := hW; first | (go_simp; done) | (go_simp; with_reducible rfl)⟩) hS ?_
    refine wpAnyH_take (i := 5) (v := .pointer (some ⟨xb, 0, none⟩)) rfl (by kernel_rfl) (by kernel_rfl) (by kernel_rfl) (fun _ _ _ h => h) (Or.inl ⟨by rfl, fun W hW => by obtain ⟨q0, q1, q2⟩ := hW; first | (go_simp; done) | (go_simp; with_reducible rfl)⟩) hS ?_
    refine wpAnyH_ready (rs := [4]) (by kernel_rfl) (by simp) (AllReadyH.cons (o := { dst := some 39, op := Op.load 64 (Operand.tmp 3), type := 64, pos := "relation.go:207", after := #[], guard := none }) rfl (fun K hK => ?_) AllReadyH.nil)
    refine step_load_row rfl 64 _ rfl (W.heap.size + 1) (by first | rfl | (simp [Act.eval]; done) | simp [Act.eval, Act.put]) 64 V (0, 0) (.array 16 4) hrowY Try.underlying64 rfl (by rw [HV.out]; exact sizeRow' _) ?_
    (try go_simp)
    refine hK.out _ _ hS (fun hS => ?_)
    clear hK K
    refine wpAnyH_ready (rs := [6]) (by kernel_rfl) (by simp) (AllReadyH.cons (o := { dst := none, op := Op.mapUpdate 56 (Operand.tmp 38) (Operand.tmp 39) (Operand.tmp 40), type := 0, pos := "relation.go:207", after := #[{ on := 3, ground := Ground.data }, { on := 4, ground := Ground.data }, { on := 5, ground := Ground.data }, { on := 0, ground := Ground.phase }, { on := 1, ground := Ground.phase }, { on := 2, ground := Ground.phase }, { on := 3, ground := Ground.phase }, { on := 4, ground := Ground.phase }, { on := 5, ground := Ground.phase }], guard := none }) rfl (fun K hK => ?_) AllReadyH.nil)
    refine step_update_run rfl _ _ _ 56 rfl (by simp [Act.eval]) (by simp [Act.eval]) (by simp [Act.eval]) hup ?_
    (try go_simp)
    refine hK.out _ _ hS9 (fun hS => ?_)
    clear hK K
    refine wpAnyH_done (by kernel_rfl) ?_ _
    unfold normQ
    clear hS hup hrowY
    dsimp only
    --@8.@
    gi_wp2
    exact leaves_marks (T := AnyT) ((Marks.nil Y9.heap.size Y9.heap.size W9).cons (T := Y9.heap.size + 1) Y9.heap.size (Nat.le_refl _) (Nat.le_refl _) (by omega) hD9) fun w' hw' => ⟨_, results_tmp rfl _ _ _, xb, _, _, rfl, (HF.out w' hw').1, HL.out, (HF.out w' hw').2⟩
end
end Go.Proofs.Ytnhmjheipfopoaa.L
