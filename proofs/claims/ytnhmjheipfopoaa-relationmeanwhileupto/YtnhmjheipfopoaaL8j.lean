/- Match's second function, whose rounds may turn the relation. -/
import Derived.Test.YtnhmjheipfopoaaL8i
import Derived.Test.YtnhmjheipfopoaaJ5r
namespace Go.Proofs.Ytnhmjheipfopoaa.L
open Go.RowKit Go.Maps Go.Shelf Go.Proofs.Ytnhmjheipfopoaa
attribute [local go_sem] Oper.semAt_some

theorem wpAnyH_act {P : Program} {md : Region.Mode} {ops : Array Oper} {Q : Exit → Act → World → Prop} {S : World → Prop} {n : Nat} {l : Array Bool} {a a' : Act} {w : World} (h : a = a') (hh : wpAnyH P md ops Q S n l a' w) : wpAnyH P md ops Q S n l a w := h ▸ hh

section
variable {W W' w : World} {F : Nat → Prop} {rb ar n : Nat} {T : List (List Int)} {vv : Value} {mb : Nat} {L : List (Nat × Nat)} {Fs : Nat → Nat → Prop}

set_option maxRecDepth 100000 in
set_option maxHeartbeats 4000000 in
theorem match2_own (h : Rl w F rb ar T vv mb L Fs) (hwh : T ≠ [] → (lkp L (2 ^ ar - 1)).isSome = true) (hT : T.length ≤ 68719476736) {c : Nat} (hc : c < 2 ^ ar) (b1 b2 b3 b4 b5 : Nat) (h1 : w.cell? ⟨b1, 0, none⟩ = some (.pointer (some ⟨rb, 0, none⟩))) (h2 : w.heap[b2]? = some (.cells (rowV c) 64 (0, 0)))
    (ka : Option Addr) (kb ko kc : Nat) (KL : List Int) (h3 : w.cell? ⟨b3, 0, none⟩ = some (.slice ka KL.length kc)) (hK : IntsS w ka kb ko KL) (hlK : KL.length ≤ maxLen) (x y : Int) (h4 : w.cell? ⟨b4, 0, none⟩ = some (.int .i64 x)) (h5 : w.cell? ⟨b5, 0, none⟩ = some (.int .i64 y))
    (hb : ¬ F b1 ∧ ¬ F b2 ∧ ¬ F b3 ∧ ¬ F b4 ∧ ¬ F b5) (hkb : 0 < KL.length → ¬ F kb) (ps : List Nat) (hps : mid (plc c T KL) x y = ps) :
    SeqU Try.prog 31 #[.pointer (some ⟨b1, 0, none⟩), .pointer (some ⟨b2, 0, none⟩), .pointer (some ⟨b3, 0, none⟩), .pointer (some ⟨b4, 0, none⟩), .pointer (some ⟨b5, 0, none⟩)] ps.length (mkR ps) (EncR T ps) (OpR F rb ar T) (InvR rb ar T) F (fun i => i = b1 ∨ i = b2 ∨ i = b3 ∨ i = b4 ∨ i = b5) w := by
  intro l J W U0 hW hU0l hBx hJ hinv hopen hY
  obtain ⟨V, hV⟩ : ∃ V, V = rowV c := ⟨_, rfl⟩
  have HV : Hid (V = rowV c) := hV
  have en32 : ∀ args w, (callFunc 32 args).run Try.prog w = .ok (.enter 32 args) w := enters_of Try.func32 (by kernel_rfl) rfl
  have en33 : ∀ args w, (callFunc 33 args).run Try.prog w = .ok (.enter 33 args) w := enters_of Try.func33 (by kernel_rfl) rfl
  have sD : Stay w W.drew := hW.trans (Stay.drew W)
  have hRW := h.stay sD
  have hmem : ∀ p ∈ ps, p < T.length := fun p hp => by
    rw [← hps] at hp
    exact (plc_mem (List.mem_filter.1 hp).1).1
  -- the two calls of the beginning
  have hlk : Calls Try.prog 32 #[.pointer (some ⟨rb, 0, none⟩), .agg V] W.drew fun e w1 => ∃ xb, e = .returned (.pointer (some ⟨xb, 0, none⟩)) ∧ (w1.cell? ⟨b1, 0, none⟩ = some (.pointer (some ⟨rb, 0, none⟩)) ∧ w1.cell? ⟨b3, 0, none⟩ = some (.slice ka KL.length kc) ∧ w1.cell? ⟨b4, 0, none⟩ = some (.int .i64 x) ∧ w1.cell? ⟨b5, 0, none⟩ = some (.int .i64 y)) ∧
      Calls Try.prog 33 #[.pointer (some ⟨xb, 0, none⟩), .slice ka KL.length kc, .int .i64 x, .int .i64 y] w1 fun e w2 => ∃ a b off cap s U1, e = .returned (.slice a ps.length cap) ∧ (w2.cell? ⟨b1, 0, none⟩ = some (.pointer (some ⟨rb, 0, none⟩)) ∧ w2.cell? ⟨b3, 0, none⟩ = some (.slice ka KL.length kc) ∧ w2.cell? ⟨b4, 0, none⟩ = some (.int .i64 x) ∧ w2.cell? ⟨b5, 0, none⟩ = some (.int .i64 y)) ∧
        J s 0 U1 w2 ∧ (∀ i, U1 i → U0 i ∨ W.heap.size ≤ i) ∧ W.heap.size ≤ w2.heap.size ∧ (0 < ps.length → a = some ⟨b, off, none⟩) ∧ ∀ A, SnapAt s A → ∀ j (hj : j < ps.length), A.cell? ⟨b, off + j, none⟩ = some (.int .i64 (ps[j] : Int)) := by
    rw [hV]
    refine (lookup_any2 hRW hT hc).mono ?_
    rintro e w1 ⟨xb, L', Fs', rfl, hR1, ⟨hx, hext⟩, ht1⟩
    have hk1 : ∀ {p : Addr} {v : Value}, w.cell? p = some v → ¬ F p.block → w1.cell? p = some v := fun hc hn => ht1.cell (sD.cell hc) hn
    have hlow : ∀ i, i < W.heap.size → ¬ F i → ¬ Grow F W.drew.heap.size w1 i := fun i hi hn q => q.elim hn (fun q => by have : W.drew.heap.size = W.heap.size := rfl; omega)
    have hb1l : b1 < W.heap.size := Nat.lt_of_lt_of_le (World.block_lt_of_cell? w _ h1) hW.size
    refine ⟨xb, rfl, ⟨hk1 h1 hb.1, hk1 h3 hb.2.2.1, hk1 h4 hb.2.2.2.1, hk1 h5 hb.2.2.2.2⟩, ?_⟩
    have hwh' : T ≠ [] → (lkp L' (2 ^ ar - 1)).isSome = true := fun q => by
      obtain ⟨z, hz⟩ := Option.isSome_iff_exists.1 (hwh q)
      rw [hext _ _ hz]; rfl
    have hI1 : IntsS w1 ka kb ko KL := ints_turn (hK.stay sD) ht1 hkb
    have hz1 := ht1.size
    refine (within_N hR1 hwh' hT hx ⟨ka, kb, ko, kc, KL⟩ hI1 hlK (fun h0 => hlow kb (by have := ints_lt hK h0; have := hW.size; omega) (hkb h0)) x y b1 (hlow b1 hb1l hb.1) (by have : W.drew.heap.size = W.heap.size := rfl; omega)).mono ?_
    rintro e w2 ⟨a, b, off, cap, k0, n0, rfl, hI2, hs2, hN2, hkn, hkF⟩
    dsimp only at hI2 hkn ⊢
    rw [hps] at hI2 hkn ⊢
    have htW : Turn F W.drew w2 := ht1.trans (Turn.of_stay hs2)
    have hz2 := hs2.size
    obtain ⟨U1, hU1, hJ1⟩ := hopen ⟨k0, n0, fun j => w2.cell? ⟨k0, j, none⟩⟩ W.drew w2 (Stay.drew W) ⟨⟨vv, mb, L', Fs', hN2.grow (fun k hk => hk.imp id (fun q => ⟨q.1, by omega⟩)) (fun k hk => hk.elim (fun q => hN2.rl.lt k (.inl q)) (fun q => q.2))⟩, fun _ _ => rfl, fun q => (hkF q).elim (fun h => h.elim .inl (fun h => .inr h.1)) (fun h => .inr (Nat.le_trans hz1 h))⟩ htW
    refine ⟨a, b, off, cap, _, U1, rfl, ⟨hs2.cell (hk1 h1 hb.1), hs2.cell (hk1 h3 hb.2.2.1), hs2.cell (hk1 h4 hb.2.2.2.1), hs2.cell (hk1 h5 hb.2.2.2.2)⟩, hJ1, hU1, by have : W.drew.heap.size = W.heap.size := rfl; omega, fun h0 => hI2.1 (by simpa using h0), fun A hA j hj => ?_⟩
    obtain ⟨rfl, hle⟩ := hkn (by omega)
    have e1 := hA (off + j) (by show off + j < n0; omega)
    have e2 := hI2.2 j (by simpa using hj)
    refine e1.trans ?_
    show w2.cell? ⟨b, off + j, none⟩ = _
    rw [e2]; simp
  have hrow : W.drew.heap[b2]? = some (.cells V 64 (0, 0)) := by rw [hV]; exact sD.heap h2
  have hS0 : W.drew.cell? ⟨b1, 0, none⟩ = some (.pointer (some ⟨rb, 0, none⟩)) ∧ W.drew.cell? ⟨b3, 0, none⟩ = some (.slice ka KL.length kc) ∧ W.drew.cell? ⟨b4, 0, none⟩ = some (.int .i64 x) ∧ W.drew.cell? ⟨b5, 0, none⟩ = some (.int .i64 y) := ⟨sD.cell h1, sD.cell h3, sD.cell h4, sD.cell h5⟩
  have hb1U : ¬ U0 b1 := hBx b1 (.inl rfl)
  have hb1l : b1 < W.heap.size := Nat.lt_of_lt_of_le (World.block_lt_of_cell? w _ h1) hW.size
  have hpl : ps.length ≤ 68719476736 := by
    rw [← hps]
    have h1 : (mid (plc c T KL) x y).length ≤ (plc c T KL).length := List.length_filter_le _ _
    have h2 := plc_len c T KL
    omega
  clear h hwh hRW hK hopen hkb hV h1 h2 h3 h4 h5 hb hps hT
  refine (callsIn_wide (n := 8)).1 (callsIn_of_wp Try.func31 rfl trivial ?_ rfl)
  simp only [Try.ntmps31, List.size_toArray, List.length_cons, List.length_nil, Nat.reduceAdd, Nat.reduceSub, Array.replicate_succ, Array.replicate_zero, List.push_toArray, List.append_toArray, List.nil_append, List.cons_append]
  gi_wp2_with fail
  refine wpIn_wide.2 ?_
  refine region_wpH (S := fun Y => Y.cell? ⟨b1, 0, none⟩ = some (.pointer (some ⟨rb, 0, none⟩)) ∧ Y.cell? ⟨b3, 0, none⟩ = some (.slice ka KL.length kc) ∧ Y.cell? ⟨b4, 0, none⟩ = some (.int .i64 x) ∧ Y.cell? ⟨b5, 0, none⟩ = some (.int .i64 y)) rfl ?_
  have hS := hS0
  --@0@
  refine wpAnyH_take (i := 0) (v := .pointer (some ⟨rb, 0, none⟩)) rfl (by kernel_rfl) (by kernel_rfl) (by kernel_rfl) (fun _ _ _ h => h) (Or.inl ⟨by rfl, fun W hW => by obtain ⟨q0, q1, q2, q3⟩ := hW; first | (go_simp; done) | (go_simp; with_reducible rfl)⟩) hS ?_
  refine wpAnyH_act (a' := ⟨#[.func (.yield l) #[] #[], .pointer (some ⟨b1, 0, none⟩), .pointer (some ⟨b2, 0, none⟩), .pointer (some ⟨b3, 0, none⟩), .pointer (some ⟨b4, 0, none⟩), .pointer (some ⟨b5, 0, none⟩), undef, undef, undef, .pointer (some ⟨rb, 0, none⟩), undef, undef, undef, undef, undef, undef, undef, undef, undef, undef, undef, undef, undef, undef, undef, undef, undef, undef, undef], []⟩) (by kernel_rfl) ?_
  refine wpAnyH_take (i := 3) (v := .slice ka KL.length kc) rfl (by kernel_rfl) (by kernel_rfl) (by kernel_rfl) (fun _ _ _ h => h) (Or.inl ⟨by rfl, fun W hW => by obtain ⟨q0, q1, q2, q3⟩ := hW; first | (go_simp; done) | (go_simp; with_reducible rfl)⟩) hS ?_
  refine wpAnyH_act (a' := ⟨#[.func (.yield l) #[] #[], .pointer (some ⟨b1, 0, none⟩), .pointer (some ⟨b2, 0, none⟩), .pointer (some ⟨b3, 0, none⟩), .pointer (some ⟨b4, 0, none⟩), .pointer (some ⟨b5, 0, none⟩), undef, undef, undef, .pointer (some ⟨rb, 0, none⟩), undef, undef, .slice ka KL.length kc, undef, undef, undef, undef, undef, undef, undef, undef, undef, undef, undef, undef, undef, undef, undef, undef], []⟩) (by kernel_rfl) ?_
  refine wpAnyH_take (i := 4) (v := .int .i64 x) rfl (by kernel_rfl) (by kernel_rfl) (by kernel_rfl) (fun _ _ _ h => h) (Or.inl ⟨by rfl, fun W hW => by obtain ⟨q0, q1, q2, q3⟩ := hW; first | (go_simp; done) | (go_simp; with_reducible rfl)⟩) hS ?_
  refine wpAnyH_act (a' := ⟨#[.func (.yield l) #[] #[], .pointer (some ⟨b1, 0, none⟩), .pointer (some ⟨b2, 0, none⟩), .pointer (some ⟨b3, 0, none⟩), .pointer (some ⟨b4, 0, none⟩), .pointer (some ⟨b5, 0, none⟩), undef, undef, undef, .pointer (some ⟨rb, 0, none⟩), undef, undef, .slice ka KL.length kc, .int .i64 x, undef, undef, undef, undef, undef, undef, undef, undef, undef, undef, undef, undef, undef, undef, undef], []⟩) (by kernel_rfl) ?_
  refine wpAnyH_take (i := 5) (v := .int .i64 y) rfl (by kernel_rfl) (by kernel_rfl) (by kernel_rfl) (fun _ _ _ h => h) (Or.inl ⟨by rfl, fun W hW => by obtain ⟨q0, q1, q2, q3⟩ := hW; first | (go_simp; done) | (go_simp; with_reducible rfl)⟩) hS ?_
  refine wpAnyH_act (a' := ⟨#[.func (.yield l) #[] #[], .pointer (some ⟨b1, 0, none⟩), .pointer (some ⟨b2, 0, none⟩), .pointer (some ⟨b3, 0, none⟩), .pointer (some ⟨b4, 0, none⟩), .pointer (some ⟨b5, 0, none⟩), undef, undef, undef, .pointer (some ⟨rb, 0, none⟩), undef, undef, .slice ka KL.length kc, .int .i64 x, .int .i64 y, undef, undef, undef, undef, undef, undef, undef, undef, undef, undef, undef, undef, undef, undef], []⟩) (by kernel_rfl) ?_
  refine wpAnyH_take (i := 8) (v := .int .i64 0) rfl (by kernel_rfl) (by kernel_rfl) (by kernel_rfl) (fun _ _ _ h => h) (Or.inl ⟨by rfl, fun W _ => by first | (go_simp; done) | (go_simp; with_reducible rfl)⟩) hS ?_
  refine wpAnyH_act (a' := ⟨#[.func (.yield l) #[] #[], .pointer (some ⟨b1, 0, none⟩), .pointer (some ⟨b2, 0, none⟩), .pointer (some ⟨b3, 0, none⟩), .pointer (some ⟨b4, 0, none⟩), .pointer (some ⟨b5, 0, none⟩), undef, undef, undef, .pointer (some ⟨rb, 0, none⟩), undef, undef, .slice ka KL.length kc, .int .i64 x, .int .i64 y, undef, undef, .int .i64 0, undef, undef, undef, undef, undef, undef, undef, undef, undef, undef, undef], []⟩) (by kernel_rfl) ?_
  refine wpAnyH_ready (rs := [1]) (by kernel_rfl) (by simp) (AllReadyH.cons (o := { dst := some 10, op := Op.load 64 (Operand.tmp 2), type := 64, pos := "relation.go:102", after := #[], guard := none }) rfl (fun K hK => ?_) AllReadyH.nil)
  refine step_load_row rfl 64 _ rfl b2 (by first | rfl | (simp [Act.eval]; done) | simp [Act.eval, Act.put]) 64 V (0, 0) (.array 16 4) hrow Try.underlying64 rfl (by rw [HV.out]; exact sizeRow' _) ?_
  (try go_simp)
  refine hK.out _ _ hS (fun hS => ?_)
  clear hK K
  refine wpAnyH_act (a' := ⟨#[.func (.yield l) #[] #[], .pointer (some ⟨b1, 0, none⟩), .pointer (some ⟨b2, 0, none⟩), .pointer (some ⟨b3, 0, none⟩), .pointer (some ⟨b4, 0, none⟩), .pointer (some ⟨b5, 0, none⟩), undef, undef, undef, .pointer (some ⟨rb, 0, none⟩), .agg V, undef, .slice ka KL.length kc, .int .i64 x, .int .i64 y, undef, undef, .int .i64 0, undef, undef, undef, undef, undef, undef, undef, undef, undef, undef, undef], []⟩) (by kernel_rfl) ?_
  refine wpAnyH_ready (rs := [2]) (by kernel_rfl) (by simp) (AllReadyH.cons (o := { dst := some 11, op := Op.call { callee := Callee.value (Operand.func 32), args := #[Operand.tmp 9, Operand.tmp 10], argTypes := #[24, 64] }, type := 68, pos := "relation.go:102", after := #[{ on := 0, ground := Ground.data }, { on := 1, ground := Ground.data }], guard := none }) rfl (fun K hK => ?_) AllReadyH.nil)
  refine step_goG rfl 32 _ _ rfl (args := #[.pointer (some ⟨rb, 0, none⟩), .agg V]) (by first | rfl | (simp [Act.eval]; done) | simp [Act.eval, Act.put]) en32 ?_
  refine hlk.mono ?_
  rintro e w1 ⟨xb, rfl, hS1, hwi⟩
  have HW1 : Hid _ := hwi
  clear hwi
  refine ⟨_, rfl, ?_⟩
  (try go_simp)
  refine hK.out _ _ hS1 (fun hS => ?_)
  clear hK K
  refine wpAnyH_act (a' := ⟨#[.func (.yield l) #[] #[], .pointer (some ⟨b1, 0, none⟩), .pointer (some ⟨b2, 0, none⟩), .pointer (some ⟨b3, 0, none⟩), .pointer (some ⟨b4, 0, none⟩), .pointer (some ⟨b5, 0, none⟩), undef, undef, undef, .pointer (some ⟨rb, 0, none⟩), .agg V, .pointer (some ⟨xb, 0, none⟩), .slice ka KL.length kc, .int .i64 x, .int .i64 y, undef, undef, .int .i64 0, undef, undef, undef, undef, undef, undef, undef, undef, undef, undef, undef], []⟩) (by kernel_rfl) ?_
  refine wpAnyH_ready (rs := [6]) (by kernel_rfl) (by simp) (AllReadyH.cons (o := { dst := some 15, op := Op.call { callee := Callee.value (Operand.func 33), args := #[Operand.tmp 11, Operand.tmp 12, Operand.tmp 13, Operand.tmp 14], argTypes := #[68, 23, 3, 3] }, type := 23, pos := "relation.go:102", after := #[{ on := 2, ground := Ground.data }, { on := 3, ground := Ground.data }, { on := 4, ground := Ground.data }, { on := 5, ground := Ground.data }, { on := 2, ground := Ground.chain }], guard := none }) rfl (fun K hK => ?_) AllReadyH.nil)
  refine step_goG rfl 33 _ _ rfl (args := #[.pointer (some ⟨xb, 0, none⟩), .slice ka KL.length kc, .int .i64 x, .int .i64 y]) (by first | rfl | (simp [Act.eval]; done) | simp [Act.eval, Act.put]) en33 ?_
  refine Calls.mono HW1.out ?_
  rintro e w2 ⟨a, b, off, cap, s, U1, rfl, hS2, hJ1⟩
  have HJ1 : Hid _ := hJ1
  clear hJ1 HW1
  refine ⟨_, rfl, ?_⟩
  (try go_simp)
  refine hK.out _ _ hS2 (fun hS => ?_)
  clear hK K
  refine wpAnyH_act (a' := ⟨#[.func (.yield l) #[] #[], .pointer (some ⟨b1, 0, none⟩), .pointer (some ⟨b2, 0, none⟩), .pointer (some ⟨b3, 0, none⟩), .pointer (some ⟨b4, 0, none⟩), .pointer (some ⟨b5, 0, none⟩), undef, undef, undef, .pointer (some ⟨rb, 0, none⟩), .agg V, .pointer (some ⟨xb, 0, none⟩), .slice ka KL.length kc, .int .i64 x, .int .i64 y, .slice a ps.length cap, undef, .int .i64 0, undef, undef, undef, undef, undef, undef, undef, undef, undef, undef, undef], []⟩) (by kernel_rfl) ?_
  refine wpAnyH_take (i := 7) (v := .int .i64 (ps.length : Int)) rfl (by kernel_rfl) (by kernel_rfl) (by kernel_rfl) (fun _ _ _ h => h) (Or.inl ⟨by rfl, fun W _ => by first | (go_simp; done) | (go_simp; with_reducible rfl)⟩) hS ?_
  refine wpAnyH_act (a' := ⟨#[.func (.yield l) #[] #[], .pointer (some ⟨b1, 0, none⟩), .pointer (some ⟨b2, 0, none⟩), .pointer (some ⟨b3, 0, none⟩), .pointer (some ⟨b4, 0, none⟩), .pointer (some ⟨b5, 0, none⟩), undef, undef, undef, .pointer (some ⟨rb, 0, none⟩), .agg V, .pointer (some ⟨xb, 0, none⟩), .slice ka KL.length kc, .int .i64 x, .int .i64 y, .slice a ps.length cap, .int .i64 (ps.length : Int), .int .i64 0, undef, undef, undef, undef, undef, undef, undef, undef, undef, undef, undef], []⟩) (by kernel_rfl) ?_
  refine wpAnyH_done (by kernel_rfl) ?_ _
  unfold normQ
  clear hS hlk
  (try dsimp only)
  --@0.@
  have HW2 : Hid (w2.cell? ⟨b1, 0, none⟩ = some (.pointer (some ⟨rb, 0, none⟩))) := hS2.1
  clear hS2 hS1 hS0 hrow HV
  have hY2 : ∀ k (hk : k < ps.length) U A, J s k U A → (∀ i, U i → U0 i ∨ W.heap.size ≤ i) → W.heap.size ≤ A.heap.size → A.cell? ⟨b1, 0, none⟩ = some (.pointer (some ⟨rb, 0, none⟩)) →
      A.cell? ⟨b, off + k, none⟩ = some (.int .i64 (ps[k] : Int)) ∧ Calls Try.prog 34 #[.pointer (some ⟨rb, 0, none⟩), .int .i64 (ps[k] : Int)] A fun e Y => ∃ a5 n5 c5, e = .returned (.slice a5 n5 c5) ∧
        YieldAt Fence.wide 7 Try.prog l #[.int .i64 (ps[k] : Int), .slice a5 n5 c5] Y fun e Z => e = .returned (.bool true) ∧ ∃ U', J s (k + 1) U' Z ∧ Z.cell? ⟨b1, 0, none⟩ = some (.pointer (some ⟨rb, 0, none⟩)) ∧ (∀ i, U' i → U0 i ∨ W.heap.size ≤ i) ∧ W.heap.size ≤ Z.heap.size := by
    intro k hk U A hj hU hz hc1
    obtain ⟨⟨F9, M, ⟨vv9, mb9, L9, Fs9, hR9⟩, hM⟩, hsn⟩ := (hinv _ _ _ _ hj).2
    refine ⟨HJ1.out.2.2.2.2 A hsn k hk, ?_⟩
    have hp : ps.getD k 0 = ps[k] := by simp [hk]
    have hlt := hmem _ (List.getElem_mem hk)
    have htk : T[ps[k]]? = some T[ps[k]] := List.getElem?_eq_getElem hlt
    refine (tuple_any hR9 hM (p := ps[k]) (t := T[ps[k]]) (by rw [List.getElem?_append_left hlt]; exact htk)).mono ?_
    rintro e Y ⟨v, rfl, hO, hs⟩
    obtain ⟨a5, b5, c5, rfl, hI5⟩ := hO.ints
    refine ⟨a5, _, c5, rfl, ?_⟩
    have hzs := hs.size
    have hy := hY s k hk U (.slice a5 (T[ps[k]]).length c5) (fun i => (Value.slice a5 (T[ps[k]]).length c5).ownBlock = some i) Y (hJ _ _ _ _ _ hj (Turn.of_stay hs)) ⟨by rw [hp]; simp only [List.getD_eq_getElem?_getD, htk, Option.getD_some]; exact hO.mono (Nat.zero_le _), fun i => Iff.rfl⟩ (fun i hi => ⟨by have := (hO.lt i hi).1; omega, (hO.lt i hi).2, fun hu => by have := (hinv _ _ _ _ hj).1 i hu; have := (hO.lt i hi).1; omega⟩) (by omega)
    unfold mkR at hy
    rw [hp] at hy
    obtain ⟨fn, tm9, as9, bd9, hy1, hy2⟩ := hy
    refine yield_deep (m := 0) ⟨fn, tm9, as9, bd9, hy1, hy2.mono ?_⟩
    rintro e Z ⟨rfl, U', hT, hU', hj'⟩
    have hzt := hT.size
    have nb1 : ¬ U b1 := fun h => (hU _ h).elim hb1U (fun h => by omega)
    refine ⟨rfl, U', hj', hT.cell (hs.cell hc1) ?_, fun i hi => ?_, by omega⟩
    · rintro (h | h)
      · exact nb1 h
      · have := (hO.lt b1 h).1; omega
    · rcases hU' i hi with h | h | h
      · exact hU i h
      · exact .inr (by have := (hO.lt i h).1; omega)
      · exact .inr (by omega)
  have HY : Hid _ := hY2
  clear hY2 hY hinv hBx hU0l hmem
  gi_wp2
  gi_loopw [17] (fun ui wr => ∃ k U, k ≤ ps.length ∧ ui = .int .i64 (k : Int) ∧ J s k U wr ∧ wr.cell? ⟨b1, 0, none⟩ = some (.pointer (some ⟨rb, 0, none⟩)) ∧ (∀ i, U i → U0 i ∨ W.heap.size ≤ i) ∧ W.heap.size ≤ wr.heap.size) (fun ui _ => ps.length - (intOf ui).toNat)
  case atStart => exact ⟨0, U1, Nat.zero_le _, rfl, HJ1.out.1, HW2.out, HJ1.out.2.1, HJ1.out.2.2.1⟩
  case round =>
    obtain ⟨k, U, hk, rfl, hj, hc1, hU, hz⟩ := hrel
    by_cases hlt : k < ps.length
    · have hki : (k : Int) < (ps.length : Int) := by omega
      obtain rfl := HJ1.out.2.2.2.1 (by omega)
      obtain ⟨hcell, htup⟩ := HY.out k hlt U wr hj hU hz hc1
      clear hj hU hz
      generalize ps[k] = p at hcell htup
      gi_wp2_with (refine ⟨trivial, ?_⟩; gi_at_call 34; refine CallsIn.mono (callsIn_wide.2 htup) ?_; rintro e Y ⟨a5, n5, c5, rfl, fn, tm9, as9, bd9, hy9, hR9⟩; clear htup)
      refine hR9.mono ?_
      rintro e9 Z ⟨rfl, hZ⟩
      have HZ : Hid _ := hZ
      clear hZ
      gi_wp2
      go_roundw
      case rel => obtain ⟨U', h1, h2, h3, h4⟩ := HZ.out; exact ⟨k + 1, U', by omega, by go_num, h1, h2, h3, h4⟩
      case measure => simp [intOf]; omega
    · obtain rfl : k = ps.length := by omega
      have hki : ¬ ((ps.length : Nat) : Int) < (ps.length : Int) := by omega
      have HE : Hid (J s ps.length U wr ∧ ∀ i, U i → U0 i ∨ W.heap.size ≤ i) := ⟨hj, hU⟩
      clear hj hU
      gi_wp2
      go_end0
      exact ⟨⟨_, rfl⟩, s, U, HE.out.2, HE.out.1⟩
end
end Go.Proofs.Ytnhmjheipfopoaa.L
