/- A relation in memory; New, piece. -/
import Derived.Test.YtnhmjheipfopoaaL5b
namespace Go.Proofs.Ytnhmjheipfopoaa.L
open Go.RowKit Go.Maps Go.Proofs.Ytnhmjheipfopoaa

structure Rl (W : World) (F : Nat → Prop) (rb ar : Nat) (T : List (List Int)) (vv : Value) (mb : Nat) (L : List (Nat × Nat)) (Fs : Nat → Nat → Prop) : Prop where
  box : RBox W rb ar T.length vv mb
  vals : OwnI 0 W vv T.flatten
  rows : ∀ t ∈ T, t.length = ar
  arle : ar ≤ 16
  nodup : T.Nodup
  map : LkM W mb L
  small : ∀ p ∈ L, p.1 < 2 ^ ar
  nodupL : (L.map (·.1)).Nodup
  looks : ∀ c x, lkp L c = some x → LkS W (Fs x) x c T
  apart : ∀ c x d y, lkp L c = some x → lkp L d = some y → c ≠ d → ∀ k, Fs x k → ¬ Fs y k
  mine : rb ≠ mb ∧ (∀ k, vv.ownBlock = some k → k ≠ rb ∧ k ≠ mb) ∧ ∀ c x, lkp L c = some x → ∀ k, Fs x k → k ≠ rb ∧ k ≠ mb ∧ vv.ownBlock ≠ some k
  foot : F rb ∧ F mb ∧ (∀ k, vv.ownBlock = some k → F k) ∧ ∀ c x, lkp L c = some x → ∀ k, Fs x k → F k
  lt : ∀ k, F k → k < W.heap.size

/-- At rb lies a relation of the tuples T; all its blocks are in F. -/
def RelS (W : World) (F : Nat → Prop) (rb ar : Nat) (T : List (List Int)) : Prop := ∃ vv mb L Fs, Rl W F rb ar T vv mb L Fs

theorem pow_ar {ar c : Nat} (h : c < 2 ^ ar) (ha : ar ≤ 16) : c < 65536 := Nat.lt_of_lt_of_le h (by have := Nat.pow_le_pow_right (show 0 < 2 by decide) ha; simpa using this)

section
variable {W W' : World} {F : Nat → Prop} {rb ar : Nat} {T : List (List Int)} {vv : Value} {mb : Nat} {L : List (Nat × Nat)} {Fs : Nat → Nat → Prop}

theorem Rl.turn {S : Nat → Prop} (h : Rl W F rb ar T vv mb L Fs) (ht : Turn S W W') (hn : ∀ k, F k → ¬ S k) : Rl W' F rb ar T vv mb L Fs :=
  { h with
    box := ht.heap h.box (hn _ h.foot.1)
    vals := ownI_turn h.vals ht (fun k hk => hn k (h.foot.2.2.1 k hk))
    map := h.map.turn ht (hn _ h.foot.2.1)
    looks := fun c x hc => (h.looks c x hc).turn ht (fun k hk => hn k (h.foot.2.2.2 c x hc k hk))
    lt := fun k hk => Nat.lt_of_lt_of_le (h.lt k hk) ht.size }
theorem Rl.stay (h : Rl W F rb ar T vv mb L Fs) (ht : Stay W W') : Rl W' F rb ar T vv mb L Fs := h.turn (S := fun _ => False) (Turn.of_stay ht) (fun _ _ e => e)
theorem RelS.turn {S : Nat → Prop} (h : RelS W F rb ar T) (ht : Turn S W W') (hn : ∀ k, F k → ¬ S k) : RelS W' F rb ar T := by
  obtain ⟨vv, mb, L, Fs, h⟩ := h
  exact ⟨_, _, _, _, h.turn ht hn⟩
theorem RelS.stay (h : RelS W F rb ar T) (ht : Stay W W') : RelS W' F rb ar T := h.turn (S := fun _ => False) (Turn.of_stay ht) (fun _ _ e => e)

theorem flat_rows : ∀ {T : List (List Int)}, (∀ t ∈ T, t.length = ar) → T.flatten.length = T.length * ar
  | [], _ => by simp
  | t :: T, h => by
    rw [List.flatten_cons, List.length_append, h t (List.mem_cons_self ..), flat_rows (fun s hs => h s (List.mem_cons_of_mem _ hs)), List.length_cons, Nat.add_mul]
    omega
theorem flat_row : ∀ {T : List (List Int)}, (∀ t ∈ T, t.length = ar) → ∀ {p : Nat} {t : List Int}, T[p]? = some t → ∀ j, j < ar → T.flatten[p * ar + j]? = t[j]?
  | [], _, p, t, h, _, _ => by simp at h
  | s :: T, h, 0, t, hp, j, hj => by
    simp at hp
    subst hp
    rw [List.flatten_cons, Nat.zero_mul, Nat.zero_add, List.getElem?_append_left (by rw [h s (List.mem_cons_self ..)]; exact hj)]
  | s :: T, h, p + 1, t, hp, j, hj => by
    have hs := h s (List.mem_cons_self ..)
    rw [List.flatten_cons, Nat.add_mul, Nat.one_mul, List.getElem?_append_right (by omega), hs, show p * ar + ar + j - ar = p * ar + j by omega]
    exact flat_row (fun s hs => h s (List.mem_cons_of_mem _ hs)) (by simpa using hp) j hj

/-- New. -/
theorem new_rel (W : World) (ha : ar ≤ 16) : Calls Try.prog 16 #[.int .i64 ar] W fun e w' => e = .returned (.tuple #[.pointer (some ⟨W.heap.size + 1, 0, none⟩), .int .i64 0]) ∧ RelS w' (fun k => W.heap.size ≤ k ∧ k < w'.heap.size) (W.heap.size + 1) ar [] ∧ Stay W w' := by
  have hmk := run_mapL W
  have h1 : ¬ (ar : Int) < 0 := by omega
  have h2 : (ar : Int) ≤ 16 := by omega
  have HR : Hid (RelS ((W.alloc (.map #[] 0)).alloc (.cells #[.int .i64 ar, .int .i64 0, .slice none 0 0, .map (some W.heap.size)] 58)) (fun k => W.heap.size ≤ k ∧ k < ((W.alloc (.map #[] 0)).alloc (.cells #[.int .i64 ar, .int .i64 0, .slice none 0 0, .map (some W.heap.size)] 58)).heap.size) (W.heap.size + 1) ar []) := by
    have hb := heap_new (W.alloc (.map #[] 0)) (.cells #[.int .i64 ar, .int .i64 0, .slice none 0 0, .map (some W.heap.size)] 58)
    rw [World.size_alloc] at hb
    refine ⟨.slice none 0 0, W.heap.size, [], fun _ _ => False, hb, ⟨rfl, .inl ⟨rfl, rfl⟩⟩, fun t ht => by simp at ht, ha, List.nodup_nil, (lkM_new W).stay (Stay.new _ _), fun p hp => by simp at hp, List.nodup_nil, fun c x hc => by simp [lkp] at hc, fun c x d y hc => by simp [lkp] at hc, ⟨by omega, fun k hk => by simp [Value.ownBlock] at hk, fun c x hc => by simp [lkp] at hc⟩, ⟨by simp, by simp; omega, fun k hk => by simp [Value.ownBlock] at hk, fun c x hc => by simp [lkp] at hc⟩, fun k hk => hk.2⟩
  go_enter Try.func16, Try.ntmps16
  go_wp2
  go_ret2
  exact ⟨by simp, HR.out, (Stay.new _ _).alloc _⟩

theorem mul_wrap64 (a b : Nat) (h : a * b ≤ 1152921504606846976) : RowKit.wrap64 ((a : Int) * (b : Int)) = ((a * b : Nat) : Int) := by
  rw [← Int.natCast_mul]
  unfold RowKit.wrap64
  omega

set_option maxRecDepth 100000 in
set_option maxHeartbeats 1000000 in
/-- piece: a tuple, where it lies. -/
theorem piece_any (h : Rl W F rb ar T vv mb L Fs) (hT : T.length ≤ 68719476736) {p : Nat} {t : List Int} (hp : T[p]? = some t) :
    Calls Try.prog 51 #[.pointer (some ⟨rb, 0, none⟩), .int .i64 p] W fun e w' => ∃ a b off cap, e = .returned (.slice a t.length cap) ∧ IntsS w' a b off t ∧ ∃ d, w' = W.drewN d := by
  have hpl := (List.getElem?_eq_some_iff.1 hp).1
  have htl : t.length = ar := h.rows t (List.mem_of_getElem? hp)
  have hfl := flat_rows h.rows
  have ha := h.arle
  have hs1 : p * ar ≤ (p + 1) * ar := Nat.mul_le_mul_right _ (by omega)
  have hs2 : (p + 1) * ar ≤ T.length * ar := Nat.mul_le_mul_right _ (by omega)
  have hs3 : T.length * ar ≤ 68719476736 * 16 := Nat.mul_le_mul hT ha
  have hs4 : (p + 1) * ar = p * ar + ar := by rw [Nat.add_mul, Nat.one_mul]
  have hm2 := mul_wrap64 (p + 1) ar (by omega)
  rw [Int.natCast_add] at hm2
  have hm1 : (p : Int) * (ar : Int) = ((p * ar : Nat) : Int) := (Int.natCast_mul p ar).symm
  have hrow := fun j hj => flat_row h.rows hp j hj
  have c0 := h.box.c0
  have c2 := h.box.c2
  obtain ⟨a6, b6, c6, hc6, ha6, hnone, hcap, hI⟩ : ∃ a6 b6 c6, vv = .slice a6 T.flatten.length c6 ∧ (∀ x, a6 = some x → x = ⟨b6, 0, none⟩) ∧ (a6 = none → T.flatten.length = 0 ∧ c6 = 0) ∧ (T.flatten.length ≤ c6 ∧ c6 ≤ maxLen) ∧ IntsS W a6 b6 0 T.flatten := by
    obtain ⟨a6, b6, c6, rfl, hI⟩ := h.vals.ints
    rcases h.vals.2 with ⟨hx, h0⟩ | ⟨g, c9, cur, hx, _, _, k1, k2, _⟩
    · simp only [Value.slice.injEq] at hx
      obtain ⟨rfl, h1, rfl⟩ := hx
      exact ⟨none, b6, 0, rfl, fun x hx => by simp at hx, fun _ => ⟨h1, rfl⟩, ⟨by omega, by unfold maxLen; omega⟩, hI⟩
    · simp only [Value.slice.injEq] at hx
      obtain ⟨rfl, _, rfl⟩ := hx
      refine ⟨_, g, c6, rfl, fun x hx => (Option.some.inj hx).symm, fun hx => by simp at hx, ⟨k1, k2⟩, ?_⟩
      by_cases h0 : 0 < T.flatten.length
      · have := hI.1 h0
        simp only [Option.some.injEq, Addr.mk.injEq, and_true] at this
        rw [this]; rw [this] at hI; exact hI
      · exact ⟨fun q => absurd q h0, fun j hj => absurd (Nat.lt_of_le_of_lt (Nat.zero_le j) hj) h0⟩
  subst hc6
  rw [htl]
  rw [hfl] at c2 hnone hcap
  have HV : Hid (∀ (a : Option Addr) (o : Nat), (ar = 0 ∨ (a = some ⟨b6, o, none⟩ ∧ o = p * ar)) → ∀ d, IntsS (W.drewN d) a b6 o t) := fun a o hq d => by
    refine ⟨fun h0 => ?_, fun j hj => ?_⟩
    · rcases hq with hq | hq
      · omega
      · exact hq.1
    · have h1 := hrow j (by omega)
      have h2 : p * ar + j < T.flatten.length := by rw [hfl]; omega
      have h3 := hI.2 (p * ar + j) h2
      rw [List.getElem?_eq_getElem h2, List.getElem?_eq_getElem hj] at h1
      rcases hq with hq | hq
      · omega
      · rw [hq.2, ← Option.some.inj h1, ← h3, Nat.zero_add]
        rfl
  have HW : Hid (RowKit.wrap64 (RowKit.wrap64 ((p : Int) + 1) * (ar : Int)) = (((p + 1) * ar : Nat) : Int)) := by
    show RowKit.wrap64 (RowKit.wrap64 ((p : Int) + 1) * (ar : Int)) = (((p + 1) * ar : Nat) : Int)
    rw [show RowKit.wrap64 ((p : Int) + 1) = (p : Int) + 1 by unfold RowKit.wrap64; omega]
    exact hm2
  clear h hI hrow hp hfl hpl hm2
  generalize T.length * ar = n6 at c2 hnone hcap hs2 hs3
  generalize (p + 1) * ar = e6 at hs1 hs2 hs4 HW
  generalize p * ar = s6 at hs1 hs4 hm1 HV
  obtain ⟨hcap1, hcap2⟩ := hcap
  unfold maxLen at hcap2
  go_enter Try.func51, Try.ntmps51
  go_wp2_with fail
  go_quiet (fail)
  rw [HW.out]
  cases a6 with
  | none =>
    obtain ⟨rfl, rfl⟩ := hnone rfl
    obtain rfl : 0 = e6 := by omega
    obtain rfl : 0 = s6 := by omega
    have ha0 : ar = 0 := by omega
    clear hs1 hs2 hs3 hs4 hcap1 hcap2 HW
    go_wp2_with fail
    go_ret
    exact ⟨none, ⟨0, by simp⟩, ⟨b6, 0, HV.out none 0 (.inl ha0) nq⟩, nq, rfl⟩
  | some ad =>
    obtain rfl := ha6 ad rfl
    have e1 : e6 ≤ 1152921504606846976 := by omega
    have e2 : e6 - s6 = ar := by omega
    clear HW ha6 hnone
    go_wp2_with fail
    all_goals go_ret
    all_goals first
      | exact ⟨some ⟨b6, s6, none⟩, ⟨ar, rfl⟩, ⟨b6, s6, HV.out _ _ (.inr ⟨rfl, rfl⟩) nq⟩, nq, rfl⟩
      | (have ha0 : ar = 0 := by omega
         exact ⟨some ⟨b6, 0, none⟩, ⟨0, by rw [ha0]; rfl⟩, ⟨b6, 0, HV.out _ 0 (.inl ha0) nq⟩, nq, rfl⟩)
end
end Go.Proofs.Ytnhmjheipfopoaa.L
