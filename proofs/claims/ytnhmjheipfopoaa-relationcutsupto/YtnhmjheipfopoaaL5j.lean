/- Add, plainly: the tuple is joined to each lookup. -/
import Derived.Test.YtnhmjheipfopoaaL5m
namespace Go.Proofs.Ytnhmjheipfopoaa.L
open Go.RowKit Go.Maps Go.Shelf Go.Proofs.Ytnhmjheipfopoaa

/-- Between two rounds of Add's loop. -/
structure Jn (base rb ar : Nat) (T : List (List Int)) (t : List Int) (vv : Value) (mb : Nat) (L : List (Nat × Nat)) (Fs : Nat → Nat → Prop) (left : Nat → Bool) (G : Nat → Nat → Prop) (Y : World) : Prop where
  box : RBox Y rb ar (T.length + 1) vv mb
  vals : OwnI 0 Y vv (T ++ [t]).flatten
  map : LkM Y mb L
  looks : ∀ c x, lkp L c = some x → LkS Y (G x) x c (if left c then T else T ++ [t])
  sub : ∀ c x, lkp L c = some x → ∀ k, G x k → Fs x k ∨ base ≤ k
  apart : ∀ c x d y, lkp L c = some x → lkp L d = some y → c ≠ d → ∀ k, G x k → ¬ G y k
/-- What stays so. -/
structure Jc (base rb mb : Nat) (vv : Value) (L : List (Nat × Nat)) (Fs : Nat → Nat → Prop) : Prop where
  rbl : rb < base
  mbl : mb < base
  vvl : ∀ k, vv.ownBlock = some k → k < base
  fs : ∀ c x, lkp L c = some x → ∀ k, Fs x k → k ≠ rb ∧ k ≠ mb ∧ vv.ownBlock ≠ some k ∧ k < base

section
variable {base rb ar : Nat} {T : List (List Int)} {t : List Int} {vv : Value} {mb : Nat} {L : List (Nat × Nat)} {Fs G : Nat → Nat → Prop} {left : Nat → Bool} {Y Z : World}

theorem Jn.far (h : Jn base rb ar T t vv mb L Fs left G Y) (hc : Jc base rb mb vv L Fs) {c x : Nat} (hx : lkp L c = some x) : ∀ k, G x k → k ≠ rb ∧ k ≠ mb ∧ vv.ownBlock ≠ some k := by
  intro k hk
  rcases h.sub c x hx k hk with h1 | h1
  · exact ⟨(hc.fs c x hx k h1).1, (hc.fs c x hx k h1).2.1, (hc.fs c x hx k h1).2.2.1⟩
  · have h2 := hc.rbl
    have h3 := hc.mbl
    exact ⟨by omega, by omega, fun e => by have := hc.vvl k e; omega⟩

theorem Jn.step (h : Jn base rb ar T t vv mb L Fs left G Y) (hc : Jc base rb mb vv L Fs) (hbY : base ≤ Y.heap.size) {c x : Nat} (hx : lkp L c = some x) (hL : LkS Z (Grow (G x) Y.heap.size Z) x c (T ++ [t])) (ht : Turn (G x) Y Z) {left' : Nat → Bool} (hl : ∀ d, (lkp L d).isSome → left' d = (left d && decide (d ≠ c))) :
    Jn base rb ar T t vv mb L Fs left' (fun y => if y = x then Grow (G x) Y.heap.size Z else G y) Z := by
  have hfar := h.far hc hx
  have hne : ∀ d y, lkp L d = some y → d ≠ c → y ≠ x := by
    intro d y hy hd e
    subst e
    exact h.apart d y c y hy hx hd y (h.looks d y hy).self (h.looks c y hx).self
  refine ⟨ht.heap h.box (fun e => (hfar _ e).1 rfl), ownI_turn h.vals ht (fun k hk e => (hfar _ e).2.2 hk), h.map.turn ht (fun e => (hfar _ e).2.1 rfl), ?_, ?_, ?_⟩
  · intro d y hy
    by_cases hd : d = c
    · subst hd
      rw [hx] at hy
      obtain rfl := Option.some.inj hy
      have : left' d = false := by rw [hl d (by rw [hx]; rfl)]; simp
      rw [this]
      simpa using hL
    · have h1 : left' d = left d := by rw [hl d (by rw [hy]; rfl)]; simp [hd]
      rw [h1]
      have h2 := hne d y hy hd
      simp only [h2, if_false]
      exact (h.looks d y hy).turn ht (fun k hk => h.apart d y c x hy hx hd k hk)
  · intro d y hy k hk
    by_cases e : y = x
    · rw [if_pos e] at hk
      subst e
      rcases hk with hk | hk
      · exact h.sub d y hy k hk
      · exact .inr (by omega)
    · rw [if_neg e] at hk
      exact h.sub d y hy k hk
  · intro d y d' y' hy hy' hdd k hk
    by_cases e : y = x
    · have hdc : d = c := Classical.byContradiction fun hd => hne d y hy hd e
      have hne' := hne d' y' hy' (fun q => hdd (hdc.trans q.symm))
      rw [if_pos e] at hk
      rw [if_neg hne']
      rcases hk with hk | hk
      · subst hdc; exact h.apart d x d' y' hx hy' hdd k hk
      · intro hk2
        have := (h.looks d' y' hy').lt k hk2
        omega
    · rw [if_neg e] at hk
      by_cases e' : y' = x
      · rw [if_pos e']
        have hdc : d' = c := Classical.byContradiction fun hd => hne d' y' hy' hd e'
        rintro (hk2 | hk2)
        · subst hdc; exact h.apart d y d' x hy hx hdd k hk hk2
        · have := (h.looks d y hy).lt k hk
          omega
      · rw [if_neg e']
        exact h.apart d y d' y' hy hy' hdd k hk

/-- Behind the loop. -/
theorem Jn.done (h : Jn base rb ar T t vv mb L Fs left G Y) (hc : Jc base rb mb vv L Fs) (hl : ∀ c, (lkp L c).isSome → left c = false) (hr : ∀ s ∈ T, s.length = ar) (ht : t.length = ar) (ha : ar ≤ 16) (hn : T.Nodup) (hnt : t ∉ T) (hs : ∀ p ∈ L, p.1 < 2 ^ ar) (hnl : (L.map (·.1)).Nodup) (hm : rb ≠ mb ∧ ∀ k, vv.ownBlock = some k → k ≠ rb ∧ k ≠ mb)
    {F' : Nat → Prop} (hF : F' rb ∧ F' mb ∧ (∀ k, vv.ownBlock = some k → F' k) ∧ ∀ c x, lkp L c = some x → ∀ k, G x k → F' k) (hlt : ∀ k, F' k → k < Y.heap.size) : Rl Y F' rb ar (T ++ [t]) vv mb L G := by
  refine ⟨by have := h.box; rw [List.length_append, List.length_singleton]; exact this, h.vals, ?_, ha, ?_, h.map, hs, hnl, ?_, h.apart, ⟨hm.1, hm.2, fun c x hx => h.far hc hx⟩, hF, hlt⟩
  · intro s hs
    rcases List.mem_append.1 hs with hs | hs
    · exact hr s hs
    · rw [List.mem_singleton.1 hs]; exact ht
  · refine List.nodup_append.2 ⟨hn, List.nodup_cons.2 ⟨by simp, List.nodup_nil⟩, fun a ha' b hb e => ?_⟩
    rw [List.mem_singleton] at hb
    subst hb; subst e; exact hnt ha'
  · intro c x hx
    have := h.looks c x hx
    rw [hl c (by rw [hx]; rfl)] at this
    simpa using this

/-- A walk over a map whose two blocks stay. -/
theorem ranges_turn {S : Nat → Prop} {b r n cnt : Nat} {D : DataW Unit} {lf : Lit → Bool} (h : Y.ranges Try.prog 64 ptrE b r n D lf cnt) (ht : Turn S Y Z) (hb : ¬ S b) (hr : ¬ S r) : Z.ranges Try.prog 64 ptrE b r n D lf cnt := by
  obtain ⟨es, clock, since, seen, c0, h1, h2, h3, h4, h5, h6⟩ := h
  exact ⟨es, clock, since, seen, c0, ht.heap h1 hb, h2, h3, h4, ht.heap h5 hr, h6⟩
end
end Go.Proofs.Ytnhmjheipfopoaa.L
