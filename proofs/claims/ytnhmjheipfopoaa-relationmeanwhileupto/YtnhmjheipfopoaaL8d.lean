/- Add, while some list of places is gone through: its loop over the lookups. -/
import Derived.Test.YtnhmjheipfopoaaL8c
import Derived.Test.YtnhmjheipfopoaaL6e
namespace Go.Proofs.Ytnhmjheipfopoaa.L
open Go.RowKit Go.Maps Go.Shelf Go.Proofs.Ytnhmjheipfopoaa

/-- Between two rounds of Add's loop. -/
structure JnN (k0 n0 : Nat) (base rb ar : Nat) (T : List (List Int)) (t : List Int) (vv : Value) (mb : Nat) (L : List (Nat × Nat)) (Fs : Nat → Nat → Prop) (left : Nat → Bool) (G : Nat → Nat → Prop) (Y : World) : Prop where
  box : RBox Y rb ar (T.length + 1) vv mb
  vals : OwnI 0 Y vv (T ++ [t]).flatten
  map : LkM Y mb L
  looks : ∀ c x, lkp L c = some x → LkN Y (G x) x c (if left c then T else T ++ [t]) k0 n0
  sub : ∀ c x, lkp L c = some x → ∀ k, G x k → Fs x k ∨ base ≤ k
  apart : ∀ c x d y, lkp L c = some x → lkp L d = some y → c ≠ d → ∀ k, G x k → ¬ G y k
section
variable {k0 n0 : Nat} {base rb ar : Nat} {T : List (List Int)} {t : List Int} {vv : Value} {mb : Nat} {L : List (Nat × Nat)} {Fs G : Nat → Nat → Prop} {left : Nat → Bool} {Y Z : World}

theorem JnN.far (h : JnN k0 n0 base rb ar T t vv mb L Fs left G Y) (hc : Jc base rb mb vv L Fs) {c x : Nat} (hx : lkp L c = some x) : ∀ k, G x k → k ≠ rb ∧ k ≠ mb ∧ vv.ownBlock ≠ some k := by
  intro k hk
  rcases h.sub c x hx k hk with h1 | h1
  · exact ⟨(hc.fs c x hx k h1).1, (hc.fs c x hx k h1).2.1, (hc.fs c x hx k h1).2.2.1⟩
  · have h2 := hc.rbl
    have h3 := hc.mbl
    exact ⟨by omega, by omega, fun e => by have := hc.vvl k e; omega⟩

theorem JnN.step (h : JnN k0 n0 base rb ar T t vv mb L Fs left G Y) (hc : Jc base rb mb vv L Fs) (hbY : base ≤ Y.heap.size) {c x : Nat} (hx : lkp L c = some x) (hL : LkN Z (Grow (G x) Y.heap.size Z) x c (T ++ [t]) k0 n0) (ht : Turn (G x) Y Z) {left' : Nat → Bool} (hl : ∀ d, (lkp L d).isSome → left' d = (left d && decide (d ≠ c))) :
    JnN k0 n0 base rb ar T t vv mb L Fs left' (fun y => if y = x then Grow (G x) Y.heap.size Z else G y) Z := by
  have hfar := h.far hc hx
  have hne : ∀ d y, lkp L d = some y → d ≠ c → y ≠ x := by
    intro d y hy hd e
    subst e
    exact h.apart d y c y hy hx hd y (h.looks d y hy).lk.self (h.looks c y hx).lk.self
  refine ⟨ht.heap h.box (fun e => (hfar _ e).1 rfl), ownI_turn h.vals ht (fun k hk e => (hfar _ e).2.2 hk), h.map.turn ht (fun e => (hfar _ e).2.1 rfl), ?_, ?_, ?_⟩
  · intro d y hy
    by_cases hd : d = c
    · subst hd
      rw [hx] at hy
      obtain rfl := Option.some.inj hy
      have : left' d = false := by rw [hl d (by rw [hx]; rfl)]; simp
      rw [this]
      simpa using hL
    · have h1 : left' d = left d := by rw [hl d (by rw [hy]; rfl)]; simp [hd]
      rw [h1]
      have h2 := hne d y hy hd
      simp only [h2, if_false]
      exact (h.looks d y hy).turn ht (fun k hk => h.apart d y c x hy hx hd k hk)
  · intro d y hy k hk
    by_cases e : y = x
    · rw [if_pos e] at hk
      subst e
      rcases hk with hk | hk
      · exact h.sub d y hy k hk
      · exact .inr (by omega)
    · rw [if_neg e] at hk
      exact h.sub d y hy k hk
  · intro d y d' y' hy hy' hdd k hk
    by_cases e : y = x
    · have hdc : d = c := Classical.byContradiction fun hd => hne d y hy hd e
      have hne' := hne d' y' hy' (fun q => hdd (hdc.trans q.symm))
      rw [if_pos e] at hk
      rw [if_neg hne']
      rcases hk with hk | hk
      · subst hdc; exact h.apart d x d' y' hx hy' hdd k hk
      · intro hk2
        have := (h.looks d' y' hy').lk.lt k hk2
        omega
    · rw [if_neg e] at hk
      by_cases e' : y' = x
      · rw [if_pos e']
        have hdc : d' = c := Classical.byContradiction fun hd => hne d' y' hy' hd e'
        rintro (hk2 | hk2)
        · subst hdc; exact h.apart d y d' x hy hx hdd k hk hk2
        · have := (h.looks d y hy).lk.lt k hk
          omega
      · rw [if_neg e']
        exact h.apart d y d' y' hy hy' hdd k hk

/-- Behind the loop. -/
theorem JnN.done (h : JnN k0 n0 base rb ar T t vv mb L Fs left G Y) (hc : Jc base rb mb vv L Fs) (hl : ∀ c, (lkp L c).isSome → left c = false) (hr : ∀ s ∈ T, s.length = ar) (ht : t.length = ar) (ha : ar ≤ 16) (hn : T.Nodup) (hnt : t ∉ T) (hs : ∀ p ∈ L, p.1 < 2 ^ ar) (hnl : (L.map (·.1)).Nodup) (hm : rb ≠ mb ∧ ∀ k, vv.ownBlock = some k → k ≠ rb ∧ k ≠ mb)
    {F' : Nat → Prop} (hF : F' rb ∧ F' mb ∧ (∀ k, vv.ownBlock = some k → F' k) ∧ ∀ c x, lkp L c = some x → ∀ k, G x k → F' k) (hlt : ∀ k, F' k → k < Y.heap.size) : Rl Y F' rb ar (T ++ [t]) vv mb L G ∧ ∀ c x, lkp L c = some x → LkN Y (G x) x c (T ++ [t]) k0 n0 := by
  have hlk : ∀ c x, lkp L c = some x → LkN Y (G x) x c (T ++ [t]) k0 n0 := by
    intro c x hx
    have := h.looks c x hx
    rw [hl c (by rw [hx]; rfl)] at this
    simpa using this
  refine ⟨⟨by have := h.box; rw [List.length_append, List.length_singleton]; exact this, h.vals, ?_, ha, ?_, h.map, hs, hnl, ?_, h.apart, ⟨hm.1, hm.2, fun c x hx => h.far hc hx⟩, hF, hlt⟩, hlk⟩
  · intro s hs
    rcases List.mem_append.1 hs with hs | hs
    · exact hr s hs
    · rw [List.mem_singleton.1 hs]; exact ht
  · refine List.nodup_append.2 ⟨hn, List.nodup_cons.2 ⟨by simp, List.nodup_nil⟩, fun a ha' b hb e => ?_⟩
    rw [List.mem_singleton] at hb
    subst hb; subst e; exact hnt ha'
  · exact fun c x hx => (hlk c x hx).lk

end

/-- Between two rounds, with the walk over the map. -/
def ALN (k0 n0 : Nat) (V : World) (r rb ar : Nat) (T : List (List Int)) (t : List Int) (vv : Value) (mb : Nat) (L : List (Nat × Nat)) (Fs : Nat → Nat → Prop) (D : DataW Unit) (left : Lit → Bool) (cnt : Nat) (Y : World) : Prop :=
  ∃ G, Y.ranges Try.prog 64 ptrE mb r L.length D left cnt ∧ (∀ kl, left kl = true → has D kl = true) ∧ JnN k0 n0 V.heap.size rb ar T t vv mb L Fs (fun c => left (keyR c)) G Y ∧ Turn (AS L Fs V.heap.size r) V Y ∧ KeepC k0 n0 V Y
section
variable {k0 n0 : Nat} {V : World} {r rb ar : Nat} {T : List (List Int)} {t : List Int} {vv : Value} {mb : Nat} {L : List (Nat × Nat)} {Fs : Nat → Nat → Prop} {D : DataW Unit} {b o : Nat} {left : Lit → Bool} {cnt : Nat} {Y : World}

theorem ALN.begin (hc : Ac V r rb T t vv mb L Fs D b o) (hr : V.ranges Try.prog 64 ptrE mb r L.length D (has D) cnt) (h1 : RBox V rb ar (T.length + 1) vv mb) (h2 : OwnI 0 V vv (T ++ [t]).flatten) (h3 : LkM V mb L) (h4 : ∀ c x, lkp L c = some x → LkN V (Fs x) x c T k0 n0) (h5 : ∀ c x d y, lkp L c = some x → lkp L d = some y → c ≠ d → ∀ k, Fs x k → ¬ Fs y k) :
    ALN k0 n0 V r rb ar T t vv mb L Fs D (has D) cnt V := by
  refine ⟨Fs, hr, fun kl h => h, ⟨h1, h2, h3, fun c x hx => ?_, fun c x _ k hk => .inl hk, h5⟩, Turn.refl _ _, fun _ _ => rfl⟩
  have : has D (keyR c) = true := by rw [hc.has1 c (hc.wide c x hx).1, hx]; rfl
  rw [this]
  exact h4 c x hx

theorem ALN.more (hk0 : k0 < V.heap.size) (hkr : k0 ≠ r) (h : ALN k0 n0 V r rb ar T t vv mb L Fs D left cnt Y) (hc : Ac V r rb T t vv mb L Fs D b o) {kl : Lit} {y : DataW Unit × List MemPlace} {q : Option Nat} {Z : World} {cnt' : Nat} (hleft : left kl = true) (hy : ptrE (mkP q) = some y) (hat : ∀ zd, D.atKey kl zd = y.1)
    (hrg : Z.ranges Try.prog 64 ptrE mb r L.length D (fun z => left z && !z.sameKey kl) cnt') (hg : Y.grownBy Z (some r)) (cap : Nat) :
    ∃ xb, q = some xb ∧ Calls Try.prog 43 #[.pointer (some ⟨xb, 0, none⟩), .slice (some ⟨b, o, none⟩) t.length cap, .int .i64 T.length] Z fun e w' => e = .returned (.tuple #[]) ∧ ALN k0 n0 V r rb ar T t vv mb L Fs D (fun z => left z && !z.sameKey kl) cnt' w' := by
  obtain ⟨G, hr0, hlh, hJ, hT, hK⟩ := h
  obtain ⟨c, xb, hc6, rfl, hx⟩ := hc.all kl (hlh kl hleft)
  have hq : q = some xb := by
    obtain ⟨q', hq1, hq2⟩ := ptrE_inv hy
    have h1 := hat (.lit (.int .i64 (-1)))
    rw [hc.at1 c hc6, hx] at h1
    rw [ptrE_mk] at hy
    have h2 := Option.some.inj hy
    rw [← h2] at h1
    simp only [DataW.lit.injEq, Lit.int.injEq, true_and] at h1
    exact (encP_inj h1).symm
  subst hq
  refine ⟨xb, rfl, ?_⟩
  have hsz := hT.size
  have hYZ : Turn (fun k => k = r) Y Z := ⟨hg.os, hg.tape, hg.output, hg.size, fun k hk hn => hg.block k hk (fun e => hn (Option.some.inj e))⟩
  have hfarR : ∀ d z, lkp L d = some z → ∀ k, G z k → k ≠ r := fun d z hz k hk => by
    rcases hJ.sub d z hz k hk with h1 | h1
    · exact hc.rr.2.2.2.2 d z hz k h1
    · have := hc.rr.1; omega
  have hJZ : JnN k0 n0 V.heap.size rb ar T t vv mb L Fs (fun c => left (keyR c)) G Z :=
    ⟨hYZ.heap hJ.box (fun e => hc.rr.2.1 e.symm), ownI_turn hJ.vals hYZ (fun k hk => hc.rr.2.2.2.1 k hk), hJ.map.turn hYZ (fun e => hc.rr.2.2.1 e.symm), fun d z hz => (hJ.looks d z hz).turn hYZ (fun k hk => hfarR d z hz k hk), hJ.sub, hJ.apart⟩
  have hTZ : Turn (AS L Fs V.heap.size r) V Z := hT.trans (hYZ.mono (fun _ _ e => .inr (.inr e)))
  have hLx := hJZ.looks c xb hx
  rw [if_pos hleft] at hLx
  have hIZ : IntsS Z (some ⟨b, o, none⟩) b o t := ints_turn hc.ints hTZ (fun _ => hc.out)
  refine (join_anyN (Nat.lt_of_lt_of_le hk0 hTZ.size) hLx hc.len.1 _ b o cap t hIZ hc.len.2 (hc.wide c xb hx).2).mono ?_
  rintro e w' ⟨rfl, hL, ht, hkc⟩
  have hzs := hTZ.size
  refine ⟨rfl, _, ranges_turn hrg ht (fun e => (hJZ.far hc.jc hx _ e).2.1 rfl) (fun e => hfarR c xb hx _ e rfl), fun kl h => ?_, hJZ.step hc.jc hzs hx hL ht (fun d hd => ?_), hTZ.trans (ht.mono (fun k _ hk => ?_)), (hK.trans (KeepC.turn hYZ (Nat.lt_of_lt_of_le hk0 hsz) hkr)).trans hkc⟩
  · simp only [Bool.and_eq_true] at h
    exact hlh kl h.1
  · obtain ⟨z, hz⟩ := Option.isSome_iff_exists.1 hd
    have hd6 := (hc.wide d z hz).1
    show (left (keyR d) && !(keyR d).sameKey (keyR c)) = (left (keyR d) && decide (d ≠ c))
    congr 1
    by_cases e : d = c
    · subst e
      have : (keyR d).sameKey (keyR d) = true := WideAt.sameKey_self (by simp [keyR, WideAt.IsKeyLit])
      simp [this]
    · cases hs : (keyR d).sameKey (keyR c) with
      | false => simp [e]
      | true => exact absurd (keyR_inj hd6 hc6 (WideAt.sameKey_eq hs)) e
  · rcases hJZ.sub c xb hx k hk with h1 | h1
    · exact .inl ⟨c, xb, hx, h1⟩
    · exact .inr (.inl h1)

theorem ALN.ranges (h : ALN k0 n0 V r rb ar T t vv mb L Fs D left cnt Y) : Y.ranges Try.prog 64 ptrE mb r L.length D left cnt := by
  obtain ⟨G, h, _⟩ := h
  exact h

theorem ALN.turn (h : ALN k0 n0 V r rb ar T t vv mb L Fs D left cnt Y) : Turn (AS L Fs V.heap.size r) V Y := by
  obtain ⟨G, _, _, _, h, _⟩ := h
  exact h

/-- Behind the loop: the relation with one tuple more. -/
theorem ALN.fin (h : ALN k0 n0 V r rb ar T t vv mb L Fs D left cnt Y) (hc : Ac V r rb T t vv mb L Fs D b o) (hl : ∀ kl, left kl = false) (hr : ∀ s ∈ T, s.length = ar) (ht : t.length = ar) (ha : ar ≤ 16) (hn : T.Nodup) (hnt : t ∉ T) (hs : ∀ p ∈ L, p.1 < 2 ^ ar) (hnl : (L.map (·.1)).Nodup) (hm : rb ≠ mb ∧ ∀ k, vv.ownBlock = some k → k ≠ rb ∧ k ≠ mb)
    {F' : Nat → Prop} (hF : F' rb ∧ F' mb ∧ (∀ k, vv.ownBlock = some k → F' k) ∧ (∀ c x, lkp L c = some x → ∀ k, Fs x k → F' k) ∧ ∀ k, V.heap.size ≤ k → k < Y.heap.size → F' k) (hlt : ∀ k, F' k → k < Y.heap.size) :
    (∃ G, Rl Y F' rb ar (T ++ [t]) vv mb L G ∧ ∀ c x, lkp L c = some x → LkN Y (G x) x c (T ++ [t]) k0 n0) ∧ Turn (AS L Fs V.heap.size r) V Y ∧ KeepC k0 n0 V Y := by
  obtain ⟨G, _, _, hJ, hT, hK⟩ := h
  refine ⟨⟨G, hJ.done hc.jc (fun c _ => hl _) hr ht ha hn hnt hs hnl hm ⟨hF.1, hF.2.1, hF.2.2.1, fun c x hx k hk => ?_⟩ hlt⟩, hT, hK⟩
  rcases hJ.sub c x hx k hk with h1 | h1
  · exact hF.2.2.2.1 c x hx k h1
  · exact hF.2.2.2.2 k h1 ((hJ.looks c x hx).lk.lt k hk)
end
end Go.Proofs.Ytnhmjheipfopoaa.L
