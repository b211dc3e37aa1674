/- Add's loop over the map of lookups, round by round. -/
import Derived.Test.YtnhmjheipfopoaaL5j
namespace Go.Proofs.Ytnhmjheipfopoaa.L
open Go.RowKit Go.Maps Go.Shelf Go.Proofs.Ytnhmjheipfopoaa

/-- What Add's loop may turn. -/
def AS (L : List (Nat × Nat)) (Fs : Nat → Nat → Prop) (base r k : Nat) : Prop := (∃ c x, lkp L c = some x ∧ Fs x k) ∨ base ≤ k ∨ k = r
/-- Between two rounds, with the walk over the map. -/
def AL (V : World) (r rb ar : Nat) (T : List (List Int)) (t : List Int) (vv : Value) (mb : Nat) (L : List (Nat × Nat)) (Fs : Nat → Nat → Prop) (D : DataW Unit) (left : Lit → Bool) (cnt : Nat) (Y : World) : Prop :=
  ∃ G, Y.ranges Try.prog 64 ptrE mb r L.length D left cnt ∧ (∀ kl, left kl = true → has D kl = true) ∧ Jn V.heap.size rb ar T t vv mb L Fs (fun c => left (keyR c)) G Y ∧ Turn (AS L Fs V.heap.size r) V Y
structure Ac (V : World) (r rb : Nat) (T : List (List Int)) (t : List Int) (vv : Value) (mb : Nat) (L : List (Nat × Nat)) (Fs : Nat → Nat → Prop) (D : DataW Unit) (b o : Nat) : Prop where
  jc : Jc V.heap.size rb mb vv L Fs
  rr : r < V.heap.size ∧ r ≠ rb ∧ r ≠ mb ∧ (∀ k, vv.ownBlock = some k → k ≠ r) ∧ ∀ c x, lkp L c = some x → ∀ k, Fs x k → k ≠ r
  ints : IntsS V (some ⟨b, o, none⟩) b o t
  out : ¬ AS L Fs V.heap.size r b
  len : T.length + 1 ≤ 68719476736 ∧ t.length ≤ maxLen
  wide : ∀ c x, lkp L c = some x → c < 65536 ∧ Lib.bitLen c ≤ t.length
  has1 : ∀ c, c < 65536 → has D (keyR c) = (lkp L c).isSome
  at1 : ∀ c, c < 65536 → D.atKey (keyR c) (.lit (.int .i64 (-1))) = .lit (.int .i64 (encP (lkp L c)))
  all : ∀ kl, has D kl = true → ∃ c x, c < 65536 ∧ kl = keyR c ∧ lkp L c = some x

section
variable {V : World} {r rb ar : Nat} {T : List (List Int)} {t : List Int} {vv : Value} {mb : Nat} {L : List (Nat × Nat)} {Fs : Nat → Nat → Prop} {D : DataW Unit} {b o : Nat} {left : Lit → Bool} {cnt : Nat} {Y : World}

theorem AL.begin (hc : Ac V r rb T t vv mb L Fs D b o) (hr : V.ranges Try.prog 64 ptrE mb r L.length D (has D) cnt) (h1 : RBox V rb ar (T.length + 1) vv mb) (h2 : OwnI 0 V vv (T ++ [t]).flatten) (h3 : LkM V mb L) (h4 : ∀ c x, lkp L c = some x → LkS V (Fs x) x c T) (h5 : ∀ c x d y, lkp L c = some x → lkp L d = some y → c ≠ d → ∀ k, Fs x k → ¬ Fs y k) :
    AL V r rb ar T t vv mb L Fs D (has D) cnt V := by
  refine ⟨Fs, hr, fun kl h => h, ⟨h1, h2, h3, fun c x hx => ?_, fun c x _ k hk => .inl hk, h5⟩, Turn.refl _ _⟩
  have : has D (keyR c) = true := by rw [hc.has1 c (hc.wide c x hx).1, hx]; rfl
  rw [this]
  exact h4 c x hx

theorem AL.more (h : AL V r rb ar T t vv mb L Fs D left cnt Y) (hc : Ac V r rb T t vv mb L Fs D b o) {kl : Lit} {y : DataW Unit × List MemPlace} {q : Option Nat} {Z : World} {cnt' : Nat} (hleft : left kl = true) (hy : ptrE (mkP q) = some y) (hat : ∀ zd, D.atKey kl zd = y.1)
    (hrg : Z.ranges Try.prog 64 ptrE mb r L.length D (fun z => left z && !z.sameKey kl) cnt') (hg : Y.grownBy Z (some r)) (cap : Nat) :
    ∃ xb, q = some xb ∧ Calls Try.prog 43 #[.pointer (some ⟨xb, 0, none⟩), .slice (some ⟨b, o, none⟩) t.length cap, .int .i64 T.length] Z fun e w' => e = .returned (.tuple #[]) ∧ AL V r rb ar T t vv mb L Fs D (fun z => left z && !z.sameKey kl) cnt' w' := by
  obtain ⟨G, hr0, hlh, hJ, hT⟩ := h
  obtain ⟨c, xb, hc6, rfl, hx⟩ := hc.all kl (hlh kl hleft)
  have hq : q = some xb := by
    obtain ⟨q', hq1, hq2⟩ := ptrE_inv hy
    have h1 := hat (.lit (.int .i64 (-1)))
    rw [hc.at1 c hc6, hx] at h1
    rw [ptrE_mk] at hy
    have h2 := Option.some.inj hy
    rw [← h2] at h1
    simp only [DataW.lit.injEq, Lit.int.injEq, true_and] at h1
    exact (encP_inj h1).symm
  subst hq
  refine ⟨xb, rfl, ?_⟩
  have hsz := hT.size
  have hYZ : Turn (fun k => k = r) Y Z := ⟨hg.os, hg.tape, hg.output, hg.size, fun k hk hn => hg.block k hk (fun e => hn (Option.some.inj e))⟩
  have hfarR : ∀ d z, lkp L d = some z → ∀ k, G z k → k ≠ r := fun d z hz k hk => by
    rcases hJ.sub d z hz k hk with h1 | h1
    · exact hc.rr.2.2.2.2 d z hz k h1
    · have := hc.rr.1; omega
  have hJZ : Jn V.heap.size rb ar T t vv mb L Fs (fun c => left (keyR c)) G Z :=
    ⟨hYZ.heap hJ.box (fun e => hc.rr.2.1 e.symm), ownI_turn hJ.vals hYZ (fun k hk => hc.rr.2.2.2.1 k hk), hJ.map.turn hYZ (fun e => hc.rr.2.2.1 e.symm), fun d z hz => (hJ.looks d z hz).turn hYZ (fun k hk => hfarR d z hz k hk), hJ.sub, hJ.apart⟩
  have hTZ : Turn (AS L Fs V.heap.size r) V Z := hT.trans (hYZ.mono (fun _ _ e => .inr (.inr e)))
  have hLx := hJZ.looks c xb hx
  rw [if_pos hleft] at hLx
  have hIZ : IntsS Z (some ⟨b, o, none⟩) b o t := ints_turn hc.ints hTZ (fun _ => hc.out)
  refine (join_any hLx hc.len.1 _ b o cap t hIZ hc.len.2 (hc.wide c xb hx).2).mono ?_
  rintro e w' ⟨rfl, hL, ht⟩
  have hzs := hTZ.size
  refine ⟨rfl, _, ranges_turn hrg ht (fun e => (hJZ.far hc.jc hx _ e).2.1 rfl) (fun e => hfarR c xb hx _ e rfl), fun kl h => ?_, hJZ.step hc.jc hzs hx hL ht (fun d hd => ?_), hTZ.trans (ht.mono (fun k _ hk => ?_))⟩
  · simp only [Bool.and_eq_true] at h
    exact hlh kl h.1
  · obtain ⟨z, hz⟩ := Option.isSome_iff_exists.1 hd
    have hd6 := (hc.wide d z hz).1
    show (left (keyR d) && !(keyR d).sameKey (keyR c)) = (left (keyR d) && decide (d ≠ c))
    congr 1
    by_cases e : d = c
    · subst e
      have : (keyR d).sameKey (keyR d) = true := WideAt.sameKey_self (by simp [keyR, WideAt.IsKeyLit])
      simp [this]
    · cases hs : (keyR d).sameKey (keyR c) with
      | false => simp [e]
      | true => exact absurd (keyR_inj hd6 hc6 (WideAt.sameKey_eq hs)) e
  · rcases hJZ.sub c xb hx k hk with h1 | h1
    · exact .inl ⟨c, xb, hx, h1⟩
    · exact .inr (.inl h1)

theorem AL.ranges (h : AL V r rb ar T t vv mb L Fs D left cnt Y) : Y.ranges Try.prog 64 ptrE mb r L.length D left cnt := by
  obtain ⟨G, h, _⟩ := h
  exact h

theorem AL.turn (h : AL V r rb ar T t vv mb L Fs D left cnt Y) : Turn (AS L Fs V.heap.size r) V Y := by
  obtain ⟨G, _, _, _, h⟩ := h
  exact h

/-- Behind the loop: the relation with one tuple more. -/
theorem AL.fin (h : AL V r rb ar T t vv mb L Fs D left cnt Y) (hc : Ac V r rb T t vv mb L Fs D b o) (hl : ∀ kl, left kl = false) (hr : ∀ s ∈ T, s.length = ar) (ht : t.length = ar) (ha : ar ≤ 16) (hn : T.Nodup) (hnt : t ∉ T) (hs : ∀ p ∈ L, p.1 < 2 ^ ar) (hnl : (L.map (·.1)).Nodup) (hm : rb ≠ mb ∧ ∀ k, vv.ownBlock = some k → k ≠ rb ∧ k ≠ mb)
    {F' : Nat → Prop} (hF : F' rb ∧ F' mb ∧ (∀ k, vv.ownBlock = some k → F' k) ∧ (∀ c x, lkp L c = some x → ∀ k, Fs x k → F' k) ∧ ∀ k, V.heap.size ≤ k → k < Y.heap.size → F' k) (hlt : ∀ k, F' k → k < Y.heap.size) :
    RelS Y F' rb ar (T ++ [t]) ∧ Turn (AS L Fs V.heap.size r) V Y := by
  obtain ⟨G, _, _, hJ, hT⟩ := h
  refine ⟨⟨vv, mb, L, G, hJ.done hc.jc (fun c _ => hl _) hr ht ha hn hnt hs hnl hm ⟨hF.1, hF.2.1, hF.2.2.1, fun c x hx k hk => ?_⟩ hlt⟩, hT⟩
  rcases hJ.sub c x hx k hk with h1 | h1
  · exact hF.2.2.2.1 c x hx k h1
  · exact hF.2.2.2.2 k h1 ((hJ.looks c x hx).lt k hk)
end
end Go.Proofs.Ytnhmjheipfopoaa.L
