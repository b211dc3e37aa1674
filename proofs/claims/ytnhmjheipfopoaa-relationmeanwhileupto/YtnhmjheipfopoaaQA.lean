/- Loops over functions that tell a list that is known. No function of the program here. -/
import Derived.Test.YtnhmjheipfopoaaA
import Derived.RangeFuncNested
import Derived.RangeFuncBound
import Derived.RangeFuncCalls
import Derived.RangeFuncLeaves
import Derived.RangeFuncBox
import Derived.Shelf.Abstract
import Derived.Shelf.RegionOpen
import Derived.OwnWalkIn
import Derived.TacticsInMore
import Derived.LoopNIn
import Derived.LoopIn
import Derived.Maps.OwnIn
namespace Go.Proofs.Ytnhmjheipfopoaa
open Go.RowKit Go.Maps Go.Shelf

/-- The blocks that S names are as they were. -/
def Holds (S : Nat → Prop) (A A' : World) : Prop := ∀ k, S k → A'.heap[k]? = A.heap[k]?
theorem Holds.trans {S : Nat → Prop} {A B C : World} (h : Holds S A B) (k : Holds S B C) : Holds S A C := fun i hi => (k i hi).trans (h i hi)
theorem Holds.mono {S S' : Nat → Prop} {A B : World} (h : Holds S A B) (hs : ∀ k, S' k → S k) : Holds S' A B := fun i hi => h i (hs i hi)
theorem Holds.refl (S : Nat → Prop) (A : World) : Holds S A A := fun _ _ => rfl
theorem Holds.of_below {S : Nat → Prop} {n : Nat} {A B : World} (h : Below n A B) (hs : ∀ k, S k → k < n) : Holds S A B := fun k hk => h.block k (hs k hk)

theorem yield_any {m m' : Nat} {P : Program} {l l' : Nat} {args : Array Value} {W : World} {R : Ending → World → Prop} (h : YieldAt Fence.wide m P l args W R) : YieldAt (Fence.wide.inRound l') m' P l args W R := by
  obtain ⟨fn, tmps, assign, body, hy, h1, h2⟩ := h
  exact ⟨fn, tmps, assign, body, hy, h1, fun c cs _ => h2 c cs (room_wide _)⟩
theorem yield_deep {m m' : Nat} {P : Program} {l : Nat} {args : Array Value} {W : World} {R : Ending → World → Prop} (h : YieldAt Fence.wide m P l args W R) : YieldAt Fence.wide m' P l args W R := by
  obtain ⟨fn, tmps, assign, body, hy, h1, h2⟩ := h
  exact ⟨fn, tmps, assign, body, hy, h1, fun c cs _ => h2 c cs (room_wide _)⟩

/-- A block whose cells are of a type that T names: such blocks are the rounds' own. -/
def Tyd (T : TypeId → Prop) (A : World) (i : Nat) : Prop := ∃ cs t f, A.heap[i]? = some (.cells cs t f) ∧ T t
/-- What has come since B and is not the rounds' own. -/
def Fr (T : TypeId → Prop) (B : Nat) (A : World) (i : Nat) : Prop := B ≤ i ∧ i < A.heap.size ∧ ¬ Tyd T A i
theorem Tyd.same {T : TypeId → Prop} {A A' : World} {i : Nat} (h : A'.heap[i]? = A.heap[i]?) : Tyd T A' i ↔ Tyd T A i := by unfold Tyd; rw [h]
theorem not_tyd {T : TypeId → Prop} {A : World} {i : Nat} {cs : Array Value} {t : TypeId} {f : Nat × Nat} (h : A.heap[i]? = some (.cells cs t f)) (hT : ¬ T t) : ¬ Tyd T A i := by
  rintro ⟨cs', t', f', h', ht⟩
  rw [h] at h'
  cases h'
  exact hT ht
theorem not_tyd_o {T : TypeId → Prop} {A : World} {i : Nat} {o : Obj} (h : A.heap[i]? = some o) (ho : o.isCells = false) : ¬ Tyd T A i := by
  rintro ⟨cs', t', f', h', ht⟩
  rw [h] at h'
  cases h'
  simp [Obj.isCells] at ho
/-- Nothing below n is turned, and none of the rounds' own. -/
def Bel (T : TypeId → Prop) (n : Nat) (A A' : World) : Prop := Below n A A' ∧ ∀ i, Tyd T A i → A'.heap[i]? = A.heap[i]?
theorem Bel.refl (T : TypeId → Prop) (n : Nat) (A : World) : Bel T n A A := ⟨Below.refl _ _, fun _ _ => rfl⟩
theorem Bel.trans {T : TypeId → Prop} {n : Nat} {A B C : World} (h : Bel T n A B) (k : Bel T n B C) : Bel T n A C := ⟨h.1.trans k.1, fun i hi => (k.2 i ((Tyd.same (h.2 i hi)).2 hi)).trans (h.2 i hi)⟩
theorem Bel.mono {T : TypeId → Prop} {n m : Nat} {A B : World} (h : Bel T n A B) (hm : m ≤ n) : Bel T m A B := ⟨Below.mono h.1 hm, h.2⟩
theorem Tyd.lt {T : TypeId → Prop} {A : World} {i : Nat} (h : Tyd T A i) : i < A.heap.size := by
  obtain ⟨_, _, _, h, _⟩ := h
  exact (Array.getElem?_eq_some_iff.1 h).1
theorem Bel.of_stay {T : TypeId → Prop} {n : Nat} {A B : World} (h : Stay A B) (hn : n ≤ A.heap.size) : Bel T n A B := ⟨Below.mono h hn, fun i hi => h.block i hi.lt⟩
theorem Bel.alloc (T : TypeId → Prop) (n : Nat) (A : World) (o : Obj) (hn : n ≤ A.heap.size) : Bel T n A (A.alloc o) := Bel.of_stay (Stay.new _ _) hn
theorem Bel.block {T : TypeId → Prop} {n : Nat} {A B : World} (h : Bel T n A B) (k : Nat) (hk : k < n) : B.heap[k]? = A.heap[k]? := h.1.block k hk
theorem Bel.size {T : TypeId → Prop} {n : Nat} {A B : World} (h : Bel T n A B) : A.heap.size ≤ B.heap.size := h.1.size
theorem Bel.put {T : TypeId → Prop} {n : Nat} {A : World} {l : Nat} {o : Obj} (o' : Obj) (h : A.heap[l]? = some o) (ho : o.isCells = false) (hn : n ≤ l) : Bel T n A (A.putObj l o') := by
  have g := grownBy_putObj' A l o'
  exact ⟨⟨g.os, g.tape, g.output, g.size, fun k hk => World.putObj_heap_other (by omega)⟩, fun i hi => World.putObj_heap_other (fun e => not_tyd_o h ho (e ▸ hi))⟩
theorem Bel.grown {T : TypeId → Prop} {n r : Nat} {A B : World} {o : Obj} (h : A.grownBy B (some r)) (ho : A.heap[r]? = some o) (hc : o.isCells = false) (hn : n ≤ A.heap.size) (hr : n ≤ r) : Bel T n A B :=
  ⟨⟨h.os, h.tape, h.output, h.size, fun k hk => h.block k (by omega) (fun e => by have := Option.some.inj e; omega)⟩, fun i hi => h.block i hi.lt (fun e => not_tyd_o ho hc (Option.some.inj e ▸ hi))⟩

/-- What a round must answer: it holds what Hs names and what came since W but is not its own, and says to go on, or to stop. -/
def Tells (T : TypeId → Prop) (Hs : Nat → Prop) (B : Nat) (J Jx : Nat → World → Prop) (k : Nat) (A : World) (e : Ending) (A' : World) : Prop :=
  Holds (fun i => Hs i ∨ Fr T B A i) A A' ∧ A.heap.size ≤ A'.heap.size ∧ ((e = .returned (.bool true) ∧ J (k + 1) A') ∨ (e = .returned (.bool false) ∧ Jx (k + 1) A'))

/-- What a function is for every loop over it: it tells xs one by one, and turns nothing that was there; if a round says no more, it ends. It reads what Hs names. -/
def SeqL {α : Type} (T : TypeId → Prop) (P : Program) (gf : Nat) (lb : Array Value) (encs : α → Array Value) (Hs : Nat → Prop) (xs : List α) (w : World) : Prop :=
  ∀ (l : Nat) (J Jx : Nat → World → Prop) (W : World), Stay w W → (∀ k A A', J k A → Bel T W.heap.size A A' → J k A') → (∀ k A A', Jx k A → Bel T W.heap.size A A' → Jx k A') →
    (∀ k (hk : k < xs.length) A, J k A → W.heap.size ≤ A.heap.size → YieldAt Fence.wide 0 P l (encs xs[k]) A (Tells T Hs W.heap.size J Jx k A)) →
    J 0 W → Calls P gf (#[.func (.yield l) #[] #[]] ++ lb) W fun e A => (∃ v, e = .returned v) ∧ (J xs.length A ∨ ∃ k, k < xs.length ∧ Jx (k + 1) A)
theorem SeqL.stay {α : Type} {T : TypeId → Prop} {P : Program} {gf : Nat} {lb : Array Value} {encs : α → Array Value} {Hs : Nat → Prop} {xs : List α} {w w' : World} (h : SeqL T P gf lb encs Hs xs w) (hs : Stay w w') : SeqL T P gf lb encs Hs xs w' :=
  fun l J Jx W hW => h l J Jx W (hs.trans hW)
theorem SeqL.mono {α : Type} {T : TypeId → Prop} {P : Program} {gf : Nat} {lb : Array Value} {encs : α → Array Value} {Hs Ht : Nat → Prop} {xs : List α} {w : World} (h : SeqL T P gf lb encs Hs xs w) (hb : ∀ i, Hs i → Ht i) : SeqL T P gf lb encs Ht xs w :=
  fun l J Jx W hW h1 h2 hY h0 => h l J Jx W hW h1 h2 (fun k hk A hJ hA => by
    obtain ⟨fn, tmps, assign, body, hy, hR⟩ := hY k hk A hJ hA
    exact ⟨fn, tmps, assign, body, hy, hR.mono fun e A' ht => ⟨ht.1.mono (fun i hi => hi.imp (hb i) id), ht.2⟩⟩) h0

/-- How a round's body may end. -/
def listPost (T : TypeId → Prop) (D : Nat) (Hs : Nat → Prop) (I : Nat → World → Prop) (Ix : Code → Nat → World → Prop) (k : Nat) (W : World) : Exit → Act → World → Prop
  | .normal, _, W' => Holds (fun i => Hs i ∨ Fr T D W i) W W' ∧ W.heap.size ≤ W'.heap.size ∧ I k W'
  | .ret, _, W' => Holds (fun i => Hs i ∨ Fr T D W i) W W' ∧ W.heap.size ≤ W'.heap.size ∧ Ix .ret k W'
  | .exit id, _, W' => Holds (fun i => Hs i ∨ Fr T D W i) W W' ∧ W.heap.size ≤ W'.heap.size ∧ Ix (.exit id) k W'
  | _, _, _ => False

theorem below_putObj (B : Nat) (A : World) (l : Nat) (o : Obj) (h : B ≤ l) : Below B A (A.putObj l o) := by
  have g := grownBy_putObj' A l o
  exact ⟨g.os, g.tape, g.output, g.size, fun k hk => World.putObj_heap_other (by omega)⟩

/-- The law: a loop over such a function. -/
theorem range_list {α : Type} {T : TypeId → Prop} {n : Nat} {P : Program} {g : Operand} {ps : Array Tmp} {assign body : Code} {Q : Exit → Act → World → Prop} {a : Act} {w : World}
    (h1 : 1 ≤ n) {gf : Nat} {lb : Array Value} (hg : a.eval g = .func (.func gf) #[] lb) (eg : ∀ args w, (callFunc gf args).run P w = .ok (.enter gf args) w)
    {encs : α → Array Value} {Hs : Nat → Prop} {xs : List α} (hseq : SeqL T P gf lb encs Hs xs w) (hHs : ∀ i, Hs i → i < w.heap.size) (hps : ∀ x, (encs x).size = ps.size)
    (I : Nat → World → Prop) (Ix : Code → Nat → World → Prop) (hI : ∀ k A A', I k A → Bel T w.heap.size A A' → I k A') (hIx : ∀ c k A A', Ix c k A → Bel T w.heap.size A A' → Ix c k A') (h0 : I 0 w) (wa : α → World → World) (hwa : ∀ x W, Stay W (wa x W)) (a1 : α → World → Act)
    (hassign : ∀ (l : Nat) (x : α) (W : World) (K : Act → World → Prop), K (a1 x W) (wa x W) →
      assign.wpIn (Fence.wide.inRound l) (n - 1 - 1) P (Exit.then K (fun _ _ _ => False)) { tmps := (ps.zip (encs x)).foldl (fun t (p, v) => t.setIfInBounds p v) a.tmps, defers := [] } W)
    (hbody : ∀ (l k : Nat) (hk : k < xs.length) (W X : World), I k X → (∃ o', X = (wa xs[k] W).putObj l o') → w.heap.size + 1 < W.heap.size → l = w.heap.size + 1 → w.heap.size + 1 < X.heap.size →
      body.wpIn (Fence.wide.inRound l) (n - 1 - 1) P (listPost T w.heap.size Hs I Ix (k + 1) X) (a1 xs[k] W) X)
    (hdone : ∀ W : World, I xs.length W → W.heap[w.heap.size]? = some (.deferred (some [])) → Q .normal { a with defers := { target := .collected w.heap.size, args := #[] } :: a.defers } W)
    (hstop : ∀ (c : Code) (k : Nat) (W : World), k < xs.length → Ix c (k + 1) W → W.heap[w.heap.size]? = some (.deferred (some [])) → c.wpIn Fence.wide n P Q { a with defers := { target := .collected w.heap.size, args := #[] } :: a.defers } W) :
    (Code.rangeFunc g ps assign body).wpIn Fence.wide n P Q a w := by
  refine wpIn_rangeFunc fun fn hfn => ?_
  rw [show Fence.wide.round = none from rfl]
  obtain ⟨rc, hrc⟩ : ∃ rc : LoopState → Option Code → Loop, rc = fun st pe => { state := st, pending := pe, fn, tmps := a.tmps, params := ps, assign, body, defers := w.heap.size } := ⟨_, rfl⟩
  obtain ⟨V, hV⟩ : ∃ V, (w.alloc (.deferred (some []))).alloc (.loop (rc .ready none)) = V := ⟨_, rfl⟩
  have sV : Stay w V := by rw [← hV]; exact (Stay.new _ _).alloc _
  have zV : V.heap.size = w.heap.size + 2 := by rw [← hV]; simp
  have lV : V.heap[w.heap.size + 1]? = some (.loop (rc .ready none)) := by
    rw [← hV]
    have := heap_new (w.alloc (.deferred (some []))) (.loop (rc .ready none))
    rwa [World.size_alloc] at this
  have dV : V.heap[w.heap.size]? = some (.deferred (some [])) := by
    rw [← hV]; exact (Below.heap_alloc _ _ _ (by simp)).trans (heap_new w _)
  have iV : I 0 V := hI 0 w V h0 (Bel.of_stay sV (Nat.le_refl _))
  refine ⟨w.heap.size + 1, [{ target := .collected w.heap.size, args := #[] }], V, { target := .fn (.func gf) lb, args := #[.func (.yield (w.heap.size + 1)) #[] #[]] }, V, gf, #[.func (.yield (w.heap.size + 1)) #[] #[]] ++ lb, V, ?_, ?_, ?_, ?_, fun _ => h1, ?_⟩
  · rw [← hV, hrc]; exact run_enterLoop_outer _ _ _ _ _
  · simp only [resolve, hg]
    simp [go_sem]
  · intro f' hf'; trivial
  · simp [invoke, go_sem, eg]
  refine (callsIn_wide.2 (hseq (w.heap.size + 1)
    (fun k A => I k A ∧ A.heap[w.heap.size + 1]? = some (.loop (rc .ready none)) ∧ A.heap[w.heap.size]? = some (.deferred (some [])))
    (fun k A => ∃ c, Ix c k A ∧ A.heap[w.heap.size + 1]? = some (.loop (rc .done (some c))) ∧ A.heap[w.heap.size]? = some (.deferred (some [])))
    V sV (fun k A A' ⟨hi, hl, hd⟩ ht => ⟨hI _ _ _ hi (ht.mono (by omega)), (ht.block _ (by omega)).trans hl, (ht.block _ (by omega)).trans hd⟩)
    (fun k A A' ⟨c, hi, hl, hd⟩ ht => ⟨c, hIx _ _ _ _ hi (ht.mono (by omega)), (ht.block _ (by omega)).trans hl, (ht.block _ (by omega)).trans hd⟩)
    (fun k hk A ⟨hi, hl, hd⟩ hVA => ?_) ⟨iV, lV, dV⟩)).mono ?_
  · -- one round
    have hsz : w.heap.size + 1 < A.heap.size := (Array.getElem?_eq_some_iff.1 hl).1
    have hy := run_yield (P := P) (args := encs xs[k]) hl (by rw [hrc]; exact hps xs[k])
    rw [hrc] at hy
    refine yield_deep (m := n - 1 - 1) ⟨fn, _, assign, body, hy, roundIn_of_wpIn hfn (hassign _ xs[k] A _ ?_)⟩
    have hst := hwa xs[k] A
    have hszA := hst.size
    have hl2 : (wa xs[k] A).heap[w.heap.size + 1]? = some (.loop (rc .ready none)) := (hst.block _ hsz).trans hl
    have hd2 : (wa xs[k] A).heap[w.heap.size]? = some (.deferred (some [])) := (hst.block _ (by omega)).trans hd
    refine ⟨_, run_beginRound hl2 (by rw [hrc]), ?_⟩
    obtain ⟨X, hX⟩ : ∃ X, X = (wa xs[k] A).putObj (w.heap.size + 1) (.loop { rc .ready none with state := .busy }) := ⟨_, rfl⟩
    have hl3 : X.heap[w.heap.size + 1]? = some (.loop { rc .ready none with state := .busy }) := by rw [hX]; exact World.putObj_heap_same (by omega)
    have hd3 : X.heap[w.heap.size]? = some (.deferred (some [])) := by rw [hX]; exact (World.putObj_heap_other (by omega)).trans hd2
    have hi3 : I k X := by
      rw [hX]
      exact hI _ _ _ (hI _ _ _ hi (Bel.of_stay hst (by omega))) (Bel.put _ hl2 rfl (by omega))
    have zX : X.heap.size = (wa xs[k] A).heap.size := by rw [hX]; simp [World.putObj]
    have hAX : ∀ i, i < A.heap.size → i ≠ w.heap.size + 1 → X.heap[i]? = A.heap[i]? := fun i hi hne => by
      rw [hX]; exact (World.putObj_heap_other (by omega)).trans (hst.block i hi)
    rw [← hX]
    have fin : ∀ (B : World) (o : Obj), Holds (fun i => Hs i ∨ Fr T w.heap.size X i) X B → Holds (fun i => Hs i ∨ Fr T V.heap.size A i) A (B.putObj (w.heap.size + 1) o) := fun B o hB i hi => by
      have hkA : i < A.heap.size ∧ i ≠ w.heap.size + 1 := by
        rcases hi with hi | hi
        · have := hHs i hi; omega
        · have h1 := hi.1; have h2 := hi.2.1; omega
      refine (World.putObj_heap_other (by omega)).trans ((hB i ?_).trans (hAX i hkA.1 hkA.2))
      rcases hi with hi | hi
      · exact .inl hi
      · exact .inr ⟨by have := hi.1; omega, by omega, fun hT => hi.2.2 ((Tyd.same (hAX i hkA.1 hkA.2)).1 hT)⟩
    have nl3 : Fr T w.heap.size X (w.heap.size + 1) := ⟨by omega, by omega, not_tyd_o hl3 rfl⟩
    have nd3 : Fr T w.heap.size X w.heap.size := ⟨by omega, by omega, not_tyd_o hd3 rfl⟩
    have zP : ∀ (B : World) (o : Obj), X.heap.size ≤ B.heap.size → A.heap.size ≤ (B.putObj (w.heap.size + 1) o).heap.size := fun B o h => by
      have := (grownBy_putObj' B (w.heap.size + 1) o).size
      omega
    refine wpIn_mono (hbody _ k hk A X hi3 ⟨_, hX⟩ hsz rfl (by omega)) ?_
    rintro e a3 B hp
    have endx : ∀ c, Holds (fun i => Hs i ∨ Fr T w.heap.size X i) X B → X.heap.size ≤ B.heap.size → Ix c (k + 1) B → B.heap[w.heap.size + 1]? = some (.loop { rc .ready none with state := .busy }) →
        ∃ c', Ix c' (k + 1) (B.putObj (w.heap.size + 1) (.loop (rc .done (some c)))) ∧ (B.putObj (w.heap.size + 1) (.loop (rc .done (some c)))).heap[w.heap.size + 1]? = some (.loop (rc .done (some c'))) ∧ (B.putObj (w.heap.size + 1) (.loop (rc .done (some c)))).heap[w.heap.size]? = some (.deferred (some [])) := fun c hh hz hiB lB =>
      ⟨c, hIx _ _ _ _ hiB (Bel.put _ lB rfl (by omega)), World.putObj_heap_same (Array.getElem?_eq_some_iff.1 lB).1, (World.putObj_heap_other (by omega)).trans ((hh _ (.inr nd3)).trans hd3)⟩
    cases e with
    | normal =>
      obtain ⟨hh, hz, hiB⟩ := hp
      have lB := (hh _ (.inr nl3)).trans hl3
      have dB := (hh _ (.inr nd3)).trans hd3
      have hr := run_endRound (P := P) none lB
      refine ⟨_, _, hr, fin B _ hh, zP B _ hz, .inl ⟨rfl, hI _ _ _ hiB (Bel.put _ lB rfl (by omega)), ?_, (World.putObj_heap_other (by omega)).trans dB⟩⟩
      rw [World.putObj_heap_same (Array.getElem?_eq_some_iff.1 lB).1, hrc]; rfl
    | ret =>
      obtain ⟨hh, hz, hiB⟩ := hp
      have lB := (hh _ (.inr nl3)).trans hl3
      have hr := run_endRound (P := P) (some .ret) lB
      refine ⟨_, _, hr, fin B _ hh, zP B _ hz, .inr ⟨rfl, ?_⟩⟩
      have := endx .ret hh hz hiB lB
      rw [hrc] at this ⊢
      exact this
    | exit id =>
      obtain ⟨hh, hz, hiB⟩ := hp
      have lB := (hh _ (.inr nl3)).trans hl3
      have hr := run_endRound (P := P) (some (.exit id)) lB
      refine ⟨_, _, hr, fin B _ hh, zP B _ hz, .inr ⟨rfl, ?_⟩⟩
      have := endx (.exit id) hh hz hiB lB
      rw [hrc] at this ⊢
      exact this
    | goto t => exact hp.elim
    | panic ch => exact hp.elim
    | outgrown => exact hp.elim
  · -- behind it
    rintro e A ⟨⟨v, rfl⟩, (⟨hi, hl, hd⟩ | ⟨k, hk, c, hi, hl, hd⟩)⟩
    · have hr := run_endLoop (P := P) hl (by rw [hrc]; simp)
      rw [hrc] at hr
      exact ⟨none, _, hr, hdone _ (hI _ _ _ hi (Bel.put _ hl rfl (by omega))) ((World.putObj_heap_other (by omega)).trans hd)⟩
    · have hr := run_endLoop (P := P) hl (by rw [hrc]; simp)
      rw [hrc] at hr
      exact ⟨some c, _, hr, hstop c k _ hk (hIx _ _ _ _ hi (Bel.put _ hl rfl (by omega))) ((World.putObj_heap_other (by omega)).trans hd)⟩

/-- From V to A: what Hs names, and what has come since B and is not the rounds' own, is as it was. -/
def Kep (T : TypeId → Prop) (Hs : Nat → Prop) (B : Nat) (V A : World) : Prop := Holds (fun i => Hs i ∨ Fr T B V i) V A ∧ V.heap.size ≤ A.heap.size
section
variable {T : TypeId → Prop} {Hs : Nat → Prop} {B n : Nat} {V A C : World}
theorem Kep.refl (T : TypeId → Prop) (Hs : Nat → Prop) (B : Nat) (V : World) : Kep T Hs B V V := ⟨Holds.refl _ _, Nat.le_refl _⟩
theorem Kep.fr (h : Kep T Hs B V A) {i : Nat} (hi : Fr T B V i) : Fr T B A i := ⟨hi.1, Nat.lt_of_lt_of_le hi.2.1 h.2, fun hT => hi.2.2 ((Tyd.same (h.1 i (.inr hi))).1 hT)⟩
theorem Kep.trans (h : Kep T Hs B V A) (k : Kep T Hs B A C) : Kep T Hs B V C :=
  ⟨h.1.trans (k.1.mono fun _ hi => hi.imp id fun hi => h.fr hi), Nat.le_trans h.2 k.2⟩
theorem Kep.below (h : Kep T Hs B V A) (hH : ∀ i, Hs i → i < n) (hn : V.heap.size ≤ n) (k : Bel T n A C) : Kep T Hs B V C :=
  ⟨h.1.trans (Holds.of_below k.1 fun i hi => hi.elim (hH i) fun hi => Nat.lt_of_lt_of_le hi.2.1 hn), Nat.le_trans h.2 k.size⟩
theorem Kep.stay (h : Kep T Hs B V A) (hH : ∀ i, Hs i → i < A.heap.size) (k : Stay A C) : Kep T Hs B V C := h.below hH h.2 (Bel.of_stay k (Nat.le_refl _))
theorem Kep.get (h : Kep T Hs B V A) {i : Nat} (hi : Hs i ∨ Fr T B V i) : A.heap[i]? = V.heap[i]? := h.1 i hi
theorem Kep.cell (h : Kep T Hs B V A) {p : Addr} (hi : Hs p.block ∨ Fr T B V p.block) {v : Value} (hv : V.cell? p = some v) : A.cell? p = some v := by
  rw [← hv]; exact World.cell?_of_block (h.1 _ hi)
/-- What a round inside holds, for the loop inside. -/
theorem Kep.join (h : Kep T Hs B V A) (hB : B ≤ V.heap.size) {C : World} (k : Holds (fun i => Hs i ∨ Fr T B A i) A C) : Holds (fun i => (Hs i ∨ Fr T B V i) ∨ Fr T V.heap.size A i) A C :=
  k.mono fun i hi => by
    rcases hi with (hi | hi) | hi
    · exact .inl hi
    · exact .inr (h.fr hi)
    · exact .inr ⟨Nat.le_trans hB hi.1, hi.2⟩
end

/-- The marks that loops over functions leave. -/
def markOf (r : Nat) : Deferred := { target := .collected r, args := #[] }
def Marks (B S : Nat) (D : List Deferred) (w : World) : Prop := ∃ rs : List Nat, D = rs.map markOf ∧ rs.Nodup ∧ ∀ r ∈ rs, B ≤ r ∧ r < S ∧ w.heap[r]? = some (.deferred (some []))
theorem Marks.nil (B S : Nat) (w : World) : Marks B S [] w := ⟨[], rfl, List.nodup_nil, fun _ h => absurd h List.not_mem_nil⟩
theorem Marks.cons {B S T : Nat} {D : List Deferred} {w : World} (h : Marks B S D w) (r : Nat) (h1 : S ≤ r) (h0 : B ≤ r) (h2 : r < T) (hr : w.heap[r]? = some (.deferred (some []))) : Marks B T ({ target := .collected r, args := #[] } :: D) w := by
  obtain ⟨rs, rfl, hn, hs⟩ := h
  refine ⟨r :: rs, rfl, List.nodup_cons.2 ⟨fun hm => ?_, hn⟩, fun x hx => ?_⟩
  · have := (hs r hm).2.1; omega
  · rcases List.mem_cons.1 hx with rfl | hx
    · exact ⟨h0, h2, hr⟩
    · obtain ⟨a, b, c⟩ := hs x hx
      exact ⟨a, by omega, c⟩
theorem Marks.kept {B S : Nat} {D : List Deferred} {w w' : World} (h : Marks B S D w) (hk : ∀ r, B ≤ r → r < S → w.heap[r]? = some (.deferred (some [])) → w'.heap[r]? = w.heap[r]?) : Marks B S D w' := by
  obtain ⟨rs, hd, hn, hs⟩ := h
  exact ⟨rs, hd, hn, fun r hr => ⟨(hs r hr).1, (hs r hr).2.1, (hk r (hs r hr).1 (hs r hr).2.1 (hs r hr).2.2).trans (hs r hr).2.2⟩⟩
theorem Marks.wide {B S T : Nat} {D : List Deferred} {w : World} (h : Marks B S D w) (hs : S ≤ T) : Marks B T D w := by
  obtain ⟨rs, hd, hn, hm⟩ := h
  exact ⟨rs, hd, hn, fun r hr => ⟨(hm r hr).1, Nat.lt_of_lt_of_le (hm r hr).2.1 hs, (hm r hr).2.2⟩⟩
/-- A function with such marks leaves. -/
theorem leaves_marks {F : Fence} {n : Nat} {P : Program} {fn : Func} {tmps : Array Value} {R : Ending → World → Prop} {T : TypeId → Prop} {B S : Nat} : ∀ {D : List Deferred} {w : World}, Marks B S D w → (∀ w', Bel T B w w' → LeavesIn F n P fn tmps R [] .returning w') → LeavesInM F n P fn tmps R D .returning w := by
  intro D w ⟨rs, hd, hn, hs⟩
  induction rs generalizing D w with
  | nil => intro h; subst hd; exact h w (Bel.refl _ _ _)
  | cons r rs ih =>
    intro h
    subst hd
    refine ⟨by simp, .inl ⟨r, w.putObj r (.deferred none), rfl, run_takeDeferred (hs r (by simp)).2.2, ih rfl (List.nodup_cons.1 hn).2 (fun x hx => ?_) (fun w' hw' => h w' ((Bel.put _ (hs r (by simp)).2.2 rfl (hs r (by simp)).1).trans hw'))⟩⟩
    obtain ⟨a, b, c⟩ := hs x (by simp [hx])
    exact ⟨a, b, (World.putObj_heap_other (fun e => (List.nodup_cons.1 hn).1 (by rw [← e]; exact hx))).trans c⟩
end Go.Proofs.Ytnhmjheipfopoaa
