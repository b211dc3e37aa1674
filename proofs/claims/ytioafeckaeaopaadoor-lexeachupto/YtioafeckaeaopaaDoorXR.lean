/- A loop over a function that keeps a state of its own in cells. No function of the program here. -/
import Derived.Test.YtioafeckaeaopaaDoorIT
import Derived.RangeFuncNested
import Derived.RangeFuncBound
import Derived.RangeFuncCalls
import Derived.RangeFuncLeaves
import Derived.RangeFuncBox
import Derived.Shelf.Abstract
import Derived.Shelf.RegionOpen
import Derived.OwnWalkIn
import Derived.TacticsInMore
import Derived.LoopNIn
import Derived.LoopIn
import Derived.Maps.OwnIn
namespace Go.Proofs.YtioafeckaeaopaaDoor
open Go.RowKit Go.Maps Go.Shelf

/-- The blocks that S names are as they were. -/
def Holds (S : Nat → Prop) (A A' : World) : Prop := ∀ k, S k → A'.heap[k]? = A.heap[k]?
theorem Holds.trans {S : Nat → Prop} {A B C : World} (h : Holds S A B) (k : Holds S B C) : Holds S A C := fun i hi => (k i hi).trans (h i hi)

/-- What a function is for every loop over it: it turns its own blocks alone (S), tells the values encs one by one, and leaves Sd; if a round says no more, it ends at once. -/
def SeqT {α : Type} (F : Fence) (n : Nat) (P : Program) (gf : Nat) (lb : Array Value) (encs : α → Array Value) (S : Nat → Prop) (Sd : List α → World → Prop) (Sp : List α → Prop) (N : Nat) (w : World) : Prop :=
  ∀ (l : Nat) (J Jx : List α → World → Prop) (W : World), Stay w W → (∀ pre A A', J pre A → Turn S A A' → J pre A') →
    (∀ pre x A, J pre A → pre.length < N → YieldAt F (n - 1) P l (encs x) A fun e A' =>
      (e = .returned (.bool true) ∧ J (pre ++ [x]) A' ∧ Holds S A A') ∨ (e = .returned (.bool false) ∧ Jx (pre ++ [x]) A')) →
    J [] W →
    CallsIn F n P gf (#[.func (.yield l) #[] #[]] ++ lb) W fun e A => (∃ v, e = .returned v) ∧ ((∃ xs, Sd xs A ∧ J xs A) ∨ (∃ pre, Sp pre ∧ Jx pre A))

/-- How a round's body may end. -/
def turnPost {α : Type} (D : Nat) (S : Nat → Prop) (I : List α → World → Prop) (Ix : Code → List α → World → Prop) (xs : List α) (W : World) : Exit → Act → World → Prop
  | .normal, _, W' => Holds (fun k => S k ∨ k = D ∨ k = D + 1) W W' ∧ I xs W'
  | .ret, _, W' => Holds (fun k => k = D ∨ k = D + 1) W W' ∧ Ix .ret xs W'
  | _, _, _ => False

theorem putObj_turn {S : Nat → Prop} {A B : World} (h : Turn S A B) {l : Nat} (o : Obj) (hl : l < A.heap.size → S l) : Turn S A (B.putObj l o) :=
  h.grown (grownBy_putObj' B l o) hl

/-- The law: a loop over such a function, whose variable lies in a new block each round. -/
theorem range_turns {α : Type} {F : Fence} {n : Nat} {P : Program} {g : Operand} {ps : Array Tmp} {assign body : Code} {Q : Exit → Act → World → Prop} {a : Act} {w : World}
    (hro : F.round = none) (h1 : 1 ≤ n) {gf : Nat} {lb : Array Value} (hg : a.eval g = .func (.func gf) #[] lb) (hFg : F.fn gf) (eg : ∀ args w, (callFunc gf args).run P w = .ok (.enter gf args) w)
    {encs : α → Array Value} {S : Nat → Prop} {Sd : List α → World → Prop} {Sp : List α → Prop} {N : Nat} (hseq : SeqT F (n - 1) P gf lb encs S Sd Sp N w) (hS : ∀ k, S k → k < w.heap.size) (hps : ∀ x, (encs x).size = ps.size)
    (hSd : ∀ xs A A', Sd xs A → Holds S A A' → Sd xs A')
    (I : List α → World → Prop) (Ix : Code → List α → World → Prop) (hI : ∀ pre A A', I pre A → Turn (fun k => S k ∨ w.heap.size ≤ k) A A' → (∀ (k : Nat) (cs : Array Value) (t : TypeId) (f : Nat × Nat), A.heap[k]? = some (Obj.cells cs t f) → ¬ S k → A'.heap[k]? = some (.cells cs t f)) → I pre A')
    (hIx : ∀ c pre A A', Ix c pre A → Turn (fun k => w.heap.size ≤ k) A A' → (∀ (k : Nat) (cs : Array Value) (t : TypeId) (f : Nat × Nat), A.heap[k]? = some (Obj.cells cs t f) → A'.heap[k]? = some (.cells cs t f)) → Ix c pre A') (h0 : I [] w) (ob : α → Obj) (a1 : α → World → Act)
    (hassign : ∀ (l : Nat) (x : α) (W : World) (K : Act → World → Prop), K (a1 x W) (W.alloc (ob x)) →
      assign.wpIn (F.inRound l) (n - 1 - 1) P (Exit.then K (fun _ _ _ => False)) { tmps := (ps.zip (encs x)).foldl (fun t (p, v) => t.setIfInBounds p v) a.tmps, defers := [] } W)
    (hbody : ∀ (l : Nat) (pre : List α) (x : α) (W X : World), I pre X → (∃ o', X = (W.alloc (ob x)).putObj l o') → w.heap.size + 1 < W.heap.size → l = w.heap.size + 1 → (∃ r, X.heap[w.heap.size + 1]? = some (.loop r)) → X.heap[w.heap.size]? = some (.deferred (some [])) → pre.length < N →
      body.wpIn (F.inRound l) (n - 1 - 1) P (turnPost w.heap.size S I Ix (pre ++ [x]) X) (a1 x W) X)
    (hdone : ∀ (xs : List α) (W : World), Sd xs W → I xs W → W.heap[w.heap.size]? = some (.deferred (some [])) → Q .normal { a with defers := { target := .collected w.heap.size, args := #[] } :: a.defers } W)
    (hstop : ∀ (c : Code) (pre : List α) (W : World), Sp pre → Ix c pre W → W.heap[w.heap.size]? = some (.deferred (some [])) → c.wpIn F n P Q { a with defers := { target := .collected w.heap.size, args := #[] } :: a.defers } W) :
    (Code.rangeFunc g ps assign body).wpIn F n P Q a w := by
  refine wpIn_rangeFunc fun fn hfn => ?_
  rw [hro]
  obtain ⟨rc, hrc⟩ : ∃ rc : LoopState → Option Code → Loop, rc = fun st pe => { state := st, pending := pe, fn, tmps := a.tmps, params := ps, assign, body, defers := w.heap.size } := ⟨_, rfl⟩
  obtain ⟨V, hV⟩ : ∃ V, (w.alloc (.deferred (some []))).alloc (.loop (rc .ready none)) = V := ⟨_, rfl⟩
  have sV : Stay w V := by rw [← hV]; exact (Stay.new _ _).alloc _
  have lV : V.heap[w.heap.size + 1]? = some (.loop (rc .ready none)) := by
    rw [← hV]
    have := heap_new (w.alloc (.deferred (some []))) (.loop (rc .ready none))
    rwa [World.size_alloc] at this
  have dV : V.heap[w.heap.size]? = some (.deferred (some [])) := by
    rw [← hV]; exact (Below.heap_alloc _ _ _ (by simp)).trans (heap_new w _)
  have iV : I [] V := hI [] w V h0 (Turn.of_stay sV) (fun k cs t f hk _ => (sV.block k (Array.getElem?_eq_some_iff.1 hk).1).trans hk)
  -- a put into the record: the caller's facts abide
  have put : ∀ (pre : List α) (A : World) (o o' : Obj), I pre A → A.heap[w.heap.size + 1]? = some o → o.isCells = false → I pre (A.putObj (w.heap.size + 1) o') := fun pre A o o' h hl ho =>
    hI pre A _ h (putObj_turn (Turn.refl _ A) o' (fun _ => .inr (by omega))) (fun k cs t f hk _ => (World.putObj_heap_other (fun e => by
      subst e; rw [hk] at hl; cases hl; simp [Obj.isCells] at ho)).trans hk)
  have putx : ∀ (c : Code) (pre : List α) (A : World) (o o' : Obj), Ix c pre A → A.heap[w.heap.size + 1]? = some o → o.isCells = false → Ix c pre (A.putObj (w.heap.size + 1) o') := fun c pre A o o' h hl ho =>
    hIx c pre A _ h (putObj_turn (Turn.refl _ A) o' (fun _ => by omega)) (fun k cs t f hk => (World.putObj_heap_other (fun e => by
      subst e; rw [hk] at hl; cases hl; simp [Obj.isCells] at ho)).trans hk)
  refine ⟨w.heap.size + 1, [{ target := .collected w.heap.size, args := #[] }], V, { target := .fn (.func gf) lb, args := #[.func (.yield (w.heap.size + 1)) #[] #[]] }, V, gf, #[.func (.yield (w.heap.size + 1)) #[] #[]] ++ lb, V, ?_, ?_, ?_, ?_, fun _ => h1, ?_⟩
  · rw [← hV, hrc]; exact run_enterLoop_outer _ _ _ _ _
  · simp only [resolve, hg]
    simp [go_sem]
  · intro f' hf'; simp [Target.leads] at hf'; subst hf'; exact hFg
  · simp [invoke, go_sem, eg]
  refine (hseq (w.heap.size + 1)
    (fun pre A => I pre A ∧ A.heap[w.heap.size + 1]? = some (.loop (rc .ready none)) ∧ A.heap[w.heap.size]? = some (.deferred (some [])))
    (fun pre A => ∃ c, Ix c pre A ∧ A.heap[w.heap.size + 1]? = some (.loop (rc .done (some c))) ∧ A.heap[w.heap.size]? = some (.deferred (some [])))
    V sV (fun pre A A' ⟨hi, hl, hd⟩ ht => ?_) (fun pre x A ⟨hi, hl, hd⟩ hN => ?_) ⟨iV, lV, dV⟩).mono ?_
  · have n1 : ¬ S (w.heap.size + 1) := fun h => by have := hS _ h; omega
    have n0 : ¬ S w.heap.size := fun h => by have := hS _ h; omega
    exact ⟨hI pre A A' hi (ht.mono (fun _ _ h => .inl h)) (fun k cs t f hk hn => ht.heap hk hn), ht.heap hl n1, ht.heap hd n0⟩
  · -- one round
    have hsz : w.heap.size + 1 < A.heap.size := (Array.getElem?_eq_some_iff.1 hl).1
    have hy := run_yield (P := P) (args := encs x) hl (by rw [hrc]; exact hps x)
    rw [hrc] at hy
    refine ⟨fn, _, assign, body, hy, roundIn_of_wpIn hfn (hassign _ x A _ ?_)⟩
    have hl2 : (A.alloc (ob x)).heap[w.heap.size + 1]? = some (.loop (rc .ready none)) := (Below.heap_alloc A _ _ hsz).trans hl
    have hd2 : (A.alloc (ob x)).heap[w.heap.size]? = some (.deferred (some [])) := (Below.heap_alloc A _ _ (by omega)).trans hd
    refine ⟨_, run_beginRound hl2 (by rw [hrc]), ?_⟩
    have hl3 : ((A.alloc (ob x)).putObj (w.heap.size + 1) (.loop { rc .ready none with state := .busy })).heap[w.heap.size + 1]? = some (.loop { rc .ready none with state := .busy }) := World.putObj_heap_same (by simp; omega)
    have hd3 : ((A.alloc (ob x)).putObj (w.heap.size + 1) (.loop { rc .ready none with state := .busy })).heap[w.heap.size]? = some (.deferred (some [])) := (World.putObj_heap_other (by omega)).trans hd2
    have hi2 : I pre (A.alloc (ob x)) := hI pre A _ hi (Turn.of_stay (Stay.new _ _)) (fun k cs t f hk _ => (Below.heap_alloc A _ k (Array.getElem?_eq_some_iff.1 hk).1).trans hk)
    have hi3 := put pre _ _ (.loop { rc .ready none with state := .busy }) hi2 hl2 rfl
    have hS3 : Holds S A ((A.alloc (ob x)).putObj (w.heap.size + 1) (.loop { rc .ready none with state := .busy })) := fun k hk => by
      have := hS k hk
      exact (World.putObj_heap_other (by omega)).trans (Below.heap_alloc A _ k (by omega))
    refine wpIn_mono (hbody _ pre x A _ hi3 ⟨_, rfl⟩ hsz rfl ⟨_, hl3⟩ hd3 hN) ?_
    rintro e a3 B hp
    cases e with
    | normal =>
      obtain ⟨hh, hiB⟩ := hp
      have lB := (hh _ (.inr (.inr rfl))).trans hl3
      have dB := (hh _ (.inr (.inl rfl))).trans hd3
      have hr := run_endRound (P := P) none lB
      refine ⟨_, _, hr, .inl ⟨rfl, ⟨put _ _ _ _ hiB lB rfl, ?_, (World.putObj_heap_other (by omega)).trans dB⟩, hS3.trans (fun k hk => ?_)⟩⟩
      · rw [World.putObj_heap_same (Array.getElem?_eq_some_iff.1 lB).1, hrc]; rfl
      · have := hS k hk
        exact (World.putObj_heap_other (by omega)).trans (hh k (.inl hk))
    | ret =>
      obtain ⟨hh, hiB⟩ := hp
      have lB := (hh _ (.inr rfl)).trans hl3
      have dB := (hh _ (.inl rfl)).trans hd3
      have hr := run_endRound (P := P) (some .ret) lB
      refine ⟨_, _, hr, .inr ⟨rfl, .ret, putx _ _ _ _ _ hiB lB rfl, ?_, (World.putObj_heap_other (by omega)).trans dB⟩⟩
      rw [World.putObj_heap_same (Array.getElem?_eq_some_iff.1 lB).1, hrc]; rfl
    | exit id => exact hp.elim
    | goto t => exact hp.elim
    | panic ch => exact hp.elim
    | outgrown => exact hp.elim
  · -- behind it
    rintro e A ⟨⟨v, rfl⟩, (⟨xs, hsd, hi, hl, hd⟩ | ⟨pre, hsp, c, hi, hl, hd⟩)⟩
    · have hr := run_endLoop (P := P) hl (by rw [hrc]; simp)
      rw [hrc] at hr
      refine ⟨none, _, hr, hdone xs _ (hSd xs A _ hsd (fun k hk => ?_)) (put _ _ _ _ hi hl rfl) ((World.putObj_heap_other (by omega)).trans hd)⟩
      have := hS k hk
      exact World.putObj_heap_other (by omega)
    · have hr := run_endLoop (P := P) hl (by rw [hrc]; simp)
      rw [hrc] at hr
      exact ⟨some c, _, hr, hstop c pre _ hsp (putx _ _ _ _ _ hi hl rfl) ((World.putObj_heap_other (by omega)).trans hd)⟩
end Go.Proofs.YtioafeckaeaopaaDoor
