/- Loops over functions that keep a state in cells, once more: what is turned and what is held apart; and functions that lay all of their state themselves. No function of the program here. tokens, once more: what it turns and what it wants held, apart. Each: the function over which one goes. -/
import Derived.Test.YtioafeckaeaopaaDoorXR
import Derived.Test.YtioafeckaeaopaaDoorXV
namespace Go.Proofs.YtioafeckaeaopaaDoor
open Go.RowKit Go.Maps Go.Shelf

/-- What a function is for every loop over it: it turns its own blocks alone (S), tells the values encs one by one, and leaves Sd; if a round says no more, it ends at once. -/
def SeqU {α : Type} (F : Fence) (n : Nat) (P : Program) (gf : Nat) (lb : Array Value) (encs : α → Array Value) (St S : Nat → Prop) (Sd : List α → World → Prop) (Sp : List α → Prop) (N : Nat) (w : World) : Prop :=
  ∀ (l : Nat) (J Jx : List α → World → Prop) (W : World), Stay w W → (∀ pre A A', J pre A → Turn St A A' → J pre A') →
    (∀ pre x A, J pre A → pre.length < N → YieldAt F (n - 1) P l (encs x) A fun e A' =>
      (e = .returned (.bool true) ∧ J (pre ++ [x]) A' ∧ Holds S A A') ∨ (e = .returned (.bool false) ∧ Jx (pre ++ [x]) A')) →
    J [] W →
    CallsIn F n P gf (#[.func (.yield l) #[] #[]] ++ lb) W fun e A => (∃ v, e = .returned v) ∧ ((∃ xs, Sd xs A ∧ J xs A) ∨ (∃ pre, Sp pre ∧ Jx pre A))

/-- How a round's body may end. -/
def heldPost {α : Type} (D : Nat) (S : Nat → Prop) (I : List α → World → Prop) (Ix : Code → List α → World → Prop) (xs : List α) (W : World) : Exit → Act → World → Prop
  | .normal, _, W' => Holds (fun k => S k ∨ k = D ∨ k = D + 1) W W' ∧ I xs W'
  | .ret, _, W' => Holds (fun k => k = D ∨ k = D + 1) W W' ∧ Ix .ret xs W'
  | _, _, _ => False

/-- The law: a loop over such a function, whose variable lies in a new block each round. -/
theorem range_held {α : Type} {F : Fence} {n : Nat} {P : Program} {g : Operand} {ps : Array Tmp} {assign body : Code} {Q : Exit → Act → World → Prop} {a : Act} {w : World}
    (hro : F.round = none) (h1 : 1 ≤ n) {gf : Nat} {lb : Array Value} (hg : a.eval g = .func (.func gf) #[] lb) (hFg : F.fn gf) (eg : ∀ args w, (callFunc gf args).run P w = .ok (.enter gf args) w)
    {encs : α → Array Value} {St S : Nat → Prop} {Sd : List α → World → Prop} {Sp : List α → Prop} {N : Nat} (hseq : SeqU F (n - 1) P gf lb encs St S Sd Sp N w) (hSt : ∀ k, St k → k < w.heap.size) (hS : ∀ k, S k → k < w.heap.size) (hps : ∀ x, (encs x).size = ps.size)
    (hSd : ∀ xs A A', Sd xs A → Holds S A A' → Sd xs A')
    (I : List α → World → Prop) (Ix : Code → List α → World → Prop) (hI : ∀ pre A A', I pre A → Turn (fun k => St k ∨ w.heap.size ≤ k) A A' → (∀ (k : Nat) (cs : Array Value) (t : TypeId) (f : Nat × Nat), A.heap[k]? = some (Obj.cells cs t f) → ¬ St k → A'.heap[k]? = some (.cells cs t f)) → I pre A')
    (hIx : ∀ c pre A A', Ix c pre A → Turn (fun k => w.heap.size ≤ k) A A' → (∀ (k : Nat) (cs : Array Value) (t : TypeId) (f : Nat × Nat), A.heap[k]? = some (Obj.cells cs t f) → A'.heap[k]? = some (.cells cs t f)) → Ix c pre A') (h0 : I [] w) (ob : α → Obj) (a1 : α → World → Act)
    (hassign : ∀ (l : Nat) (x : α) (W : World) (K : Act → World → Prop), K (a1 x W) (W.alloc (ob x)) →
      assign.wpIn (F.inRound l) (n - 1 - 1) P (Exit.then K (fun _ _ _ => False)) { tmps := (ps.zip (encs x)).foldl (fun t (p, v) => t.setIfInBounds p v) a.tmps, defers := [] } W)
    (hbody : ∀ (l : Nat) (pre : List α) (x : α) (W X : World), I pre X → (∃ o', X = (W.alloc (ob x)).putObj l o') → w.heap.size + 1 < W.heap.size → l = w.heap.size + 1 → (∃ r, X.heap[w.heap.size + 1]? = some (.loop r)) → X.heap[w.heap.size]? = some (.deferred (some [])) → pre.length < N →
      body.wpIn (F.inRound l) (n - 1 - 1) P (heldPost w.heap.size S I Ix (pre ++ [x]) X) (a1 x W) X)
    (hdone : ∀ (xs : List α) (W : World), Sd xs W → I xs W → W.heap[w.heap.size]? = some (.deferred (some [])) → Q .normal { a with defers := { target := .collected w.heap.size, args := #[] } :: a.defers } W)
    (hstop : ∀ (c : Code) (pre : List α) (W : World), Sp pre → Ix c pre W → W.heap[w.heap.size]? = some (.deferred (some [])) → c.wpIn F n P Q { a with defers := { target := .collected w.heap.size, args := #[] } :: a.defers } W) :
    (Code.rangeFunc g ps assign body).wpIn F n P Q a w := by
  refine wpIn_rangeFunc fun fn hfn => ?_
  rw [hro]
  obtain ⟨rc, hrc⟩ : ∃ rc : LoopState → Option Code → Loop, rc = fun st pe => { state := st, pending := pe, fn, tmps := a.tmps, params := ps, assign, body, defers := w.heap.size } := ⟨_, rfl⟩
  obtain ⟨V, hV⟩ : ∃ V, (w.alloc (.deferred (some []))).alloc (.loop (rc .ready none)) = V := ⟨_, rfl⟩
  have sV : Stay w V := by rw [← hV]; exact (Stay.new _ _).alloc _
  have lV : V.heap[w.heap.size + 1]? = some (.loop (rc .ready none)) := by
    rw [← hV]
    have := heap_new (w.alloc (.deferred (some []))) (.loop (rc .ready none))
    rwa [World.size_alloc] at this
  have dV : V.heap[w.heap.size]? = some (.deferred (some [])) := by
    rw [← hV]; exact (Below.heap_alloc _ _ _ (by simp)).trans (heap_new w _)
  have iV : I [] V := hI [] w V h0 (Turn.of_stay sV) (fun k cs t f hk _ => (sV.block k (Array.getElem?_eq_some_iff.1 hk).1).trans hk)
  -- a put into the record: the caller's facts abide
  have put : ∀ (pre : List α) (A : World) (o o' : Obj), I pre A → A.heap[w.heap.size + 1]? = some o → o.isCells = false → I pre (A.putObj (w.heap.size + 1) o') := fun pre A o o' h hl ho =>
    hI pre A _ h (putObj_turn (Turn.refl _ A) o' (fun _ => .inr (by omega))) (fun k cs t f hk _ => (World.putObj_heap_other (fun e => by
      subst e; rw [hk] at hl; cases hl; simp [Obj.isCells] at ho)).trans hk)
  have putx : ∀ (c : Code) (pre : List α) (A : World) (o o' : Obj), Ix c pre A → A.heap[w.heap.size + 1]? = some o → o.isCells = false → Ix c pre (A.putObj (w.heap.size + 1) o') := fun c pre A o o' h hl ho =>
    hIx c pre A _ h (putObj_turn (Turn.refl _ A) o' (fun _ => by omega)) (fun k cs t f hk => (World.putObj_heap_other (fun e => by
      subst e; rw [hk] at hl; cases hl; simp [Obj.isCells] at ho)).trans hk)
  refine ⟨w.heap.size + 1, [{ target := .collected w.heap.size, args := #[] }], V, { target := .fn (.func gf) lb, args := #[.func (.yield (w.heap.size + 1)) #[] #[]] }, V, gf, #[.func (.yield (w.heap.size + 1)) #[] #[]] ++ lb, V, ?_, ?_, ?_, ?_, fun _ => h1, ?_⟩
  · rw [← hV, hrc]; exact run_enterLoop_outer _ _ _ _ _
  · simp only [resolve, hg]
    simp [go_sem]
  · intro f' hf'; simp [Target.leads] at hf'; subst hf'; exact hFg
  · simp [invoke, go_sem, eg]
  refine (hseq (w.heap.size + 1)
    (fun pre A => I pre A ∧ A.heap[w.heap.size + 1]? = some (.loop (rc .ready none)) ∧ A.heap[w.heap.size]? = some (.deferred (some [])))
    (fun pre A => ∃ c, Ix c pre A ∧ A.heap[w.heap.size + 1]? = some (.loop (rc .done (some c))) ∧ A.heap[w.heap.size]? = some (.deferred (some [])))
    V sV (fun pre A A' ⟨hi, hl, hd⟩ ht => ?_) (fun pre x A ⟨hi, hl, hd⟩ hN => ?_) ⟨iV, lV, dV⟩).mono ?_
  · have n1 : ¬ St (w.heap.size + 1) := fun h => by have := hSt _ h; omega
    have n0 : ¬ St w.heap.size := fun h => by have := hSt _ h; omega
    exact ⟨hI pre A A' hi (ht.mono (fun _ _ h => .inl h)) (fun k cs t f hk hn => ht.heap hk hn), ht.heap hl n1, ht.heap hd n0⟩
  · -- one round
    have hsz : w.heap.size + 1 < A.heap.size := (Array.getElem?_eq_some_iff.1 hl).1
    have hy := run_yield (P := P) (args := encs x) hl (by rw [hrc]; exact hps x)
    rw [hrc] at hy
    refine ⟨fn, _, assign, body, hy, roundIn_of_wpIn hfn (hassign _ x A _ ?_)⟩
    have hl2 : (A.alloc (ob x)).heap[w.heap.size + 1]? = some (.loop (rc .ready none)) := (Below.heap_alloc A _ _ hsz).trans hl
    have hd2 : (A.alloc (ob x)).heap[w.heap.size]? = some (.deferred (some [])) := (Below.heap_alloc A _ _ (by omega)).trans hd
    refine ⟨_, run_beginRound hl2 (by rw [hrc]), ?_⟩
    have hl3 : ((A.alloc (ob x)).putObj (w.heap.size + 1) (.loop { rc .ready none with state := .busy })).heap[w.heap.size + 1]? = some (.loop { rc .ready none with state := .busy }) := World.putObj_heap_same (by simp; omega)
    have hd3 : ((A.alloc (ob x)).putObj (w.heap.size + 1) (.loop { rc .ready none with state := .busy })).heap[w.heap.size]? = some (.deferred (some [])) := (World.putObj_heap_other (by omega)).trans hd2
    have hi2 : I pre (A.alloc (ob x)) := hI pre A _ hi (Turn.of_stay (Stay.new _ _)) (fun k cs t f hk _ => (Below.heap_alloc A _ k (Array.getElem?_eq_some_iff.1 hk).1).trans hk)
    have hi3 := put pre _ _ (.loop { rc .ready none with state := .busy }) hi2 hl2 rfl
    have hS3 : Holds S A ((A.alloc (ob x)).putObj (w.heap.size + 1) (.loop { rc .ready none with state := .busy })) := fun k hk => by
      have := hS k hk
      exact (World.putObj_heap_other (by omega)).trans (Below.heap_alloc A _ k (by omega))
    refine wpIn_mono (hbody _ pre x A _ hi3 ⟨_, rfl⟩ hsz rfl ⟨_, hl3⟩ hd3 hN) ?_
    rintro e a3 B hp
    cases e with
    | normal =>
      obtain ⟨hh, hiB⟩ := hp
      have lB := (hh _ (.inr (.inr rfl))).trans hl3
      have dB := (hh _ (.inr (.inl rfl))).trans hd3
      have hr := run_endRound (P := P) none lB
      refine ⟨_, _, hr, .inl ⟨rfl, ⟨put _ _ _ _ hiB lB rfl, ?_, (World.putObj_heap_other (by omega)).trans dB⟩, hS3.trans (fun k hk => ?_)⟩⟩
      · rw [World.putObj_heap_same (Array.getElem?_eq_some_iff.1 lB).1, hrc]; rfl
      · have := hS k hk
        exact (World.putObj_heap_other (by omega)).trans (hh k (.inl hk))
    | ret =>
      obtain ⟨hh, hiB⟩ := hp
      have lB := (hh _ (.inr rfl)).trans hl3
      have dB := (hh _ (.inl rfl)).trans hd3
      have hr := run_endRound (P := P) (some .ret) lB
      refine ⟨_, _, hr, .inr ⟨rfl, .ret, putx _ _ _ _ _ hiB lB rfl, ?_, (World.putObj_heap_other (by omega)).trans dB⟩⟩
      rw [World.putObj_heap_same (Array.getElem?_eq_some_iff.1 lB).1, hrc]; rfl
    | exit id => exact hp.elim
    | goto t => exact hp.elim
    | panic ch => exact hp.elim
    | outgrown => exact hp.elim
  · -- behind it
    rintro e A ⟨⟨v, rfl⟩, (⟨xs, hsd, hi, hl, hd⟩ | ⟨pre, hsp, c, hi, hl, hd⟩)⟩
    · have hr := run_endLoop (P := P) hl (by rw [hrc]; simp)
      rw [hrc] at hr
      refine ⟨none, _, hr, hdone xs _ (hSd xs A _ hsd (fun k hk => ?_)) (put _ _ _ _ hi hl rfl) ((World.putObj_heap_other (by omega)).trans hd)⟩
      have := hS k hk
      exact World.putObj_heap_other (by omega)
    · have hr := run_endLoop (P := P) hl (by rw [hrc]; simp)
      rw [hrc] at hr
      exact ⟨some c, _, hr, hstop c pre _ hsp (putx _ _ _ _ _ hi hl rfl) ((World.putObj_heap_other (by omega)).trans hd)⟩

/-- A round's answer, whatever the depth and whatever loop's round asks it. -/
theorem yield_any {m m' : Nat} {P : Program} {l l' : Nat} {args : Array Value} {W : World} {R : Ending → World → Prop} (h : YieldAt Fence.wide m P l args W R) : YieldAt (Fence.wide.inRound l') m' P l args W R := by
  obtain ⟨fn, tmps, assign, body, hy, h1, h2⟩ := h
  exact ⟨fn, tmps, assign, body, hy, h1, fun c cs _ => h2 c cs (room_wide _)⟩
theorem yield_deep {m m' : Nat} {P : Program} {l : Nat} {args : Array Value} {W : World} {R : Ending → World → Prop} (h : YieldAt Fence.wide m P l args W R) : YieldAt Fence.wide m' P l args W R := by
  obtain ⟨fn, tmps, assign, body, hy, h1, h2⟩ := h
  exact ⟨fn, tmps, assign, body, hy, h1, fun c cs _ => h2 c cs (room_wide _)⟩

/-- What a function is for every loop over it that lays its state itself: what it tells, one by one; it turns nothing that was there; if a round says no more, it ends. -/
def SeqN {α : Type} (F : Fence) (n : Nat) (P : Program) (gf : Nat) (lb : Array Value) (encs : α → Array Value) (Hs : Nat → Prop) (Sd Sp : List α → Prop) (N : Nat) (w : World) : Prop :=
  ∀ (l : Nat) (J Jx : List α → World → Prop) (W : World), Stay w W → (∀ pre A A', J pre A → Below W.heap.size A A' → J pre A') → (∀ pre A A', Jx pre A → Below W.heap.size A A' → Jx pre A') →
    (∀ pre x A, J pre A → pre.length < N → W.heap.size ≤ A.heap.size → YieldAt F (n - 1) P l (encs x) A fun e A' =>
      Holds (fun k => Hs k ∨ W.heap.size ≤ k ∧ k < A.heap.size) A A' ∧ A.heap.size ≤ A'.heap.size ∧ ((e = .returned (.bool true) ∧ J (pre ++ [x]) A') ∨ (e = .returned (.bool false) ∧ Jx (pre ++ [x]) A'))) →
    J [] W →
    CallsIn F n P gf (#[.func (.yield l) #[] #[]] ++ lb) W fun e A => (∃ v, e = .returned v) ∧ ((∃ xs, Sd xs ∧ J xs A) ∨ (∃ pre, Sp pre ∧ Jx pre A))

/-- How a round's body may end. -/
def newPost {α : Type} (D : Nat) (Hs : Nat → Prop) (I : List α → World → Prop) (Ix : Code → List α → World → Prop) (xs : List α) (W : World) : Exit → Act → World → Prop
  | .normal, _, W' => Holds (fun k => Hs k ∨ D ≤ k ∧ k < W.heap.size) W W' ∧ W.heap.size ≤ W'.heap.size ∧ I xs W'
  | .ret, _, W' => Holds (fun k => Hs k ∨ D ≤ k ∧ k < W.heap.size) W W' ∧ W.heap.size ≤ W'.heap.size ∧ Ix .ret xs W'
  | .exit id, _, W' => Holds (fun k => Hs k ∨ D ≤ k ∧ k < W.heap.size) W W' ∧ W.heap.size ≤ W'.heap.size ∧ Ix (.exit id) xs W'
  | _, _, _ => False

theorem below_putObj (B : Nat) (A : World) (l : Nat) (o : Obj) (h : B ≤ l) : Below B A (A.putObj l o) := by
  have g := grownBy_putObj' A l o
  exact ⟨g.os, g.tape, g.output, g.size, fun k hk => World.putObj_heap_other (by omega)⟩

/-- The law: a loop over such a function, whose variable lies in a new block each round. -/
theorem range_new {α : Type} {F : Fence} {n : Nat} {P : Program} {g : Operand} {ps : Array Tmp} {assign body : Code} {Q : Exit → Act → World → Prop} {a : Act} {w : World}
    (hro : F.round = none) (h1 : 1 ≤ n) {gf : Nat} {lb : Array Value} (hg : a.eval g = .func (.func gf) #[] lb) (hFg : F.fn gf) (eg : ∀ args w, (callFunc gf args).run P w = .ok (.enter gf args) w)
    {encs : α → Array Value} {Hs : Nat → Prop} {Sd Sp : List α → Prop} {N : Nat} (hseq : SeqN F (n - 1) P gf lb encs Hs Sd Sp N w) (hHs : ∀ k, Hs k → k < w.heap.size) (hps : ∀ x, (encs x).size = ps.size)
    (I : List α → World → Prop) (Ix : Code → List α → World → Prop) (hI : ∀ pre A A', I pre A → Below w.heap.size A A' → I pre A') (hIx : ∀ c pre A A', Ix c pre A → Below w.heap.size A A' → Ix c pre A') (h0 : I [] w) (ob : α → Obj) (a1 : α → World → Act)
    (hassign : ∀ (l : Nat) (x : α) (W : World) (K : Act → World → Prop), K (a1 x W) (W.alloc (ob x)) →
      assign.wpIn (F.inRound l) (n - 1 - 1) P (Exit.then K (fun _ _ _ => False)) { tmps := (ps.zip (encs x)).foldl (fun t (p, v) => t.setIfInBounds p v) a.tmps, defers := [] } W)
    (hbody : ∀ (l : Nat) (pre : List α) (x : α) (W X : World), I pre X → (∃ o', X = (W.alloc (ob x)).putObj l o') → w.heap.size + 1 < W.heap.size → l = w.heap.size + 1 → pre.length < N →
      body.wpIn (F.inRound l) (n - 1 - 1) P (newPost w.heap.size Hs I Ix (pre ++ [x]) X) (a1 x W) X)
    (hdone : ∀ (xs : List α) (W : World), Sd xs → I xs W → W.heap[w.heap.size]? = some (.deferred (some [])) → Q .normal { a with defers := { target := .collected w.heap.size, args := #[] } :: a.defers } W)
    (hstop : ∀ (c : Code) (pre : List α) (W : World), Sp pre → Ix c pre W → W.heap[w.heap.size]? = some (.deferred (some [])) → c.wpIn F n P Q { a with defers := { target := .collected w.heap.size, args := #[] } :: a.defers } W) :
    (Code.rangeFunc g ps assign body).wpIn F n P Q a w := by
  refine wpIn_rangeFunc fun fn hfn => ?_
  rw [hro]
  obtain ⟨rc, hrc⟩ : ∃ rc : LoopState → Option Code → Loop, rc = fun st pe => { state := st, pending := pe, fn, tmps := a.tmps, params := ps, assign, body, defers := w.heap.size } := ⟨_, rfl⟩
  obtain ⟨V, hV⟩ : ∃ V, (w.alloc (.deferred (some []))).alloc (.loop (rc .ready none)) = V := ⟨_, rfl⟩
  have sV : Stay w V := by rw [← hV]; exact (Stay.new _ _).alloc _
  have zV : V.heap.size = w.heap.size + 2 := by rw [← hV]; simp
  have lV : V.heap[w.heap.size + 1]? = some (.loop (rc .ready none)) := by
    rw [← hV]
    have := heap_new (w.alloc (.deferred (some []))) (.loop (rc .ready none))
    rwa [World.size_alloc] at this
  have dV : V.heap[w.heap.size]? = some (.deferred (some [])) := by
    rw [← hV]; exact (Below.heap_alloc _ _ _ (by simp)).trans (heap_new w _)
  have iV : I [] V := hI [] w V h0 sV
  refine ⟨w.heap.size + 1, [{ target := .collected w.heap.size, args := #[] }], V, { target := .fn (.func gf) lb, args := #[.func (.yield (w.heap.size + 1)) #[] #[]] }, V, gf, #[.func (.yield (w.heap.size + 1)) #[] #[]] ++ lb, V, ?_, ?_, ?_, ?_, fun _ => h1, ?_⟩
  · rw [← hV, hrc]; exact run_enterLoop_outer _ _ _ _ _
  · simp only [resolve, hg]
    simp [go_sem]
  · intro f' hf'; simp [Target.leads] at hf'; subst hf'; exact hFg
  · simp [invoke, go_sem, eg]
  refine (hseq (w.heap.size + 1)
    (fun pre A => I pre A ∧ A.heap[w.heap.size + 1]? = some (.loop (rc .ready none)) ∧ A.heap[w.heap.size]? = some (.deferred (some [])))
    (fun pre A => ∃ c, Ix c pre A ∧ A.heap[w.heap.size + 1]? = some (.loop (rc .done (some c))) ∧ A.heap[w.heap.size]? = some (.deferred (some [])))
    V sV (fun pre A A' ⟨hi, hl, hd⟩ ht => ⟨hI _ _ _ hi (Below.mono ht (by omega)), (ht.block _ (by omega)).trans hl, (ht.block _ (by omega)).trans hd⟩)
    (fun pre A A' ⟨c, hi, hl, hd⟩ ht => ⟨c, hIx _ _ _ _ hi (Below.mono ht (by omega)), (ht.block _ (by omega)).trans hl, (ht.block _ (by omega)).trans hd⟩)
    (fun pre x A ⟨hi, hl, hd⟩ hN hVA => ?_) ⟨iV, lV, dV⟩).mono ?_
  · -- one round
    have hsz : w.heap.size + 1 < A.heap.size := (Array.getElem?_eq_some_iff.1 hl).1
    have hy := run_yield (P := P) (args := encs x) hl (by rw [hrc]; exact hps x)
    rw [hrc] at hy
    refine ⟨fn, _, assign, body, hy, roundIn_of_wpIn hfn (hassign _ x A _ ?_)⟩
    have hl2 : (A.alloc (ob x)).heap[w.heap.size + 1]? = some (.loop (rc .ready none)) := (Below.heap_alloc A _ _ hsz).trans hl
    have hd2 : (A.alloc (ob x)).heap[w.heap.size]? = some (.deferred (some [])) := (Below.heap_alloc A _ _ (by omega)).trans hd
    refine ⟨_, run_beginRound hl2 (by rw [hrc]), ?_⟩
    obtain ⟨X, hX⟩ : ∃ X, X = (A.alloc (ob x)).putObj (w.heap.size + 1) (.loop { rc .ready none with state := .busy }) := ⟨_, rfl⟩
    have hl3 : X.heap[w.heap.size + 1]? = some (.loop { rc .ready none with state := .busy }) := by rw [hX]; exact World.putObj_heap_same (by simp; omega)
    have hd3 : X.heap[w.heap.size]? = some (.deferred (some [])) := by rw [hX]; exact (World.putObj_heap_other (by omega)).trans hd2
    have hi3 : I pre X := by
      rw [hX]
      exact hI _ _ _ (hI _ _ _ hi (Below.alloc (Below.refl _ _) (by omega) _)) (below_putObj _ _ _ _ (by omega))
    have zX : X.heap.size = A.heap.size + 1 := by rw [hX]; simp [World.putObj]
    have hAX : ∀ k, k < A.heap.size → k ≠ w.heap.size + 1 → X.heap[k]? = A.heap[k]? := fun k hk hne => by
      rw [hX]; exact (World.putObj_heap_other (by omega)).trans (Below.heap_alloc A _ k hk)
    rw [← hX]
    have fin : ∀ (B : World) (o : Obj), Holds (fun k => Hs k ∨ w.heap.size ≤ k ∧ k < X.heap.size) X B → Holds (fun k => Hs k ∨ V.heap.size ≤ k ∧ k < A.heap.size) A (B.putObj (w.heap.size + 1) o) := fun B o hB k hk => by
      have hkA : k < A.heap.size ∧ k ≠ w.heap.size + 1 := by
        rcases hk with hk | hk
        · have := hHs k hk; omega
        · omega
      refine (World.putObj_heap_other (by omega)).trans ((hB k ?_).trans (hAX k hkA.1 hkA.2))
      rcases hk with hk | hk
      · exact .inl hk
      · exact .inr (by omega)
    have zP : ∀ (B : World) (o : Obj), X.heap.size ≤ B.heap.size → A.heap.size ≤ (B.putObj (w.heap.size + 1) o).heap.size := fun B o h => by
      have := (grownBy_putObj' B (w.heap.size + 1) o).size
      omega
    refine wpIn_mono (hbody _ pre x A X hi3 ⟨_, hX⟩ hsz rfl hN) ?_
    rintro e a3 B hp
    have endx : ∀ c, Holds (fun k => Hs k ∨ w.heap.size ≤ k ∧ k < X.heap.size) X B → X.heap.size ≤ B.heap.size → Ix c (pre ++ [x]) B → B.heap[w.heap.size + 1]? = some (.loop { rc .ready none with state := .busy }) →
        ∃ c', Ix c' (pre ++ [x]) (B.putObj (w.heap.size + 1) (.loop (rc .done (some c)))) ∧ (B.putObj (w.heap.size + 1) (.loop (rc .done (some c)))).heap[w.heap.size + 1]? = some (.loop (rc .done (some c'))) ∧ (B.putObj (w.heap.size + 1) (.loop (rc .done (some c)))).heap[w.heap.size]? = some (.deferred (some [])) := fun c hh hz hiB lB =>
      ⟨c, hIx _ _ _ _ hiB (below_putObj _ _ _ _ (by omega)), World.putObj_heap_same (Array.getElem?_eq_some_iff.1 lB).1, (World.putObj_heap_other (by omega)).trans ((hh _ (.inr (by omega))).trans hd3)⟩
    cases e with
    | normal =>
      obtain ⟨hh, hz, hiB⟩ := hp
      have lB := (hh _ (.inr (by omega))).trans hl3
      have dB := (hh _ (.inr (by omega))).trans hd3
      have hr := run_endRound (P := P) none lB
      refine ⟨_, _, hr, fin B _ hh, zP B _ hz, .inl ⟨rfl, hI _ _ _ hiB (below_putObj _ _ _ _ (by omega)), ?_, (World.putObj_heap_other (by omega)).trans dB⟩⟩
      rw [World.putObj_heap_same (Array.getElem?_eq_some_iff.1 lB).1, hrc]; rfl
    | ret =>
      obtain ⟨hh, hz, hiB⟩ := hp
      have lB := (hh _ (.inr (by omega))).trans hl3
      have hr := run_endRound (P := P) (some .ret) lB
      refine ⟨_, _, hr, fin B _ hh, zP B _ hz, .inr ⟨rfl, ?_⟩⟩
      have := endx .ret hh hz hiB lB
      rw [hrc] at this ⊢
      exact this
    | exit id =>
      obtain ⟨hh, hz, hiB⟩ := hp
      have lB := (hh _ (.inr (by omega))).trans hl3
      have hr := run_endRound (P := P) (some (.exit id)) lB
      refine ⟨_, _, hr, fin B _ hh, zP B _ hz, .inr ⟨rfl, ?_⟩⟩
      have := endx (.exit id) hh hz hiB lB
      rw [hrc] at this ⊢
      exact this
    | goto t => exact hp.elim
    | panic ch => exact hp.elim
    | outgrown => exact hp.elim
  · -- behind it
    rintro e A ⟨⟨v, rfl⟩, (⟨xs, hsd, hi, hl, hd⟩ | ⟨pre, hsp, c, hi, hl, hd⟩)⟩
    · have hr := run_endLoop (P := P) hl (by rw [hrc]; simp)
      rw [hrc] at hr
      exact ⟨none, _, hr, hdone xs _ hsd (hI _ _ _ hi (below_putObj _ _ _ _ (by omega))) ((World.putObj_heap_other (by omega)).trans hd)⟩
    · have hr := run_endLoop (P := P) hl (by rw [hrc]; simp)
      rw [hrc] at hr
      exact ⟨some c, _, hr, hstop c pre _ hsp (hIx _ _ _ _ hi (below_putObj _ _ _ _ (by omega))) ((World.putObj_heap_other (by omega)).trans hd)⟩
end Go.Proofs.YtioafeckaeaopaaDoor
namespace Go.Proofs.YtioafeckaeaopaaDoor
open Go.RowKit Go.Maps Go.Shelf
attribute [local go_sem] Oper.semAt_some

set_option maxRecDepth 100000 in
set_option maxHeartbeats 2000000 in
theorem tokens1_held (n : Nat) (hn : 1 ≤ n) (l : Nat) (s : ByteArray) (hs : s.size ≤ 140737488355328) (b Bn far f : Nat) (o : Tok) (w W : World) (hW : Stay w W) (hT : Tabs w) (hA : WalkAt w b s far o) (hBn : w.heap[Bn]? = some (.cells #[.pointer (some ⟨b, 0, none⟩)] 65 (0, 0))) (hb : 2 ≤ b) (hne : b ≠ Bn) (hf : far ≤ s.size) (hfu : s.size - far < f) (N : Nat) (hN : (tokF s.data.toList f far o).1.length ≤ N)
    (J Jx : List Tok → World → Prop) (hJ : ∀ pre A A', J pre A → Turn (fun k => k = b) A A' → J pre A')
    (hY : ∀ pre x A, J pre A → pre.length < N → YieldAt Fence.wide (n - 1) Tryd.prog l (tokVal x) A fun e A' =>
      (e = .returned (.bool true) ∧ J (pre ++ [x]) A' ∧ Holds (WS b Bn) A A') ∨ (e = .returned (.bool false) ∧ Jx (pre ++ [x]) A')) (h0 : J [] W) :
    CallsIn Fence.wide n Tryd.prog 44 #[.func (.yield l) #[] #[], .pointer (some ⟨Bn, 0, none⟩)] W fun e A => (∃ v, e = .returned v) ∧
      ((∃ xs, WSd w s b f far o xs A ∧ J xs A) ∨ (∃ pre, pre <+: (tokF s.data.toList f far o).1 ∧ Jx pre A)) := by
  refine callsIn_of_wp Tryd.func44 rfl trivial ?_ rfl
  simp only [Tryd.ntmps44, List.size_toArray, List.length_cons, List.length_nil, Nat.reduceAdd, Nat.reduceSub, Array.replicate_succ, Array.replicate_zero, List.push_toArray, List.append_toArray, List.nil_append, List.cons_append]
  have hWlt : Bn < w.heap.size := (Array.getElem?_eq_some_iff.1 hBn).1
  have hblt : b < w.heap.size := (Array.getElem?_eq_some_iff.1 hA).1
  have HI : Hid (J [] W ∧ WalkAt W b s far o ∧ W.heap[Bn]? = some (.cells #[.pointer (some ⟨b, 0, none⟩)] 65 (0, 0)) ∧ W.heap[0]? = w.heap[0]? ∧ W.heap[1]? = w.heap[1]?) := ⟨h0, (hW.block b hblt).trans hA, (hW.block Bn hWlt).trans hBn, hW.block 0 (by have := hT.lt; omega), hW.block 1 (by have := hT.lt; omega)⟩
  clear hA hBn hW h0
  gi_wp2
  gi_loopw [3, 4] (fun _u _v wr => ∃ (pre : List Tok) (fr k : Nat) (op : Tok), fr ≤ s.size ∧ s.size - fr < k ∧ J pre wr ∧ WalkAt wr b s fr op ∧ wr.heap[Bn]? = some (.cells #[.pointer (some ⟨b, 0, none⟩)] 65 (0, 0)) ∧ (wr.heap[0]? = w.heap[0]? ∧ wr.heap[1]? = w.heap[1]?) ∧ pre ++ (tokF s.data.toList k fr op).1 = (tokF s.data.toList f far o).1 ∧ (tokF s.data.toList k fr op).2 = (tokF s.data.toList f far o).2) (fun _u _v wr => walkLeft wr b s)
  case atStart => exact ⟨[], far, f, o, hf, hfu, HI.out.1, HI.out.2.1, HI.out.2.2.1, HI.out.2.2.2, rfl, rfl⟩
  case round =>
    obtain ⟨pre, fr, k, op, hfr, hk, hJr, hAr, hBr, hTr, hp, hq⟩ := hrel
    obtain ⟨k, rfl⟩ : ∃ j, k = j + 1 := ⟨k - 1, by omega⟩
    have cB : wr.cell? ⟨Bn, 0, none⟩ = some (.pointer (some ⟨b, 0, none⟩)) := by simp [World.cell?, hBr]
    have hnx := next_any s wr b fr op hAr hfr hs (two_tabs hT hTr.1 hTr.2) hb
    have hsf := stepT_far s.data.toList fr op (by simpa using hfr)
    rw [show s.data.toList.length = s.size by simp] at hsf
    have hbr : b < wr.heap.size := (Array.getElem?_eq_some_iff.1 hAr).1
    have hBnr : Bn < wr.heap.size := (Array.getElem?_eq_some_iff.1 hBr).1
    have h2r : 2 ≤ wr.heap.size := (two_tabs hT hTr.1 hTr.2).lt
    have HA : Hid (WalkAt wr b s fr op) := hAr
    have HBn : Hid (wr.heap[Bn]? = some (.cells #[.pointer (some ⟨b, 0, none⟩)] 65 (0, 0))) := hBr
    have HTr : Hid (wr.heap[0]? = w.heap[0]? ∧ wr.heap[1]? = w.heap[1]?) := hTr
    have HJr : Hid (J pre wr) := hJr
    clear HI hAr hBr hTr hJr
    cases hok : (stepT s.data.toList fr op).2.1
    · rw [tokF_no hok] at hp hq
      rw [hok] at hnx
      clear hok
      generalize stepT s.data.toList fr op = T at *
      obtain ⟨⟨t1, t2, t3, t4⟩, t5, far', op'⟩ := T
      dsimp only [Tok.val, Tok.cells] at *
      have HP : Hid (pre ++ [] = (tokF s.data.toList f far o).1 ∧ (far', op') = (tokF s.data.toList f far o).2) := ⟨hp, hq⟩
      clear hp hq hY
      gi_wp2_with (refine ⟨trivial, ?_⟩; gi_at_call 45; refine CallsIn.mono (callsIn_wide.2 hnx) ?_; rintro e w' ⟨rfl, hz⟩)
      refine ⟨fun _ h => (by cases h), ?_⟩
      gi_wp2
      refine bodyPost_ret (results_none rfl _ _ _) rfl ?_
      have htu : Turn (fun k => k = b) wr (w'.alloc (.cells #[.int .i64 t1, .string ⟨t2.toArray⟩, .int .i64 (t3 : Int), .int .i64 (t4 : Int)] 25)) := (hz.2.mono (fun _ _ h => h)).trans (Turn.of_stay (Stay.new _ _))
      have hbb : ∀ j, j < wr.heap.size → j ≠ b → (w'.alloc (.cells #[.int .i64 t1, .string ⟨t2.toArray⟩, .int .i64 (t3 : Int), .int .i64 (t4 : Int)] 25)).heap[j]? = wr.heap[j]? := fun j hj hjb => (Below.heap_alloc w' _ j (by have := hz.2.size; omega)).trans (hz.2.block j hj hjb)
      have hpp := HP.out
      rw [List.append_nil] at hpp
      refine ⟨⟨_, rfl⟩, .inl ⟨pre, ⟨hpp.1, ?_, (hbb 0 (by omega) (by omega)).trans HTr.out.1, (hbb 1 (by omega) (by omega)).trans HTr.out.2⟩, hJ pre wr _ HJr.out htu⟩⟩
      rw [← hpp.2]
      exact (Below.heap_alloc w' _ b (by have := hz.2.size; omega)).trans hz.1
    · have hpos := hsf.2.2 hok
      rw [tokF_yes hok] at hp hq
      rw [hok] at hnx
      clear hok
      generalize stepT s.data.toList fr op = T at *
      obtain ⟨⟨t1, t2, t3, t4⟩, t5, far', op'⟩ := T
      dsimp only [Tok.val, Tok.cells] at *
      have HP : Hid (pre ++ (⟨t1, t2, t3, t4⟩ :: (tokF s.data.toList k far' op').1) = (tokF s.data.toList f far o).1 ∧ (tokF s.data.toList k far' op').2 = (tokF s.data.toList f far o).2) := ⟨hp, hq⟩
      have hlen : pre.length < N := by
        have := congrArg List.length hp
        simp at this; omega
      clear hp hq
      have key : ∀ w', Nz wr w' b s far' op' → J pre (w'.alloc (.cells #[.int .i64 t1, .string ⟨t2.toArray⟩, .int .i64 (t3 : Int), .int .i64 (t4 : Int)] 25)) ∧ (w'.alloc (.cells #[.int .i64 t1, .string ⟨t2.toArray⟩, .int .i64 (t3 : Int), .int .i64 (t4 : Int)] 25)).heap[b]? = w'.heap[b]? ∧ ∀ j, j < wr.heap.size → j ≠ b → (w'.alloc (.cells #[.int .i64 t1, .string ⟨t2.toArray⟩, .int .i64 (t3 : Int), .int .i64 (t4 : Int)] 25)).heap[j]? = wr.heap[j]? := fun w' hz =>
        ⟨hJ pre wr _ HJr.out ((hz.2.mono (fun _ _ h => h)).trans (Turn.of_stay (Stay.new _ _))), Below.heap_alloc w' _ b (by have := hz.2.size; omega), fun j hj hjb => (Below.heap_alloc w' _ j (by have := hz.2.size; omega)).trans (hz.2.block j hj hjb)⟩
      gi_wp2_with (refine ⟨trivial, ?_⟩; gi_at_call 45; refine CallsIn.mono (callsIn_wide.2 hnx) ?_; rintro e w' ⟨rfl, hz⟩; obtain ⟨fn, tmps, assign, body, hy, hR⟩ := hY pre ⟨t1, t2, t3, t4⟩ (w'.alloc (.cells #[.int .i64 t1, .string ⟨t2.toArray⟩, .int .i64 (t3 : Int), .int .i64 (t4 : Int)] 25)) (key w' hz).1 hlen; dsimp only [tokVal] at hy; have HZ : Hid (Nz wr w' b s far' op') := hz; clear hz hY)
      refine hR.mono ?_
      rintro e9 W3 (⟨rfl, hJ3, hk3⟩ | ⟨rfl, hJx3⟩)
      · have hkk := (key w' HZ.out).2
        have HR : Hid (J (pre ++ [⟨t1, t2, t3, t4⟩]) W3 ∧ WalkAt W3 b s far' op' ∧ W3.heap[Bn]? = some (.cells #[.pointer (some ⟨b, 0, none⟩)] 65 (0, 0)) ∧ W3.heap[0]? = w.heap[0]? ∧ W3.heap[1]? = w.heap[1]?) :=
          ⟨hJ3, (hk3 b (.inl rfl)).trans (hkk.1.trans HZ.out.1), (hk3 Bn (.inr (.inl rfl))).trans ((hkk.2 Bn hBnr (Ne.symm hne)).trans HBn.out), (hk3 0 (.inr (.inr (by omega)))).trans ((hkk.2 0 (by omega) (by omega)).trans HTr.out.1), (hk3 1 (.inr (.inr (by omega)))).trans ((hkk.2 1 (by omega) (by omega)).trans HTr.out.2)⟩
        clear hkk hJ3 hk3 key hR
        gi_wp2
        go_roundw
        case rel => exact ⟨pre ++ [⟨t1, t2, t3, t4⟩], far', k, op', hsf.2.1, by omega, HR.out.1, HR.out.2.1, HR.out.2.2.1, HR.out.2.2.2, by rw [List.append_assoc]; exact HP.out.1, HP.out.2⟩
        case measure => rw [walkLeft_eq HR.out.2.1, walkLeft_eq HA.out]; omega
      · clear key hR
        gi_wp2
        refine bodyPost_ret (results_none rfl _ _ _) rfl ?_
        refine ⟨⟨_, rfl⟩, .inr ⟨_, ?_, hJx3⟩⟩
        exact ⟨(tokF s.data.toList k far' op').1, by rw [List.append_assoc]; exact HP.out.1⟩
theorem tokens_held_seq (n : Nat) (hn : 1 ≤ n) (s : ByteArray) (hs : s.size ≤ 140737488355328) (b Bn : Nat) (w : World) (hT : Tabs w) (hA : WalkAt w b s 0 tok0) (hBn : w.heap[Bn]? = some (.cells #[.pointer (some ⟨b, 0, none⟩)] 65 (0, 0))) (hb : 2 ≤ b) (hne : b ≠ Bn) (N : Nat) (hN : (tokT s.data.toList).1.length ≤ N) :
    SeqU Fence.wide n Tryd.prog 44 #[.pointer (some ⟨Bn, 0, none⟩)] tokVal (fun k => k = b) (WS b Bn) (fun xs A => WSd w s b (s.data.toList.length + 1) 0 tok0 xs A) (fun pre => pre <+: (tokT s.data.toList).1) N w := fun l J Jx W hW hJ hY h0 =>
  tokens1_held n hn l s hs b Bn 0 (s.data.toList.length + 1) tok0 w W hW hT hA hBn hb hne (Nat.zero_le _) (by simp) N hN J Jx hJ hY h0
end Go.Proofs.YtioafeckaeaopaaDoor
namespace Go.Proofs.YtioafeckaeaopaaDoor
open Go.RowKit Go.Maps Go.Shelf
attribute [local go_sem] Oper.semAt_some

theorem each_any (s : ByteArray) (w : World) : Calls Tryd.prog 14 #[.string s] w fun e w' => e = .returned (.func (.func 33) #[] #[.pointer (some ⟨w.heap.size, 0, none⟩)]) ∧ w' = w.alloc (.cells #[.string s] 9) := by
  go_enter Tryd.func14, Tryd.ntmps14
  go_wp2
  go_ret
  exact ⟨rfl, rfl⟩

theorem below_turn {W A A' : World} {S : Nat → Prop} (h : Turn S A A') (hs : ∀ k, S k → W.heap.size ≤ k) (hz : W.heap.size ≤ A.heap.size) : Below W.heap.size A A' :=
  ⟨h.os, h.tape, h.output, h.size, fun k hk => h.block k (by omega) (fun e => by have := hs k e; omega)⟩

set_option maxRecDepth 100000 in
set_option maxHeartbeats 4000000 in
theorem each_seq (s : ByteArray) (hs : s.size ≤ 16777216) (Bt : Nat) (w : World) (hT : Tabs w) (hBt : w.heap[Bt]? = some (.cells #[.string s] 9 (0, 0))) (N : Nat) (hN : (tokT s.data.toList).1.length ≤ N) :
    SeqN Fence.wide 8 Tryd.prog 33 #[.pointer (some ⟨Bt, 0, none⟩)] tokVal (fun k => k < 2) (fun xs => xs = (tokT s.data.toList).1) (fun pre => pre <+: (tokT s.data.toList).1) N w := by
  intro l J Jx W hW hJ hJx hY h0
  have hTW := hT.stay hW
  have h2 := hTW.lt
  have cB : W.cell? ⟨Bt, 0, none⟩ = some (.string s) := by
    have := (hW.block Bt (Array.getElem?_eq_some_iff.1 hBt).1).trans hBt
    simp [World.cell?, this]
  have hBl : Bt < W.heap.size := by have := (Array.getElem?_eq_some_iff.1 hBt).1; have := hW.size; omega
  refine callsIn_of_wp_marks Tryd.func33 rfl trivial ?_ rfl
  simp only [Tryd.ntmps33, List.size_toArray, List.length_cons, List.length_nil, Nat.reduceAdd, Nat.reduceSub, Array.replicate_succ, Array.replicate_zero, List.push_toArray, List.append_toArray, List.nil_append, List.cons_append]
  gi_wp2_with (refine ⟨trivial, ?_⟩; gi_at_call 29; refine CallsIn.mono (callsIn_wide.2 (tokens_any _ _)) ?_; rintro e w' ⟨rfl, rfl⟩)
  obtain ⟨V, hV⟩ : ∃ V, V = ((W.alloc (.cells #[.func (.yield l) #[] #[]] 52)).alloc (.cells #[.string s, .int .i64 0, .int .i64 0, .string ⟨#[]⟩, .int .i64 0, .int .i64 0] 46)).alloc (.cells #[.pointer (some ⟨W.heap.size + 1, 0, none⟩)] 65) := ⟨_, rfl⟩
  rw [← hV]
  have sV : V.heap.size = W.heap.size + 3 := by rw [hV]; simp
  have stV : Stay W V := by rw [hV]; exact ((Stay.new _ _).alloc _).alloc _
  have v0 : V.heap[W.heap.size]? = some (.cells #[.func (.yield l) #[] #[]] 52 (0, 0)) := by
    rw [hV]; exact (Below.heap_alloc _ _ _ (by simp only [World.size_alloc]; omega)).trans ((Below.heap_alloc _ _ _ (by simp only [World.size_alloc]; omega)).trans (heap_new _ _))
  have v1 : V.heap[W.heap.size + 1]? = some (.cells #[.string s, .int .i64 0, .int .i64 0, .string ⟨#[]⟩, .int .i64 0, .int .i64 0] 46 (0, 0)) := by
    rw [hV]; refine (Below.heap_alloc _ _ _ (by simp)).trans ?_
    have := heap_new (W.alloc (.cells #[.func (.yield l) #[] #[]] 52)) (.cells #[.string s, .int .i64 0, .int .i64 0, .string ⟨#[]⟩, .int .i64 0, .int .i64 0] 46)
    rwa [World.size_alloc] at this
  have v2 : V.heap[W.heap.size + 1 + 1]? = some (.cells #[.pointer (some ⟨W.heap.size + 1, 0, none⟩)] 65 (0, 0)) := by
    rw [hV]
    have := heap_new ((W.alloc (.cells #[.func (.yield l) #[] #[]] 52)).alloc (.cells #[.string s, .int .i64 0, .int .i64 0, .string ⟨#[]⟩, .int .i64 0, .int .i64 0] 46)) (.cells #[.pointer (some ⟨W.heap.size + 1, 0, none⟩)] 65)
    rwa [World.size_alloc, World.size_alloc] at this
  have hJV : J [] V := hJ _ _ _ h0 stV
  clear hV h0
  refine' range_held (α := Tok) rfl (by decide) (gf := 44) (lb := #[.pointer (some ⟨W.heap.size + 1 + 1, 0, none⟩)]) rfl trivial (enters_of Tryd.func44 (by kernel_rfl) rfl)
    (tokens_held_seq (8 - 1) (by decide) s (by omega) (W.heap.size + 1) (W.heap.size + 1 + 1) V (hTW.stay stV) v1 v2 (by omega) (by omega) N hN) (fun k hk => ?hSt) (fun k hk => ?hS) (fun _ => rfl)
    (fun xs A A' hA hH => ?hSd) (fun pre A => J pre A ∧ A.heap[W.heap.size]? = some (.cells #[.func (.yield l) #[] #[]] 52 (0, 0)) ∧ V.heap.size ≤ A.heap.size) (fun c pre A => c = .ret ∧ Jx pre A ∧ V.heap.size ≤ A.heap.size) (fun pre A A' hA ht hc => ?hI) (fun c pre A A' hA ht hc => ?hIx) ⟨hJV, v0, Nat.le_refl _⟩ (fun x => .cells #[.int .i64 x.kind, .string ⟨x.text.toArray⟩, .int .i64 (x.at_ : Int), .int .i64 (x.fin : Int)] 25) _ ?assign ?body ?done ?stop
  case hSt => omega
  case hS => rcases hk with h | h | h <;> omega
  case hSd =>
    obtain ⟨h1, h2, h3, h4⟩ := hA
    exact ⟨h1, (hH _ (.inl rfl)).trans h2, (hH 0 (.inr (.inr (by omega)))).trans h3, (hH 1 (.inr (.inr (by omega)))).trans h4⟩
  case hI =>
    refine ⟨hJ _ _ _ hA.1 (below_turn ht (fun k hk => by omega) (by omega)), ?_, Nat.le_trans hA.2.2 ht.size⟩
    exact (ht.block W.heap.size (by omega) (fun h => by omega)).trans hA.2.1
  case hIx => exact ⟨hA.1, hJx _ _ _ hA.2.1 (below_turn ht (fun k hk => by omega) (by omega)), Nat.le_trans hA.2.2 ht.size⟩
  case assign =>
    intro l' x W' K hK
    dsimp only [tokVal]
    gi_wp2
    exact hK
  case body =>
    intro l' pre x W' X hX ho hWs hl hr hd hlt
    have hx8 : X.heap[W'.heap.size]? = some (.cells #[.int .i64 x.kind, .string ⟨x.text.toArray⟩, .int .i64 (x.at_ : Int), .int .i64 (x.fin : Int)] 25 (0, 0)) := by
      obtain ⟨o', rfl⟩ := ho
      exact (World.putObj_heap_other (by omega)).trans (heap_new _ _)
    obtain ⟨x0, x1, x2, x3, -⟩ := four hx8
    have cY : X.cell? ⟨W.heap.size, 0, none⟩ = some (.func (.yield l) #[] #[]) := by simp [World.cell?, hX.2.1]
    obtain ⟨fn, tmps, assign, body, hy, hR⟩ := yield_any (l' := l') (m' := 8 - 1 - 1 - 1) (hY pre x X hX.1 hlt (by have := hX.2.2; omega))
    dsimp only [tokVal] at hy
    have HX : Hid (X.heap[W.heap.size]? = some (.cells #[.func (.yield l) #[] #[]] 52 (0, 0)) ∧ V.heap.size ≤ X.heap.size) := hX.2
    have hXl : V.heap.size + 1 < X.heap.size := by
      obtain ⟨r, hr⟩ := hr
      exact (Array.getElem?_eq_some_iff.1 hr).1
    obtain ⟨k1, k2, k3, k4⟩ := x
    dsimp only at *
    clear hX ho hr hd hx8 hJV v0 v1 v2 stV hY
    gi_wp2
    refine hR.mono ?_
    rintro e9 W3 ⟨hh, hz, (⟨rfl, hJ3⟩ | ⟨rfl, hJx3⟩)⟩
    · have HH : Hid (Holds (fun k => k < 2 ∨ W.heap.size ≤ k ∧ k < X.heap.size) X W3 ∧ X.heap.size ≤ W3.heap.size ∧ J (pre ++ [⟨k1, k2, k3, k4⟩]) W3) := ⟨hh, hz, hJ3⟩
      clear hR hh hz hJ3
      gi_wp2
      refine ⟨fun k hk => HH.out.1 k ?_, HH.out.2.2, (HH.out.1 _ (.inr (by omega))).trans HX.out.1, by have := HH.out.2.1; have := HX.out.2; omega⟩
      rcases hk with (h | h | h) | h | h
      · exact .inr (by omega)
      · exact .inr (by omega)
      · exact .inl h
      · exact .inr (by omega)
      · exact .inr (by omega)
    · have HH : Hid (Holds (fun k => k < 2 ∨ W.heap.size ≤ k ∧ k < X.heap.size) X W3 ∧ X.heap.size ≤ W3.heap.size ∧ Jx (pre ++ [⟨k1, k2, k3, k4⟩]) W3) := ⟨hh, hz, hJx3⟩
      clear hR hh hz hJx3
      gi_wp2
      refine ⟨fun k hk => HH.out.1 k (.inr (by omega)), rfl, HH.out.2.2, by have := HH.out.2.1; have := HX.out.2; omega⟩
  case done =>
    rintro xs A ⟨hxs, hwk, h0, h1⟩ hI hdd
    gi_wp2
    refine ⟨by simp, .inl ⟨_, _, rfl, run_takeDeferred hdd, ?_⟩⟩
    exact ⟨_, results_none rfl _ _ _, ⟨_, rfl⟩, .inl ⟨xs, hxs, hJ _ _ _ hI.1 (below_putObj _ _ _ _ (by omega))⟩⟩
  case stop =>
    rintro c pre A hpre ⟨rfl, hI, hz⟩ hdd
    gi_wp2
    refine ⟨by simp, .inl ⟨_, _, rfl, run_takeDeferred hdd, ?_⟩⟩
    exact ⟨_, results_none rfl _ _ _, ⟨_, rfl⟩, .inr ⟨pre, hpre, hJx _ _ _ hI (below_putObj _ _ _ _ (by omega))⟩⟩
end Go.Proofs.YtioafeckaeaopaaDoor
