/- Loops over functions whose rounds may turn what the function reads: who owns which blocks is told as the loop goes. -/
import Derived.Test.YtnhmjheipfopoaaL8g
namespace Go.Proofs.Ytnhmjheipfopoaa.L
open Go.RowKit Go.Maps Go.Shelf Go.Proofs.Ytnhmjheipfopoaa

/-- A list of places that is gone through: its block, how many of its cells, and what they hold. -/
structure Mark where
  k : Nat
  n : Nat
  cs : Nat → Option Value
/-- What a loop's rounds know: a mark, how many rounds went, which blocks are the rounds' own, the world. -/
abbrev RoundI := Mark → Nat → (Nat → Prop) → World → Prop

/-- A function that tells cnt things one by one. Enc: what is told, and which new blocks are handed over with it. Op: what it does at its beginning, turning F0. Inv: what it needs to find at each round. Bx: what nobody may turn meanwhile. -/
def SeqU (P : Program) (gf : Nat) (lb : Array Value) (cnt : Nat) (mk : Nat → Value → Array Value) (Enc : Nat → Value → (Nat → Prop) → World → Prop) (Op : Mark → World → World → Prop) (Inv : Mark → World → Prop) (F0 Bx : Nat → Prop) (w : World) : Prop :=
  ∀ (l : Nat) (J : RoundI) (W : World) (U0 : Nat → Prop), Stay w W → (∀ i, U0 i → i < W.heap.size) → (∀ i, Bx i → ¬ U0 i) →
    (∀ s k U A A', J s k U A → Turn (fun i => W.heap.size ≤ i ∧ ¬ U i) A A' → J s k U A') →
    (∀ s k U A, J s k U A → (∀ i, U i → i < A.heap.size) ∧ Inv s A) →
    (∀ s Y V', Stay W Y → Op s Y V' → Turn F0 Y V' → ∃ U', (∀ i, U' i → U0 i ∨ Y.heap.size ≤ i) ∧ J s 0 U' V') →
    (∀ s k (_ : k < cnt) U v E A, J s k U A → Enc k v E A → (∀ i, E i → W.heap.size ≤ i ∧ i < A.heap.size ∧ ¬ U i) → W.heap.size ≤ A.heap.size → YieldAt Fence.wide 0 P l (mk k v) A (fun e A' => e = .returned (.bool true) ∧ ∃ U', Turn (fun i => U i ∨ E i) A A' ∧ (∀ i, U' i → U i ∨ E i ∨ A.heap.size ≤ i) ∧ J s (k + 1) U' A')) →
    Calls P gf (#[.func (.yield l) #[] #[]] ++ lb) W fun e A => (∃ v, e = .returned v) ∧ ∃ s U, (∀ i, U i → U0 i ∨ W.heap.size ≤ i) ∧ J s cnt U A
theorem SeqU.stay {P : Program} {gf : Nat} {lb : Array Value} {cnt : Nat} {mk : Nat → Value → Array Value} {Enc : Nat → Value → (Nat → Prop) → World → Prop} {Op : Mark → World → World → Prop} {Inv : Mark → World → Prop} {F0 Bx : Nat → Prop} {w w' : World} (h : SeqU P gf lb cnt mk Enc Op Inv F0 Bx w) (hs : Stay w w') : SeqU P gf lb cnt mk Enc Op Inv F0 Bx w' :=
  fun l J W U0 hW => h l J W U0 (hs.trans hW)

/-- How a round's body ends. -/
def ownPost (I : RoundI) (s : Mark) (k : Nat) (U E : Nat → Prop) (X : World) : Exit → Act → World → Prop
  | .normal, _, X' => ∃ U', Turn (fun i => U i ∨ E i) X X' ∧ (∀ i, U' i → U i ∨ E i ∨ X.heap.size ≤ i) ∧ I s k U' X'
  | _, _, _ => False

theorem turn_putObj (A : World) (l : Nat) (o : Obj) : Turn (fun i => i = l) A (A.putObj l o) := by
  have g := grownBy_putObj' A l o
  exact ⟨g.os, g.tape, g.output, g.size, fun k _ hn => World.putObj_heap_other hn⟩

set_option maxHeartbeats 1000000 in
/-- The law: a loop over such a function. -/
theorem range_own {n : Nat} {P : Program} {g : Operand} {ps : Array Tmp} {assign body : Code} {Q : Exit → Act → World → Prop} {a : Act} {w : World}
    (h1 : 1 ≤ n) {gf : Nat} {lb : Array Value} (hg : a.eval g = .func (.func gf) #[] lb) (eg : ∀ args w, (callFunc gf args).run P w = .ok (.enter gf args) w)
    {cnt : Nat} {mk : Nat → Value → Array Value} {Enc : Nat → Value → (Nat → Prop) → World → Prop} {Op : Mark → World → World → Prop} {Inv : Mark → World → Prop} {F0 Bx : Nat → Prop} (hseq : SeqU P gf lb cnt mk Enc Op Inv F0 Bx w)
    (hps : ∀ k v, (mk k v).size = ps.size) (hEnc : ∀ k v E A A', Enc k v E A → Turn (fun i => ¬ E i) A A' → Enc k v E A')
    (I : RoundI) (hI : ∀ s k U A A', I s k U A → Turn (fun i => w.heap.size ≤ i ∧ ¬ U i) A A' → I s k U A') (hinv : ∀ s k U A, I s k U A → (∀ i, U i → i < A.heap.size) ∧ Inv s A)
    (U0 : Nat → Prop) (hU0 : ∀ i, U0 i → i < w.heap.size) (hF0 : ∀ i, F0 i → i < w.heap.size) (hBx : ∀ i, Bx i → ¬ U0 i) (hopen : ∀ s Y V', Stay w Y → Op s Y V' → Turn F0 Y V' → ∃ U', (∀ i, U' i → U0 i ∨ Y.heap.size ≤ i) ∧ I s 0 U' V')
    (a1 : Nat → Value → Act)
    (hassign : ∀ (l k : Nat) (v : Value) (W : World) (K : Act → World → Prop), K (a1 k v) W →
      assign.wpIn (Fence.wide.inRound l) (n - 1 - 1) P (Exit.then K (fun _ _ _ => False)) { tmps := (ps.zip (mk k v)).foldl (fun t (p, v) => t.setIfInBounds p v) a.tmps, defers := [] } W)
    (hbody : ∀ (l : Nat) (s : Mark) (k : Nat) (_ : k < cnt) (U : Nat → Prop) (v : Value) (E : Nat → Prop) (X : World), I s k U X → Enc k v E X → (∀ i, E i → w.heap.size ≤ i ∧ i < X.heap.size ∧ ¬ U i) → w.heap.size ≤ X.heap.size →
      body.wpIn (Fence.wide.inRound l) (n - 1 - 1) P (ownPost I s (k + 1) U E X) (a1 k v) X)
    (hdone : ∀ (s : Mark) (U : Nat → Prop) (W : World), (∀ i, U i → U0 i ∨ w.heap.size ≤ i) → I s cnt U W → W.heap[w.heap.size]? = some (.deferred (some [])) → ¬ U w.heap.size → Q .normal { a with defers := { target := .collected w.heap.size, args := #[] } :: a.defers } W) :
    (Code.rangeFunc g ps assign body).wpIn Fence.wide n P Q a w := by
  refine wpIn_rangeFunc fun fn hfn => ?_
  rw [show Fence.wide.round = none from rfl]
  obtain ⟨rc, hrc⟩ : ∃ rc : LoopState → Option Code → Loop, rc = fun st pe => { state := st, pending := pe, fn, tmps := a.tmps, params := ps, assign, body, defers := w.heap.size } := ⟨_, rfl⟩
  obtain ⟨V, hV⟩ : ∃ V, (w.alloc (.deferred (some []))).alloc (.loop (rc .ready none)) = V := ⟨_, rfl⟩
  have sV : Stay w V := by rw [← hV]; exact (Stay.new _ _).alloc _
  have zV : V.heap.size = w.heap.size + 2 := by rw [← hV]; simp
  have lV : V.heap[w.heap.size + 1]? = some (.loop (rc .ready none)) := by
    rw [← hV]
    have := heap_new (w.alloc (.deferred (some []))) (.loop (rc .ready none))
    rwa [World.size_alloc] at this
  have dV : V.heap[w.heap.size]? = some (.deferred (some [])) := by
    rw [← hV]; exact (Below.heap_alloc _ _ _ (by simp)).trans (heap_new w _)
  refine ⟨w.heap.size + 1, [{ target := .collected w.heap.size, args := #[] }], V, { target := .fn (.func gf) lb, args := #[.func (.yield (w.heap.size + 1)) #[] #[]] }, V, gf, #[.func (.yield (w.heap.size + 1)) #[] #[]] ++ lb, V, ?_, ?_, ?_, ?_, fun _ => h1, ?_⟩
  · rw [← hV, hrc]; exact run_enterLoop_outer _ _ _ _ _
  · simp only [resolve, hg]
    simp [go_sem]
  · intro f' hf'; trivial
  · simp [invoke, go_sem, eg]
  refine (callsIn_wide.2 (hseq (w.heap.size + 1)
    (fun s k U A => I s k U A ∧ A.heap[w.heap.size + 1]? = some (.loop (rc .ready none)) ∧ A.heap[w.heap.size]? = some (.deferred (some [])) ∧ ¬ U (w.heap.size + 1) ∧ ¬ U w.heap.size)
    V U0 sV (fun i h => by have := hU0 i h; omega) hBx (fun s k U A A' hA ht => ?clos) (fun s k U A hA => hinv s k U A hA.1) (fun s Y V' hY hO hT => ?opening) (fun s k hk U v E A hA hE hEf hVA => ?round))).mono ?fin
  case clos =>
    obtain ⟨hi, hl, hd, n1, n2⟩ := hA
    exact ⟨hI _ _ _ _ _ hi (ht.mono fun i _ h => ⟨by omega, h.2⟩), ht.heap hl (fun h => by omega), ht.heap hd (fun h => by omega), n1, n2⟩
  case opening =>
    obtain ⟨U', hU', hi⟩ := hopen s Y V' (sV.trans hY) hO hT
    have hYs := hY.size
    have q1 : ¬ U0 (w.heap.size + 1) := fun h => by have := hU0 _ h; omega
    have q2 : ¬ U0 w.heap.size := fun h => by have := hU0 _ h; omega
    refine ⟨U', hU', hi, hT.heap (hY.heap lV) (fun h => by have := hF0 _ h; omega), hT.heap (hY.heap dV) (fun h => by have := hF0 _ h; omega), fun h => ?_, fun h => ?_⟩
    · rcases hU' _ h with h | h
      · exact q1 h
      · omega
    · rcases hU' _ h with h | h
      · exact q2 h
      · omega
  case round =>
    obtain ⟨hi, hl, hd, n1, n2⟩ := hA
    have hsz : w.heap.size + 1 < A.heap.size := (Array.getElem?_eq_some_iff.1 hl).1
    have hy := run_yield (P := P) (args := mk k v) hl (by rw [hrc]; exact hps k v)
    rw [hrc] at hy
    refine yield_deep (m := n - 1 - 1) ⟨fn, _, assign, body, hy, roundIn_of_wpIn hfn (hassign _ k v A _ ?_)⟩
    refine ⟨_, run_beginRound hl (by rw [hrc]), ?_⟩
    obtain ⟨X, hX⟩ : ∃ X, X = A.putObj (w.heap.size + 1) (.loop { rc .ready none with state := .busy }) := ⟨_, rfl⟩
    have tX : Turn (fun i => i = w.heap.size + 1) A X := by rw [hX]; exact turn_putObj _ _ _
    have hl3 : X.heap[w.heap.size + 1]? = some (.loop { rc .ready none with state := .busy }) := by rw [hX]; exact World.putObj_heap_same (by omega)
    have hd3 : X.heap[w.heap.size]? = some (.deferred (some [])) := tX.heap hd (by omega)
    have hi3 : I s k U X := hI _ _ _ _ _ hi (tX.mono fun i _ h => by subst h; exact ⟨by omega, n1⟩)
    have zX : X.heap.size = A.heap.size := by rw [hX]; simp [World.putObj]
    have nE1 : ¬ E (w.heap.size + 1) := fun h => by have := (hEf _ h).1; omega
    have nE2 : ¬ E w.heap.size := fun h => by have := (hEf _ h).1; omega
    have hE3 : Enc k v E X := hEnc _ _ _ _ _ hE (tX.mono fun i _ h => by subst h; exact nE1)
    rw [← hX]
    refine wpIn_mono (hbody _ s k hk U v E X hi3 hE3 (fun i hi => ⟨by have := (hEf i hi).1; omega, by have := (hEf i hi).2.1; omega, (hEf i hi).2.2⟩) (by omega)) ?_
    rintro e a3 B hp
    cases e with
    | normal =>
      obtain ⟨U', tB, hU', hiB⟩ := hp
      have lB : B.heap[w.heap.size + 1]? = some (.loop { rc .ready none with state := .busy }) := tB.heap hl3 (by rintro (h | h); exact n1 h; exact nE1 h)
      have dB : B.heap[w.heap.size]? = some (.deferred (some [])) := tB.heap hd3 (by rintro (h | h); exact n2 h; exact nE2 h)
      have m1 : ¬ U' (w.heap.size + 1) := fun h => by
        rcases hU' _ h with h | h | h
        · exact n1 h
        · exact nE1 h
        · omega
      have m2 : ¬ U' w.heap.size := fun h => by
        rcases hU' _ h with h | h | h
        · exact n2 h
        · exact nE2 h
        · omega
      have hr := run_endRound (P := P) none lB
      have tZ := turn_putObj B (w.heap.size + 1) (.loop (rc .ready none))
      have lZ : (B.putObj (w.heap.size + 1) (.loop (rc .ready none))).heap[w.heap.size + 1]? = some (.loop (rc .ready none)) := World.putObj_heap_same (Array.getElem?_eq_some_iff.1 lB).1
      have hzB := tB.size
      have hzZ := tZ.size
      have tA : Turn (fun i => U i ∨ E i) A (B.putObj (w.heap.size + 1) (.loop (rc .ready none))) := by
        refine ⟨tZ.os.trans (tB.os.trans tX.os), tZ.tape.trans (tB.tape.trans tX.tape), tZ.output.trans (tB.output.trans tX.output), by omega, fun i hiA hn => ?_⟩
        by_cases e : i = w.heap.size + 1
        · subst e; exact lZ.trans hl.symm
        · exact (tZ.block i (by omega) e).trans ((tB.block i (by omega) hn).trans (tX.block i hiA e))
      rw [hrc] at hr lZ tA tZ
      refine ⟨_, _, hr, rfl, U', ?_, fun i h => by rw [← zX]; exact hU' i h, hI _ _ _ _ _ hiB (tZ.mono fun i _ h => by subst h; exact ⟨by omega, m1⟩), ?_, tZ.heap dB (by omega), m1, m2⟩
      · exact tA
      · rw [hrc]; exact lZ
    | ret => exact hp.elim
    | exit id => exact hp.elim
    | goto t => exact hp.elim
    | panic ch => exact hp.elim
    | outgrown => exact hp.elim
  case fin =>
    rintro e A ⟨⟨v, rfl⟩, s, U, hUU, hi, hl, hd, n1, n2⟩
    have hr := run_endLoop (P := P) hl (by rw [hrc]; simp)
    rw [hrc] at hr
    have tZ := turn_putObj A (w.heap.size + 1)
    exact ⟨none, _, hr, hdone s U _ (fun i h => (hUU i h).imp id (fun h => by omega)) (hI _ _ _ _ _ hi ((tZ _).mono fun i _ h => by subst h; exact ⟨by omega, n1⟩)) ((tZ _).heap hd (by omega)) n2⟩

/-- A function with marks leaves: the marks alone turn. -/
theorem leaves_turn {F : Fence} {n : Nat} {P : Program} {fn : Func} {tmps : Array Value} {R : Ending → World → Prop} : ∀ (rs : List Nat) (w : World), rs.Nodup → (∀ r ∈ rs, w.heap[r]? = some (.deferred (some []))) → (∀ w', Turn (fun i => i ∈ rs) w w' → LeavesIn F n P fn tmps R [] .returning w') → LeavesInM F n P fn tmps R (rs.map markOf) .returning w
  | [], w, _, _, h => h w (Turn.refl _ _)
  | r :: rs, w, hn, hs, h => by
    refine ⟨by simp, .inl ⟨r, w.putObj r (.deferred none), rfl, run_takeDeferred (hs r (by simp)), leaves_turn rs _ (List.nodup_cons.1 hn).2 (fun x hx => ?_) (fun w' hw' => h w' (((turn_putObj w r _).mono (fun i _ e => by subst e; exact List.mem_cons_self ..)).trans (hw'.mono (fun i _ e => List.mem_cons_of_mem _ e))))⟩⟩
    have hne : x ≠ r := fun e => (List.nodup_cons.1 hn).1 (by rw [← e]; exact hx)
    exact (World.putObj_heap_other hne).trans (hs x (by simp [hx]))
end Go.Proofs.Ytnhmjheipfopoaa.L
