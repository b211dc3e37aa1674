/- The three pairs at the beginning; a step of them, whatever is asked. -/
import Derived.Test.YtdmopioiaaecfaaPlaysP
namespace Go.Proofs.Ytdmopioiaaecfaa
open Go.RowKit Go.Maps

section
variable {w w1 w2 W W' : World} {A B N N' : Nat} {T : Tri}

/-- Where the walk begins. -/
def begW (w w1 w2 : World) : World := (((w2.alloc (.cells #[.pointer (some ⟨w.heap.size + 2, 0, none⟩), .pointer (some ⟨w1.heap.size + 2, 0, none⟩), .pointer none] 25)).alloc (.cells #[.slice none 0 0] 29)).alloc (.cells #[.slice none 0 0] 29)).alloc (.cells #[.pointer (some ⟨w2.heap.size + 1, 0, none⟩), .pointer (some ⟨w2.heap.size + 1 + 1, 0, none⟩), .pointer none] 30)

theorem rtab_at {b : Nat} (h : W.heap[b]? = some (.cells #[.slice none 0 0] 29 (0, 0))) : RTab W b (.slice none 0 0) [] :=
  ⟨h, by simpa using World.ownsRow_nil W 0 9 1, List.nodup_nil⟩

theorem pli_start (h1 : Fresh w (w.heap.size + 2) [] w1) (h2 : Fresh w1 (w1.heap.size + 2) [] w2) : ∃ T, PlI w w2.heap.size (w2.heap.size + 1 + 1 + 1) 0 T (begW w w1 w2) := by
  obtain ⟨bm1, g1, c1, hT1, e1, e2, e3, hb1⟩ := h1
  obtain ⟨bm2, g2, c2, hT2, f1, f2, f3, hb2⟩ := h2
  have z1 := hb1.size
  have z2 := hb2.size
  have l1 := hT1.lt
  have l2 := hT2.lt
  have hbA : Below w2.heap.size w2 (begW w w1 w2) := by
    unfold begW
    exact ((((Below.refl _ w2).alloc (Nat.le_refl _) _).alloc (by simp) _).alloc (by simp; omega) _).alloc (by simp; omega) _
  have hA : (begW w w1 w2).heap[w2.heap.size]? = some (.cells #[.pointer (some ⟨w.heap.size + 2, 0, none⟩), .pointer (some ⟨w1.heap.size + 2, 0, none⟩), .pointer none] 25 (0, 0)) := by
    unfold begW
    exact (Below.heap_alloc _ _ _ (by simp; omega)).trans ((Below.heap_alloc _ _ _ (by simp; omega)).trans ((Below.heap_alloc _ _ _ (by simp)).trans (heap_new _ _)))
  have hr1 : (begW w w1 w2).heap[w2.heap.size + 1]? = some (.cells #[.slice none 0 0] 29 (0, 0)) := by
    unfold begW
    refine (Below.heap_alloc _ _ _ (by simp)).trans ((Below.heap_alloc _ _ _ (by simp)).trans ?_)
    have := heap_new (w2.alloc (.cells #[.pointer (some ⟨w.heap.size + 2, 0, none⟩), .pointer (some ⟨w1.heap.size + 2, 0, none⟩), .pointer none] 25)) (.cells #[.slice none 0 0] 29)
    rwa [World.size_alloc] at this
  have hr2 : (begW w w1 w2).heap[w2.heap.size + 1 + 1]? = some (.cells #[.slice none 0 0] 29 (0, 0)) := by
    unfold begW
    refine (Below.heap_alloc _ _ _ (by simp)).trans ?_
    have := heap_new ((w2.alloc (.cells #[.pointer (some ⟨w.heap.size + 2, 0, none⟩), .pointer (some ⟨w1.heap.size + 2, 0, none⟩), .pointer none] 25)).alloc (.cells #[.slice none 0 0] 29)) (.cells #[.slice none 0 0] 29)
    rwa [World.size_alloc, World.size_alloc] at this
  have hB : (begW w w1 w2).heap[w2.heap.size + 1 + 1 + 1]? = some (.cells #[.pointer (some ⟨w2.heap.size + 1, 0, none⟩), .pointer (some ⟨w2.heap.size + 1 + 1, 0, none⟩), .pointer none] 30 (0, 0)) := by
    unfold begW
    have := heap_new (((w2.alloc (.cells #[.pointer (some ⟨w.heap.size + 2, 0, none⟩), .pointer (some ⟨w1.heap.size + 2, 0, none⟩), .pointer none] 25)).alloc (.cells #[.slice none 0 0] 29)).alloc (.cells #[.slice none 0 0] 29)) (.cells #[.pointer (some ⟨w2.heap.size + 1, 0, none⟩), .pointer (some ⟨w2.heap.size + 1 + 1, 0, none⟩), .pointer none] 30)
    rwa [World.size_alloc, World.size_alloc, World.size_alloc] at this
  have hT1' : Tab (begW w w1 w2) (w.heap.size + 2) bm1 g1 c1 [] := (hT1.kept (Turn.of_below hb2) (by rintro k (rfl | rfl | rfl) <;> omega)).kept (Turn.of_below hbA) (by rintro k (rfl | rfl | rfl) <;> omega)
  have hT2' : Tab (begW w w1 w2) (w1.heap.size + 2) bm2 g2 c2 [] := hT2.kept (Turn.of_below hbA) (by rintro k (rfl | rfl | rfl) <;> omega)
  have own0 : ∀ k, rfoot (w2.heap.size + 1) (.slice none 0 0) k → k = w2.heap.size + 1 := by
    rintro k (rfl | e)
    · rfl
    · simp [Value.ownBlock] at e
  have own1 : ∀ k, rfoot (w2.heap.size + 1 + 1) (.slice none 0 0) k → k = w2.heap.size + 1 + 1 := by
    rintro k (rfl | e)
    · rfl
    · simp [Value.ownBlock] at e
  refine ⟨⟨fun i => if i = 0 then .pointer (some ⟨w.heap.size + 2, 0, none⟩) else if i = 1 then .pointer (some ⟨w1.heap.size + 2, 0, none⟩) else .pointer none,
    fun i => if i = 0 then .pointer (some ⟨w2.heap.size + 1, 0, none⟩) else if i = 1 then .pointer (some ⟨w2.heap.size + 1 + 1, 0, none⟩) else .pointer none,
    fun i k => (i = 0 ∧ (foot (w.heap.size + 2) bm1 g1 k ∨ rfoot (w2.heap.size + 1) (.slice none 0 0) k)) ∨ (i = 1 ∧ (foot (w1.heap.size + 2) bm2 g2 k ∨ rfoot (w2.heap.size + 1 + 1) (.slice none 0 0) k)),
    fun _ => []⟩, (hb1.trans (hb2.mono z1)).trans (hbA.mono (by omega)), hA, hB, fun i hi => ?_, fun i hi k hk => ?_, fun i j hi hj hij k hk hk2 => ?_, fun i hi => by simp, by omega⟩
  · have : i = 0 ∨ i = 1 ∨ i = 2 := by omega
    rcases this with rfl | rfl | rfl
    · refine .inr ⟨_, _, _, _, _, _, rfl, rfl, hT1', rtab_at hr1, ?_, fun k => by simp⟩
      intro k hk hf
      have := own0 k hf
      rcases hk with rfl | rfl | rfl <;> omega
    · refine .inr ⟨_, _, _, _, _, _, rfl, rfl, hT2', rtab_at hr2, ?_, fun k => by simp⟩
      intro k hk hf
      have := own1 k hf
      rcases hk with rfl | rfl | rfl <;> omega
    · exact .inl ⟨rfl, rfl, rfl, fun k hk => by simp at hk⟩
  · dsimp only at hk
    rcases hk with ⟨_, hk | hk⟩ | ⟨_, hk | hk⟩
    · rcases hk with rfl | rfl | rfl <;> exact ⟨by omega, by omega, by omega⟩
    · have := own0 k hk; exact ⟨by omega, by omega, by omega⟩
    · rcases hk with rfl | rfl | rfl <;> exact ⟨by omega, by omega, by omega⟩
    · have := own1 k hk; exact ⟨by omega, by omega, by omega⟩
  · dsimp only at hk hk2
    have hlow : ∀ k, foot (w.heap.size + 2) bm1 g1 k → k < w1.heap.size := by rintro k (rfl | rfl | rfl) <;> omega
    have hmid : ∀ k, foot (w1.heap.size + 2) bm2 g2 k → w1.heap.size ≤ k ∧ k < w2.heap.size := by rintro k (rfl | rfl | rfl) <;> omega
    rcases hk with ⟨rfl, hk⟩ | ⟨rfl, hk⟩ <;> rcases hk2 with ⟨rfl, hk2⟩ | ⟨rfl, hk2⟩ <;> first | exact hij rfl | skip
    · rcases hk with hk | hk <;> rcases hk2 with hk2 | hk2
      · have := hlow k hk; have := hmid k hk2; omega
      · have := hlow k hk; have := own1 k hk2; omega
      · have := own0 k hk; have := hmid k hk2; omega
      · have := own0 k hk; have := own1 k hk2; omega
    · rcases hk with hk | hk <;> rcases hk2 with hk2 | hk2
      · have := hmid k hk; have := hlow k hk2; omega
      · have := hmid k hk; have := own0 k hk2; omega
      · have := own1 k hk; have := hlow k hk2; omega
      · have := own1 k hk; have := own0 k hk2; omega

/-- plays, of the pair i. -/
theorem pli_plays {W1 : World} (h1 : PlI w A B N T W1) {i : Nat} (hi : i < 3) (s : Stp) (hs : s.Ok w) (hN : N + s.ss.length ≤ 1048576) {sb : Nat} (hsb : ¬ T.P i sb) {cs : Array Value} {t : TypeId} (hrow : W1.heap[sb]? = some (.cells cs t (0, 0))) :
    Calls Try.prog 12 #[T.p i, T.q i, s.v] W1 fun e w' => e = .returned (.bool true) ∧ (w'.cell? ⟨A, i, none⟩ = some (T.p i) ∧ w'.cell? ⟨B, i, none⟩ = some (T.q i) ∧ w'.heap[sb]? = some (.cells cs t (0, 0))) ∧ ∃ T', PlI w A B (N + s.ss.length) T' w' := by
  have hsz := h1.below.size
  have hlt := h1.lt
  have hs1 := hs.below h1.below
  refine (plays_any (h1.pr i hi) hs1 (fun k _ h0 e hp => ?_) (by have := h1.few i hi; omega) (by omega)).mono ?_
  · have := (h1.own i hi k hp).1
    have : s.tb < w.heap.size := World.block_lt_of_cell? w _ (hs.texts.2 0 h0)
    omega
  · rintro e w' ⟨rfl, us, hu, hg⟩
    have hA : ¬ T.P i A := fun e => (h1.own i hi A e).2.1 rfl
    have hB : ¬ T.P i B := fun e => (h1.own i hi B e).2.2 rfl
    obtain ⟨P', g1, g2, g3⟩ := id hg
    exact ⟨rfl, ⟨g3.cell (h1.pAt hi) hA, g3.cell (h1.qAt hi) hB, (g3.block sb (Array.getElem?_eq_some_iff.1 hrow).1 hsb).trans hrow⟩, h1.step hi hg (by have := h1.few i hi; omega) (by omega)⟩
end
end Go.Proofs.Ytdmopioiaaecfaa
