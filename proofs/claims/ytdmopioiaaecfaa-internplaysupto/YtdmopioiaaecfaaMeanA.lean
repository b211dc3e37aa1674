/- InternMeanwhile: what holds behind some rounds of its loop. -/
import Derived.Test.YtdmopioiaaecfaaPutKeeps
import Derived.Test.YtdmopioiaaecfaaListsWalk
namespace Go.Proofs.Ytdmopioiaaecfaa
open Go.RowKit Go.Maps Go.Shelf

/-- The six boxes, the two tables behind k rounds. -/
structure MI (w : World) (D bt bm g br : Nat) (sv : Value) (B3 B4 B5 B6 B8 B9 : Nat) (mv : Value) (ts ms : List ByteArray) (k i j : Nat) (W : World) : Prop where
  b9 : Boxed W B9 3 (.int .i64 k)
  b4 : Boxed W B4 4 (.bool false)
  b3 : Boxed W B3 27 mv
  b5 : Boxed W B5 23 (.pointer (some ⟨bt, 0, none⟩))
  b6 : Boxed W B6 26 (.pointer (some ⟨br, 0, none⟩))
  b8 : Boxed W B8 3 (.int .i64 ts.length)
  tr : ∃ gk ck svk, Tab W bt bm gk ck (putAll ts (ms.take i)) ∧ RTab W br svk (putAll ts (ms.take j)) ∧ (gk = g ∨ D ≤ gk) ∧ ∀ x, svk.ownBlock = some x → (sv.ownBlock = some x ∨ D ≤ x) ∧ x ≠ gk
  below : Below w.heap.size w W
  size : D ≤ W.heap.size

def boxB (B3 B4 B5 B6 B8 B9 B : Nat) : Prop := B = B3 ∨ B = B4 ∨ B = B5 ∨ B = B6 ∨ B = B8 ∨ B = B9

/-- How the blocks lie that were made ahead of the loop. -/
structure MB (w : World) (D bt bm g br : Nat) (sv : Value) (B3 B4 B5 B6 B8 B9 : Nat) : Prop where
  G : g ≠ bt ∧ g ≠ bm
  T : ∀ B, (boxB B3 B4 B5 B6 B8 B9 B ∨ rfoot br sv B) → B < D ∧ ¬ foot bt bm g B
  R : ∀ B, (boxB B3 B4 B5 B6 B8 B9 B ∨ foot bt bm g B) → B < D ∧ ¬ rfoot br sv B
  N : ∀ B, (B = B3 ∨ B = B4 ∨ B = B5 ∨ B = B6 ∨ B = B8 ∨ foot bt bm g B ∨ rfoot br sv B) → B ≠ B9
  low : ∀ B, (foot bt bm g B ∨ rfoot br sv B ∨ B = B9) → w.heap.size ≤ B
  base : w.heap.size ≤ D

theorem foot_k {D bt bm g gk B : Nat} (hg : gk = g ∨ D ≤ gk) (h : B < D ∧ ¬ foot bt bm g B) : ¬ foot bt bm gk B := by
  rintro (e | e | e)
  · exact h.2 (.inl e)
  · exact h.2 (.inr (.inl e))
  · rcases hg with rfl | hg
    · exact h.2 (.inr (.inr e))
    · omega

theorem rfoot_k {D br B : Nat} {sv svk : Value} (hs : ∀ x, svk.ownBlock = some x → sv.ownBlock = some x ∨ D ≤ x) (h : B < D ∧ ¬ rfoot br sv B) : ¬ rfoot br svk B := by
  rintro (e | e)
  · exact h.2 (.inl e)
  · rcases hs B e with h1 | h1
    · exact h.2 (.inr h1)
    · omega

section
variable {w W W' : World} {D bt bm g br B3 B4 B5 B6 B8 B9 : Nat} {sv mv : Value} {ts ms : List ByteArray} {k i j : Nat}

theorem Boxed.turn {S : Nat → Prop} {B : Nat} {t : TypeId} {v : Value} (h : Boxed W B t v) (ht : Turn S W W') (hn : ¬ S B) : Boxed W' B t v := (ht.block B h.lt hn).trans h

theorem not_same {i j : Nat} {c : Array Value} {t : TypeId} {f : Nat × Nat} {o : Obj} (h : W.heap[i]? = some (.cells c t f)) (hj : W.heap[j]? = some o) (ho : o.isCells = false) : i ≠ j := by
  rintro rfl
  rw [h] at hj
  cases hj
  cases ho

theorem MI.kept {S : Nat → Prop} (h : MI w D bt bm g br sv B3 B4 B5 B6 B8 B9 mv ts ms k i j W) (ht : Turn S W W') (hlow : ∀ j, S j → w.heap.size ≤ j) (h9 : ¬ S B9) (h4 : ¬ S B4) (h3 : ¬ S B3) (h5 : ¬ S B5) (h6 : ¬ S B6) (h8 : ¬ S B8)
    (hT : ∀ gk ck us, Tab W bt bm gk ck us → ∀ j, foot bt bm gk j → ¬ S j) (hR : ∀ svk us, RTab W br svk us → ∀ j, rfoot br svk j → ¬ S j) : MI w D bt bm g br sv B3 B4 B5 B6 B8 B9 mv ts ms k i j W' := by
  obtain ⟨gk, ck, svk, hTk, hRk, hg, hs⟩ := h.tr
  exact ⟨Boxed.turn h.b9 ht h9, Boxed.turn h.b4 ht h4, Boxed.turn h.b3 ht h3, Boxed.turn h.b5 ht h5, Boxed.turn h.b6 ht h6, Boxed.turn h.b8 ht h8, ⟨gk, ck, svk, hTk.kept ht (hT gk ck _ hTk), hRk.kept ht (hR svk _ hRk), hg, hs⟩, h.below.trans (ht.below h.below.size hlow), Nat.le_trans h.size ht.size⟩

theorem MI.drewN (h : MI w D bt bm g br sv B3 B4 B5 B6 B8 B9 mv ts ms k i j W) (n : Nat) : MI w D bt bm g br sv B3 B4 B5 B6 B8 B9 mv ts ms k i j (W.drewN n) :=
  h.kept (Turn.drewN (fun _ => False) W n) (fun _ e => e.elim) id id id id id id (fun _ _ _ _ _ _ e => e) (fun _ _ _ _ _ e => e)

theorem mi_own (hm : MB w D bt bm g br sv B3 B4 B5 B6 B8 B9) : OwnFrom D (fun (pre : List Nat) W => MI w D bt bm g br sv B3 B4 B5 B6 B8 B9 mv ts ms pre.length pre.length pre.length W) := by
  intro pre W W' row h hg hr
  have ht := Turn.of_grown hg
  refine h.kept ht (fun j e => ?_) (fun e => ?_) (fun e => ?_) (fun e => ?_) (fun e => ?_) (fun e => ?_) (fun e => ?_) (fun gk ck us hTk j hj e => ?_) (fun svk us hRk j hj e => ?_)
  · have := (hr j e.symm).1; have := hm.base; omega
  · obtain ⟨_, o, ho, hc⟩ := hr _ e.symm; exact not_same h.b9 ho hc rfl
  · obtain ⟨_, o, ho, hc⟩ := hr _ e.symm; exact not_same h.b4 ho hc rfl
  · obtain ⟨_, o, ho, hc⟩ := hr _ e.symm; exact not_same h.b3 ho hc rfl
  · obtain ⟨_, o, ho, hc⟩ := hr _ e.symm; exact not_same h.b5 ho hc rfl
  · obtain ⟨_, o, ho, hc⟩ := hr _ e.symm; exact not_same h.b6 ho hc rfl
  · obtain ⟨_, o, ho, hc⟩ := hr _ e.symm; exact not_same h.b8 ho hc rfl
  · obtain ⟨hD, o, ho, hc⟩ := hr _ e.symm
    obtain ⟨cur, hcur, _⟩ := hTk.rowBlock
    rcases hj with rfl | rfl | rfl
    · exact not_same hTk.box ho hc rfl
    · have := (hm.R j (.inr (.inr (.inl rfl)))).1; omega
    · exact not_same hcur ho hc rfl
  · obtain ⟨hD, o, ho, hc⟩ := hr _ e.symm
    rcases hj with rfl | hj
    · exact not_same hRk.box ho hc rfl
    · rcases hRk.row.2 with ⟨hx, _⟩ | ⟨g2, cap2, cur2, hv2, _, hh2, _⟩
      · rw [hx] at hj; simp [Value.ownBlock] at hj
      · rw [hv2] at hj
        simp [Value.ownBlock] at hj
        subst hj
        exact not_same hh2 ho hc rfl

/-- What a piece of the body leaves of what the loop holds. -/
def KG (D g n : Nat) (W W' : World) : Prop := KeepsFrom D W W' ∧ KRow g n W W'
theorem KG.trans {n : Nat} {A B C : World} (h : KG D g n A B) (k : KG D g n B C) : KG D g n A C := ⟨h.1.trans k.1, krow_t h.2 k.2⟩
theorem KG.drewN (D g n : Nat) (W : World) (m : Nat) : KG D g n W (W.drewN m) := ⟨⟨Nat.le_refl _, fun _ _ _ h _ => h⟩, fun _ _ => rfl⟩
theorem KG.drew (D g n : Nat) (W : World) : KG D g n W W.drew := ⟨⟨Nat.le_refl _, fun _ _ _ h _ => h⟩, fun _ _ => rfl⟩

theorem MI.drew (h : MI w D bt bm g br sv B3 B4 B5 B6 B8 B9 mv ts ms k i j W) : MI w D bt bm g br sv B3 B4 B5 B6 B8 B9 mv ts ms k i j W.drew :=
  h.kept (Turn.drew (fun _ => False) W) (fun _ e => e.elim) id id id id id id (fun _ _ _ _ _ _ e => e) (fun _ _ _ _ _ e => e)

theorem foot_cells {gk ck : Nat} {us : List ByteArray} (hT : Tab W bt bm gk ck us) (hbm : bm < D) {x : Nat} {o : Obj} (hx : D ≤ x) (ho : W.heap[x]? = some o) (hc : o.isCells = false) : ¬ foot bt bm gk x := by
  obtain ⟨cur, hcur, _⟩ := hT.rowBlock
  rintro (rfl | rfl | rfl)
  · exact not_same hT.box ho hc rfl
  · omega
  · exact not_same hcur ho hc rfl

theorem rfoot_cells {svk : Value} {us : List ByteArray} (hR : RTab W br svk us) {x : Nat} {o : Obj} (ho : W.heap[x]? = some o) (hc : o.isCells = false) : ¬ rfoot br svk x := by
  rintro (rfl | hj)
  · exact not_same hR.box ho hc rfl
  · rcases hR.row.2 with ⟨hx, _⟩ | ⟨g2, cap2, cur2, hv2, _, hh2, _⟩
    · rw [hx] at hj; simp [Value.ownBlock] at hj
    · rw [hv2] at hj
      simp [Value.ownBlock] at hj
      subst hj
      exact not_same hh2 ho hc rfl

theorem pa_pre (ts : List ByteArray) : ∀ ss : List ByteArray, ts.length ≤ (putAll ts ss).length := fun ss => (putAll_len ts ss).1

theorem mi_put (hm : MB w D bt bm g br sv B3 B4 B5 B6 B8 B9) (h : MI w D bt bm g br sv B3 B4 B5 B6 B8 B9 mv ts ms k i j W) (hi : i < ms.length) (hs : ms[i].size ≤ 281474976710656) (hb : (ts.length + ms.length) * 16 ≤ 140737488355328) :
    Calls Try.prog 22 #[.pointer (some ⟨bt, 0, none⟩), .string ms[i]] W fun e W' => e = .returned (.tuple #[.int .i64 ((putAll ts (ms.take (i + 1))).idxOf ms[i]), .int .i64 0]) ∧ MI w D bt bm g br sv B3 B4 B5 B6 B8 B9 mv ts ms k (i + 1) j W' ∧ KG D g ts.length W W' := by
  have hD := h.size
  obtain ⟨gk, ck, svk, hT, hR, hg, hsv⟩ := h.tr
  have hpl := putAll_len ts (ms.take i)
  have hts : putAll ts (ms.take (i + 1)) = put1 (putAll ts (ms.take i)) ms[i] := by rw [List.take_succ_eq_append_getElem hi, putAll_snoc]
  rw [hts]
  refine (put_keeps hT ms[i] hs (by rw [List.length_take] at hpl; omega)).mono ?_
  rintro e W' ⟨he, ⟨g', c', hT', hg', ht⟩, hk⟩
  have hlt := hT.lt
  have hbx : ∀ B, boxB B3 B4 B5 B6 B8 B9 B → ¬ foot bt bm gk B := fun B h => foot_k hg (hm.T B (.inl h))
  have hlow : ∀ x, foot bt bm gk x → w.heap.size ≤ x := by
    rintro x (e | e | e)
    · exact hm.low x (.inl (.inl e))
    · exact hm.low x (.inl (.inr (.inl e)))
    · rcases hg with rfl | hg
      · exact hm.low x (.inl (.inr (.inr e)))
      · have := hm.base; omega
  have hB : Below w.heap.size w W' := h.below.trans (ht.below h.below.size hlow)
  have hbm : bm < D := (hm.R bm (.inr (.inr (.inl rfl)))).1
  refine ⟨he, ⟨?_, ?_, ?_, ?_, ?_, ?_, ⟨g', c', svk, by rw [hts]; exact hT', ?_, ?_, ?_⟩, hB, Nat.le_trans hD ht.size⟩, ⟨ht.size, fun x o hx ho hc => ?_⟩, ?_⟩
  · exact Boxed.turn h.b9 ht (hbx _ (by simp [boxB]))
  · exact Boxed.turn h.b4 ht (hbx _ (by simp [boxB]))
  · exact Boxed.turn h.b3 ht (hbx _ (by simp [boxB]))
  · exact Boxed.turn h.b5 ht (hbx _ (by simp [boxB]))
  · exact Boxed.turn h.b6 ht (hbx _ (by simp [boxB]))
  · exact Boxed.turn h.b8 ht (hbx _ (by simp [boxB]))
  · refine hR.kept ht ?_
    rintro x (rfl | hx)
    · exact foot_k hg (hm.T _ (.inr (.inl rfl)))
    · rcases (hsv x hx).1 with h2 | h2
      · exact foot_k hg (hm.T _ (.inr (.inr h2)))
      · have h1 : bt < D := (hm.R bt (.inr (.inl rfl))).1
        have h3 := (hsv x hx).2
        rintro (e | e | e)
        · omega
        · omega
        · exact h3 e
  · rcases hg' with rfl | h2
    · exact hg
    · exact .inr (by omega)
  · intro x hx
    refine ⟨(hsv x hx).1, ?_⟩
    rcases hg' with rfl | h2
    · exact (hsv x hx).2
    · have := hR.lt x (.inr hx); omega
  · exact (ht.block x (Array.getElem?_eq_some_iff.1 ho).1 (foot_cells hT hbm hx ho hc)).trans ho
  · by_cases hgg : gk = g
    · subst hgg
      exact fun y hy => hk y (by have := pa_pre ts (ms.take i); omega)
    · have h1 : g < D := (hm.R g (.inr (.inr (.inr rfl)))).1
      have h2 := hm.G
      exact krow_turn ht (by omega) (by rintro (e | e | e); exact h2.1 e; exact h2.2 e; exact hgg e.symm)

theorem mi_rput (hm : MB w D bt bm g br sv B3 B4 B5 B6 B8 B9) (h : MI w D bt bm g br sv B3 B4 B5 B6 B8 B9 mv ts ms k i j W) (hj : j < ms.length) (hb : (ts.length + ms.length) * 16 ≤ 140737488355328) :
    Calls Try.prog 23 #[.pointer (some ⟨br, 0, none⟩), .string ms[j]] W fun e W' => e = .returned (.tuple #[.int .i64 ((putAll ts (ms.take (j + 1))).idxOf ms[j]), .int .i64 0]) ∧ MI w D bt bm g br sv B3 B4 B5 B6 B8 B9 mv ts ms k i (j + 1) W' ∧ KG D g ts.length W W' := by
  have hD := h.size
  obtain ⟨gk, ck, svk, hT, hR, hg, hsv⟩ := h.tr
  have hpl := putAll_len ts (ms.take j)
  have hts : putAll ts (ms.take (j + 1)) = put1 (putAll ts (ms.take j)) ms[j] := by rw [List.take_succ_eq_append_getElem hj, putAll_snoc]
  rw [hts]
  refine (rput_yes hR ms[j] (by rw [List.length_take] at hpl; omega)).mono ?_
  rintro e W' ⟨he, sv', hR', hs', ht⟩
  have hlt := hT.lt
  have hsv1 : ∀ x, svk.ownBlock = some x → sv.ownBlock = some x ∨ D ≤ x := fun x e => (hsv x e).1
  have hbx : ∀ B, (boxB B3 B4 B5 B6 B8 B9 B ∨ foot bt bm g B) → ¬ rfoot br svk B := fun B h => rfoot_k hsv1 (hm.R B h)
  have hlow : ∀ x, rfoot br svk x → w.heap.size ≤ x := by
    rintro x (e | e)
    · exact hm.low x (.inr (.inl (.inl e)))
    · rcases hsv1 x e with h1 | h1
      · exact hm.low x (.inr (.inl (.inr h1)))
      · have := hm.base; omega
  have hB : Below w.heap.size w W' := h.below.trans (ht.below h.below.size hlow)
  refine ⟨he, ⟨?_, ?_, ?_, ?_, ?_, ?_, ⟨gk, ck, sv', ?_, by rw [hts]; exact hR', hg, ?_⟩, hB, Nat.le_trans hD ht.size⟩, ⟨ht.size, fun x o hx2 ho hc => ?_⟩, ?_⟩
  · exact Boxed.turn h.b9 ht (hbx _ (by simp [boxB]))
  · exact Boxed.turn h.b4 ht (hbx _ (by simp [boxB]))
  · exact Boxed.turn h.b3 ht (hbx _ (by simp [boxB]))
  · exact Boxed.turn h.b5 ht (hbx _ (by simp [boxB]))
  · exact Boxed.turn h.b6 ht (hbx _ (by simp [boxB]))
  · exact Boxed.turn h.b8 ht (hbx _ (by simp [boxB]))
  · refine hT.kept ht ?_
    rintro x (e0 | e0 | e0)
    · exact hbx _ (.inr (.inl e0))
    · exact hbx _ (.inr (.inr (.inl e0)))
    · have hbr := (hm.T br (.inr (.inl rfl)))
      rintro (e | e)
      · rcases hg with rfl | hg
        · exact hbr.2 (.inr (.inr (e.symm.trans e0)))
        · have := hbr.1; omega
      · exact (hsv _ e).2 e0
  · intro x e
    rcases hs' x e with h1 | h1
    · exact hsv x h1
    · exact ⟨.inr (by omega), by omega⟩
  · exact (ht.block x (Array.getElem?_eq_some_iff.1 ho).1 (rfoot_cells hR ho hc)).trans ho
  · have h1 := (hm.R g (.inr (.inr (.inr rfl)))).1
    exact krow_turn ht (by omega) (hbx _ (.inr (.inr (.inr rfl))))

/-- The counter is set. -/
theorem MI.set (hm : MB w D bt bm g br sv B3 B4 B5 B6 B8 B9) (h : MI w D bt bm g br sv B3 B4 B5 B6 B8 B9 mv ts ms k i j W) (k' : Nat) :
    MI w D bt bm g br sv B3 B4 B5 B6 B8 B9 mv ts ms k' i j (W.setCell ⟨B9, 0, none⟩ (.int .i64 k')) ∧ KG D g ts.length W (W.setCell ⟨B9, 0, none⟩ (.int .i64 k')) := by
  obtain ⟨gk, ck, svk, hT, hR, hg, hsv⟩ := h.tr
  have ht : Turn (fun x => x = B9) W (W.setCell ⟨B9, 0, none⟩ (.int .i64 k')) := Turn.setCell _ W ⟨B9, 0, none⟩ _ rfl
  have h9 := (hm.R B9 (.inl (by simp [boxB]))).1
  have hfoot : ∀ x, foot bt bm gk x → ¬ x = B9 := by
    rintro x (e | e | e)
    · exact hm.N x (by simp [foot, e])
    · exact hm.N x (by simp [foot, e])
    · rcases hg with rfl | hg
      · exact hm.N x (by simp [foot, e])
      · omega
  have hrf : ∀ x, rfoot br svk x → ¬ x = B9 := by
    rintro x (e | e)
    · exact hm.N x (by simp [rfoot, e])
    · rcases (hsv x e).1 with h1 | h1
      · exact hm.N x (by simp [rfoot, h1])
      · omega
  refine ⟨⟨Boxed.set _ h.b9, Boxed.turn h.b4 ht (hm.N _ (by simp)), Boxed.turn h.b3 ht (hm.N _ (by simp)), Boxed.turn h.b5 ht (hm.N _ (by simp)), Boxed.turn h.b6 ht (hm.N _ (by simp)), Boxed.turn h.b8 ht (hm.N _ (by simp)), ⟨gk, ck, svk, hT.kept ht hfoot, hR.kept ht hrf, hg, hsv⟩, h.below.setCell (p := ⟨B9, 0, none⟩) (hm.low B9 (by simp)) _, Nat.le_trans h.size ht.size⟩, (KeepsOthers.setCell W ⟨B9, 0, none⟩ _).from D, krow_other (hm.N g (by simp [foot])) _ 0 _⟩
end
end Go.Proofs.Ytdmopioiaaecfaa
