/- The book of lists of numbers: each is written over and grown, and none shows another one's marks. -/
import Derived.Test.YtihkdaaghobckaaDoorP
namespace Go.Proofs.YtihkdaaghobckaaDoor
open Go.RowKit Go.Maps

/-- A list that was answered: nil, or in a block of its own. -/
structure Ans where
  a : Option Addr
  g : Nat
  len : Nat
  cap : Nat
def Ans.v (A : Ans) : Value := .slice A.a A.len A.cap
def bmk (i : Nat) : Int := -1000 - (i : Int)

/-- What is always so of the lists of a book. -/
structure Fit (W0 : World) (As : List Ans) (bb bn : Nat) : Prop where
  nil : ∀ A ∈ As, A.a = none → A.len = 0 ∧ A.cap = 0
  at_ : ∀ A ∈ As, A.a ≠ none → A.a = some ⟨A.g, 0, none⟩ ∧ A.len ≤ A.cap ∧ A.cap ≤ maxLen ∧ A.g < W0.heap.size
  long : ∀ A ∈ As, (A.len + 20) * 8 ≤ 140737488355328
  apart : ∀ i j (hi : i < As.length) (hj : j < As.length), i ≠ j → As[i].a ≠ none → As[j].a ≠ none → As[i].g ≠ As[j].g
  book : ∀ A ∈ As, A.a ≠ none → A.g ≠ bb ∧ A.g ≠ bn

/-- The blocks of the lists. -/
def Own (As : List Ans) (k : Nat) : Prop := ∃ A ∈ As, A.a ≠ none ∧ A.g = k

def lim (As : List Ans) (p q i : Nat) : Nat := if i < p then (As[i]?.map Ans.len).getD 0 else if i = p then q else 0

/-- The lists below p are written over, the list p up to q. -/
def Good (As : List Ans) (W : World) (p q : Nat) : Prop :=
  ∀ i (h : i < As.length), As[i].a ≠ none → Room W As[i].g As[i].cap ∧ Full W As[i].g (lim As p q i) (bmk i)

theorem Good.set {As : List Ans} {W0 W : World} {bb bn p q : Nat} (hF : Fit W0 As bb bn) (h : Good As W p q) (hp : p < As.length) (hq : q < As[p].len) (hn : As[p].a ≠ none) :
    Good As (W.setCell ⟨As[p].g, q, none⟩ (.int .i64 (bmk p))) p (q + 1) := by
  intro i hi hin
  obtain ⟨h1, h2⟩ := h i hi hin
  refine ⟨h1.set _ _ _, ?_⟩
  by_cases e : i = p
  · subst e
    have hl := (hF.at_ _ (List.getElem_mem hi) hin).2.1
    simp only [lim, Nat.lt_irrefl, if_false, if_true] at h2 ⊢
    exact h2.set h1 (by omega)
  · have h3 := h2.set_other (k := q) (hF.apart i p hi hp e hin hn) (.int .i64 (bmk p))
    simp only [lim, if_neg e] at h3 ⊢
    exact h3

theorem Good.next {As : List Ans} {W : World} {p : Nat} (h : Good As W p ((As[p]?.map Ans.len).getD 0)) : Good As W (p + 1) 0 := by
  intro i hi hin
  obtain ⟨h1, h2⟩ := h i hi hin
  refine ⟨h1, ?_⟩
  unfold lim at h2 ⊢
  by_cases e1 : i < p
  · rw [if_pos e1] at h2
    rw [if_pos (by omega)]
    exact h2
  · by_cases e2 : i = p
    · subst e2
      rw [if_neg (Nat.lt_irrefl _), if_pos rfl] at h2
      rw [if_pos (by omega)]
      exact h2
    · rw [if_neg (by omega), if_neg e2] at h2
      rw [if_neg (by omega)]
      split
      · exact fun j hj => absurd hj (Nat.not_lt_zero _)
      · exact h2

/-- The book lies in bb, its lists of numbers in bn. -/
structure BookAt (W : World) (bb bn capN : Nat) (As : List Ans) : Prop where
  box : W.heap[bb]? = some (.cells #[.slice none 0 0, .slice (some ⟨bn, 0, none⟩) As.length capN, .slice none 0 0] 39 (0, 0))
  row : ∀ i (h : i < As.length), W.cell? ⟨bn, i, none⟩ = some As[i].v
  cap : As.length ≤ capN ∧ capN ≤ maxLen

theorem BookAt.c1 {W : World} {bb bn capN : Nat} {As : List Ans} (h : BookAt W bb bn capN As) : W.cell? ⟨bb, 1, none⟩ = some (.slice (some ⟨bn, 0, none⟩) As.length capN) := by simp [World.cell?, h.box]
theorem BookAt.turn {S : Nat → Prop} {W W' : World} {bb bn capN : Nat} {As : List Ans} (h : BookAt W bb bn capN As) (ht : Turn S W W') (h1 : ¬ S bb) (h2 : ¬ S bn) : BookAt W' bb bn capN As :=
  ⟨ht.heap h.box h1, fun i hi => (World.cell?_of_block (a := ⟨bn, i, none⟩) (ht.block bn (World.block_lt_of_cell? W _ (h.row i hi)) h2)).trans (h.row i hi), h.cap⟩
theorem Fit.notOwn {W0 : World} {As : List Ans} {bb bn : Nat} (h : Fit W0 As bb bn) : ¬ Own As bb ∧ ¬ Own As bn :=
  ⟨fun ⟨A, hA, h1, h2⟩ => (h.book A hA h1).1 h2, fun ⟨A, hA, h1, h2⟩ => (h.book A hA h1).2 h2⟩

/-- The lists below p are grown: Ls holds them; all are written over. -/
def Half (As : List Ans) (w W : World) (p : Nat) (Ls : List Value) : Prop :=
  (∀ i (h : i < As.length), As[i].a ≠ none → Full W As[i].g As[i].len (bmk i) ∧ (p ≤ i → Room W As[i].g As[i].cap)) ∧
  ∀ s (h : s < As.length), s < p → ∃ hb c, Ls[s]? = some (.slice (some ⟨hb, 0, none⟩) (As[s].len + 20) c) ∧ Full W hb (As[s].len + 20) (bmk s) ∧ (∃ cur, W.heap[hb]? = some (.cells cur 3 (0, 0))) ∧ ((As[s].a ≠ none ∧ hb = As[s].g) ∨ w.heap.size ≤ hb)

theorem Half.start {As : List Ans} {w W : World} (h : Good As W As.length 0) : Half As w W 0 [] :=
  ⟨fun i hi hn => by
    obtain ⟨h1, h2⟩ := h i hi hn
    unfold lim at h2
    rw [if_pos hi, List.getElem?_eq_getElem hi] at h2
    exact ⟨h2, fun _ => h1⟩, fun s _ hs => absurd hs (Nat.not_lt_zero _)⟩

/-- While the list A, number p, grows: k marks are behind it; W1 is the world in which that began. -/
structure Inner (A : Ans) (p : Nat) (W1 W : World) (v : Value) (k : Nat) : Prop where
  own : W.ownsRow 0 3 1 v (A.len + k) (List.replicate (A.len + k) (.int .i64 (bmk p)))
  blk : ∀ b, v.ownBlock = some b → (A.a ≠ none ∧ b = A.g) ∨ W1.heap.size ≤ b
  full : A.a ≠ none → Full W A.g A.len (bmk p)
  turn : Turn (fun x => A.a ≠ none ∧ x = A.g) W1 W

theorem Inner.start {As : List Ans} {w W : World} {bb bn p : Nat} {Ls : List Value} (hF : Fit w As bb bn) (hp : p < As.length) (h : Half As w W p Ls) (_ : Turn (Own As) w W) : Inner As[p] p W W As[p].v 0 := by
  by_cases hn : As[p].a = none
  · have h0 := hF.nil _ (List.getElem_mem hp) hn
    refine ⟨?_, fun b hb => ?_, fun h => absurd hn h, Turn.refl _ _⟩
    · unfold Ans.v
      rw [hn, h0.1, h0.2]
      exact World.ownsRow_nil _ _ _ _
    · unfold Ans.v at hb
      rw [hn] at hb
      simp [Value.ownBlock] at hb
  · obtain ⟨h1, h2⟩ := h.1 p hp hn
    obtain ⟨e1, e2, e3, e4⟩ := hF.at_ _ (List.getElem_mem hp) hn
    refine ⟨?_, fun b hb => ?_, fun _ => h1, Turn.refl _ _⟩
    · unfold Ans.v
      rw [e1]
      exact full_own (Nat.zero_le _) (h2 (Nat.le_refl _)) h1 e2 e3
    · unfold Ans.v at hb
      rw [e1] at hb
      simp [Value.ownBlock] at hb
      exact .inl ⟨hn, hb.symm⟩

theorem grown_turn {S : Nat → Prop} {W W' : World} {o : Obj} {r : Option Nat} (h : (W.alloc o).grownBy W' r) (hr : ∀ b, r = some b → b < W.heap.size → S b) : Turn S W W' :=
  ⟨h.os, h.tape, h.output, by have := h.size; rw [World.size_alloc] at this; omega, fun k hk hn => (h.block k (by rw [World.size_alloc]; omega) (fun e => hn (hr k e.symm hk))).trans (Below.heap_alloc W o k hk)⟩

theorem own_mono {base base' : Nat} {w : World} {v : Value} {e : TypeId} {n : Nat} {xs : List Value} (h : w.ownsRow base e 1 v n xs) (hb : base' ≤ base) : w.ownsRow base' e 1 v n xs := by
  refine ⟨h.1, ?_⟩
  rcases h.2 with hx | ⟨b, c, cur, hv, hb2, rest⟩
  · exact .inl hx
  · exact .inr ⟨b, c, cur, hv, by omega, rest⟩

theorem Inner.nilStep {A : Ans} {p : Nat} {W1 W W' : World} {v' : Value} {k : Nat} {o : Obj} (h : Inner A p W1 W (.slice none 0 0) k) (h0 : A.len + k = 0)
    (hown : W'.ownsRow W.heap.size 3 1 v' (0 + 1) ([] ++ [.int .i64 (bmk p)])) (hg : (W.alloc o).grownBy W' (Value.slice none 0 0).ownBlock) : Inner A p W1 W' v' (k + 1) := by
  have hs := h.turn.size
  refine ⟨?_, fun b hb => .inr ?_, fun hn j hj => absurd hj (by omega), h.turn.trans (grown_turn hg (fun b e => by simp [Value.ownBlock] at e))⟩
  · rw [show A.len + (k + 1) = 0 + 1 by omega]
    exact own_mono hown (Nat.zero_le _)
  · have := (hown.lt b hb).1
    omega

theorem Inner.step {A : Ans} {p : Nat} {W1 W W' : World} {v' : Value} {k b c : Nat} {o : Obj} (h : Inner A p W1 W (.slice (some ⟨b, 0, none⟩) (A.len + k) c) k) (hgl : A.a ≠ none → A.g < W1.heap.size)
    (hown : W'.ownsRow 0 3 1 v' (A.len + k + 1) (List.replicate (A.len + k) (.int .i64 (bmk p)) ++ [.int .i64 (bmk p)])) (hg : (W.alloc o).grownBy W' (some b)) (hb : v'.ownBlock = some b ∨ v'.ownBlock = some (W.alloc o).heap.size)
    (hk : ∀ j, j < A.len + k → W'.cell? ⟨b, j, none⟩ = (W.alloc o).cell? ⟨b, j, none⟩) : Inner A p W1 W' v' (k + 1) := by
  have hs := h.turn.size
  have hblk := h.blk b rfl
  refine ⟨?_, fun b' hb' => ?_, fun hn => ?_, ?_⟩
  · rw [← List.replicate_succ'] at hown
    exact hown
  · rcases hb with e | e
    · rw [e] at hb'
      cases hb'
      exact hblk
    · rw [e, World.size_alloc] at hb'
      cases hb'
      exact .inr (by omega)
  · have hf := h.full hn
    have hg1 := hgl hn
    by_cases e : b = A.g
    · subst e
      intro j hj
      have hc := hf j hj
      rw [hk j (by omega)]
      exact (World.cell?_of_block (a := ⟨A.g, j, none⟩) (Below.heap_alloc W o A.g (by omega))).trans hc
    · exact hf.turn (S := fun x => x = b) (grown_turn hg (fun x e2 _ => by cases e2; rfl)) (fun e2 => e e2.symm)
  · refine h.turn.then (S' := fun x => x = b) (grown_turn hg (fun x e2 _ => by cases e2; rfl)) (fun i hi e2 => ?_)
    subst e2
    rcases hblk with h1 | h1
    · exact h1
    · omega

theorem own_turn {S : Nat → Prop} {w w' : World} {base : Nat} {e : TypeId} {v : Value} {n : Nat} {xs : List Value} (h : w.ownsRow base e 1 v n xs) (ht : Turn S w w') (hn : ∀ k, v.ownBlock = some k → ¬ S k) : w'.ownsRow base e 1 v n xs := by
  refine ⟨h.1, ?_⟩
  rcases h.2 with hx | ⟨g, cap, cur, rfl, hb, hgg, rest⟩
  · exact .inl hx
  · exact .inr ⟨g, cap, cur, rfl, hb, ht.heap hgg (hn g rfl), rest⟩

theorem own_type {w : World} {base : Nat} {e : TypeId} {v : Value} {n : Nat} {xs : List Value} (h : w.ownsRow base e 1 v n xs) {b : Nat} (hb : v.ownBlock = some b) : ∃ cur, w.heap[b]? = some (.cells cur e (0, 0)) := by
  rcases h.2 with ⟨rfl, _⟩ | ⟨g, cap, cur, rfl, _, hgg, rest⟩
  · simp [Value.ownBlock] at hb
  · simp [Value.ownBlock] at hb
    subst hb
    exact ⟨cur, hgg⟩

theorem Half.step {As : List Ans} {w W1 W W2 : World} {bb bn p b c : Nat} {Ls : List Value} {ul : Value} (hF : Fit w As bb bn) (hp : p < As.length) (hsz : w.heap.size ≤ W1.heap.size) (h : Half As w W1 p Ls) (hL : Ls.length = p)
    (hI : Inner As[p] p W1 W (.slice (some ⟨b, 0, none⟩) (As[p].len + 20) c) 20) (ht : Turn (fun x => ul.ownBlock = some x) W W2) (hul : ∀ x, ul.ownBlock = some x → w.heap.size ≤ x ∧ ∃ cur, W.heap[x]? = some (.cells cur 22 (0, 0))) :
    Half As w W2 (p + 1) (Ls ++ [.slice (some ⟨b, 0, none⟩) (As[p].len + 20) c]) := by
  have hne : ∀ {x : Nat} {cur : Array Value}, W.heap[x]? = some (.cells cur 3 (0, 0)) → ¬ ul.ownBlock = some x := fun {x cur} h1 h2 => by
    obtain ⟨cur', h3⟩ := (hul x h2).2
    rw [h1] at h3
    simp at h3
  refine ⟨fun i hi hn => ?_, fun s hs hsp => ?_⟩
  · have hgi := (hF.at_ _ (List.getElem_mem hi) hn).2.2.2
    have hnb : ¬ ul.ownBlock = some As[i].g := fun e => by have := (hul _ e).1; omega
    by_cases e : i = p
    · subst e
      exact ⟨(hI.full hn).turn ht hnb, fun h => by omega⟩
    · obtain ⟨h1, h2⟩ := h.1 i hi hn
      have hng : ¬ (As[p].a ≠ none ∧ As[i].g = As[p].g) := fun ⟨e1, e2⟩ => hF.apart i p hi hp e hn e1 e2
      exact ⟨(h1.turn hI.turn hng).turn ht hnb, fun h => ((h2 (by omega)).turn hI.turn hng).turn ht hnb⟩
  · by_cases e : s = p
    · subst e
      obtain ⟨cur, hcur⟩ := own_type hI.own (b := b) rfl
      refine ⟨b, c, by rw [List.getElem?_append_right (by omega), hL, Nat.sub_self]; rfl, ?_, ⟨cur, ht.heap hcur (hne hcur)⟩, ?_⟩
      · refine Full.turn (fun j hj => ?_) ht (hne hcur)
        exact row_cell hI.own j _ (by simp [hj])
      · rcases hI.blk b rfl with h1 | h1
        · exact .inl h1
        · exact .inr (by omega)
    · obtain ⟨hb, c', h1, h2, ⟨cur, h3⟩, h4⟩ := h.2 s hs (by omega)
      have hng : ¬ (As[p].a ≠ none ∧ hb = As[p].g) := fun ⟨e1, e2⟩ => by
        rcases h4 with ⟨h5, h6⟩ | h5
        · exact hF.apart s p hs hp e h5 e1 (h6.symm.trans e2)
        · have := (hF.at_ _ (List.getElem_mem hp) e1).2.2.2
          omega
      have h5 := hI.turn.heap h3 hng
      exact ⟨hb, c', by rw [List.getElem?_append_left (by omega)]; exact h1, (h2.turn hI.turn hng).turn ht (hne h5), ⟨cur, ht.heap h5 (hne h5)⟩, h4⟩

theorem infoInts : (Tryd.prog.info? 22).map (fun i => (i.zero, i.size, i.bytes)) = some (some (.slice none 0 0), 1, 24) := by kernel_rfl

set_option maxRecDepth 100000 in
set_option maxHeartbeats 4000000 in
theorem bints_any (w : World) (bb bn capN : Nat) (As : List Ans) (hB : BookAt w bb bn capN As) (hF : Fit w As bb bn) (hG : ∀ A ∈ As, A.a ≠ none → Room w A.g A.cap) (hm : As.length * 24 ≤ 140737488355328) :
    Calls Tryd.prog 32 #[.pointer (some ⟨bb, 0, none⟩)] w fun e w' => e = .returned (.bool true) ∧ Turn (Own As) w w' := by
  obtain ⟨i0, hi, hz0, hz1, hz2⟩ := info_parts infoInt
  have HH : Hid (BookAt w bb bn capN As ∧ Fit w As bb bn) := ⟨hB, hF⟩
  have H0 : Hid (Good As w 0 0) := fun i h hn => ⟨hG _ (List.getElem_mem h) hn, by unfold lim; rw [if_neg (Nat.not_lt_zero _)]; split <;> exact fun j hj => absurd hj (Nat.not_lt_zero _)⟩
  have hml : As.length ≤ 140737488355328 := by omega
  have hc1 := hB.cap.1
  have hc2 := hB.cap.2
  unfold maxLen at hc2
  clear hB hF hG
  go_enter Tryd.func32, Tryd.ntmps32
  go_wp2
  go_loopw [3] (fun i wr => ∃ p : Nat, p ≤ As.length ∧ i = .int .i64 p ∧ Good As wr p 0 ∧ Turn (Own As) w wr) (fun i _ => As.length - (intOf i).toNat)
  case atStart => exact ⟨0, Nat.zero_le _, rfl, H0.out, Turn.refl _ _⟩
  case round =>
    obtain ⟨p, hp, rfl, hgood, hturn⟩ := hrel
    have hB := HH.out.1.turn hturn HH.out.2.notOwn.1 HH.out.2.notOwn.2
    have hb1 := hB.c1
    by_cases hlt : p < As.length
    · have hi1 : (p : Int) < (As.length : Int) := by omega
      have hrow := hB.row p hlt
      have hA : (As[p].len : Int) < 9223372036854775807 := by have := HH.out.2.long _ (List.getElem_mem hlt); omega
      have HG : Hid (Good As wr p 0 ∧ Turn (Own As) w wr) := ⟨hgood, hturn⟩
      clear hgood hturn hB H0
      unfold Ans.v at hrow
      go_wp2
      go_loopw [4] (fun i wq => ∃ q : Nat, q ≤ As[p].len ∧ i = .int .i64 q ∧ Good As wq p q ∧ Turn (Own As) w wq) (fun i _ => As[p].len - (intOf i).toNat)
      case atStart => exact ⟨0, Nat.zero_le _, rfl, HG.out.1, HG.out.2⟩
      case round =>
        obtain ⟨q, hq, rfl, hgood, hturn⟩ := hrel
        have hB := HH.out.1.turn hturn HH.out.2.notOwn.1 HH.out.2.notOwn.2
        have hb1 := hB.c1
        have hrow := hB.row p hlt
        unfold Ans.v at hrow
        by_cases hq2 : q < As[p].len
        · have hi2 : (q : Int) < (As[p].len : Int) := by omega
          have hnn : As[p].a ≠ none := fun h => by have := (HH.out.2.nil _ (List.getElem_mem hlt) h).1; omega
          obtain ⟨ha, hl1, hl2, _⟩ := HH.out.2.at_ _ (List.getElem_mem hlt) hnn
          obtain ⟨hr1, hr2⟩ := hgood p hlt hnn
          obtain ⟨v, hcell⟩ := hr1.cell q (by omega)
          have hfree := hr1.free q
          have HN : Hid (Good As (wr.setCell ⟨As[p].g, q, none⟩ (.int .i64 (bmk p))) p (q + 1) ∧ Turn (Own As) w (wr.setCell ⟨As[p].g, q, none⟩ (.int .i64 (bmk p)))) := ⟨hgood.set HH.out.2 hlt hq2 hnn, hturn.set ⟨As[p], List.getElem_mem hlt, hnn, rfl⟩ q _⟩
          unfold bmk at HN
          rw [ha] at hrow
          have hp3 : (p : Int) ≤ 140737488355328 := by omega
          clear hgood hturn hB hr1 hr2 HG
          go_wp2
          refine ⟨⟨q + 1, by omega, by go_num, HN.out.1, HN.out.2⟩, ?_⟩
          simp [intOf]; omega
        · obtain rfl : q = As[p].len := by omega
          have hi2 : ¬ ((As[p].len : Nat) : Int) < (As[p].len : Int) := by omega
          have HN : Hid (Good As wr (p + 1) 0 ∧ Turn (Own As) w wr) := ⟨Good.next (by rw [List.getElem?_eq_getElem hlt]; exact hgood), hturn⟩
          clear hgood hturn hB HG
          go_wp2
          refine ⟨⟨p + 1, by omega, by go_num, HN.out.1, HN.out.2⟩, ?_⟩
          simp [intOf]; omega
    · have hi1 : ¬ (p : Int) < (As.length : Int) := by omega
      obtain rfl : p = As.length := by omega
      have HD : Hid (Half As w wr 0 [] ∧ Turn (Own As) w wr) := ⟨Half.start hgood, hturn⟩
      clear hgood hturn hB H0
      have HL0 := World.ownsRow_nil wr w.heap.size 22 1
      go_wp2
      go_loopw [5, 6] (fun v i wr => ∃ (p : Nat) (Ls : List Value), p ≤ As.length ∧ i = .int .i64 p ∧ wr.ownsRow w.heap.size 22 1 v p Ls ∧ Half As w wr p Ls ∧ Turn (Own As) w wr) (fun v i _ => As.length - (intOf i).toNat)
      case atStart => exact ⟨0, [], Nat.zero_le _, rfl, HL0, HD.out.1, HD.out.2⟩
      case round =>
        obtain ⟨p, Ls, hp, rfl, hlong, hhalf, hturn⟩ := hrel
        have hB := HH.out.1.turn hturn HH.out.2.notOwn.1 HH.out.2.notOwn.2
        have hb1 := hB.c1
        by_cases hlt : p < As.length
        · have hi1 : (p : Int) < (As.length : Int) := by omega
          have hrow := hB.row p hlt
          have HS : Hid (wr.ownsRow w.heap.size 22 1 u5 p Ls ∧ Half As w wr p Ls ∧ Turn (Own As) w wr) := ⟨hlong, hhalf, hturn⟩
          have HI : Hid (Inner As[p] p wr wr As[p].v 0) := Inner.start HH.out.2 hlt hhalf hturn
          clear hlong hhalf hturn hB HD HL0
          unfold Ans.v at hrow HI
          obtain ⟨W1, hW1⟩ : ∃ W1, W1 = wr := ⟨_, rfl⟩
          subst hW1
          have hgl : As[p].a ≠ none → As[p].g < W1.heap.size := fun h => Nat.lt_of_lt_of_le (HH.out.2.at_ _ (List.getElem_mem hlt) h).2.2.2 HS.out.2.2.size
          have hlong := HH.out.2.long _ (List.getElem_mem hlt)
          have HGL : Hid ((As[p].a ≠ none → As[p].g < W1.heap.size) ∧ (As[p].len + 20) * 8 ≤ 140737488355328) := ⟨hgl, hlong⟩
          clear hgl hlong
          have hp3 : (p : Int) ≤ 140737488355328 := by omega
          go_wp2
          go_loopw [7, 8] (fun v i wq => ∃ k : Nat, k ≤ 20 ∧ i = .int .i64 k ∧ Inner As[p] p W1 wq v k) (fun v i _ => 20 - (intOf i).toNat)
          case atStart => exact ⟨0, by omega, rfl, HI.out⟩
          case round =>
            obtain ⟨k, hk, rfl, hin⟩ := hrel
            by_cases hk2 : k < 20
            · have hi2 : (k : Int) < 20 := by omega
              have hlo := HGL.out.2
              rcases hin.own.2 with ⟨rfl, h0⟩ | ⟨b, c, cur, rfl, _⟩
              · have HIN : Hid (Inner As[p] p W1 wr (.slice none 0 0) k) := hin
                clear hin HI
                go_wp2_with (at_builtin; refine wpList_append_own _ rfl _ _ 22 rfl wr.heap.size 3 i0 _ 1 8 Tryd.underlying22 hi hz0 hz1 hz2 rfl (by decide) (.slice none 0 0) 0 [] rfl (World.ownsRow_nil _ _ _ _) ⟨wr.heap.size, 0, none⟩ 1 1 [.int .i64 (-1000 - (p : Int))] rfl rfl (new_cells wr [.int .i64 (-1000 - (p : Int))] 3) (by simp [Value.oneCell']) (by unfold maxLen; omega) (by omega) (by rw [World.size_alloc]; omega) ?_; intro v2 w2 hown2 hg2 hn2; have HN : Hid (Inner As[p] p W1 w2 v2 (k + 1)) := HIN.out.nilStep h0 hown2 hg2; clear hown2 hg2 hn2)
                go_roundw
                case rel => exact ⟨k + 1, by omega, by go_num, HN.out⟩
                case measure => simp [intOf]; omega
              · have HIN : Hid (Inner As[p] p W1 wr (.slice (some ⟨b, 0, none⟩) (As[p].len + k) c) k) := hin
                clear hin HI
                go_wp2_with (at_builtin; refine wpList_append_keepsI rfl (.tmp 63) (.tmp 66) rfl i0 hi hz0 hz1 hz2 0 b (As[p].len + k) c _ rfl (HIN.out.own.alloc _) ⟨wr.heap.size, 0, none⟩ 1 (.int .i64 (-1000 - (p : Int))) rfl (new_cells wr [.int .i64 (-1000 - (p : Int))] 3) rfl (by unfold maxLen; omega) (by omega) (Nat.zero_le _) ?_; intro v2 w2 hown2 hg2 hb2 hk2; have HN : Hid (Inner As[p] p W1 w2 v2 (k + 1)) := HIN.out.step HGL.out.1 hown2 hg2 hb2 hk2; clear hown2 hg2 hb2 hk2)
                go_roundw
                case rel => exact ⟨k + 1, by omega, by go_num, HN.out⟩
                case measure => simp [intOf]; omega
            · have hi2 : ¬ (k : Int) < 20 := by omega
              obtain rfl : k = 20 := by omega
              obtain ⟨b, c, rfl⟩ := own_form (n := As[p].len + 19) hin.own
              have hin' : Inner As[p] p W1 wr (.slice (some ⟨b, 0, none⟩) (As[p].len + 20) c) 20 := hin
              have hlo : wr.ownsRow w.heap.size 22 1 u5 p Ls := own_turn HS.out.1 hin'.turn (fun k e1 ⟨e2, e3⟩ => by have h1 := (HS.out.1.lt k e1).1; have h2 := (HH.out.2.at_ _ (List.getElem_mem hlt) e2).2.2.2; omega)
              have HLO : Hid (wr.ownsRow w.heap.size 22 1 u5 p Ls ∧ Inner As[p] p W1 wr (.slice (some ⟨b, 0, none⟩) (As[p].len + 20) c) 20) := ⟨hlo, hin'⟩
              have hsz := HS.out.2.2.size
              have hsz2 := hin'.turn.size
              clear hin hin' hlo HI
              obtain ⟨i1, ki, kz0, kz1, kz2⟩ := info_parts infoInts
              go_wp2_with (at_builtin; refine wpList_append_own _ rfl _ _ 36 rfl w.heap.size 22 i1 _ 1 24 Tryd.underlying36 ki kz0 kz1 kz2 rfl (by decide) u5 p Ls rfl (HLO.out.1.alloc _) ⟨wr.heap.size, 0, none⟩ 1 1 [.slice (some ⟨b, 0, none⟩) (As[p].len + 20) c] rfl rfl (new_cells wr [.slice (some ⟨b, 0, none⟩) (As[p].len + 20) c] 22) (by simp [Value.oneCell']) (by unfold maxLen; omega) (by omega) (by rw [World.size_alloc]; omega) ?_; intro v2 w2 hown2 hg2 hn2; have HN : Hid (w2.ownsRow w.heap.size 22 1 v2 (p + 1) (Ls ++ [.slice (some ⟨b, 0, none⟩) (As[p].len + 20) c]) ∧ Half As w w2 (p + 1) (Ls ++ [.slice (some ⟨b, 0, none⟩) (As[p].len + 20) c]) ∧ Turn (Own As) w w2) := ⟨hown2, Half.step HH.out.2 hlt hsz HS.out.2.1 (by simpa using HLO.out.1.1) HLO.out.2 (grown_turn hg2 (fun b e _ => e)) (fun x e => ⟨(HLO.out.1.lt x e).1, own_type HLO.out.1 e⟩), (HS.out.2.2.then HLO.out.2.turn (fun x _ e => ⟨As[p], List.getElem_mem hlt, e.1, e.2.symm⟩)).then (grown_turn (S := fun x => u5.ownBlock = some x) hg2 (fun b e _ => e)) (fun x h e => by have := (HLO.out.1.lt x e).1; omega)⟩; clear hown2 hg2 hn2)
              refine ⟨⟨p + 1, _, by omega, by go_num, HN.out.1, HN.out.2.1, HN.out.2.2⟩, ?_⟩
              simp [intOf]; omega
        · have hi1 : ¬ (p : Int) < (As.length : Int) := by omega
          obtain rfl : p = As.length := by omega
          obtain ⟨W3, hW3⟩ : ∃ W3, W3 = wr := ⟨_, rfl⟩
          subst hW3
          have HT : Hid (Turn (Own As) w W3) := hturn
          by_cases hm0 : As.length = 0
          · clear hlong hhalf hturn hB HD HL0
            go_wp2
            go_loopw [9] (fun i wr => i = .int .i64 0 ∧ W3 = wr) (fun i _ => 0)
            case atStart => exact ⟨rfl, rfl⟩
            case round =>
              obtain ⟨rfl, rfl⟩ := hrel
              have hi5 : ¬ (0 : Int) < (As.length : Int) := by omega
              go_wp2
              go_ret
              exact ⟨rfl, HT.out⟩
          · obtain ⟨bl, cl, rfl⟩ := own_form (n := As.length - 1) (by rw [show As.length - 1 + 1 = As.length by omega]; exact hlong)
            have hfrm : (.slice (some ⟨bl, 0, none⟩) (As.length - 1 + 1) cl : Value) = .slice (some ⟨bl, 0, none⟩) As.length cl := by rw [show As.length - 1 + 1 = As.length by omega]
            rw [hfrm] at hlong ⊢
            clear hfrm
            have HL : Hid (∀ s (h : s < As.length), ∃ hb c, W3.cell? ⟨bl, s, none⟩ = some (.slice (some ⟨hb, 0, none⟩) (As[s].len + 20) c) ∧ Full W3 hb (As[s].len + 20) (bmk s)) := fun s hs => by
              obtain ⟨hb, c, h1, h2, _⟩ := hhalf.2 s hs hs
              exact ⟨hb, c, row_cell hlong s _ h1, h2⟩
            have HR : Hid (∀ i (h : i < As.length), As[i].a ≠ none → Full W3 As[i].g As[i].len (bmk i)) := fun i hi hn => (hhalf.1 i hi hn).1
            have HBB : Hid (BookAt W3 bb bn capN As) := hB
            clear hlong hhalf hturn hB HD HL0
            go_wp2
            go_loopw [9] (fun i wr => ∃ p : Nat, p ≤ As.length ∧ i = .int .i64 p ∧ W3 = wr) (fun i _ => As.length - (intOf i).toNat)
            case atStart => exact ⟨0, Nat.zero_le _, rfl, rfl⟩
            case round =>
              obtain ⟨p, hp, rfl, rfl⟩ := hrel
              by_cases hlt : p < As.length
              · have hi1 : (p : Int) < (As.length : Int) := by omega
                have hrow := HBB.out.row p hlt
                unfold Ans.v at hrow
                obtain ⟨hb, c, hlp, hfp⟩ := HL.out p hlt
                have hlo := HH.out.2.long _ (List.getElem_mem hlt)
                have hln : (As[p].len : Int) + 20 ≤ 9223372036854775807 := by omega
                have hp3 : (p : Int) ≤ 140737488355328 := by omega
                have HFP : Hid (Full W3 hb (As[p].len + 20) (bmk p)) := hfp
                clear hfp
                go_wp2
                go_loopw [10] (fun i wr => ∃ k : Nat, k ≤ As[p].len + 20 ∧ i = .int .i64 k ∧ W3 = wr) (fun i _ => As[p].len + 20 - (intOf i).toNat)
                case atStart => exact ⟨0, Nat.zero_le _, rfl, rfl⟩
                case round =>
                  obtain ⟨k, hk, rfl, rfl⟩ := hrel
                  by_cases hk2 : k < As[p].len + 20
                  · have hi2 : (k : Int) < (As[p].len : Int) + 20 := by omega
                    have hc1' := HFP.out k hk2
                    unfold bmk at hc1'
                    by_cases hk3 : k < As[p].len
                    · have hi3 : (k : Int) < (As[p].len : Int) := by omega
                      have hnn : As[p].a ≠ none := fun h => by have := (HH.out.2.nil _ (List.getElem_mem hlt) h).1; omega
                      have hc2' := HR.out p hlt hnn k hk3
                      unfold bmk at hc2'
                      rw [(HH.out.2.at_ _ (List.getElem_mem hlt) hnn).1] at hrow
                      go_wp2
                      go_roundw
                      case rel => exact ⟨k + 1, by omega, by go_num, by first | rfl | trivial⟩
                      case measure => simp [intOf]; omega
                    · have hi3 : ¬ (k : Int) < (As[p].len : Int) := by omega
                      go_wp2
                      go_roundw
                      case rel => exact ⟨k + 1, by omega, by go_num, by first | rfl | trivial⟩
                      case measure => simp [intOf]; omega
                  · have hi2 : ¬ (k : Int) < (As[p].len : Int) + 20 := by omega
                    go_wp2
                    refine ⟨⟨p + 1, by omega, by go_num, by first | rfl | trivial⟩, ?_⟩
                    simp [intOf]; omega
              · have hi1 : ¬ (p : Int) < (As.length : Int) := by omega
                go_wp2
                go_ret
                exact ⟨rfl, HT.out⟩
end Go.Proofs.YtihkdaaghobckaaDoor
