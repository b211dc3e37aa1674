/- Lists that are grown, each beside what it was: apart's second loop, plainly. No walk here. -/
import Derived.Test.YtnmaldgmlkcliaaSH
namespace Go.Proofs.Ytnmaldgmlkcliaa
open Go.RowKit Go.Maps Go.Sort

theorem Turn.grownO {S : Nat → Prop} {a b c : World} (h : Turn S a b) {row : Option Nat} (k : b.grownBy c row) (hg : ∀ g, row = some g → g < a.heap.size → S g) : Turn S a c :=
  ⟨k.os.trans h.os, k.tape.trans h.tape, k.output.trans h.output, Nat.le_trans h.size k.size, fun i hi hn => (k.block i (Nat.lt_of_lt_of_le hi h.size) (fun e => hn (hg i e.symm hi))).trans (h.block i hi hn)⟩
/-- Rows of different types lie apart. -/
theorem rows_apart {w : World} {b1 b2 : Nat} {e1 e2 : TypeId} {s1 s2 n1 n2 : Nat} {v1 v2 : Value} {xs1 xs2 : List Value} (h1 : w.ownsRow b1 e1 s1 v1 n1 xs1) (h2 : w.ownsRow b2 e2 s2 v2 n2 xs2) (he : e1 ≠ e2) : v1.ownBlock = none ∨ v1.ownBlock ≠ v2.ownBlock := by
  rcases h1.2 with ⟨rfl, _⟩ | ⟨g1, c1, cur1, rfl, _, hh1, _⟩
  · exact .inl rfl
  · refine .inr (fun e => ?_)
    rcases h2.2 with ⟨rfl, _⟩ | ⟨g2, c2, cur2, rfl, _, hh2, _⟩
    · simp [Value.ownBlock] at e
    · simp only [Value.ownBlock, Option.some.injEq] at e
      subst e
      rw [hh1] at hh2
      simp only [Option.some.injEq, Obj.cells.injEq] at hh2
      exact he hh2.2.1

/-- The value holds the things, as far as it goes. -/
def OldT (w : World) (v : Value) (ts : List (Int × Int)) : Prop :=
  (v = .slice none 0 0 ∧ ts = []) ∨ ∃ g c, v = .slice (some ⟨g, 0, none⟩) ts.length c ∧ ThS w (some ⟨g, 0, none⟩) g 0 ts ∧ g < w.heap.size
theorem OwnT.old {base : Nat} {w : World} {v : Value} {ts : List (Int × Int)} (h : OwnT base w v ts) : OldT w v ts := by
  by_cases hn : v = .slice none 0 0
  · refine .inl ⟨hn, ?_⟩
    rcases h.2 with ⟨_, h2⟩ | ⟨b, c, cur, hv, _⟩
    · exact List.eq_nil_of_length_eq_zero h2
    · rw [hn] at hv; simp at hv
  · obtain ⟨g, cap, rfl, hR, _⟩ := h.row hn
    exact .inr ⟨g, cap, rfl, hR.things, hR.lt⟩
section
variable {w w' : World} {v : Value} {ts : List (Int × Int)}
theorem OldT.stay (h : OldT w v ts) (hs : Stay w w') : OldT w' v ts := by
  rcases h with h | ⟨g, c, hv, hT, hg⟩
  · exact .inl h
  · exact .inr ⟨g, c, hv, hT.stay hs, Nat.lt_of_lt_of_le hg hs.size⟩
theorem OldT.turn {S : Nat → Prop} (h : OldT w v ts) (ht : Turn S w w') (hn : ∀ k, v.ownBlock = some k → ¬ S k) : OldT w' v ts := by
  rcases h with h | ⟨g, c, rfl, hT, hg⟩
  · exact .inl h
  · exact .inr ⟨g, c, rfl, ⟨hT.1, fun j hj => ⟨ht.cell (hT.2 j hj).1 (hn g rfl), ht.cell (hT.2 j hj).2 (hn g rfl)⟩⟩, Nat.lt_of_lt_of_le hg ht.size⟩
theorem OldT.grown {row : Option Nat} (h : OldT w v ts) (hg : w.grownBy w' row) (hn : ∀ k, v.ownBlock = some k → row ≠ some k) : OldT w' v ts :=
  h.turn (S := fun k => row = some k) ((Turn.refl _ w).grownO hg (fun _ e _ => e)) hn
/-- Where the things are, with how long the list is. -/
theorem OldT.form (h : OldT w v ts) : ∃ a b c, v = .slice a ts.length c ∧ ThS w a b 0 ts := by
  rcases h with ⟨rfl, rfl⟩ | ⟨g, c, hv, hT, _⟩
  · exact ⟨none, 0, 0, rfl, ⟨fun h => by simp at h, fun j hj => by simp at hj⟩⟩
  · exact ⟨_, g, c, hv, hT⟩
end
theorem ths_mark {w : World} {a : Option Addr} {b i n m : Nat} (h : ThS w a b 0 (markL i m)) (hn : n ≤ m) : ThS w a b 0 (markL i n) := by
  refine ⟨fun hp => h.1 (by rw [markL_len] at *; omega), fun j hj => ?_⟩
  rw [markL_len] at hj
  have := h.2 j (by rw [markL_len]; omega)
  rw [markL_at i m j (by omega)] at this
  rw [markL_at i n j hj]
  exact this

/-- k of the lists have been grown: they are named in Lv. -/
structure Longs (base M : Nat) (w : World) (B n : Nat) (v ms : Nat → Value) (ln : Nat → Nat) (Lv : Value) (k : Nat) : Prop where
  sp : Spread B n v
  low : ∀ i, i < n → ∀ b, (v i).ownBlock = some b → b < M
  lowB : B < M
  size : M ≤ w.heap.size
  ats : ∀ i, i < n → w.cell? ⟨B, i, none⟩ = some (v i)
  todo : ∀ j, k ≤ j → j < n → OwnT base w (v j) (markL j (ln j))
  old : ∀ j, j < k → j < n → OldT w (v j) (markL j (ln j))
  new : ∀ j, j < k → j < n → OwnT base w (ms j) (markL j (ln j + 30))
  place : ∀ j, j < k → j < n → (ms j).ownBlock = (v j).ownBlock ∨ ∃ b, (ms j).ownBlock = some b ∧ M ≤ b
  row : w.ownsRow M 23 1 Lv k ((List.range k).map ms)
/-- List i is being grown: q more. -/
structure Grows (base : Nat) (ws w : World) (v m : Value) (i ln q : Nat) : Prop where
  own : OwnT base w m (markL i (ln + q))
  old : OldT w v (markL i ln)
  place : m.ownBlock = v.ownBlock ∨ ∃ b, m.ownBlock = some b ∧ ws.heap.size ≤ b
  turn : Turn (fun b => v.ownBlock = some b) ws w
section
variable {base M B n k : Nat} {w w' ws : World} {v ms : Nat → Value} {ln : Nat → Nat} {Lv : Value}
theorem Longs.stay (h : Longs base M w B n v ms ln Lv k) (hs : Stay w w') : Longs base M w' B n v ms ln Lv k :=
  ⟨h.sp, h.low, h.lowB, Nat.le_trans h.size hs.size, fun i hi => hs.cell (h.ats i hi), fun j hj hn => (h.todo j hj hn).stay hs, fun j hj hn => (h.old j hj hn).stay hs, fun j hj hn => (h.new j hj hn).stay hs, h.place,
    (Turn.of_stay (S := fun _ => False) hs).row h.row (fun _ _ => id)⟩
theorem Lists.longs {t : Nat → List (Int × Int)} (h : Lists base w B n v (overL t n)) (hB : B < w.heap.size) (ms : Nat → Value) : Longs base w.heap.size w B n v ms (fun j => (t j).length) (.slice none 0 0) 0 :=
  ⟨h.sp, fun i hi b hb => ((h.own i hi).lt b hb).2, hB, Nat.le_refl _, h.ats, fun j _ hj => by have := h.own j hj; rwa [overL, if_pos hj] at this, fun j hj => by omega, fun j hj => by omega, fun j hj => by omega, World.ownsRow_nil _ _ _ _⟩
theorem Longs.grows (h : Longs base M w B n v ms ln Lv k) (hk : k < n) : Grows base w w (v k) (v k) k (ln k) 0 :=
  ⟨h.todo k (Nat.le_refl _) hk, (h.todo k (Nat.le_refl _) hk).old, .inl rfl, Turn.refl _ _⟩
theorem Grows.stay {vi m : Value} {i l q : Nat} (h : Grows base ws w vi m i l q) (hs : Stay w w') : Grows base ws w' vi m i l q :=
  ⟨h.own.stay hs, h.old.stay hs, h.place, h.turn.trans (Turn.of_stay hs)⟩
theorem Grows.next {vi m : Value} {i l q : Nat} (h : Grows base ws w vi m i l q) (hlow : ∀ b, vi.ownBlock = some b → b < ws.heap.size) (hb : (l + q + 1) * 16 ≤ 140737488355328) (hbase : base ≤ w.heap.size) :
    ∃ m' w', (Builtin.append_ #[23, 23] 23 #[m, .slice (some ⟨w.heap.size, 0, none⟩) 1 1]).run Try.prog (w.alloc (.cells #[.int .i64 (1000 + (i : Int)), .int .i64 ((l : Int) + (q : Int))] 26)) = .ok m' w' ∧ Grows base ws w' vi m' i l (q + 1) := by
  obtain ⟨m', w', hr, h2, h3, h4, h5, h6⟩ := append_thing_keeps 23 h.own (1000 + (i : Int)) ((l : Int) + (q : Int)) (by rw [markL_len]; omega) hbase
  have hs : Stay w (w.alloc (.cells #[.int .i64 (1000 + (i : Int)), .int .i64 ((l : Int) + (q : Int))] 26)) := Stay.new _ _
  refine ⟨m', w', hr, ?_, ?_, ?_, ?_⟩
  · have e : markL i (l + (q + 1)) = markL i (l + q) ++ [(1000 + (i : Int), (l : Int) + (q : Int))] := by rw [← Nat.add_assoc, markL_succ]; simp
    rw [e]; exact h2
  · have ho := h.old.stay hs
    rcases ho with ho | ⟨g, c, rfl, hT, hg⟩
    · exact .inl ho
    · by_cases e : m.ownBlock = some g
      · have hT2 := h6 g e
        refine .inr ⟨g, c, rfl, ths_mark hT2 (by omega), Nat.lt_of_lt_of_le hg h3.size⟩
      · exact OldT.grown (.inr ⟨g, c, rfl, hT, hg⟩) h3 (fun k hk ek => by simp only [Value.ownBlock, Option.some.injEq] at hk; subst hk; exact e ek)
  · rcases h5 with h5 | h5
    · rw [h5]; exact h.place
    · exact .inr ⟨_, h5, by have := h.turn.size; omega⟩
  · refine (h.turn.trans (Turn.of_stay hs)).grownO h3 (fun g e hg => ?_)
    rcases h.place with hp | ⟨b, hp, hb2⟩
    · rw [← hp]; exact e
    · rw [hp] at e; simp only [Option.some.injEq] at e; omega
theorem infoSl : (Try.prog.info? 23).map (fun i => (i.zero, i.size, i.bytes)) = some (some (.slice none 0 0), 1, 24) := by kernel_rfl
theorem ne_types : (26 : TypeId) ≠ 23 := by decide
theorem Longs.next (h : Longs base M ws B n v ms ln Lv k) (hk : k < n) {m : Value} (hG : Grows base ws w (v k) m k (ln k) 30) (hn : n ≤ 1000) :
    ∃ Lv' w', (Builtin.append_ #[22, 22] 22 #[Lv, .slice (some ⟨w.heap.size, 0, none⟩) 1 1]).run Try.prog (w.alloc (.cells #[m] 23)) = .ok Lv' w' ∧ Longs base M w' B n v (fun j => if j = k then m else ms j) ln Lv' (k + 1) ∧ Turn (fun b => (v k).ownBlock = some b ∨ M ≤ b) ws w' := by
  obtain ⟨i0, hi, hz0, hz1, hz2⟩ := info_parts infoSl
  have hs : Stay w (w.alloc (.cells #[m] 23)) := Stay.new _ _
  have hno : ∀ b, Lv.ownBlock = some b → M ≤ b := fun b e => (World.ownsRow.lt h.row b e).1
  have hLk : ∀ b, Lv.ownBlock = some b → ¬ (v k).ownBlock = some b := fun b e1 e2 => by have := h.low k hk b e2; have := hno b e1; omega
  have hrow := hG.turn.row h.row (fun b e => hLk b e)
  have hrow2 := (Turn.of_stay (S := fun _ => False) hs).row hrow (fun _ _ => id)
  obtain ⟨Lv', w', hr, h2, h3, h4, h5⟩ := run_append_own_at (P := Try.prog) (w.alloc (.cells #[m] 23)) M 22 22 23 i0 _ 1 24 Try.underlying22 hi hz0 hz1 hz2 rfl (by decide) Lv k _ hrow2 ⟨w.heap.size, 0, none⟩ 1 1 [m] rfl (fun j u hj => new_cells w [m] _ j u hj)
    (by
      intro u hu
      simp only [List.mem_singleton] at hu
      subst hu
      obtain ⟨a, b, c, e, _⟩ := hG.own.form
      rw [e]; rfl) (by unfold maxLen; omega) (by omega) (by rw [World.size_alloc]; have := h.size; have := hG.turn.size; omega)
  have hT1 : Turn (fun b => (v k).ownBlock = some b) ws (w.alloc (.cells #[m] 23)) := hG.turn.trans (Turn.of_stay hs)
  have hTe : Turn (fun b => Lv.ownBlock = some b) (w.alloc (.cells #[m] 23)) w' := (Turn.refl _ _).grownO h3 (fun g e _ => e)
  have hT2 : Turn (fun b => (v k).ownBlock = some b ∨ Lv.ownBlock = some b) ws w' := (hT1.mono (fun _ _ e => .inl e)).then hTe (fun _ _ e => .inr e)
  have hvk : ∀ j, j < n → j ≠ k → ∀ b, (v j).ownBlock = some b → ¬ (v k).ownBlock = some b := fun j hj hjk b e => h.sp.apart j k hj hk hjk b e
  have hvL : ∀ j, j < n → ∀ b, (v j).ownBlock = some b → ¬ Lv.ownBlock = some b := fun j hj b e1 e2 => by have := h.low j hj b e1; have := hno b e2; omega
  have hmem : ∀ (x : Value) ts, OwnT base (w.alloc (.cells #[m] 23)) x ts → ∀ b, x.ownBlock = some b → ¬ Lv.ownBlock = some b := fun x ts hx b e1 e2 => by
    rcases rows_apart hx hrow2 ne_types with h9 | h9
    · rw [h9] at e1; cases e1
    · exact h9 (e1.trans e2.symm)
  refine ⟨Lv', w', hr, ⟨h.sp, h.low, h.lowB, Nat.le_trans h.size hT2.size, fun i hi2 => hT2.cell (h.ats i hi2) ?_, fun j hj hjn => ?_, fun j hj hjn => ?_, fun j hj hjn => ?_, fun j hj hjn => ?_, ?_⟩, hT2.mono (fun b _ e => e.imp id (hno b))⟩
  · rintro (e | e)
    · exact h.sp.off k hk e
    · have := hno B e; have := h.lowB; omega
  · exact (h.todo j (by omega) hjn).turn hT2 (fun b e => by rintro (e2 | e2)
                                                            · exact hvk j hjn (by omega) b e e2
                                                            · exact hvL j hjn b e e2)
  · by_cases e : j = k
    · subst e
      exact (hG.old.stay hs).turn hTe (fun b e => hvL j hjn b e)
    · exact (h.old j (by omega) hjn).turn hT2 (fun b e1 => by rintro (e2 | e2)
                                                              · exact hvk j hjn e b e1 e2
                                                              · exact hvL j hjn b e1 e2)
  · by_cases e : j = k
    · subst e
      simp only [if_true]
      have h9 := hG.own.stay hs
      exact h9.turn hTe (fun b e => hmem _ _ h9 b e)
    · simp only [if_neg e]
      have h8 := (h.new j (by omega) hjn).turn hT1 (fun b e1 e2 => by
        rcases h.place j (by omega) hjn with hp | ⟨b', hp, hb'⟩
        · exact hvk j hjn e b (hp ▸ e1) e2
        · rw [hp] at e1; simp only [Option.some.injEq] at e1; have := h.low k hk b e2; omega)
      exact h8.turn hTe (fun b e1 => hmem _ _ h8 b e1)
  · by_cases e : j = k
    · subst e
      simp only [if_true]
      rcases hG.place with hp | ⟨b, hp, hb⟩
      · exact .inl hp
      · exact .inr ⟨b, hp, Nat.le_trans h.size hb⟩
    · simp only [if_neg e]
      exact h.place j (by omega) hjn
  · have e : (List.range (k + 1)).map (fun j => if j = k then m else ms j) = (List.range k).map ms ++ [m] := by
      rw [List.range_succ, List.map_append, List.map_singleton, if_pos rfl]
      refine congrArg (· ++ [m]) (List.map_congr_left fun j hj => ?_)
      have := List.mem_range.1 hj
      exact if_neg (by omega)
    rw [e]; exact h2
/-- What Lv is: the grown lists by their numbers. -/
theorem Longs.names (h : Longs base M w B n v ms ln Lv k) : ∃ a g c, Lv = .slice a k c ∧ (0 < k → a = some ⟨g, 0, none⟩) ∧ ∀ j, j < k → w.cell? ⟨g, j, none⟩ = some (ms j) := by
  have hr := h.row
  rcases hr.2 with ⟨e, h0⟩ | ⟨g, cap, cur, e, _, hh, _⟩
  · subst h0
    exact ⟨none, 0, 0, e, fun h => by omega, fun j hj => by omega⟩
  · refine ⟨_, g, cap, e, fun _ => rfl, fun j hj => ?_⟩
    have := hr.cells (g := g) (by rw [e]; rfl) j (ms j) (by simp [hj])
    rwa [add_at, Nat.zero_add] at this
end
end Go.Proofs.Ytnmaldgmlkcliaa
