/- TupleKinds: eight lists of ints in an array, each in memory of its own. No walk here. -/
import Derived.Test.YtpflbaniijbpaaaKF
namespace Go.Proofs.Ytpflbaniijbpaaa
open Go.RowKit Go.Maps

/-- An append to a list of one's own, as one step of a region that draws its order. -/
theorem step_append_own {P : Program} {ops : Array Oper} {o : Oper} {a : Act} {w : World} {K : Act → World → Prop} {Q : Exit → Act → World → Prop} {X : Prop}
    (hg : o.guard = none) (s x : Operand) (t : TypeId) (hop : o.op = Op.call { callee := Callee.builtin Builtin.append, args := #[s, x], argTypes := #[t, t] }) (base : Nat)
    (e : TypeId) (i : TypeInfo) (z : Value) (size bytes : Nat) (h1 : P.underlying t = some (.slice e)) (h2 : P.info? e = some i) (h3 : i.zero = some z) (h4 : i.size = size) (h5 : i.bytes = bytes) (h6 : z.cells.size = size) (h7 : 0 < size)
    (v : Value) (n : Nat) (xs : List Value) (hs : a.eval s = v) (hown : w.ownsRow base e size v n xs)
    (ad : Addr) (m c : Nat) (news : List Value) (hx : a.eval x = .slice (some ad) m c) (hn : news.length = m * size) (hc : ∀ j u, news[j]? = some u → w.cell? (ad.add j) = some u) (h1c : ∀ u ∈ news, u.oneCell' = true)
    (b1 : n + m ≤ maxLen) (b2 : (n + m) * bytes ≤ 140737488355328) (hbase : base ≤ w.heap.size)
    (hK : ∀ v' w', w'.ownsRow base e size v' (n + m) (xs ++ news) → w.grownBy w' v.ownBlock → (v' = .slice none 0 0 ↔ v = .slice none 0 0 ∧ m = 0) → (v'.ownBlock = v.ownBlock ∨ v'.ownBlock = some w.heap.size) → K (a.put o.dst v') w') :
    if Region.wanted o (yielded ops a.tmps) = true then Oper.wp P o a w K Q else X := by
  have hw : Region.wanted o (yielded ops a.tmps) = true := by simp [Region.wanted, hg]
  rw [if_pos hw]
  obtain ⟨v', w', hrun, r1, r2, r3, r4⟩ := run_append_own_at (P := P) w base t o.type e i z size bytes h1 h2 h3 h4 h5 h6 h7 v n xs hown ad m c news hn hc h1c b1 b2 hbase
  unfold Oper.wp
  simp [execOp, hop, resolve, invoke, builtin, hs, hx, hrun, Result.andThen]
  exact hK v' w' r1 r2 r3 r4

/-- Block B names eight lists of ints, each in memory of its own, at base or behind. -/
structure Eight (base : Nat) (w : World) (B : Nat) (v : Nat → Value) (z : Nat → List Int) : Prop where
  box : ∃ cur : Array Value, ∃ ty, w.heap[B]? = some (.cells cur ty (0, 0)) ∧ cur.size = 8 ∧ ∀ i, i < 8 → cur[i]? = some (v i)
  own : ∀ i, i < 8 → Col base w 3 .i64 (v i) (z i)
  apart : ∀ i j, i < 8 → j < 8 → i ≠ j → ∀ b, (v i).ownBlock = some b → (v j).ownBlock ≠ some b
  off : ∀ i, i < 8 → (v i).ownBlock ≠ some B
  lo : base ≤ B
section
variable {base B : Nat} {w w' : World} {v : Nat → Value} {z z' : Nat → List Int}
theorem Eight.lt (h : Eight base w B v z) : B < w.heap.size := by
  obtain ⟨cur, ty, h1, _⟩ := h.box
  exact (Array.getElem?_eq_some_iff.1 h1).1
theorem Eight.ats (h : Eight base w B v z) (i : Nat) (hi : i < 8) : w.cell? ⟨B, i, none⟩ = some (v i) := by
  obtain ⟨cur, ty, h1, h2, h3⟩ := h.box
  simp only [World.cell?, h1]
  exact h3 i hi
theorem Eight.free (h : Eight base w B v z) (i : Nat) : w.frozen? ⟨B, i, none⟩ = false := by
  obtain ⟨cur, ty, h1, h2, h3⟩ := h.box
  simp [World.frozen?, h1]
theorem Eight.stay (h : Eight base w B v z) (hs : Stay w w') : Eight base w' B v z := by
  obtain ⟨cur, ty, h1, h2⟩ := h.box
  exact ⟨⟨cur, ty, (hs.block B h.lt).trans h1, h2⟩, fun i hi => (h.own i hi).stay hs, h.apart, h.off, h.lo⟩
theorem Eight.congr (h : Eight base w B v z) (e : ∀ i, i < 8 → z i = z' i) : Eight base w B v z' := ⟨h.box, fun i hi => e i hi ▸ h.own i hi, h.apart, h.off, h.lo⟩
theorem Col.block {e : TypeId} {κ : IntKind} {x : Value} {zs : List Int} (h : Col base w e κ x zs) (hb : ∀ b, x.ownBlock = some b → w'.heap[b]? = w.heap[b]?) : Col base w' e κ x zs := by
  refine ⟨h.1, ?_⟩
  rcases h.2 with hx | ⟨b, c, cur, hv, hb2, hh, rest⟩
  · exact .inl hx
  · exact .inr ⟨b, c, cur, hv, hb2, (hb b (by rw [hv]; rfl)).trans hh, rest⟩
def updV (v : Nat → Value) (j : Nat) (x : Value) : Nat → Value := fun i => if i = j then x else v i
def updZ (z : Nat → List Int) (j : Nat) (x : List Int) : Nat → List Int := fun i => if i = j then x else z i
/-- List j has grown: it is named anew. -/
theorem Eight.next (h : Eight base w B v z) {j : Nat} (hj : j < 8) {x : Int} {v' : Value} {W w2 : World} (hs : Stay w W) (hown : w2.ownsRow base 3 1 v' ((z j).length + 1) ((z j).map (Value.int .i64) ++ [.int .i64 x])) (hg : W.grownBy w2 (v j).ownBlock) (hloc : v'.ownBlock = (v j).ownBlock ∨ v'.ownBlock = some W.heap.size) :
    w2.cell? ⟨B, j, none⟩ = some (v j) ∧ w2.frozen? ⟨B, j, none⟩ = false ∧ Eight base (w2.setCell ⟨B, j, none⟩ v') B (updV v j v') (updZ z j (z j ++ [x])) := by
  have hW := h.stay hs
  have hB2 : w2.heap[B]? = W.heap[B]? := hg.block B hW.lt (fun e => hW.off j hj e.symm)
  obtain ⟨cur, ty, h1, h2, h3⟩ := hW.box
  have h1' := hB2.trans h1
  have hset : (w2.setCell ⟨B, j, none⟩ v').heap[B]? = some (.cells (cur.setIfInBounds j v') ty (0, 0)) := heap_setCell_same w2 B _ cur _ _ h1'
  have hlt : ∀ i, i < 8 → ∀ b, (v i).ownBlock = some b → b < W.heap.size := fun i hi b e => (World.ownsRow.lt (hW.own i hi) b e).2
  have hv'lt : ∀ b, v'.ownBlock = some b → b ≠ B := fun b e hb => by
    subst hb
    rcases hloc with h9 | h9
    · exact hW.off j hj (h9 ▸ e)
    · rw [h9] at e; simp only [Option.some.injEq] at e; have := hW.lt; omega
  refine ⟨by simp only [World.cell?, h1']; exact h3 j hj, by simp [World.frozen?, h1'], ⟨_, ty, hset, by simpa using h2, fun i hi => ?_⟩, fun i hi => ?_, fun i k hi hk hik b e1 e2 => ?_, fun i hi e => ?_, h.lo⟩
  · rw [Array.getElem?_setIfInBounds]
    by_cases e : j = i
    · subst e; simp [updV, h2, hi]
    · rw [if_neg e, updV, if_neg (fun e2 => e e2.symm)]; exact h3 i hi
  · by_cases e : i = j
    · subst e
      simp only [updV, updZ, if_true]
      refine (Col.add hown).block (fun b e => ?_)
      exact Below.heap_setCell _ _ _ _ (hv'lt b e)
    · simp only [updV, updZ, if_neg e]
      refine (hW.own i hi).block (fun b eb => ?_)
      have hbB : b ≠ B := fun e9 => hW.off i hi (e9 ▸ eb)
      exact (Below.heap_setCell _ _ _ _ hbB).trans (hg.block b (hlt i hi b eb) (fun e9 => hW.apart i j hi hj e b eb e9.symm))
  · simp only [updV] at e1 e2
    by_cases c1 : i = j
    · subst c1
      rw [if_pos rfl] at e1
      rw [if_neg (fun e => hik e.symm)] at e2
      rcases hloc with h9 | h9
      · exact hW.apart i k hi hk hik b (h9 ▸ e1) e2
      · rw [h9] at e1; simp only [Option.some.injEq] at e1; have := hlt k hk b e2; omega
    · rw [if_neg c1] at e1
      by_cases c2 : k = j
      · subst c2
        rw [if_pos rfl] at e2
        rcases hloc with h9 | h9
        · exact hW.apart i k hi hk hik b e1 (h9 ▸ e2)
        · rw [h9] at e2; simp only [Option.some.injEq] at e2; have := hlt i hi b e1; omega
      · rw [if_neg c2] at e2
        exact hW.apart i k hi hk hik b e1 e2
  · simp only [updV] at e
    by_cases c : i = j
    · subst c; rw [if_pos rfl] at e; exact hv'lt B e rfl
    · rw [if_neg c] at e; exact hW.off i hi e
/-- What was there before the array stays. -/
theorem Eight.keeps (h : Eight base w B v z) {j : Nat} (hj : j < 8) {v' : Value} {W0 W w2 : World} (h0 : Stay W0 w) (hb : base = W0.heap.size) (hs : Stay w W) (hg : W.grownBy w2 (v j).ownBlock) : Stay W0 (w2.setCell ⟨B, j, none⟩ v') := by
  have hsz := h0.size
  have h2 : Stay W0 w2 := (h0.trans hs).grown hg (Nat.le_trans hsz hs.size) (fun k e => by have := (World.ownsRow.lt (h.own j hj) k e).1; omega)
  have hlo := h.lo
  exact ⟨h2.os, h2.tape, h2.output, by simpa [World.setCell] using h2.size, fun k hk => (Below.heap_setCell _ _ _ _ (by show k ≠ B; omega)).trans (h2.block k hk)⟩
theorem col_own_at {e : TypeId} {κ : IntKind} {x : Value} {zs : List Int} {la : Option Addr} {k lc : Nat} (h : Col base w e κ x zs) (hv : x = .slice la k lc) (hz : zs.length = k) (hs : Stay w w') : w'.ownsRow base e 1 (.slice la k lc) k (zs.map (Value.int κ)) := by
  have h8 := h.stay hs
  rw [hv] at h8
  unfold Col at h8
  rwa [hz] at h8
theorem Eight.start (w : World) (ty : TypeId) : Eight w.heap.size (w.alloc (.cells #[.slice none 0 0, .slice none 0 0, .slice none 0 0, .slice none 0 0, .slice none 0 0, .slice none 0 0, .slice none 0 0, .slice none 0 0] ty)) w.heap.size (fun _ => .slice none 0 0) (fun _ => []) := by
  refine ⟨⟨_, ty, heap_alloc_new _ _, rfl, fun i hi => ?_⟩, fun i hi => World.ownsRow_nil _ _ _ _, fun i j hi hj hij b e => by simp [Value.ownBlock] at e, fun i hi e => by simp [Value.ownBlock] at e, Nat.le_refl _⟩
  match i, hi with
  | 0, _ => rfl
  | 1, _ => rfl
  | 2, _ => rfl
  | 3, _ => rfl
  | 4, _ => rfl
  | 5, _ => rfl
  | 6, _ => rfl
  | 7, _ => rfl
/-- One list of the eight has grown by one, in the walk's spelling. -/
theorem Eight.step (h : Eight base w B v z) {j : Nat} (hj : j < 8) {la : Option Addr} {k lc : Nat} (hv : v j = .slice la k lc) (hz : (z j).length = k) {x : Int} {v' : Value} {W w2 : World} (hs : Stay w W) (hown : w2.ownsRow base 3 1 v' (k + 1) ((z j).map (Value.int .i64) ++ [.int .i64 x])) (hg : W.grownBy w2 (Value.slice la k lc).ownBlock) (hloc : v'.ownBlock = (Value.slice la k lc).ownBlock ∨ v'.ownBlock = some W.heap.size) :
    ∃ g cap, v' = .slice (some ⟨g, 0, none⟩) (k + 1) cap ∧ w2.cell? ⟨B, j, none⟩ = some (.slice la k lc) ∧ w2.frozen? ⟨B, j, none⟩ = false ∧ Hid (∃ v2, Eight base (w2.setCell ⟨B, j, none⟩ (.slice (some ⟨g, 0, none⟩) (k + 1) cap)) B v2 (updZ z j (z j ++ [x])) ∧ ∀ W0, Stay W0 w → base = W0.heap.size → Stay W0 (w2.setCell ⟨B, j, none⟩ (.slice (some ⟨g, 0, none⟩) (k + 1) cap))) := by
  rw [← hv] at hg hloc
  rw [← hz] at hown
  obtain ⟨h1, h2, h3⟩ := h.next hj hs hown hg hloc
  rcases hown.2 with ⟨_, e⟩ | ⟨g, cap, cur, e, _⟩
  · omega
  · rw [hz] at e
    subst e
    rw [hv] at h1
    exact ⟨g, cap, rfl, h1, h2, _, h3, fun W0 h0 hb => h.keeps hj h0 hb hs hg⟩
end
end Go.Proofs.Ytpflbaniijbpaaa
