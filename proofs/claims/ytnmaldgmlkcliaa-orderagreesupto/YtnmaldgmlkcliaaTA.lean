/- Things in memory of one's own. No walk here. -/
import Derived.Test.YtnmaldgmlkcliaaIT
import Derived.Test.YtnmaldgmlkcliaaRC
import Derived.Maps.AppendAt
namespace Go.Proofs.Ytnmaldgmlkcliaa
open Go.RowKit Go.Maps

/-- The things ts lie in block g, with room for cap. -/
def RowT (w : World) (g cap : Nat) (ts : List (Int × Int)) : Prop :=
  ∃ cur : Array Value, w.heap[g]? = some (.cells cur 26 (0, 0)) ∧ ts.length ≤ cap ∧ cap ≤ maxLen ∧ cur.size = cap * 2 ∧ cur.toList.take (ts.length * 2) = cellsT ts
/-- A list of things in memory of its own, at base or behind. -/
def OwnT (base : Nat) (w : World) (v : Value) (ts : List (Int × Int)) : Prop := w.ownsRow base 26 2 v ts.length (cellsT ts)

section
variable {w w' : World} {g cap base : Nat} {ts : List (Int × Int)} {v : Value}
theorem RowT.things (h : RowT w g cap ts) : ThS w (some ⟨g, 0, none⟩) g 0 ts := by
  obtain ⟨cur, h1, h2, h3, h4, h5⟩ := h
  refine ⟨fun _ => rfl, fun j hj => ?_⟩
  have h := cellsT_at ts j hj
  rw [← h5, List.getElem?_take_of_lt (by omega), List.getElem?_take_of_lt (by omega)] at h
  rw [Nat.zero_add]
  simp only [World.cell?, h1]
  exact ⟨by simpa using h.1, by simpa using h.2⟩
theorem RowT.free (h : RowT w g cap ts) (k : Nat) : w.frozen? ⟨g, k, none⟩ = false := by
  obtain ⟨cur, h1, _⟩ := h; simp [World.frozen?, h1]
theorem RowT.lt (h : RowT w g cap ts) : g < w.heap.size := by
  obtain ⟨cur, h1, _⟩ := h; exact (Array.getElem?_eq_some_iff.1 h1).1
theorem RowT.len (h : RowT w g cap ts) : ts.length ≤ cap ∧ cap ≤ maxLen := by
  obtain ⟨cur, h1, h2, h3, _⟩ := h; exact ⟨h2, h3⟩
theorem RowT.block (h : RowT w g cap ts) (hb : w'.heap[g]? = w.heap[g]?) : RowT w' g cap ts := by
  obtain ⟨cur, h1, h2⟩ := h; exact ⟨cur, hb.trans h1, h2⟩
theorem RowT.stay (h : RowT w g cap ts) (hs : Stay w w') : RowT w' g cap ts := h.block (hs.block g h.lt)
theorem RowT.turn {S : Nat → Prop} (h : RowT w g cap ts) (ht : Turn S w w') (hn : ¬ S g) : RowT w' g cap ts := h.block (ht.block g h.lt hn)
theorem RowT.cells (h : RowT w g cap ts) (j : Nat) (x : Int × Int) (hx : ts[j]? = some x) : w.cell? ⟨g, j * 2, none⟩ = some (.int .i64 x.1) ∧ w.cell? ⟨g, j * 2 + 1, none⟩ = some (.int .i64 x.2) := by
  obtain ⟨hj, rfl⟩ := List.getElem?_eq_some_iff.1 hx
  have := h.things.2 j hj
  simpa using this

theorem cellsT_split (l : List (Int × Int)) (t : Nat) (e : Int × Int) (h : l[t]? = some e) : cellsT l = cellsT (l.take t) ++ encT e ++ cellsT (l.drop (t + 1)) := by
  have hl := (List.getElem?_eq_some_iff.1 h).1
  have e1 : l[t] = e := (List.getElem?_eq_some_iff.1 h).2
  conv => lhs; rw [← List.take_append_drop t l, List.drop_eq_getElem_cons hl, e1]
  rw [cellsT_append, List.append_assoc]
  rfl
theorem cellsT_set (l : List (Int × Int)) (t : Nat) (e e' : Int × Int) (h : l[t]? = some e) : cellsT (l.set t e') = cellsT (l.take t) ++ encT e' ++ cellsT (l.drop (t + 1)) := by
  have hl := (List.getElem?_eq_some_iff.1 h).1
  rw [cellsT_split (l.set t e') t e' (by simp [hl]), List.take_set_of_le (Nat.le_refl _), List.drop_set_of_lt (by omega)]
theorem setMid (A B C : List Value) (k j : Nat) (v : Value) (hk : k = A.length + j) (hj : j < B.length) : (A ++ B ++ C).set k v = A ++ B.set j v ++ C := by
  subst hk
  rw [List.append_assoc, List.set_append, if_neg (by omega), List.set_append, if_pos (by omega), show A.length + j - A.length = j by omega, List.append_assoc]

/-- A thing is stored. -/
def putT (w : World) (g t : Nat) (x : Int × Int) : World := (w.setCell ⟨g, t * 2, none⟩ (.int .i64 x.1)).setCell ⟨g, t * 2 + 1, none⟩ (.int .i64 x.2)
theorem RowT.store (h : RowT w g cap ts) (t : Nat) (x' : Int × Int) (ht : t < ts.length) : RowT (putT w g t x') g cap (ts.set t x') := by
  obtain ⟨cur, h1, h2, h3, h4, h5⟩ := h
  have he : ts[t]? = some ts[t] := List.getElem?_eq_getElem ht
  have hl : (cellsT (ts.take t)).length = t * 2 := by rw [cellsT_len, List.length_take]; congr 1; omega
  refine ⟨_, heap_setCell_same _ g _ _ _ _ (heap_setCell_same w g _ cur _ _ h1), by simpa using h2, h3, by simpa using h4, ?_⟩
  rw [List.length_set, Array.toList_setIfInBounds, List.take_set, Array.toList_setIfInBounds, List.take_set, h5, cellsT_split ts t _ he, setMid _ _ _ _ 0 _ (by omega) (by simp [encT]), setMid _ _ _ _ 1 _ (by omega) (by simp [encT]), cellsT_set ts t _ _ he]
  rfl
theorem putT_turn {S : Nat → Prop} {a : World} (h : Turn S a w) (hg : S g) (t : Nat) (x : Int × Int) : Turn S a (putT w g t x) := (h.set hg _ _).set hg _ _

theorem OwnT.row (h : OwnT base w v ts) (hn : v ≠ .slice none 0 0) : ∃ g cap, v = .slice (some ⟨g, 0, none⟩) ts.length cap ∧ RowT w g cap ts ∧ base ≤ g := by
  rcases h.2 with ⟨hx, _⟩ | ⟨b, c, cur, hv, hb, hh, h1, h2, h3, h4⟩
  · exact absurd hx hn
  · exact ⟨b, c, hv, ⟨cur, hh, h1, h2, h3, h4⟩, hb⟩
theorem RowT.own (h : RowT w g cap ts) (hb : base ≤ g) : OwnT base w (.slice (some ⟨g, 0, none⟩) ts.length cap) ts := by
  obtain ⟨cur, h1, h2, h3, h4, h5⟩ := h
  exact ⟨cellsT_len ts, .inr ⟨g, cap, cur, rfl, hb, h1, h2, h3, h4, h5⟩⟩
theorem OwnT.nil : OwnT base w (.slice none 0 0) [] := World.ownsRow_nil _ _ _ _
/-- What such a value is: a slice that holds ts. -/
theorem OwnT.form (h : OwnT base w v ts) : ∃ a b c, v = .slice a ts.length c ∧ ThS w a b 0 ts ∧ (a = none → c = 0 ∧ ts = []) ∧ ts.length ≤ maxLen ∧ (∀ k, v.ownBlock = some k → base ≤ k ∧ k < w.heap.size) := by
  by_cases hn : v = .slice none 0 0
  · have h0 : ts = [] := by
      rcases h.2 with ⟨_, h2⟩ | ⟨b, c, cur, hv, _⟩
      · exact List.eq_nil_of_length_eq_zero h2
      · rw [hn] at hv; simp at hv
    subst h0 hn
    exact ⟨none, 0, 0, rfl, ⟨fun h => by simp at h, fun j hj => by simp at hj⟩, fun _ => ⟨rfl, rfl⟩, Nat.zero_le _, fun k hk => by simp [Value.ownBlock] at hk⟩
  · obtain ⟨g, cap, rfl, hR, hb⟩ := h.row hn
    refine ⟨_, g, cap, rfl, hR.things, fun h => (by cases h), by have := hR.len; omega, fun k hk => ?_⟩
    simp only [Value.ownBlock, Option.some.injEq] at hk
    subst hk
    exact ⟨hb, hR.lt⟩
theorem OwnT.stay (h : OwnT base w v ts) (hs : Stay w w') : OwnT base w' v ts := by
  refine ⟨h.1, ?_⟩
  rcases h.2 with hx | ⟨b, c, cur, hv, hb, hh, rest⟩
  · exact .inl hx
  · exact .inr ⟨b, c, cur, hv, hb, (hs.block b (Array.getElem?_eq_some_iff.1 hh).1).trans hh, rest⟩
theorem OwnT.mono {base' : Nat} (h : OwnT base w v ts) (hb : base' ≤ base) : OwnT base' w v ts := by
  refine ⟨h.1, ?_⟩
  rcases h.2 with hx | ⟨b, c, cur, hv, hb2, rest⟩
  · exact .inl hx
  · exact .inr ⟨b, c, cur, hv, by omega, rest⟩
theorem OwnT.turn {S : Nat → Prop} (h : OwnT base w v ts) (ht : Turn S w w') (hn : ∀ k, v.ownBlock = some k → ¬ S k) : OwnT base w' v ts := by
  refine ⟨h.1, ?_⟩
  rcases h.2 with hx | ⟨b, c, cur, hv, hb, hh, rest⟩
  · exact .inl hx
  · exact .inr ⟨b, c, cur, hv, hb, ht.heap hh (hn b (by rw [hv]; rfl)), rest⟩
end
theorem infoTh : (Try.prog.info? 26).map (fun i => (i.zero, i.size, i.bytes)) = some (some (.agg #[.int .i64 0, .int .i64 0]), 2, 16) := by kernel_rfl
end Go.Proofs.Ytnmaldgmlkcliaa
