/- Blocks that turn and stay; an append that leaves what the old block held. -/
import Derived.Test.YtpflbaniijbpaaaJ
import Derived.Laws.AppendOwn
namespace Go.Proofs.Ytpflbaniijbpaaa
open Go.RowKit Go.Maps

/-- From w to w' nothing has turned but blocks of S; new blocks may have come. -/
structure Turn (S : Nat → Prop) (w w' : World) : Prop where
  os : w'.os = w.os
  tape : w'.tape = w.tape
  output : w'.output = w.output
  size : w.heap.size ≤ w'.heap.size
  block : ∀ k, k < w.heap.size → ¬ S k → w'.heap[k]? = w.heap[k]?

theorem Turn.refl (S : Nat → Prop) (w : World) : Turn S w w := ⟨rfl, rfl, rfl, Nat.le_refl _, fun _ _ _ => rfl⟩
theorem Turn.trans {S : Nat → Prop} {a b c : World} (h : Turn S a b) (k : Turn S b c) : Turn S a c :=
  ⟨k.os.trans h.os, k.tape.trans h.tape, k.output.trans h.output, Nat.le_trans h.size k.size, fun i hi hn => (k.block i (Nat.lt_of_lt_of_le hi h.size) hn).trans (h.block i hi hn)⟩
theorem Turn.mono {S S' : Nat → Prop} {a b : World} (h : Turn S a b) (hs : ∀ i, i < a.heap.size → S i → S' i) : Turn S' a b :=
  ⟨h.os, h.tape, h.output, h.size, fun i hi hn => h.block i hi (fun e => hn (hs i hi e))⟩
theorem Turn.then {S S' : Nat → Prop} {a b c : World} (h : Turn S a b) (k : Turn S' b c) (hs : ∀ i, i < a.heap.size → S' i → S i) : Turn S a c :=
  ⟨k.os.trans h.os, k.tape.trans h.tape, k.output.trans h.output, Nat.le_trans h.size k.size, fun i hi hn => (k.block i (Nat.lt_of_lt_of_le hi h.size) (fun e => hn (hs i hi e))).trans (h.block i hi hn)⟩
theorem Turn.of_stay {S : Nat → Prop} {a b : World} (h : Stay a b) : Turn S a b := ⟨h.os, h.tape, h.output, h.size, fun i hi _ => h.block i hi⟩
theorem Turn.stay {S : Nat → Prop} {w a b : World} (h : Turn S a b) (hs : Stay w a) (hS : ∀ k, k < w.heap.size → ¬ S k) : Stay w b :=
  ⟨h.os.trans hs.os, h.tape.trans hs.tape, h.output.trans hs.output, Nat.le_trans hs.size h.size, fun k hk => (h.block k (Nat.lt_of_lt_of_le hk hs.size) (hS k hk)).trans (hs.block k hk)⟩
theorem Turn.set {S : Nat → Prop} {a b : World} (h : Turn S a b) {g : Nat} (hg : S g) (k : Nat) (v : Value) : Turn S a (b.setCell ⟨g, k, none⟩ v) :=
  ⟨h.os, h.tape, h.output, by simpa [World.setCell] using h.size, fun j hj hn => (Below.heap_setCell _ _ _ _ (by show j ≠ g; intro e; exact hn (e ▸ hg))).trans (h.block j hj hn)⟩
theorem Turn.heap {S : Nat → Prop} {a b : World} (h : Turn S a b) {k : Nat} {o : Obj} (hk : a.heap[k]? = some o) (hn : ¬ S k) : b.heap[k]? = some o :=
  (h.block k (Array.getElem?_eq_some_iff.1 hk).1 hn).trans hk
theorem Turn.grown {S : Nat → Prop} {a b c : World} (h : Turn S a b) {g : Nat} (k : b.grownBy c (some g)) (hg : g < a.heap.size → S g) : Turn S a c :=
  ⟨k.os.trans h.os, k.tape.trans h.tape, k.output.trans h.output, Nat.le_trans h.size k.size, fun i hi hn => (k.block i (Nat.lt_of_lt_of_le hi h.size) (by intro e; cases e; exact hn (hg hi))).trans (h.block i hi hn)⟩

/-- Block g has room for cap numbers. -/
def Room (w : World) (g cap : Nat) : Prop := ∃ cur : Array Value, w.heap[g]? = some (.cells cur 3 (0, 0)) ∧ cur.size = cap
/-- The first n cells of block g hold z. -/
def Full (w : World) (g n : Nat) (z : Int) : Prop := ∀ j, j < n → w.cell? ⟨g, j, none⟩ = some (.int .i64 z)

theorem Room.set {w : World} {g cap : Nat} (h : Room w g cap) (g' k : Nat) (v : Value) : Room (w.setCell ⟨g', k, none⟩ v) g cap := by
  obtain ⟨cur, h1, h2⟩ := h
  by_cases e : g = g'
  · subst e
    exact ⟨_, heap_setCell_same w g k cur _ v h1, by simpa using h2⟩
  · exact ⟨cur, (Below.heap_setCell _ _ _ _ (by show g ≠ g'; exact e)).trans h1, h2⟩
theorem Room.cell {w : World} {g cap : Nat} (h : Room w g cap) (k : Nat) (hk : k < cap) : ∃ v, w.cell? ⟨g, k, none⟩ = some v := by
  obtain ⟨cur, h1, h2⟩ := h
  exact ⟨cur[k]'(by omega), by simp [World.cell?, h1, h2, hk]⟩
theorem Room.free {w : World} {g cap : Nat} (h : Room w g cap) (k : Nat) : w.frozen? ⟨g, k, none⟩ = false := by
  obtain ⟨cur, h1, h2⟩ := h
  simp [World.frozen?, h1]
theorem Room.lt {w : World} {g cap : Nat} (h : Room w g cap) : g < w.heap.size := by
  obtain ⟨cur, h1, _⟩ := h
  exact (Array.getElem?_eq_some_iff.1 h1).1
theorem Room.turn {S : Nat → Prop} {w w' : World} {g cap : Nat} (h : Room w g cap) (ht : Turn S w w') (hn : ¬ S g) : Room w' g cap := by
  obtain ⟨cur, h1, h2⟩ := h
  exact ⟨cur, ht.heap h1 hn, h2⟩
theorem Full.turn {S : Nat → Prop} {w w' : World} {g n : Nat} {z : Int} (h : Full w g n z) (ht : Turn S w w') (hn : ¬ S g) : Full w' g n z := fun j hj =>
  (World.cell?_of_block (a := ⟨g, j, none⟩) (ht.block g (World.block_lt_of_cell? w _ (h j hj)) hn)).trans (h j hj)
theorem Full.set {w : World} {g n cap : Nat} {z : Int} (h : Full w g n z) (hr : Room w g cap) (hc : n < cap) : Full (w.setCell ⟨g, n, none⟩ (.int .i64 z)) g (n + 1) z := fun j hj => by
  obtain ⟨cur, h1, h2⟩ := hr
  have h3 := heap_setCell_same w g n cur 3 (.int .i64 z) h1
  by_cases e : j = n
  · subst e
    simp [World.cell?, h3, h2, hc]
  · have h4 := h j (by omega)
    simp only [World.cell?, h1] at h4
    simpa [World.cell?, h3, Array.getElem?_setIfInBounds, show ¬ n = j by omega] using h4
theorem Full.set_other {w : World} {g g' n k : Nat} {z : Int} (h : Full w g n z) (hn : g ≠ g') (v : Value) : Full (w.setCell ⟨g', k, none⟩ v) g n z := fun j hj =>
  (World.cell?_of_block (a := ⟨g, j, none⟩) (Below.heap_setCell w _ _ _ (by show g ≠ g'; exact hn))).trans (h j hj)

theorem full_own {base w : _} {g n cap : Nat} {z : Int} (hb : base ≤ g) (hr : Room w g cap) (hf : Full w g n z) (hn : n ≤ cap) (hc : cap ≤ maxLen) : World.ownsRow w base 3 1 (.slice (some ⟨g, 0, none⟩) n cap) n (List.replicate n (.int .i64 z)) := by
  obtain ⟨cur, h1, h2⟩ := hr
  refine ⟨by simp, .inr ⟨g, cap, cur, rfl, hb, h1, hn, hc, by omega, ?_⟩⟩
  apply List.ext_getElem?
  intro j
  rw [Nat.mul_one]
  by_cases hj : j < n
  · rw [List.getElem?_take_of_lt hj]
    have h4 := hf j hj
    simp only [World.cell?, h1] at h4
    simpa [hj] using h4
  · rw [List.getElem?_eq_none (by simp; omega), List.getElem?_eq_none (by simp; omega)]

/-- An append leaves the first places of the block in which the list lay. -/
theorem append_keepsI {w : World} (ty : TypeId) (i : TypeInfo) (hi : Try.prog.info? 3 = some i) (hz : i.zero = some (.int .i64 0)) (hsize : i.size = 1) (hby : i.bytes = 8) (base : Nat)
    (g n cap : Nat) (xs : List Value) (hown : w.ownsRow base 3 1 (.slice (some ⟨g, 0, none⟩) n cap) n xs) (a : Addr) (c : Nat) (u : Value) (hnews : ∀ j x, [u][j]? = some x → w.cell? (a.add j) = some x) (h1 : u.oneCell' = true)
    (h63 : n + 1 ≤ maxLen) (hbytes : (n + 1) * 8 ≤ 140737488355328) (hbase : base ≤ w.heap.size) :
    ∃ v' w', (Builtin.append_ #[22, 22] ty #[.slice (some ⟨g, 0, none⟩) n cap, .slice (some a) 1 c]).run Try.prog w = .ok v' w' ∧ w'.ownsRow base 3 1 v' (n + 1) (xs ++ [u]) ∧ w.grownBy w' (some g) ∧
      (v'.ownBlock = some g ∨ v'.ownBlock = some w.heap.size) ∧ ∀ j, j < n → w'.cell? ⟨g, j, none⟩ = w.cell? ⟨g, j, none⟩ := by
  obtain ⟨v', w', hr, h2, h3, _, h5⟩ := run_append_own_at (P := Try.prog) w base 22 ty 3 i (.int .i64 0) 1 8 Try.underlying22 hi hz hsize hby rfl (by decide) _ n xs hown a 1 c [u] rfl hnews (by simpa using h1) h63 hbytes hbase
  refine ⟨v', w', hr, h2, h3, h5, fun j hj => ?_⟩
  have holds : ∀ j x, xs[j]? = some x → w.cell? ((⟨g, 0, none⟩ : Addr).add j) = some x := hown.cells (g := g) rfl
  have hlx : xs.length = n := by simpa using hown.1
  by_cases hroom : n + 1 ≤ cap
  · rcases hown.2 with ⟨hx, _⟩ | ⟨g', cap', cur, hv, _, hh, k1, k2, k3, k4⟩
    · simp at hx
    · simp only [Value.slice.injEq, Option.some.injEq, Addr.mk.injEq, and_true, true_and] at hv
      obtain ⟨rfl, rfl⟩ := hv
      have e := run_append_room (P := Try.prog) w 22 ty 3 i Try.underlying22 hi g n cap cur hh a 1 c [u] (by simp [hsize]) hnews (by simpa using h1) hroom (by simp [hsize]; omega)
      rw [e] at hr
      simp only [Result.ok.injEq] at hr
      obtain ⟨rfl, rfl⟩ := hr
      have hc2 := h2.cells (g := g) rfl
      have hx : xs[j]? = some (xs[j]'(by omega)) := by simp
      have e1 := holds j _ hx
      have e2 := hc2 j _ (by rw [List.getElem?_append_left (by omega)]; exact hx)
      rw [add_at, Nat.zero_add] at e1 e2
      rw [e1, e2]
  · have e := run_append_grow (P := Try.prog) w 22 ty 3 i (.int .i64 0) Try.underlying22 hi hz ⟨g, 0, none⟩ n cap xs (by simpa [hsize] using hlx) holds a 1 c [u] (by simp [hsize]) hnews (by omega) (by unfold maxLen at h63; omega) (by rw [hby]; exact growslice_fits (by omega) hbytes)
    rw [e] at hr
    simp only [Result.ok.injEq] at hr
    obtain ⟨_, rfl⟩ := hr
    have hg : g < w.heap.size := (hown.lt g rfl).2
    exact World.cell?_of_block (a := ⟨g, j, none⟩) (Below.heap_alloc w.drew _ g hg)

theorem wpList_append_keepsI {w : World} {ops : Array Oper} {rest : List Oper} {o : Oper} {a : Act} {Q : Exit → Act → World → Prop} (hgd : o.guard = none) (s x : Operand)
    (ho : o.op = .call { callee := .builtin .append, args := #[s, x], argTypes := #[22, 22] }) (i : TypeInfo) (hi : Try.prog.info? 3 = some i) (hz : i.zero = some (.int .i64 0)) (hsize : i.size = 1) (hby : i.bytes = 8) (base : Nat)
    (g n cap : Nat) (xs : List Value) (hs : a.eval s = .slice (some ⟨g, 0, none⟩) n cap) (hown : w.ownsRow base 3 1 (.slice (some ⟨g, 0, none⟩) n cap) n xs) (ad : Addr) (c : Nat) (u : Value) (hx : a.eval x = .slice (some ad) 1 c)
    (hnews : ∀ j x, [u][j]? = some x → w.cell? (ad.add j) = some x) (h1 : u.oneCell' = true) (h63 : n + 1 ≤ maxLen) (hbytes : (n + 1) * 8 ≤ 140737488355328) (hbase : base ≤ w.heap.size)
    (h : ∀ v' w', w'.ownsRow base 3 1 v' (n + 1) (xs ++ [u]) → w.grownBy w' (some g) → (v'.ownBlock = some g ∨ v'.ownBlock = some w.heap.size) → (∀ j, j < n → w'.cell? ⟨g, j, none⟩ = w.cell? ⟨g, j, none⟩) → wpList Try.prog ops Q rest (a.put o.dst v') w') :
    wpList Try.prog ops Q (o :: rest) a w := by
  refine wpList_plain hgd fun K hK => ?_
  obtain ⟨v', w', hr, k1, k2, k3, k4⟩ := append_keepsI (w := w) o.type i hi hz hsize hby base g n cap xs hown ad c u hnews h1 h63 hbytes hbase
  unfold Oper.wp execOp
  simp only [ho, resolve, invoke, builtin, Sem.run_bind, Sem.run_pure, Result.andThen_ok, List.map_toArray, List.map_cons, List.map_nil, hs, hx, hr]
  exact hK _ _ (h v' w' k1 k2 k3 k4)
end Go.Proofs.Ytpflbaniijbpaaa
