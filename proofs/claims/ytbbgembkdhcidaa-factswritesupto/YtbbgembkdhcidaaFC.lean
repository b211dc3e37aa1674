/- Lists of texts, and lists of lists of texts, in memory: as they are read, and as they are one's own. No walk here. -/
import Derived.Test.YtbbgembkdhcidaaFA
import Derived.Test.YtbbgembkdhcidaaRA
import Derived.Test.YtbbgembkdhcidaaCR
import Derived.Laws.AppendOwn
import Derived.Laws.OwnMore
import Derived.Maps.AppendAt
namespace Go.Proofs.Ytbbgembkdhcidaa
open Go.RowKit Go.Maps

/-- From w to w' nothing has turned but blocks of S; new blocks may have come. -/
structure Turn (S : Nat → Prop) (w w' : World) : Prop where
  os : w'.os = w.os
  tape : w'.tape = w.tape
  output : w'.output = w.output
  size : w.heap.size ≤ w'.heap.size
  block : ∀ k, k < w.heap.size → ¬ S k → w'.heap[k]? = w.heap[k]?

theorem Turn.refl (S : Nat → Prop) (w : World) : Turn S w w := ⟨rfl, rfl, rfl, Nat.le_refl _, fun _ _ _ => rfl⟩
theorem Turn.trans {S : Nat → Prop} {a b c : World} (h : Turn S a b) (k : Turn S b c) : Turn S a c :=
  ⟨k.os.trans h.os, k.tape.trans h.tape, k.output.trans h.output, Nat.le_trans h.size k.size, fun i hi hn => (k.block i (Nat.lt_of_lt_of_le hi h.size) hn).trans (h.block i hi hn)⟩
theorem Turn.mono {S S' : Nat → Prop} {a b : World} (h : Turn S a b) (hs : ∀ i, i < a.heap.size → S i → S' i) : Turn S' a b :=
  ⟨h.os, h.tape, h.output, h.size, fun i hi hn => h.block i hi (fun e => hn (hs i hi e))⟩
theorem Turn.then {S S' : Nat → Prop} {a b c : World} (h : Turn S a b) (k : Turn S' b c) (hs : ∀ i, i < a.heap.size → S' i → S i) : Turn S a c :=
  ⟨k.os.trans h.os, k.tape.trans h.tape, k.output.trans h.output, Nat.le_trans h.size k.size, fun i hi hn => (k.block i (Nat.lt_of_lt_of_le hi h.size) (fun e => hn (hs i hi e))).trans (h.block i hi hn)⟩
theorem Turn.of_stay {S : Nat → Prop} {a b : World} (h : Stay a b) : Turn S a b := ⟨h.os, h.tape, h.output, h.size, fun i hi _ => h.block i hi⟩
theorem Turn.stay {S : Nat → Prop} {w a b : World} (h : Turn S a b) (hs : Stay w a) (hS : ∀ k, k < w.heap.size → ¬ S k) : Stay w b :=
  ⟨h.os.trans hs.os, h.tape.trans hs.tape, h.output.trans hs.output, Nat.le_trans hs.size h.size, fun k hk => (h.block k (Nat.lt_of_lt_of_le hk hs.size) (hS k hk)).trans (hs.block k hk)⟩
theorem Turn.set {S : Nat → Prop} {a b : World} (h : Turn S a b) {g : Nat} (hg : S g) (k : Nat) (v : Value) : Turn S a (b.setCell ⟨g, k, none⟩ v) :=
  ⟨h.os, h.tape, h.output, by simpa [World.setCell] using h.size, fun j hj hn => (Below.heap_setCell _ _ _ _ (by show j ≠ g; intro e; exact hn (e ▸ hg))).trans (h.block j hj hn)⟩
theorem Turn.heap {S : Nat → Prop} {a b : World} (h : Turn S a b) {k : Nat} {o : Obj} (hk : a.heap[k]? = some o) (hn : ¬ S k) : b.heap[k]? = some o :=
  (h.block k (Array.getElem?_eq_some_iff.1 hk).1 hn).trans hk
theorem Turn.grown {S : Nat → Prop} {a b c : World} (h : Turn S a b) {g : Nat} (k : b.grownBy c (some g)) (hg : g < a.heap.size → S g) : Turn S a c :=
  ⟨k.os.trans h.os, k.tape.trans h.tape, k.output.trans h.output, Nat.le_trans h.size k.size, fun i hi hn => (k.block i (Nat.lt_of_lt_of_le hi h.size) (by intro e; cases e; exact hn (hg hi))).trans (h.block i hi hn)⟩

theorem Turn.of_below {n : Nat} {w w' : World} (h : Below n w w') : Turn (fun k => n ≤ k) w w' :=
  ⟨h.os, h.tape, h.output, h.size, fun k _ hn => h.block k (by omega)⟩
theorem Turn.cell {S : Nat → Prop} {w w' : World} (h : Turn S w w') {p : Addr} {v : Value} (hc : w.cell? p = some v) (hn : ¬ S p.block) : w'.cell? p = some v :=
  (World.cell?_of_block (h.block p.block (World.block_lt_of_cell? w p hc) hn)).trans hc
theorem Turn.row {S : Nat → Prop} {w w' : World} (h : Turn S w w') {base : Nat} {e : TypeId} {size : Nat} {v : Value} {n : Nat} {xs : List Value} (hr : w.ownsRow base e size v n xs)
    (hn : ∀ k, v.ownBlock = some k → ¬ S k) : w'.ownsRow base e size v n xs := by
  refine ⟨hr.1, ?_⟩
  rcases hr.2 with hx | ⟨g, cap, cur, rfl, hb, hgg, rest⟩
  · exact .inl hx
  · exact .inr ⟨g, cap, cur, rfl, hb, by rw [h.block g (Array.getElem?_eq_some_iff.1 hgg).1 (hn g rfl)]; exact hgg, rest⟩


theorem infoSt : (Try.prog.info? 9).map (fun i => (i.zero, i.size, i.bytes)) = some (some (.string ⟨#[]⟩), 1, 16) := by kernel_rfl
theorem infoSs : (Try.prog.info? 39).map (fun i => (i.zero, i.size, i.bytes)) = some (some (.slice none 0 0), 1, 24) := by kernel_rfl

/-- A list of texts as a slice names it. -/
structure Tx where
  a : Option Addr
  b : Nat
  o : Nat
  c : Nat
  xs : List ByteArray
def Tx.v (t : Tx) : Value := .slice t.a t.xs.length t.c
def Tx.S (w : World) (t : Tx) : Prop := StrsS w t.a t.b t.o t.xs
/-- The slice at a holds these lists. -/
def TxsS (w : World) (a : Option Addr) (b off : Nat) (ts : List Tx) : Prop :=
  (0 < ts.length → a = some ⟨b, off, none⟩) ∧ ∀ j (h : j < ts.length), w.cell? ⟨b, off + j, none⟩ = some ts[j].v ∧ ts[j].S w
theorem TxsS.stay {w w' : World} {a : Option Addr} {b off : Nat} {ts : List Tx} (h : TxsS w a b off ts) (hs : Stay w w') : TxsS w' a b off ts :=
  ⟨h.1, fun j hj => ⟨hs.cell (h.2 j hj).1, StrsS.stay (h.2 j hj).2 hs⟩⟩
theorem StrsS.turn {S : Nat → Prop} {w w' : World} {a : Option Addr} {b off : Nat} {l : List ByteArray} (h : StrsS w a b off l) (ht : Turn S w w') (hn : 0 < l.length → ¬ S b) : StrsS w' a b off l :=
  ⟨h.1, fun j hj => ht.cell (h.2 j hj) (hn (by omega))⟩
theorem StrsS.nil (w : World) (a : Option Addr) (b off : Nat) : StrsS w a b off [] := ⟨fun h => absurd h (Nat.lt_irrefl _), fun _ h => absurd h (Nat.not_lt_zero _)⟩
/-- What it says, in bytes. -/
def dat (l : List ByteArray) : List (List UInt8) := l.map fun s => s.data.toList
theorem dat_toB (l : List (List UInt8)) : dat (l.map toB) = l := by
  induction l with
  | nil => rfl
  | cons x l ih => simp only [dat, List.map_cons, data_toB] at *; rw [ih]
theorem toB_dat (l : List ByteArray) : (dat l).map toB = l := by
  induction l with
  | nil => rfl
  | cons x l ih => simp only [dat, List.map_cons, toB_data] at *; rw [ih]
theorem dat_len (l : List ByteArray) : (dat l).length = l.length := by simp [dat]
theorem dat_inj {a b : List ByteArray} (h : dat a = dat b) : a = b := by rw [← toB_dat a, h, toB_dat]

/-- A list of texts in memory of its own. -/
def OwnS (base : Nat) (w : World) (v : Value) (l : List ByteArray) : Prop := w.ownsRow base 9 1 v l.length (l.map Value.string)
section
variable {base : Nat} {w w' : World} {v : Value} {l : List ByteArray}
theorem OwnS.nil : OwnS base w (.slice none 0 0) [] := World.ownsRow_nil _ _ _ _
theorem OwnS.turn {S : Nat → Prop} (h : OwnS base w v l) (ht : Turn S w w') (hn : ∀ k, v.ownBlock = some k → ¬ S k) : OwnS base w' v l := ht.row h hn
theorem OwnS.stay (h : OwnS base w v l) (hs : Stay w w') : OwnS base w' v l := h.turn (S := fun _ => False) (Turn.of_stay hs) (fun _ _ h => h)
theorem OwnS.lt (h : OwnS base w v l) : ∀ k, v.ownBlock = some k → base ≤ k ∧ k < w.heap.size := World.ownsRow.lt h
theorem ownsRow_base {base' : Nat} {e : TypeId} {size n : Nat} {xs : List Value} (h : w.ownsRow base e size v n xs) (hb : base' ≤ base) : w.ownsRow base' e size v n xs := by
  refine ⟨h.1, ?_⟩
  rcases h.2 with hx | ⟨g, cap, cur, h1, h2, h3⟩
  · exact .inl hx
  · exact .inr ⟨g, cap, cur, h1, Nat.le_trans hb h2, h3⟩
theorem OwnS.low (h : OwnS base w v l) {base' : Nat} (hb : base' ≤ base) : OwnS base' w v l := ownsRow_base h hb
/-- As a reader has it. -/
theorem OwnS.tx (h : OwnS base w v l) : ∃ t : Tx, v = t.v ∧ t.xs = l ∧ t.S w ∧ (t.a = none → t.c = 0 ∧ l = []) ∧ (∀ k, v.ownBlock = some k → t.b = k) ∧ (0 < l.length → v.ownBlock = some t.b) := by
  have h0 := h
  rcases h.2 with ⟨hv, hl⟩ | ⟨g, cap, cur, hv, hb, hh, h1, h2, h3, h4⟩
  · have e : l = [] := List.eq_nil_of_length_eq_zero hl
    subst e
    exact ⟨⟨none, 0, 0, 0, []⟩, hv, rfl, StrsS.nil _ _ _ _, fun _ => ⟨rfl, rfl⟩, fun k hk => by rw [hv] at hk; simp [Value.ownBlock] at hk, fun h => absurd h (Nat.lt_irrefl _)⟩
  · subst hv
    refine ⟨⟨some ⟨g, 0, none⟩, g, 0, cap, l⟩, rfl, rfl, strs_of_row (r := []) (by rw [List.append_nil]; exact h0), fun e => by simp at e, fun k hk => ?_, fun _ => rfl⟩
    simpa [Value.ownBlock] using hk
/-- An append of texts to texts of one's own. -/
theorem OwnS.add (ty : TypeId) (h : OwnS base w v l) {a : Option Addr} {b off c : Nat} {ys : List ByteArray} (hS : StrsS w a b off ys) (ha : a = none → c = 0 ∧ ys = []) (hb : (l.length + ys.length) * 16 ≤ 140737488355328) (hbase : base ≤ w.heap.size) :
    ∃ v' w', (Builtin.append_ #[39, 39] ty #[v, .slice a ys.length c]).run Try.prog w = .ok v' w' ∧ OwnS base w' v' (l ++ ys) ∧ w.grownBy w' v.ownBlock ∧ (v' = .slice none 0 0 → v = .slice none 0 0) ∧ (v'.ownBlock = v.ownBlock ∨ v'.ownBlock = some w.heap.size) := by
  have he : EncOk 1 (fun s : ByteArray => [Value.string s]) := ⟨fun _ => rfl, fun x u hu => by simp at hu; subst hu; rfl, by decide⟩
  have hc : ∀ l : List ByteArray, cellsR (fun s : ByteArray => [Value.string s]) l = l.map Value.string := fun l => by unfold cellsR; induction l with
    | nil => rfl
    | cons x l ih => rw [List.flatMap_cons, ih]; rfl
  have hR : RecS 1 (fun s : ByteArray => [Value.string s]) w a b off ys := ⟨hS.1, fun j hj i v hv => by
    have hi : i = 0 := by have := (List.getElem?_eq_some_iff.1 hv).1; simpa using this
    subst hi
    simp at hv
    rw [Nat.mul_one, Nat.add_zero, ← hv]
    exact hS.2 j hj⟩
  obtain ⟨v', w', h1, h2, h3⟩ := append_recs (P := Try.prog) (s := 39) (ty := ty) he Try.underlying39 infoSt rfl (xs := l) (ys := ys) (base := base) (w := w) (v := v) (by unfold OwnR; rw [hc]; exact h) (c := c) hR ha (by unfold maxLen; omega) hb hbase
  refine ⟨v', w', h1, ?_, h3⟩
  unfold OwnR at h2
  rw [hc] at h2
  exact h2
end
/-- Lists of texts, each in memory of its own, in a list of their own. -/
structure OwnG (base : Nat) (w : World) (v : Value) (us : List Value) (ts : List (List ByteArray)) : Prop where
  row : w.ownsRow base 39 1 v us.length us
  len : us.length = ts.length
  each : ∀ (i : Nat) u t, us[i]? = some u → ts[i]? = some t → OwnS base w u t
  apart : ∀ (i j : Nat) u u', us[i]? = some u → us[j]? = some u' → i ≠ j → ∀ k, u.ownBlock = some k → u'.ownBlock ≠ some k
  off : ∀ (i : Nat) u, us[i]? = some u → ∀ k, u.ownBlock = some k → v.ownBlock ≠ some k
section
variable {base : Nat} {w w' : World} {v : Value} {us : List Value} {ts : List (List ByteArray)}
theorem OwnG.nil : OwnG base w (.slice none 0 0) [] [] :=
  ⟨World.ownsRow_nil _ _ _ _, rfl, fun _ _ _ h => by simp at h, fun _ _ _ _ h => by simp at h, fun _ _ h => by simp at h⟩
/-- Its blocks. -/
def blkG (v : Value) (us : List Value) (k : Nat) : Prop := v.ownBlock = some k ∨ ∃ u ∈ us, u.ownBlock = some k
theorem OwnG.lt (h : OwnG base w v us ts) : ∀ k, blkG v us k → base ≤ k ∧ k < w.heap.size := by
  rintro k (hk | ⟨u, hu, hk⟩)
  · exact World.ownsRow.lt h.row k hk
  · obtain ⟨i, hi, rfl⟩ := List.mem_iff_getElem.1 hu
    exact (h.each i us[i] (ts[i]'(by rw [← h.len]; exact hi)) (List.getElem?_eq_getElem hi) (List.getElem?_eq_getElem _)).lt k hk
theorem OwnG.turn {S : Nat → Prop} (h : OwnG base w v us ts) (ht : Turn S w w') (hn : ∀ k, blkG v us k → ¬ S k) : OwnG base w' v us ts :=
  ⟨ht.row h.row (fun k hk => hn k (.inl hk)), h.len, fun i u t hu htt => (h.each i u t hu htt).turn ht (fun k hk => hn k (.inr ⟨u, List.mem_of_getElem? hu, hk⟩)), h.apart, h.off⟩
theorem OwnG.stay (h : OwnG base w v us ts) (hs : Stay w w') : OwnG base w' v us ts := h.turn (S := fun _ => False) (Turn.of_stay hs) (fun _ _ h => h)
theorem OwnG.low (h : OwnG base w v us ts) {base' : Nat} (hb : base' ≤ base) : OwnG base' w v us ts :=
  ⟨ownsRow_base h.row hb, h.len, fun i u t hu ht => (h.each i u t hu ht).low hb, h.apart, h.off⟩
theorem Turn.of_grown {w w' : World} {row : Option Nat} (h : w.grownBy w' row) : Turn (fun k => row = some k) w w' :=
  ⟨h.os, h.tape, h.output, h.size, fun k hk hn => h.block k hk (fun e => hn e.symm)⟩
theorem slice_one {a : Option Addr} {n c : Nat} : (Value.slice a n c).oneCell' = true := rfl
theorem OwnS.one {base : Nat} {w : World} {v : Value} {l : List ByteArray} (h : OwnS base w v l) : v.oneCell' = true := by
  rcases h.2 with ⟨hv, _⟩ | ⟨g, cap, cur, hv, _⟩ <;> rw [hv] <;> rfl
/-- One list more. -/
theorem OwnG.push (ty : TypeId) (h : OwnG base w v us ts) {u : Value} {t : List ByteArray} (hu : OwnS base w u t) (hne : ∀ k, u.ownBlock = some k → ¬ blkG v us k) (hb : (ts.length + 1) * 24 ≤ 140737488355328) (hbase : base ≤ w.heap.size) :
    ∃ v' w', (Builtin.append_ #[22, 22] ty #[v, .slice (some ⟨w.heap.size, 0, none⟩) 1 1]).run Try.prog (w.alloc (.cells #[u] 39)) = .ok v' w' ∧ OwnG base w' v' (us ++ [u]) (ts ++ [t]) ∧ (w.alloc (.cells #[u] 39)).grownBy w' v.ownBlock ∧ v' ≠ .slice none 0 0 ∧ (v'.ownBlock = v.ownBlock ∨ v'.ownBlock = some (w.heap.size + 1)) := by
  obtain ⟨i0, hi, hz0, hz1, hz2⟩ := info_parts infoSs
  have hlen := h.len
  obtain ⟨v', w', hr, h2, h3, h4, h5⟩ := run_append_own_at (P := Try.prog) (w.alloc (.cells #[u] 39)) base 22 ty 39 i0 (.slice none 0 0) 1 24 Try.underlying22 hi hz0 hz1 hz2 rfl (by decide) v us.length us (h.row.alloc _) ⟨w.heap.size, 0, none⟩ 1 1 [u] rfl (new_cells w [u] _) (by intro x hx; simp at hx; subst hx; exact hu.one) (by unfold maxLen; omega) (by omega) (by simp; omega)
  rw [World.size_alloc] at h5
  have hltv := fun k hk => (h.lt k (.inl hk)).2
  refine ⟨v', w', hr, ?_, h3, fun e => by have := (h4.1 e).2; omega, h5⟩
  have hT := Turn.of_grown h3
  have hsz : w.heap.size + 1 = (w.alloc (.cells #[u] 39)).heap.size := by simp
  have each : ∀ (i : Nat) x y, (us ++ [u])[i]? = some x → (ts ++ [t])[i]? = some y → OwnS base w x y ∧ ∀ k, x.ownBlock = some k → ¬ v.ownBlock = some k := by
    intro i x y hx hy
    by_cases hl : i < us.length
    · rw [List.getElem?_append_left hl] at hx
      rw [List.getElem?_append_left (by omega)] at hy
      exact ⟨h.each i x y hx hy, fun k hk => h.off i x hx k hk⟩
    · have hi' : i = us.length := by have := (List.getElem?_eq_some_iff.1 hx).1; simp at this; omega
      subst hi'
      rw [List.getElem?_append_right (Nat.le_refl _), Nat.sub_self] at hx
      rw [hlen, List.getElem?_append_right (Nat.le_refl _), Nat.sub_self] at hy
      simp at hx hy
      subst hx hy
      exact ⟨hu, fun k hk e => hne k hk (.inl e)⟩
  have hv' : ∀ k, v'.ownBlock = some k → v.ownBlock = some k ∨ k = w.heap.size + 1 := fun k hk => by
    rcases h5 with e | e
    · rw [e] at hk; exact .inl hk
    · rw [e] at hk; exact .inr (Option.some.inj hk).symm
  refine ⟨by rw [List.length_append]; exact h2, by simp [hlen], fun i x y hx hy => ?_, fun i j x x' hx hx' hij k hk => ?_, fun i x hx k hk e => ?_⟩
  · obtain ⟨h6, h7⟩ := each i x y hx hy
    exact (h6.stay (Stay.new _ _)).turn hT (fun k hk e => h7 k hk e)
  · by_cases hl : i < us.length
    · rw [List.getElem?_append_left hl] at hx
      by_cases hl' : j < us.length
      · rw [List.getElem?_append_left hl'] at hx'
        exact h.apart i j x x' hx hx' hij k hk
      · have hj : j = us.length := by have := (List.getElem?_eq_some_iff.1 hx').1; simp at this; omega
        subst hj
        rw [List.getElem?_append_right (Nat.le_refl _), Nat.sub_self] at hx'
        simp at hx'
        subst hx'
        exact fun e => hne k e (.inr ⟨x, List.mem_of_getElem? hx, hk⟩)
    · have hi' : i = us.length := by have := (List.getElem?_eq_some_iff.1 hx).1; simp at this; omega
      subst hi'
      rw [List.getElem?_append_right (Nat.le_refl _), Nat.sub_self] at hx
      simp at hx
      subst hx
      have hl' : j < us.length := by have := (List.getElem?_eq_some_iff.1 hx').1; simp at this; omega
      rw [List.getElem?_append_left hl'] at hx'
      exact fun e => hne k hk (.inr ⟨x', List.mem_of_getElem? hx', e⟩)
  · obtain ⟨y, hy⟩ : ∃ y, (ts ++ [t])[i]? = some y := ⟨_, List.getElem?_eq_getElem (by have := (List.getElem?_eq_some_iff.1 hx).1; simp at this ⊢; omega)⟩
    obtain ⟨h6, h7⟩ := each i x y hx hy
    rcases hv' k e with e | e
    · exact h7 k hk e
    · have := (h6.lt k hk).2; omega
theorem list_of {α : Type} {p : Nat → α → Prop} : ∀ (n : Nat), (∀ i, i < n → ∃ x, p i x) → ∃ l : List α, l.length = n ∧ ∀ i (h : i < l.length), p i l[i]
  | 0, _ => ⟨[], rfl, fun i h => absurd h (Nat.not_lt_zero _)⟩
  | n + 1, h => by
    obtain ⟨l, h1, h2⟩ := list_of n (fun i hi => h i (by omega))
    obtain ⟨x, hx⟩ := h n (by omega)
    refine ⟨l ++ [x], by simp [h1], fun i hi => ?_⟩
    by_cases hl : i < l.length
    · rw [List.getElem_append_left hl]; exact h2 i hl
    · simp at hi
      obtain rfl : i = n := by omega
      rw [List.getElem_append_right (by omega)]
      simpa [h1] using hx
/-- As a reader has it. -/
theorem OwnG.txs (h : OwnG base w v us ts) : ∃ (a : Option Addr) (b c : Nat) (xs : List Tx), v = .slice a xs.length c ∧ TxsS w a b 0 xs ∧ xs.map Tx.xs = ts ∧ xs.map Tx.v = us ∧ (a = none → c = 0 ∧ ts = []) ∧ (∀ t ∈ xs, t.a = none → t.c = 0 ∧ t.xs = []) := by
  have hl := h.len
  obtain ⟨xs, hx1, hx2⟩ := list_of (p := fun i (t : Tx) => us[i]? = some t.v ∧ ts[i]? = some t.xs ∧ t.S w ∧ (t.a = none → t.c = 0 ∧ t.xs = [])) us.length (fun i hi => by
    obtain ⟨t, h1, h2, h3, h4, _⟩ := (h.each i us[i] (ts[i]'(by omega)) (List.getElem?_eq_getElem hi) (List.getElem?_eq_getElem _)).tx
    exact ⟨t, by rw [List.getElem?_eq_getElem hi, h1], by rw [List.getElem?_eq_getElem (by omega), h2], h3, by rw [h2]; exact h4⟩)
  have e1 : xs.map Tx.v = us := by
    apply List.ext_getElem?
    intro i
    by_cases hi : i < xs.length
    · rw [List.getElem?_map, List.getElem?_eq_getElem hi, (hx2 i hi).1]; rfl
    · rw [List.getElem?_eq_none (by simp; omega), List.getElem?_eq_none (by omega)]
  have e2 : xs.map Tx.xs = ts := by
    apply List.ext_getElem?
    intro i
    by_cases hi : i < xs.length
    · rw [List.getElem?_map, List.getElem?_eq_getElem hi, (hx2 i hi).2.1]; rfl
    · rw [List.getElem?_eq_none (by simp; omega), List.getElem?_eq_none (by omega)]
  have e3 : ∀ t ∈ xs, t.a = none → t.c = 0 ∧ t.xs = [] := fun t ht => by
    obtain ⟨i, hi, rfl⟩ := List.mem_iff_getElem.1 ht
    exact (hx2 i hi).2.2.2
  rcases h.row.2 with ⟨hv, h0⟩ | ⟨g, cap, cur, hv, hb, hh, k1, k2, k3, k4⟩
  · have hxs : xs = [] := List.eq_nil_of_length_eq_zero (by omega)
    subst hxs
    exact ⟨none, 0, 0, [], hv, ⟨fun h => absurd h (Nat.lt_irrefl _), fun _ h => absurd h (Nat.not_lt_zero _)⟩, e2, e1, fun _ => ⟨rfl, by rw [← e2]; rfl⟩, e3⟩
  · refine ⟨some ⟨g, 0, none⟩, g, cap, xs, by rw [hv, hx1], ⟨fun _ => rfl, fun j hj => ⟨?_, (hx2 j hj).2.2.1⟩⟩, e2, e1, fun e => by simp at e, e3⟩
    have hrow := h.row
    rw [hv] at hrow
    rw [Nat.zero_add]
    exact row_cell hrow j _ (hx2 j hj).1
end
end Go.Proofs.Ytbbgembkdhcidaa
