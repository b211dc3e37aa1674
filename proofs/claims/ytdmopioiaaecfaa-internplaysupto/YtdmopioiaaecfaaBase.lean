/- What a table of texts is in memory, and what may turn there; no walk here. -/
import Derived.Test.YtdmopioiaaecfaaProg
import Derived.Test.YtdmopioiaaecfaaPlain
import Derived.WalkKit
import Derived.WalkSpells
import Derived.WalkLawsBesides
import Derived.Maps.OwnSet
import Derived.Maps.AppendAt
namespace Go.Proofs.Ytdmopioiaaecfaa
open Go.RowKit Go.Maps

theorem info9 : (Try.prog.info? 9).map (fun i => (i.zero, i.size, i.bytes)) = some (some (.string ⟨#[]⟩), 1, 16) := by kernel_rfl
theorem info3 : (Try.prog.info? 3).map (fun i => (i.zero, i.size, i.bytes)) = some (some (.int .i64 0), 1, 8) := by kernel_rfl
theorem law9 : Keyed Try.prog 9 := string_keyed Try.underlying9
theorem zero3 (w : World) : (zeroValue 3).run Try.prog w = .ok (.int .i64 0) w := by kernel_rfl
theorem neq_map (bm : Nat) (w : World) : (binOp .neq 69 (.map (some bm)) (.map none)).run Try.prog w = .ok (.bool true) w := by kernel_rfl
theorem neq_map0 (w : World) : (binOp .neq 69 (.map none) (.map none)).run Try.prog w = .ok (.bool false) w := by kernel_rfl

theorem run_make27 (n : Nat) (hn : 16 * n ≤ 281474976710656) (W : World) :
    (Instr.makeSlice 27 (.int .i64 0) (.int .i64 n)).run Try.prog W = .ok (.slice (some ⟨W.heap.size, 0, none⟩) 0 n) (W.alloc (.cells (madeCells #[.string ⟨#[]⟩] n) 9)) := by
  obtain ⟨i, hi, hz0, hz1, hz2⟩ := info_parts info9
  have h := run_make (P := Try.prog) W 27 9 i _ Try.underlying27 hi hz0 .i64 .i64 0 n (by omega) (by omega) (by rw [hz2]; omega) (by omega)
  rw [hz1] at h
  simpa [Value.cells] using h

theorem run_map69 (n : Nat) (W : World) :
    (Instr.makeMap 69 (some (.int .i64 n))).run Try.prog W = .ok (.map (some W.heap.size)) (W.alloc (.map #[] 0)) := by kernel_rfl

/-- From w to w' nothing has turned but blocks of S; new blocks may have come. -/
structure Turn (S : Nat → Prop) (w w' : World) : Prop where
  os : w'.os = w.os
  tape : w'.tape = w.tape
  output : w'.output = w.output
  size : w.heap.size ≤ w'.heap.size
  block : ∀ k, k < w.heap.size → ¬ S k → w'.heap[k]? = w.heap[k]?

theorem Turn.refl (S : Nat → Prop) (w : World) : Turn S w w := ⟨rfl, rfl, rfl, Nat.le_refl _, fun _ _ _ => rfl⟩

theorem Turn.trans {S S' : Nat → Prop} {a b c : World} (h : Turn S a b) (k : Turn S' b c) (hs : ∀ i, i < a.heap.size → S' i → S i) : Turn S a c :=
  ⟨k.os.trans h.os, k.tape.trans h.tape, k.output.trans h.output, Nat.le_trans h.size k.size, fun i hi hn =>
    (k.block i (Nat.lt_of_lt_of_le hi h.size) (fun e => hn (hs i hi e))).trans (h.block i hi hn)⟩

theorem Turn.mono {S S' : Nat → Prop} {a b : World} (h : Turn S a b) (hs : ∀ i, i < a.heap.size → S i → S' i) : Turn S' a b :=
  ⟨h.os, h.tape, h.output, h.size, fun i hi hn => h.block i hi (fun e => hn (hs i hi e))⟩

theorem Turn.of_grown {w w' : World} {row : Option Nat} (h : w.grownBy w' row) : Turn (fun k => some k = row) w w' :=
  ⟨h.os, h.tape, h.output, h.size, fun k hk hn => h.block k hk hn⟩

theorem Turn.of_below {n : Nat} {w w' : World} (h : Below n w w') : Turn (fun k => n ≤ k) w w' :=
  ⟨h.os, h.tape, h.output, h.size, fun k _ hn => h.block k (by omega)⟩

theorem Turn.below {S : Nat → Prop} {n : Nat} {w w' : World} (h : Turn S w w') (hn : n ≤ w.heap.size) (hs : ∀ k, S k → n ≤ k) : Below n w w' :=
  ⟨h.os, h.tape, h.output, h.size, fun k hk => h.block k (by omega) (fun e => by have := hs k e; omega)⟩

theorem Turn.alloc (S : Nat → Prop) (w : World) (o : Obj) : Turn S w (w.alloc o) :=
  ⟨rfl, rfl, rfl, by simp, fun k hk _ => Below.heap_alloc w o k hk⟩

theorem Turn.drew (S : Nat → Prop) (w : World) : Turn S w w.drew := ⟨rfl, rfl, rfl, Nat.le_refl _, fun _ _ _ => rfl⟩
theorem Turn.drewN (S : Nat → Prop) (w : World) (n : Nat) : Turn S w (w.drewN n) := ⟨rfl, rfl, rfl, Nat.le_refl _, fun _ _ _ => rfl⟩

theorem Turn.setCell (S : Nat → Prop) (w : World) (p : Addr) (u : Value) (hp : S p.block) : Turn S w (w.setCell p u) :=
  ⟨rfl, rfl, rfl, by simp [World.setCell], fun k _ hn => Below.heap_setCell _ _ _ _ (fun e => hn (e ▸ hp))⟩

theorem Turn.cell {S : Nat → Prop} {w w' : World} (h : Turn S w w') {p : Addr} {v : Value} (hc : w.cell? p = some v) (hn : ¬ S p.block) : w'.cell? p = some v :=
  (World.cell?_of_block (h.block p.block (World.block_lt_of_cell? w p hc) hn)).trans hc

theorem Turn.frozen {S : Nat → Prop} {w w' : World} (h : Turn S w w') {p : Addr} (hl : p.block < w.heap.size) (hn : ¬ S p.block) : w'.frozen? p = w.frozen? p :=
  World.frozen?_of_block (h.block p.block hl hn)

theorem Turn.row {S : Nat → Prop} {w w' : World} (h : Turn S w w') {base : Nat} {e : TypeId} {size : Nat} {v : Value} {n : Nat} {xs : List Value} (hr : w.ownsRow base e size v n xs)
    (hn : ∀ k, v.ownBlock = some k → ¬ S k) : w'.ownsRow base e size v n xs := by
  refine ⟨hr.1, ?_⟩
  rcases hr.2 with hx | ⟨g, cap, cur, rfl, hb, hgg, rest⟩
  · exact .inl hx
  · exact .inr ⟨g, cap, cur, rfl, hb, by rw [h.block g (Array.getElem?_eq_some_iff.1 hgg).1 (hn g rfl)]; exact hgg, rest⟩

theorem Turn.map {S : Nat → Prop} {w w' : World} (h : Turn S w w') {P : Program} {k : TypeId} {R : Value → Option (DataW Unit × List MemPlace)} {b n : Nat} {D : DataW Unit} (hm : w.ownsMap P k R b n D)
    (hn : ¬ S b) : w'.ownsMap P k R b n D := by
  have hlt := hm.lt
  obtain ⟨es, clock, hb, F, hs, hD⟩ := hm
  exact ⟨es, clock, (h.block b hlt hn).trans hb, F, hs, hD⟩

/-- The blocks of a table. -/
def foot (bt bm g : Nat) (k : Nat) : Prop := k = bt ∨ k = bm ∨ k = g

/-- At block bt lies a table with the texts ts: its map lies in bm, its list in g. -/
structure Tab (w : World) (bt bm g cap : Nat) (ts : List ByteArray) : Prop where
  box : w.heap[bt]? = some (.cells #[.slice (some ⟨g, 0, none⟩) ts.length cap, .map (some bm)] 71 (0, 0))
  row : w.ownsRow 0 9 1 (.slice (some ⟨g, 0, none⟩) ts.length cap) ts.length (ts.map Value.string)
  map : w.ownsMap Try.prog 9 (plainElem Try.prog 3) bm ts.length (dat ts)
  nodup : ts.Nodup
  short : ∀ s ∈ ts, s.size ≤ maxLen

section
variable {w w' : World} {bt bm g cap : Nat} {ts : List ByteArray}

theorem Tab.lt (h : Tab w bt bm g cap ts) : bt < w.heap.size ∧ bm < w.heap.size ∧ g < w.heap.size :=
  ⟨(Array.getElem?_eq_some_iff.1 h.box).1, h.map.lt, (h.row.lt g rfl).2⟩

theorem Tab.rowBlock (h : Tab w bt bm g cap ts) : ∃ cur, w.heap[g]? = some (.cells cur 9 (0, 0)) ∧ ts.length ≤ cap ∧ cap ≤ maxLen ∧ cur.size = cap ∧ cur.toList.take ts.length = ts.map Value.string := by
  rcases h.row.2 with ⟨hx, _⟩ | ⟨g', cap', cur, hv, _, hh, h1, h2, h3, h4⟩
  · simp at hx
  · simp only [Value.slice.injEq, Option.some.injEq, Addr.mk.injEq, and_true, true_and] at hv
    obtain ⟨rfl, rfl⟩ := hv
    exact ⟨cur, hh, h1, h2, by simpa using h3, by simpa using h4⟩

theorem Tab.ne (h : Tab w bt bm g cap ts) : bt ≠ bm ∧ bt ≠ g ∧ bm ≠ g := by
  have h1 := h.box
  obtain ⟨es, clock, h2, _⟩ := h.map
  obtain ⟨cur, h3, _⟩ := h.rowBlock
  refine ⟨fun e => ?_, fun e => ?_, fun e => ?_⟩
  · subst e; rw [h1] at h2; simp at h2
  · subst e; rw [h1] at h3; simp at h3
  · subst e; rw [h2] at h3; simp at h3

theorem Tab.c0 (h : Tab w bt bm g cap ts) : w.cell? ⟨bt, 0, none⟩ = some (.slice (some ⟨g, 0, none⟩) ts.length cap) := by simp [World.cell?, h.box]
theorem Tab.c1 (h : Tab w bt bm g cap ts) : w.cell? ⟨bt, 1, none⟩ = some (.map (some bm)) := by simp [World.cell?, h.box]
theorem Tab.f0 (h : Tab w bt bm g cap ts) : w.frozen? ⟨bt, 0, none⟩ = false := by simp [World.frozen?, h.box]

theorem Tab.text (h : Tab w bt bm g cap ts) {k : Nat} (hk : k < ts.length) : w.cell? ⟨g, k, none⟩ = some (.string (ts[k])) := by
  obtain ⟨cur, h3, h4, _, h5, h6⟩ := h.rowBlock
  have : cur[k]? = some (.string (ts[k])) := by
    have e : (cur.toList.take ts.length)[k]? = (ts.map Value.string)[k]? := by rw [h6]
    rw [List.getElem?_take_of_lt hk] at e
    simpa [hk] using e
  simp [World.cell?, h3, this]

theorem Tab.kept {S : Nat → Prop} (h : Tab w bt bm g cap ts) (ht : Turn S w w') (hn : ∀ k, foot bt bm g k → ¬ S k) : Tab w' bt bm g cap ts :=
  ⟨(ht.block bt h.lt.1 (hn _ (.inl rfl))).trans h.box, ht.row h.row (fun k hk => hn k (.inr (.inr (by simpa [Value.ownBlock, eq_comm] using hk)))), ht.map h.map (hn _ (.inr (.inl rfl))), h.nodup, h.short⟩
end

end Go.Proofs.Ytdmopioiaaecfaa
