/- withinWord; what next's walk says. -/
import Derived.Test.YtioafeckaeaopaaDoorXPa
import Derived.Test.YtioafeckaeaopaaDoorIT
import Derived.Deep.RegionHeld3
import Derived.Deep.Cut
namespace Go.Proofs.YtioafeckaeaopaaDoor
open Go.RowKit Go.Maps

/-- A walk lies in block b: its text, how far it is, what is open. -/
def WalkAt (W : World) (b : Nat) (s : ByteArray) (far : Nat) (o : Tok) : Prop :=
  W.heap[b]? = some (.cells #[.string s, .int .i64 (far : Int), .int .i64 o.kind, .string ⟨o.text.toArray⟩, .int .i64 (o.at_ : Int), .int .i64 (o.fin : Int)] 46 (0, 0))
theorem six {W : World} {b : Nat} {v0 v1 v2 v3 v4 v5 : Value} {T : TypeId} (h : W.heap[b]? = some (.cells #[v0, v1, v2, v3, v4, v5] T (0, 0))) :
    W.cell? ⟨b, 0, none⟩ = some v0 ∧ W.cell? ⟨b, 1, none⟩ = some v1 ∧ W.cell? ⟨b, 2, none⟩ = some v2 ∧ W.cell? ⟨b, 3, none⟩ = some v3 ∧ W.cell? ⟨b, 4, none⟩ = some v4 ∧ W.cell? ⟨b, 5, none⟩ = some v5 ∧ (∀ j, W.frozen? ⟨b, j, none⟩ = false) := by
  simp [World.cell?, World.frozen?, h]
/-- Would a word begin right behind another one? -/
def withinT (l : List UInt8) (far : Nat) : Bool := wordZ (runeZ l ((far : Int) - 1)) && wordZ (runeZ l (far : Int))

set_option maxRecDepth 100000 in
set_option maxHeartbeats 1000000 in
theorem within_any (s : ByteArray) (W : World) (b far : Nat) (o : Tok) (h : WalkAt W b s far o) (hf : far ≤ s.size) (hs : s.size ≤ 140737488355328) :
    Calls Tryd.prog 58 #[.pointer (some ⟨b, 0, none⟩)] W fun e w' => e = .returned (.bool (withinT s.data.toList far)) ∧ ∃ n, w' = W.drewN n := by
  obtain ⟨c0, c1, -⟩ := six h
  have r1 := fun W => runeAt_any s ((far : Int) - 1) W (by omega) (by omega)
  have r2 := fun W => runeAt_any s (far : Int) W (by omega) (by omega)
  have w1 := fun W => inWord_any (runeZ s.data.toList ((far : Int) - 1)) W
  have w2 := fun W => inWord_any (runeZ s.data.toList (far : Int)) W
  unfold withinT
  generalize runeZ s.data.toList ((far : Int) - 1) = z1 at *
  generalize runeZ s.data.toList (far : Int) = z2 at *
  generalize wordZ z1 = x1 at *
  generalize wordZ z2 = x2 at *
  have hsub : IntKind.i64.wrap ((far : Int) - 1) = (far : Int) - 1 := by
    rw [IntWalk.i64_in] <;> omega
  clear h
  cases x1
  all_goals
    go_enter Tryd.func58, Tryd.ntmps58
    go_wp2_with fail
    refine wp_region_quiet_lit (by kernel_rfl) (by kernel_rfl) ?_
    repeat (go_big_quiet_step (first | (go_at_call 60; first | with_reducible exact Calls.quiet_of_same (r1 _) | with_reducible exact Calls.quiet_of_same (r2 _)) | (go_at_call 63; first | with_reducible exact Calls.quiet_of_same (w1 _) | with_reducible exact Calls.quiet_of_same (w2 _))))
    refine wpQuiet_nil ?_
    intro _ hw'
    obtain ⟨nq, hw''⟩ := hw'
    subst hw''
    go_wp2
    go_ret
    exact ⟨rfl, _, rfl⟩

theorem Turn.cells {S : Nat → Prop} {w w' : World} (h : Turn S w w') {p : Addr} (hp : ¬ S p.block) {v : Value} (hc : w.cell? p = some v) : w'.cell? p = some v :=
  (World.cell?_of_block (h.block p.block (World.block_lt_of_cell? w p hc) hp)).trans hc
theorem Tabs.turn {S : Nat → Prop} {w w' : World} (h : Tabs w) (ht : Turn S w w') (hS : ∀ k, S k → 2 ≤ k) : Tabs w' :=
  h.keep (fun p hp v hv => Turn.cells ht (fun hs => by have := hS _ hs; omega) hv)
/-- The walk goes on: its block, the result's block, all else as it was. -/
structure Nx (W X : World) (b : Nat) (s : ByteArray) (far : Nat) (o : Tok) : Prop where
  at_ : WalkAt X b s far o
  res : X.heap[W.heap.size]? = some (.cells #[.int .i64 0, .string ⟨#[]⟩, .int .i64 0, .int .i64 0] 25 (0, 0))
  turn : Turn (fun k => k = b) W X
theorem Nx.draw {W X : World} {b : Nat} {s : ByteArray} {far : Nat} {o : Tok} (h : Nx W X b s far o) (n : Nat) : Nx W (X.drewN n) b s far o := ⟨h.at_, h.res, ⟨h.turn.os, h.turn.tape, h.turn.output, h.turn.size, h.turn.block⟩⟩
theorem Nx.size {W X : World} {b : Nat} {s : ByteArray} {far : Nat} {o : Tok} (h : Nx W X b s far o) : W.heap.size < X.heap.size := (Array.getElem?_eq_some_iff.1 h.res).1
theorem Nx.stay {W X Y : World} {b : Nat} {s : ByteArray} {far : Nat} {o : Tok} (h : Nx W X b s far o) (hs : Stay X Y) : Nx W Y b s far o :=
  ⟨(hs.block b (Array.getElem?_eq_some_iff.1 h.at_).1).trans h.at_, (hs.block _ h.size).trans h.res, h.turn.trans (Turn.of_stay hs)⟩
/-- A number is stored into far. -/
theorem Nx.far {W X : World} {b : Nat} {s : ByteArray} {far : Nat} {o : Tok} (h : Nx W X b s far o) (hb : b < W.heap.size) (f : Nat) : Nx W (X.setCell ⟨b, 1, none⟩ (.int .i64 (f : Int))) b s f o := by
  refine ⟨?_, (Below.heap_setCell _ _ _ _ (by show W.heap.size ≠ b; omega)).trans h.res, h.turn.set rfl _ _⟩
  unfold WalkAt
  rw [heap_setCell_same X b 1 _ _ _ h.at_]
  rfl

/-- The region with a number. -/
def regionOf (n : Nat) : Code → Option Code
  | .region m ops d => if m = n then some (.region m ops d) else none
  | .seq a b => (regionOf n a).or (regionOf n b)
  | .cond _ a b => (regionOf n a).or (regionOf n b)
  | .block _ a => regionOf n a
  | _ => none
end Go.Proofs.YtioafeckaeaopaaDoor
