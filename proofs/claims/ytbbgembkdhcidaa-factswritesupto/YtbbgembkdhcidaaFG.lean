/- Gotos to several labels; the room in which a constant is built. -/
import Derived.Test.YtbbgembkdhcidaaFF
import Derived.ScopeJumps
import Derived.Laws.IdiomStrings
namespace Go.Proofs.Ytbbgembkdhcidaa
open Go.RowKit Go.Maps

/-- As Q; by a goto to a label: what that label asks. -/
def jumps (J : Nat → Act → World → Prop) (Q : Exit → Act → World → Prop) : Exit → Act → World → Prop
  | .goto l, a, w => J l a w
  | e, a, w => Q e a w

theorem wp_scope_labels {P : Program} {a : Act} {w : World} {Q : Exit → Act → World → Prop} {c : Code} (J : Nat → Act → World → Prop) (m : Nat → Act → World → Nat)
    (hf : ∀ l a w, J l a w → ∃ rest, findLabel c l = some (.seq .skip rest) ∧ rest.wp P (jumps (fun l' a' w' => J l' a' w' ∧ m l' a' w' < m l a w) Q) a w)
    (start : (∀ l a w, J l a w → ∃ rest, findLabel c l = some (.seq .skip rest) ∧ rest.wp P (jumps J Q) a w) → c.wp P (jumps J Q) a w) : (Code.scope c).wp P Q a w := by
  have first : c.wp P (jumps J Q) a w := start fun l a w hJ => by
    obtain ⟨rest, h1, h2⟩ := hf l a w hJ
    exact ⟨rest, h1, wp_mono h2 fun e a' w' h => by
      cases e with
      | goto l' => exact h.1
      | _ => exact h⟩
  intro b k cs
  have go : ∀ n l a w, m l a w = n → J l a w → ∃ s, gotoIn l (.inScope c :: k) = some s ∧ ∃ e a' w', Q e a' w' ∧ Arrives P (lone (b.at a s) cs w) b k cs e a' w' := by
    intro n
    induction n using Nat.strongRecOn with
    | _ n ih =>
      intro l a w hn hJ
      obtain ⟨rest, hr, hw⟩ := hf l a w hJ
      refine ⟨.code (.seq .skip rest) :: .inScope c :: k, by simp [gotoIn, hr], ?_⟩
      obtain ⟨e, a1, w1, hq, har⟩ := (wp_seq (wp_skip hw) : (Code.seq .skip rest).wp P _ a w) b (.inScope c :: k) cs
      cases e with
      | normal => exact ⟨.normal, a1, w1, hq, Steps.trans har (.one step_inScope)⟩
      | exit id => exact ⟨.exit id, a1, w1, hq, fun k' hk => har k' (by simp [exitTo, hk])⟩
      | goto l' =>
        obtain ⟨s, hs, e2, a2, w2, hq2, har2⟩ := ih _ (by have := hq.2; omega) l' a1 w1 rfl hq.1
        exact ⟨e2, a2, w2, hq2, .of_steps (har _ hs) har2⟩
      | ret => exact ⟨_, a1, w1, hq, har⟩
      | panic ch => exact ⟨_, a1, w1, hq, har⟩
      | outgrown => exact ⟨_, a1, w1, hq, har⟩
  obtain ⟨e, a1, w1, hq, har⟩ := first b (.inScope c :: k) cs
  cases e with
  | normal => exact ⟨.normal, a1, w1, hq, .head step_scope (Steps.trans har (.one step_inScope))⟩
  | exit id => exact ⟨.exit id, a1, w1, hq, fun k' hk => .head step_scope (har k' (by simp [exitTo, hk]))⟩
  | goto l' =>
    obtain ⟨s, hs, e2, a2, w2, hq2, har2⟩ := go _ l' a1 w1 rfl hq
    exact ⟨e2, a2, w2, hq2, .of_steps (.head step_scope (har _ hs)) har2⟩
  | ret => exact ⟨_, a1, w1, hq, .of_steps (.one step_scope) har⟩
  | panic ch => exact ⟨_, a1, w1, hq, .of_steps (.one step_scope) har⟩
  | outgrown => exact ⟨_, a1, w1, hq, .of_steps (.one step_scope) har⟩

/-- The code in the first scope. -/
def scopeOf : Code → Code
  | .seq _ b => scopeOf b
  | .scope c => c
  | c => c

/-- Block rb is room for cap bytes, the first of which are c. -/
def Rm (W : World) (rb cap : Nat) (c : List UInt8) : Prop :=
  ∃ cur : Array Value, W.heap[rb]? = some (.cells cur 5 (0, 0)) ∧ cur.size = cap ∧ c.length ≤ cap ∧ cur.toList.take c.length = Lib.byteCells c
section
variable {W W' : World} {rb cap : Nat} {c : List UInt8}
theorem Rm.turn {S : Nat → Prop} (h : Rm W rb cap c) (ht : Turn S W W') (hn : ¬ S rb) : Rm W' rb cap c := by
  obtain ⟨cur, h1, h2⟩ := h
  exact ⟨cur, ht.heap h1 hn, h2⟩
theorem Rm.stay (h : Rm W rb cap c) (hs : Stay W W') : Rm W' rb cap c := h.turn (S := fun _ => False) (Turn.of_stay hs) id
theorem Rm.lt (h : Rm W rb cap c) : rb < W.heap.size := by
  obtain ⟨cur, h1, _⟩ := h
  exact (Array.getElem?_eq_some_iff.1 h1).1
theorem Rm.reset (h : Rm W rb cap c) : Rm W rb cap [] := by
  obtain ⟨cur, h1, h2, h3, h4⟩ := h
  exact ⟨cur, h1, h2, Nat.zero_le _, rfl⟩
theorem rm_new (w : World) (cur : Array Value) : Rm (w.alloc (.cells cur 5)) w.heap.size cur.size [] := ⟨cur, heap_new w _, rfl, Nat.zero_le _, rfl⟩
theorem setRow_turnB (w : World) (g : Nat) (cs : Array Value) : Turn (fun k => k = g) w (w.setRow g cs) := by
  refine ⟨rfl, rfl, rfl, by simp [World.setRow], fun k hk hn => ?_⟩
  simp only [World.setRow, Array.getElem?_modify]
  rw [if_neg (fun e => hn e.symm)]
/-- One byte more, in the room. -/
theorem Rm.put (h : Rm W rb cap c) (hc : c.length < cap) (b : UInt8) (ty : TypeId) (z : Int) (hz : (b.toNat : Int) = z) : ∃ w', (Builtin.append_ #[42, 42] ty #[.slice (some ⟨rb, 0, none⟩) c.length cap, .slice (some ⟨W.heap.size, 0, none⟩) 1 1]).run Try.prog (W.alloc (.cells #[.int .u8 z] 5)) = .ok (.slice (some ⟨rb, 0, none⟩) (c.length + 1) cap) w' ∧ Rm w' rb cap (c ++ [b]) ∧ Turn (fun k => k = rb) W w' := by
  subst hz
  have hlt := h.lt
  obtain ⟨cur, h1, h2, h3, h4⟩ := h.stay (Stay.new W (.cells #[.int .u8 (b.toNat : Int)] 5))
  obtain ⟨i0, hi, hz0, hz1, hz2⟩ := info_parts infoU8
  have e := run_append_room (P := Try.prog) (W.alloc (.cells #[.int .u8 (b.toNat : Int)] 5)) 42 ty 5 i0 Try.underlying42 hi rb c.length cap cur h1 ⟨W.heap.size, 0, none⟩ 1 1 [.int .u8 (b.toNat : Int)] (by rw [hz1]; rfl) (new_cells W [.int .u8 (b.toNat : Int)] _) (by intro u hu; simp at hu; subst hu; rfl) (by omega) (by rw [hz1, List.length_singleton]; omega)
  refine ⟨_, e, ?_, (Turn.of_stay (Stay.new W _)).trans (setRow_turnB _ _ _)⟩
  rw [hz1, Nat.mul_one]
  have hcl : cur.toList.length = cap := by simpa using h2
  refine ⟨_, setRow_heap _ rb cur _ _ _ h1, ?_, by simp; omega, ?_⟩
  · rw [List.size_toArray, List.length_append, List.length_append, List.length_take, List.length_drop, hcl, List.length_singleton]
    omega
  · rw [List.toList_toArray, List.length_append, List.length_singleton, h4, byteCells_app, List.append_assoc, ← List.append_assoc, List.take_append_of_le_length (by rw [List.length_append, Lib.byteCells_length]; simp), List.take_of_length_le (by rw [List.length_append, Lib.byteCells_length]; simp)]
    rfl
/-- What it holds, as a text. -/
theorem Rm.str (h : Rm W rb cap c) : (convert 42 9 (.slice (some ⟨rb, 0, none⟩) c.length cap)).run Try.prog W = .ok (.string (toB c)) W := by
  obtain ⟨cur, h1, h2, h3, h4⟩ := h
  refine run_convert_bytes_back (P := Try.prog) W 42 9 5 ⟨rb, 0, none⟩ cap c Try.underlying42 Try.underlying5 Try.underlying9 (fun j hj => ?_)
  have h5 : (cur.toList.take c.length)[j]? = (Lib.byteCells c)[j]? := by rw [h4]
  rw [List.getElem?_take_of_lt hj] at h5
  rw [add_at, Nat.zero_add]
  simp only [World.cell?, h1]
  have h6 : (Lib.byteCells c)[j]? = some (.int .u8 (c[j].toNat : Int)) := by simp [Lib.byteCells, hj]
  rw [h6] at h5
  simpa using h5
/-- room[:0]. -/
theorem room_cut (rb cap : Nat) : ∀ W, (Instr.slice 42 (.slice (some ⟨rb, 0, none⟩) 0 cap) none (some (.int .i64 0)) none).run Try.prog W = .ok (.slice (some ⟨rb, 0, none⟩) 0 cap) W := fun W => by
  obtain ⟨i0, hi, hz0, hz1, hz2⟩ := info_parts infoU8
  have he : Try.prog.elem 42 = 5 := by simp [Program.elem, Try.underlying42]
  have hs : (sizeOf (Try.prog.elem 42)).run Try.prog W = .ok 1 W := by rw [he]; simp [sizeOf, typeInfo, hi, hz1]
  have hu : Try.prog.underlying 42 = some (.slice (Try.prog.elem 42)) := by rw [he]; exact Try.underlying42
  rw [run_slice_h W 42 _ _ _ hu .i64 0 (by omega) (by omega), hs]
  simp [sliced, Result.andThen, add_at]
end
theorem run_makeBytes (n : Nat) (hn : n ≤ 281474976710656) (W : World) :
    (Instr.makeSlice 42 (.int .i64 0) (.int .i64 n)).run Try.prog W = .ok (.slice (some ⟨W.heap.size, 0, none⟩) 0 n) (W.alloc (.cells (madeCells #[.int .u8 0] n) 5)) := by
  obtain ⟨i, hi, hz0, hz1, hz2⟩ := info_parts infoU8
  have h := run_make (P := Try.prog) W 42 5 i _ Try.underlying42 hi hz0 .i64 .i64 0 n (by omega) (by omega) (by rw [hz2]; omega) (by omega)
  rw [hz1] at h
  simpa [Value.cells] using h
/-- The room for a text. -/
theorem roomFor_any (s : ByteArray) (w : World) : Calls Try.prog 43 #[.string s] w fun e w' => e = .returned (.slice (some ⟨w.heap.size, 0, none⟩) 0 (min s.size 1024)) ∧ Rm w' w.heap.size (min s.size 1024) [] ∧ Stay w w' := by
  obtain ⟨n, hn⟩ : ∃ n, n = min s.size 1024 := ⟨_, rfl⟩
  have hmk := run_makeBytes n (by omega) w
  have hsz : (madeCells #[.int .u8 0] n).size = n := by simp [size_madeCells]
  have HR : Hid (Rm (w.alloc (.cells (madeCells #[.int .u8 0] n) 5)) w.heap.size n []) := by
    have := rm_new w (madeCells #[.int .u8 0] n)
    rwa [hsz] at this
  have hm : min ((s.size : Nat) : Int) 1024 = (n : Int) := by omega
  rw [← hn]
  clear hn hsz
  go_enter Try.func43, Try.ntmps43
  go_wp2
  go_ret
  exact ⟨rfl, HR.out, Stay.new _ _⟩
end Go.Proofs.Ytbbgembkdhcidaa
