/- TupleKinds: columns of cells of four kinds that grow beside one another. -/
import Derived.Test.YtpflbaniijbpaaaKEi8
import Derived.Test.YtpflbaniijbpaaaKEmine
import Derived.Test.YtpflbaniijbpaaaKBu16
import Derived.Test.YtpflbaniijbpaaaKBu32
import Derived.Test.YtpflbaniijbpaaaPk
import Derived.Test.YtpflbaniijbpaaaNk
namespace Go.Proofs.Ytpflbaniijbpaaa
open Go.RowKit Go.Maps

theorem infoKu16 : (Try.prog.info? 28).map (fun i => (i.zero, i.size, i.bytes)) = some (some (.int .u16 0), 1, 2) := by kernel_rfl
theorem infoKu32 : (Try.prog.info? 30).map (fun i => (i.zero, i.size, i.bytes)) = some (some (.int .u32 0), 1, 4) := by kernel_rfl

/-- A list of numbers of kind κ, of its own, with elements of type e. -/
def Col (base : Nat) (W : World) (e : TypeId) (κ : IntKind) (v : Value) (zs : List Int) : Prop := W.ownsRow base e 1 v zs.length (zs.map (Value.int κ))

theorem Col.ints {base : Nat} {W : World} {e : TypeId} {κ : IntKind} {v : Value} {zs : List Int} (h : Col base W e κ v zs) : ∃ a b c, v = .slice a zs.length c ∧ IntsK κ W a b 0 zs ∧ zs.length ≤ maxLen := by
  rcases h.2 with ⟨hx, h2⟩ | ⟨b, c, cur, hv, hb, hh, h1, h2, h3, h4⟩
  · have hz : zs = [] := by simpa using h2
    subst hz
    exact ⟨none, 0, 0, hx, ⟨fun h => by simp at h, fun j hj => by simp at hj⟩, Nat.zero_le _⟩
  · refine ⟨_, b, c, hv, ⟨fun _ => rfl, fun j hj => ?_⟩, by omega⟩
    have h0 := h
    unfold Col at h0
    rw [hv] at h0
    rw [Nat.zero_add]
    exact row_cell h0 j _ (by simp [hj])

theorem Col.stay {base : Nat} {W W' : World} {e : TypeId} {κ : IntKind} {v : Value} {zs : List Int} (h : Col base W e κ v zs) (hs : Stay W W') : Col base W' e κ v zs := by
  refine ⟨h.1, ?_⟩
  rcases h.2 with hx | ⟨b, c, cur, hv, hb, hh, rest⟩
  · exact .inl hx
  · exact .inr ⟨b, c, cur, hv, hb, hs.heap hh, rest⟩

/-- What another list's growing leaves: lists of another type. -/
theorem Col.other {base base' n : Nat} {W W' : World} {e e' : TypeId} {κ : IntKind} {v v' : Value} {zs : List Int} {X : List Value} {o : Obj} (h : Col base W e κ v zs) (h' : W.ownsRow base' e' 1 v' n X) (hne : e ≠ e') (hg : (W.alloc o).grownBy W' v'.ownBlock) : Col base W' e κ v zs := by
  refine ⟨h.1, ?_⟩
  rcases h.2 with hx | ⟨b, c, cur, hv, hb, hh, rest⟩
  · exact .inl hx
  · refine .inr ⟨b, c, cur, hv, hb, ?_, rest⟩
    have hlt : b < W.heap.size := (Array.getElem?_eq_some_iff.1 hh).1
    refine (hg.block b (by rw [World.size_alloc]; omega) (fun e1 => ?_)).trans ((Below.heap_alloc W o b hlt).trans hh)
    rcases h'.2 with ⟨hx, _⟩ | ⟨b2, c2, cur2, hv2, _, hh2, _⟩
    · rw [hx] at e1; simp [Value.ownBlock] at e1
    · rw [hv2] at e1
      simp only [Value.ownBlock, Option.some.injEq] at e1
      subst e1
      rw [hh] at hh2
      simp only [Option.some.injEq, Obj.cells.injEq] at hh2
      exact hne hh2.2.1

/-- What another list's growing leaves: lists that were whole before it began. -/
theorem Col.older {base base' n : Nat} {W W' : World} {e e' : TypeId} {κ : IntKind} {v v' : Value} {zs : List Int} {X : List Value} {o : Obj} (h : Col base W e κ v zs) (h' : W.ownsRow base' e' 1 v' n X) (hlt : ∀ b, v.ownBlock = some b → b < base') (hg : (W.alloc o).grownBy W' v'.ownBlock) : Col base W' e κ v zs := by
  refine ⟨h.1, ?_⟩
  rcases h.2 with hx | ⟨b, c, cur, hv, hb, hh, rest⟩
  · exact .inl hx
  · refine .inr ⟨b, c, cur, hv, hb, ?_, rest⟩
    have hl : b < W.heap.size := (Array.getElem?_eq_some_iff.1 hh).1
    refine (hg.block b (by rw [World.size_alloc]; omega) (fun e1 => ?_)).trans ((Below.heap_alloc W o b hl).trans hh)
    have h1 := hlt b (by rw [hv]; rfl)
    rcases h'.2 with ⟨hx, _⟩ | ⟨b2, c2, cur2, hv2, hb2, _⟩
    · rw [hx] at e1; simp [Value.ownBlock] at e1
    · rw [hv2] at e1
      simp only [Value.ownBlock, Option.some.injEq] at e1
      omega

theorem grow_stay {w W W' : World} {o : Obj} {n : Nat} {e : TypeId} {v : Value} {X : List Value} (hs : Stay w W) (h : W.ownsRow w.heap.size e 1 v n X) (hg : (W.alloc o).grownBy W' v.ownBlock) : Stay w W' :=
  (hs.alloc o).grown hg (by rw [World.size_alloc]; have := hs.size; omega) (fun k e => (h.lt k e).1)

/-- One more. -/
theorem Col.add {base : Nat} {W' : World} {e : TypeId} {κ : IntKind} {v' : Value} {zs : List Int} {z : Int} (h : W'.ownsRow base e 1 v' (zs.length + 1) (zs.map (Value.int κ) ++ [.int κ z])) : Col base W' e κ v' (zs ++ [z]) := by
  unfold Col
  rw [List.length_append, List.map_append]
  exact h

/-- The first k numbers, in cells of kind κ. -/
def kinds (κ : IntKind) (xs : List Int) (k : Nat) : List Int := (xs.take k).map κ.wrap
theorem kinds_succ (κ : IntKind) (xs : List Int) (k : Nat) (h : k < xs.length) : kinds κ xs (k + 1) = kinds κ xs k ++ [κ.wrap xs[k]] := by
  unfold kinds
  rw [List.take_succ_eq_append_getElem h, List.map_append]
  rfl
theorem kinds_len (κ : IntKind) (xs : List Int) (k : Nat) (h : k ≤ xs.length) : (kinds κ xs k).length = k := by simp [kinds]; omega
theorem range_i8 (x : Int) : -9223372036854775808 ≤ IntKind.i8.wrap x ∧ IntKind.i8.wrap x < 9223372036854775808 := by
  simp [IntKind.wrap, IntKind.signed, IntKind.bits]; omega
theorem range_u16 (x : Int) : -9223372036854775808 ≤ IntKind.u16.wrap x ∧ IntKind.u16.wrap x < 9223372036854775808 := by
  simp [IntKind.wrap, IntKind.signed, IntKind.bits]; omega
theorem range_i32 (x : Int) : -9223372036854775808 ≤ IntKind.i32.wrap x ∧ IntKind.i32.wrap x < 9223372036854775808 := by
  simp [IntKind.wrap, IntKind.signed, IntKind.bits]; omega
theorem range_u32 (x : Int) : -9223372036854775808 ≤ IntKind.u32.wrap x ∧ IntKind.u32.wrap x < 9223372036854775808 := by
  simp [IntKind.wrap, IntKind.signed, IntKind.bits]; omega
end Go.Proofs.Ytpflbaniijbpaaa
