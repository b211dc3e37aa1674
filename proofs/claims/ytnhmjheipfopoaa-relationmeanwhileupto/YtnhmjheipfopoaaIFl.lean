/- The functions of a table of lists: tuple.Hash and tuple.Equal over keys that lie in memory. -/
import Derived.Test.YtnhmjheipfopoaaIDl
import Derived.Test.YtnhmjheipfopoaaD
import Derived.Test.YtnhmjheipfopoaaE
namespace Go.Proofs.Ytnhmjheipfopoaa.L
open Go.RowKit Go.Maps Go.Proofs.Ytnhmjheipfopoaa

/-- A key of the table. -/
def KeyOk (fp : List LK) (k : LK) : Prop := k ∈ fp

/-- The keys lie in memory, all. -/
def Fns (w : World) (fp : List LK) : Prop := ∀ k, k ∈ fp → IntsS w k.a k.b k.off k.l ∧ k.l.length ≤ maxLen
/-- The blocks of the keys. -/
def fnfoot (fp : List LK) (j : Nat) : Prop := ∃ k, k ∈ fp ∧ 0 < k.l.length ∧ k.b = j
def hf (_fp : List LK) (k : LK) : Nat := (hashOf k.l).toNat
def sm (_fp : List LK) (a b : LK) : Bool := decide (a.l = b.l)

theorem h8_range : ∀ (n : Nat) (z x : Int), 0 ≤ z ∧ z < 18446744073709551616 → 0 ≤ h8 n z x ∧ h8 n z x < 18446744073709551616
  | 0, _, _, h => h
  | n + 1, z, x, _ => h8_range n (hmix z x) (x / 256) (wrap64_range _)
theorem hashL_range : ∀ (xs : List Int) (z : Int), 0 ≤ z ∧ z < 18446744073709551616 → 0 ≤ hashL xs z ∧ hashL xs z < 18446744073709551616
  | [], _, h => h
  | _ :: xs, z, h => hashL_range xs _ (h8_range 8 z _ h)
theorem hashOf_range (xs : List Int) : 0 ≤ hashOf xs ∧ hashOf xs < 18446744073709551616 := hashL_range xs _ (by decide)

section
variable {w w' : World} {fp : List LK}
theorem ints_turn {S : Nat → Prop} {a : Option Addr} {b off : Nat} {zs : List Int} (h : IntsS w a b off zs) (ht : Turn S w w') (hn : 0 < zs.length → ¬ S b) : IntsS w' a b off zs :=
  ⟨h.1, fun j hj => ht.cell (h.2 j hj) (hn (by omega))⟩
theorem ints_lt {a : Option Addr} {b off : Nat} {zs : List Int} (h : IntsS w a b off zs) (hn : 0 < zs.length) : b < w.heap.size := World.block_lt_of_cell? w _ (h.2 0 hn)
theorem Fns.turn {S : Nat → Prop} (h : Fns w fp) (ht : Turn S w w') (hn : ∀ k, fnfoot fp k → ¬ S k) : Fns w' fp :=
  fun k hk => ⟨ints_turn (h k hk).1 ht (fun h0 => hn _ ⟨k, hk, h0, rfl⟩), (h k hk).2⟩
theorem Fns.stay (h : Fns w fp) (ht : Stay w w') : Fns w' fp := fun k hk => ⟨(h k hk).1.stay ht, (h k hk).2⟩
theorem Fns.lt (h : Fns w fp) (k : Nat) (hk : fnfoot fp k) : k < w.heap.size := by
  obtain ⟨x, hx, h0, rfl⟩ := hk
  exact ints_lt (h x hx).1 h0
theorem hf_lt (fp : List LK) (k : LK) : hf fp k < 18446744073709551616 := by
  have := hashOf_range k.l
  unfold hf; omega
theorem sm_refl (fp : List LK) (a : LK) : sm fp a a = true := by simp [sm]
theorem sm_symm {fp : List LK} {a b : LK} (h : sm fp a b = true) : sm fp b a = true := by
  simp only [sm, decide_eq_true_eq] at *; exact h.symm
theorem sm_trans {fp : List LK} {a b c : LK} (h : sm fp a b = true) (k : sm fp b c = true) : sm fp a c = true := by
  simp only [sm, decide_eq_true_eq] at *; exact h.trans k
theorem sm_hash {fp : List LK} {a b : LK} (h : sm fp a b = true) : hf fp a = hf fp b := by
  simp only [sm, decide_eq_true_eq] at h; unfold hf; rw [h]

theorem hash_any (h : Fns w fp) (k : LK) (hk : KeyOk fp k) : Calls Try.prog 67 #[k.v] w fun e w' => e = .returned (.int .u64 (hf fp k : Nat)) ∧ w' = w := by
  have e : ((hf fp k : Nat) : Int) = hashOf k.l := by unfold hf; exact Int.toNat_of_nonneg (hashOf_range k.l).1
  rw [e]
  exact Go.Proofs.Ytnhmjheipfopoaa.hash_any w k.a k.b k.off k.c k.l (h k hk).1 (h k hk).2

theorem same_any (h : Fns w fp) (a b : LK) (ha : KeyOk fp a) (hb : KeyOk fp b) : Calls Try.prog 68 #[a.v, b.v] w fun e w' => e = .returned (.bool (sm fp a b)) ∧ Stay w w' :=
  equal_any w a.a b.a a.b a.off b.b b.off a.c b.c a.l b.l (h a ha).1 (h b hb).1 (h a ha).2 (h b hb).2
end
end Go.Proofs.Ytnhmjheipfopoaa.L
