/- reservedKind: the words that are reserved. -/
import Derived.Test.YtiobhadchakoiaaGreatDoorXC
namespace Go.Proofs.YtiobhadchakoiaaGreatDoor
open Go.RowKit Go.Maps

def bInput : List UInt8 := [105, 110, 112, 117, 116]
def bOutput : List UInt8 := [111, 117, 116, 112, 117, 116]
def bNot : List UInt8 := [110, 111, 116]
/-- The kind of a word that is reserved; 0 of another. -/
def resK (l : List UInt8) : Nat := if l = bInput then 5 else if l = bOutput then 6 else if l = bNot then 7 else 0
def str (l : List UInt8) : Value := .string ⟨l.toArray⟩
/-- The table of the package lies where it lies. -/
structure Tabs (w : World) : Prop where
  r0 : w.cell? ⟨0, 0, none⟩ = some (.string ⟨#[105, 110, 112, 117, 116]⟩)
  r1 : w.cell? ⟨0, 1, none⟩ = some (.string ⟨#[111, 117, 116, 112, 117, 116]⟩)
  r2 : w.cell? ⟨0, 2, none⟩ = some (.string ⟨#[110, 111, 116]⟩)
theorem Tabs.keep {w w' : World} (h : Tabs w) (hk : ∀ p : Addr, p.block < 1 → ∀ v, w.cell? p = some v → w'.cell? p = some v) : Tabs w' :=
  ⟨hk _ (by decide) _ h.r0, hk _ (by decide) _ h.r1, hk _ (by decide) _ h.r2⟩
theorem Tabs.stay {w w' : World} (h : Tabs w) (hs : Stay w w') : Tabs w' := h.keep (fun _ _ _ hv => hs.cell hv)
theorem Tabs.lt {w : World} (h : Tabs w) : 1 ≤ w.heap.size := by have h2 := World.block_lt_of_cell? w _ h.r0; dsimp only at h2; omega

theorem toList_ne {s : ByteArray} {l m : List UInt8} (h : s.data.toList = l) (hm : l ≠ m) : (s.toList == m) = false := by
  rw [ByteArray.toList_eq, h]; simpa using hm
theorem toList_yes {s : ByteArray} {l : List UInt8} (h : s.data.toList = l) : (s.toList == l) = true := by
  rw [ByteArray.toList_eq, h]; simp

set_option maxRecDepth 100000 in
set_option maxHeartbeats 1000000 in
theorem reservedKind_any (s : ByteArray) (w : World) (hT : Tabs w) :
    Calls Tryz.prog 89 #[.string s] w fun e w' => e = .returned (.int .i64 (resK s.data.toList : Nat)) ∧ w' = w := by
  obtain ⟨l, hl⟩ : ∃ l, s.data.toList = l := ⟨_, rfl⟩
  rw [hl]
  have HL : Hid (s.data.toList = l) := hl
  clear hl
  have c0 := hT.r0
  have c1 := hT.r1
  have c2 := hT.r2
  clear hT
  have q0 : ∀ W : World, (Instr.index 135 (.agg #[.string ⟨#[105, 110, 112, 117, 116]⟩, .string ⟨#[111, 117, 116, 112, 117, 116]⟩, .string ⟨#[110, 111, 116]⟩]) (.int .i64 0)).run Tryz.prog W = .ok (.string ⟨#[105, 110, 112, 117, 116]⟩) W := fun _ => by rfl
  have q1 : ∀ W : World, (Instr.index 135 (.agg #[.string ⟨#[105, 110, 112, 117, 116]⟩, .string ⟨#[111, 117, 116, 112, 117, 116]⟩, .string ⟨#[110, 111, 116]⟩]) (.int .i64 1)).run Tryz.prog W = .ok (.string ⟨#[111, 117, 116, 112, 117, 116]⟩) W := fun _ => by rfl
  have q2 : ∀ W : World, (Instr.index 135 (.agg #[.string ⟨#[105, 110, 112, 117, 116]⟩, .string ⟨#[111, 117, 116, 112, 117, 116]⟩, .string ⟨#[110, 111, 116]⟩]) (.int .i64 2)).run Tryz.prog W = .ok (.string ⟨#[110, 111, 116]⟩) W := fun _ => by rfl
  go_enter Tryz.func89, Tryz.ntmps89
  go_wp2
  go_loopw [6] (fun i wr => wr = w ∧ (i = .int .i64 0 ∨ (i = .int .i64 1 ∧ l ≠ bInput) ∨ (i = .int .i64 2 ∧ l ≠ bInput ∧ l ≠ bOutput) ∨ (i = .int .i64 3 ∧ l ≠ bInput ∧ l ≠ bOutput ∧ l ≠ bNot))) (fun i _ => 3 - (intOf i).toNat)
  case atStart => exact ⟨rfl, .inl rfl⟩
  case round =>
    obtain ⟨rfl, rfl | ⟨rfl, h1⟩ | ⟨rfl, h1, h2⟩ | ⟨rfl, h1, h2, h3⟩⟩ := hrel
    · by_cases h : l = bInput
      · have ht := toList_yes (HL.out.trans h)
        unfold bInput at ht
        have HR : Hid (resK l = 5) := by show resK l = 5; rw [h]; rfl
        clear h
        go_wp2
        go_ret
        exact ⟨by rw [HR.out]; rfl, rfl⟩
      · have ht := toList_ne HL.out h
        unfold bInput at ht
        have HR : Hid (l ≠ bInput) := h
        clear h
        go_wp2
        go_roundw
        case rel => exact ⟨by trivial, .inr (.inl ⟨rfl, HR.out⟩)⟩
        case measure => simp [intOf]
    · by_cases h : l = bOutput
      · have ht := toList_yes (HL.out.trans h)
        unfold bOutput at ht
        have HR : Hid (resK l = 6) := by show resK l = 6; rw [h]; rfl
        clear h h1
        go_wp2
        go_ret
        exact ⟨by rw [HR.out]; rfl, rfl⟩
      · have ht := toList_ne HL.out h
        unfold bOutput at ht
        have HR : Hid (l ≠ bInput ∧ l ≠ bOutput) := ⟨h1, h⟩
        clear h h1
        go_wp2
        go_roundw
        case rel => exact ⟨by trivial, .inr (.inr (.inl ⟨rfl, HR.out⟩))⟩
        case measure => simp [intOf]
    · by_cases h : l = bNot
      · have ht := toList_yes (HL.out.trans h)
        unfold bNot at ht
        have HR : Hid (resK l = 7) := by show resK l = 7; rw [h]; rfl
        clear h h1 h2
        go_wp2
        go_ret
        exact ⟨by rw [HR.out]; rfl, rfl⟩
      · have ht := toList_ne HL.out h
        unfold bNot at ht
        have HR : Hid (l ≠ bInput ∧ l ≠ bOutput ∧ l ≠ bNot) := ⟨h1, h2, h⟩
        clear h h1 h2
        go_wp2
        go_roundw
        case rel => exact ⟨by trivial, .inr (.inr (.inr ⟨rfl, HR.out⟩))⟩
        case measure => simp [intOf]
    · have HR : Hid (resK l = 0) := by show resK l = 0; unfold resK; rw [if_neg h1, if_neg h2, if_neg h3]
      clear h1 h2 h3
      go_wp2
      go_ret
      exact ⟨by rw [HR.out]; rfl, rfl⟩
end Go.Proofs.YtiobhadchakoiaaGreatDoor
