/- What arguments are in memory: a list of texts, a list of things. -/
import Derived.Test.YtnmaldgmlkcliaaRows
import Derived.Test.YtnmaldgmlkcliaaRA
import Derived.WalkKit
import Derived.ProofKit
import Derived.OpenShut
import Derived.ChangeSlices
import Derived.SizedLaws
import Derived.SliceStrings
namespace Go.Proofs.Ytnmaldgmlkcliaa
open Go.ChangeShapes Go.WideShapes Go.ChangeAt Go.RowKit

theorem laidOut : laidOutB Try.prog = true := by kernel_rfl
theorem ownKn : ownKnob Try.prog.godebug = none := by kernel_rfl
theorem cellsS : Try.prog.cellsOf 9 = 1 := by kernel_rfl
theorem bytesS : Try.prog.bytesOf 9 = 16 := by kernel_rfl

section
variable {H : Type} {enc : TypeId × Value → H} {W : World}
theorem open_texts {a0 : Option Addr} {len cap : Nat} {d : DataW H} {p : List MemPlace} (h : DataW.Trod enc Try.prog W 0 (fun _ => true) true 63 (.slice a0 len cap) d p) :
    ∃ (b off : Nat) (ss rest : List ByteArray), StrsS W a0 b off ss ∧ len = ss.length ∧ (a0 = none → cap = 0 ∧ ss = []) ∧ (d = .nil ∧ ss = [] ∨ d = .slice (strs ss) (strs rest)) := by
  obtain ⟨fuel, hf⟩ := h
  rcases open_strings Try.underlying63 Try.underlying9 cellsS hf with ⟨hcs, hx⟩ | ⟨a, len', cap', ss, hcs, _, hl, hm, hz, hx, hcell, hws⟩
  · simp [Value.cells] at hcs
    obtain ⟨rfl, rfl, rfl⟩ := hcs
    simp only [Prod.mk.injEq] at hx
    obtain ⟨rfl, rfl⟩ := hx
    exact ⟨0, 0, [], [], ⟨fun h => absurd h (Nat.lt_irrefl _), fun j hj => by simp at hj⟩, rfl, fun _ => ⟨rfl, rfl⟩, .inl ⟨rfl, rfl⟩⟩
  · simp [Value.cells] at hcs
    obtain ⟨rfl, rfl, rfl⟩ := hcs
    simp only [Prod.mk.injEq] at hx
    obtain ⟨rfl, rfl⟩ := hx
    simp only [if_true] at hz
    obtain ⟨b, off, spot⟩ := a
    refine ⟨b, off, ss.take len, ss.drop len, ⟨fun h0 => ?_, fun j hj => ?_⟩, by simp; omega, (fun h => nomatch h), .inr rfl⟩
    · have h1 : 0 < ss.length := by simp at h0; omega
      have hspot : spot = none := by simpa [Addr.add] using World.cell?_spot (hcell 0 h1)
      rw [hspot]
    · have hj2 : j < ss.length := by simp at hj; omega
      have hspot : spot = none := by
        have h1 : 0 < ss.length := by omega
        simpa [Addr.add] using World.cell?_spot (hcell 0 h1)
      subst hspot
      have hc := hcell j hj2
      rw [add_at] at hc
      rw [hc]
      simp [hj2]
theorem sized_texts {ts : List TypeId} {ds : List (DataW H)} (h : (DataW.weightsEach Try.prog ts ds).all (· ≤ reachBytes) = true) {j : Nat} {d : DataW H} {zs rest : List ByteArray} (ht : ts[j]? = some 63) (hd : ds[j]? = some d)
    (hx : d = .nil ∧ zs = [] ∨ d = .slice (strs zs) (strs rest)) : zs.length * 16 ≤ 140737488351232 := by
  rcases hx with ⟨_, rfl⟩ | rfl
  · simp
  · have := sized_slice h ht hd Try.underlying63
    rw [bytesS] at this
    simp only [strs, List.length_map, reachBytes] at this
    omega
end
end Go.Proofs.Ytnmaldgmlkcliaa
