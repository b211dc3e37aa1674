/- What an argument that is a list of ints is in memory. -/
import Derived.Test.YtnhmjheipfopoaaRows
import Derived.Test.YtnhmjheipfopoaaA
import Derived.WalkKit
import Derived.ProofKit
import Derived.OpenShut
import Derived.ChangeSlices
import Derived.SizedLaws
namespace Go.Proofs.Ytnhmjheipfopoaa
open Go.ChangeShapes Go.WideShapes Go.ChangeAt Go.RowKit

theorem laidOut : laidOutB Try.prog = true := by kernel_rfl
theorem cellsI : Try.prog.cellsOf 3 = 1 := by kernel_rfl
theorem bytesI : Try.prog.bytesOf 3 = 8 := by kernel_rfl
theorem ownKn : ownKnob Try.prog.godebug = none := by kernel_rfl

section
variable {H : Type} {enc : TypeId × Value → H} {W : World}

theorem open_intsS {a0 : Option Addr} {len cap : Nat} {d : DataW H} {p : List MemPlace} (h : DataW.Trod enc Try.prog W 0 (fun _ => true) true 23 (.slice a0 len cap) d p) :
    ∃ (b off : Nat) (zs rest : List Int), IntsS W a0 b off zs ∧ len = zs.length ∧ (a0 = none → cap = 0 ∧ zs = []) ∧ (d = .nil ∧ zs = [] ∨ d = .slice (lits .i64 zs) (lits .i64 rest)) ∧ (∀ z ∈ zs, (Lit.int .i64 z).wf = true) := by
  obtain ⟨fuel, hf⟩ := h
  rcases open_ints Try.underlying23 Try.underlying3 cellsI hf with ⟨hcs, hx⟩ | ⟨a, len', cap', zs, hcs, _, hl, hm, hz, hx, hcell, hws⟩
  · simp [Value.cells] at hcs
    obtain ⟨rfl, rfl, rfl⟩ := hcs
    simp only [Prod.mk.injEq] at hx
    obtain ⟨rfl, rfl⟩ := hx
    exact ⟨0, 0, [], [], ⟨fun h => absurd h (Nat.lt_irrefl _), fun j hj => by simp at hj⟩, rfl, fun _ => ⟨rfl, rfl⟩, .inl ⟨rfl, rfl⟩, fun z hz => by simp at hz⟩
  · simp [Value.cells] at hcs
    obtain ⟨rfl, rfl, rfl⟩ := hcs
    simp only [Prod.mk.injEq] at hx
    obtain ⟨rfl, rfl⟩ := hx
    simp only [if_true] at hz
    obtain ⟨b, off, spot⟩ := a
    refine ⟨b, off, zs.take len, zs.drop len, ⟨fun h0 => ?_, fun j hj => ?_⟩, by simp; omega, (fun h => nomatch h), .inr rfl, fun z hz => hws z (List.mem_of_mem_take hz)⟩
    · have h1 : 0 < zs.length := by simp at h0; omega
      have hspot : spot = none := by simpa [Addr.add] using World.cell?_spot (hcell 0 h1)
      rw [hspot]
    · have hj2 : j < zs.length := by simp at hj; omega
      have hspot : spot = none := by
        have h1 : 0 < zs.length := by omega
        simpa [Addr.add] using World.cell?_spot (hcell 0 h1)
      subst hspot
      have hc := hcell j hj2
      rw [add_at] at hc
      rw [hc]
      simp [hj2]

theorem sized_ints {ts : List TypeId} {ds : List (DataW H)} (h : (DataW.weightsEach Try.prog ts ds).all (· ≤ reachBytes) = true) {j : Nat} {d : DataW H} {zs rest : List Int} (ht : ts[j]? = some 23) (hd : ds[j]? = some d)
    (hx : d = .nil ∧ zs = [] ∨ d = .slice (lits .i64 zs) (lits .i64 rest)) : zs.length * 8 ≤ 140737488351232 := by
  rcases hx with ⟨_, rfl⟩ | rfl
  · simp
  · have := sized_slice h ht hd Try.underlying23
    rw [bytesI] at this
    simp only [lits, List.length_map, reachBytes] at this
    omega
end
end Go.Proofs.Ytnhmjheipfopoaa
