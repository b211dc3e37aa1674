/- What an argument that is a list of texts, or of ints, is in memory. -/
import Derived.Test.YtdmopioiaaecfaaRows
import Derived.Test.YtdmopioiaaecfaaLent
import Derived.WalkKit
import Derived.ProofKit
import Derived.OpenShut
import Derived.SliceStrings
import Derived.SizedLaws
namespace Go.Proofs.Ytdmopioiaaecfaa
open Go.ChangeShapes Go.WideShapes Go.ChangeAt Go.RowKit

theorem ownK : ownKnob Try.prog.godebug = none := by kernel_rfl
theorem laidOut : laidOutB Try.prog = true := by kernel_rfl
theorem cells9 : Try.prog.cellsOf 9 = 1 := by kernel_rfl
theorem bytes9 : Try.prog.bytesOf 9 = 16 := by kernel_rfl
theorem cells3 : Try.prog.cellsOf 3 = 1 := by kernel_rfl
theorem bytes3 : Try.prog.bytesOf 3 = 8 := by kernel_rfl

section
variable {H : Type} {enc : TypeId × Value → H} {W : World}

theorem open_texts {a0 : Option Addr} {len cap : Nat} {d : DataW H} {p : List MemPlace} (h : DataW.Trod enc Try.prog W 0 (fun _ => true) true 27 (.slice a0 len cap) d p) :
    ∃ (b off : Nat) (ss rest : List ByteArray), StrsAt W a0 b off ss ∧ len = ss.length ∧ (a0 = none → cap = 0 ∧ ss = []) ∧ (d = .nil ∧ ss = [] ∨ d = .slice (strs ss) (strs rest)) := by
  obtain ⟨fuel, hf⟩ := h
  rcases open_strings Try.underlying27 Try.underlying9 cells9 hf with ⟨hcs, hx⟩ | ⟨a, len', cap', ss, hcs, _, hl, hm, hz, hx, hcell, hws⟩
  · simp [Value.cells] at hcs
    obtain ⟨rfl, rfl, rfl⟩ := hcs
    simp only [Prod.mk.injEq] at hx
    obtain ⟨rfl, rfl⟩ := hx
    exact ⟨0, 0, [], [], ⟨fun h => absurd h (Nat.lt_irrefl _), fun j hj => by simp at hj⟩, rfl, fun _ => ⟨rfl, rfl⟩, .inl ⟨rfl, rfl⟩⟩
  · simp [Value.cells] at hcs
    obtain ⟨rfl, rfl, rfl⟩ := hcs
    simp only [Prod.mk.injEq] at hx
    obtain ⟨rfl, rfl⟩ := hx
    simp only [if_true] at hz
    obtain ⟨b, off, spot⟩ := a
    refine ⟨b, off, ss.take len, ss.drop len, ⟨fun h0 => ?_, fun j hj => ?_⟩, by simp; omega, (fun h => nomatch h), .inr rfl⟩
    · have h1 : 0 < ss.length := by simp at h0; omega
      have hspot : spot = none := by simpa [Addr.add] using World.cell?_spot (hcell 0 h1)
      rw [hspot]
    · have hj2 : j < ss.length := by simp at hj; omega
      have hspot : spot = none := by
        have h1 : 0 < ss.length := by omega
        simpa [Addr.add] using World.cell?_spot (hcell 0 h1)
      subst hspot
      have hc := hcell j hj2
      rw [add_at] at hc
      rw [hc]
      simp [hj2]

theorem weights_strs : ∀ (l : List ByteArray) (s : ByteArray), s ∈ l → s.size ∈ DataW.weightsAll (H := H) Try.prog 9 (strs l)
  | [], s, h => by simp at h
  | t :: l, s, h => by
    rw [List.mem_cons] at h
    simp only [strs, List.map_cons, DataW.weightsAll, List.mem_append]
    rcases h with rfl | h
    · exact .inl (by show s.size ∈ [s.data.toList.length]; rw [List.mem_singleton, Array.length_toList]; rfl)
    · exact .inr (weights_strs l s h)

theorem sized_texts {ts : List TypeId} {ds : List (DataW H)} (h : (DataW.weightsEach Try.prog ts ds).all (· ≤ reachBytes) = true) {j : Nat} {d : DataW H} {ss rest : List ByteArray} (ht : ts[j]? = some 27) (hd : ds[j]? = some d)
    (hx : d = .nil ∧ ss = [] ∨ d = .slice (strs ss) (strs rest)) : ss.length * 16 ≤ 140737488351232 ∧ ∀ s ∈ ss, s.size ≤ 140737488351232 := by
  rcases hx with ⟨_, rfl⟩ | rfl
  · simp
  · constructor
    · have := sized_slice h ht hd Try.underlying27
      rw [bytes9] at this
      simp only [strs, List.length_map, reachBytes] at this
      omega
    · intro s hs
      have := List.all_eq_true.1 h _ (DataW.weights_mem_each ht hd s.size (by simp [DataW.weights, Try.underlying27]; exact .inr (.inl (weights_strs ss s hs))))
      exact of_decide_eq_true this
end
end Go.Proofs.Ytdmopioiaaecfaa
