/- What serves every opening of arguments: the knob, a text among the cells. -/
import Derived.Test.YtpnjmldbohecdaaA
import Derived.Test.YtpnjmldbohecdaaRows
import Derived.ProofKit
import Derived.LaidMore
import Derived.OpenShut
import Derived.Stop.Joined
namespace Go.Proofs.Ytpnjmldbohecdaa
open Go.ChangeShapes Go.WideShapes Go.ChangeAt Go.RowKit

theorem ownKnL : ownKnob Try.prog.godebug = none := by kernel_rfl
theorem c1s : Try.prog.cellsOf 9 = 1 := by kernel_rfl
theorem str_trod {H : Type} {enc : TypeId × Value → H} {w : World} {base : Nat} {sp : Nat → Bool} {held : Bool} {fuel : Nat} {c : Value} {y : DataW H × List MemPlace}
    (h : DataW.trod enc Try.prog w base sp held fuel 9 [c] = some y) : ∃ s : ByteArray, c = .string s ∧ y = (.lit (.string s.data.toList), []) := by
  cases fuel with
  | zero => simp [DataW.trod] at h
  | succ fuel =>
    cases c <;> simp [DataW.trod, Try.underlying9] at h
    rename_i s
    exact ⟨s, rfl, h.2.symm⟩
theorem bytes_mk {s : ByteArray} {l : List UInt8} (h : s.data.toList = l) : s = ⟨l.toArray⟩ := by
  rw [← h]

end Go.Proofs.Ytpnjmldbohecdaa
