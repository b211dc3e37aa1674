/- What the listed variable holds: Tabs out of the row's condition; the witness. -/
import Derived.Test.YtmbjghhicbbgmaaDoorPH
import Derived.Test.YtmbjghhicbbgmaaDoorRows
import Derived.ProofKit
import Derived.LaidMore
import Derived.OpenShut
import Derived.Stop.Joined
namespace Go.Proofs.YtmbjghhicbbgmaaDoor
open Go.ChangeShapes Go.WideShapes Go.ChangeAt Go.RowKit

def laid2 : List (String × DataW Unit) := [("inkling/lex.reserved", Rows.laid_inkling_lex_reserved)]
theorem ownKnL : ownKnob Tryd.prog.godebug = none := by kernel_rfl
theorem door_met (os : Os) (args : Array Value) : laidMetH Tryd.prog laid2 ((World.doorLaid Tryd.prog 400 os).forCall (fun _ _ => 0) ⟨#[], args, []⟩).memory :=
  laidMetH_of_parts3 (fuel := 8) (laidMet_of_run' 8 (by kernel_rfl) (by kernel_rfl)) (by kernel_rfl) (by kernel_rfl)

theorem gR : Tryd.prog.globalNamed "inkling/lex.reserved" = some 0 := by kernel_rfl
theorem gRT : (Tryd.prog.globals[0]?).map (·.type) = some 105 := by kernel_rfl
theorem c3 : Tryd.prog.cellsOf 105 = 3 := by kernel_rfl
theorem c1s : Tryd.prog.cellsOf 9 = 1 := by kernel_rfl
theorem str_trod {H : Type} {enc : TypeId × Value → H} {w : World} {base : Nat} {sp : Nat → Bool} {held : Bool} {fuel : Nat} {c : Value} {y : DataW H × List MemPlace}
    (h : DataW.trod enc Tryd.prog w base sp held fuel 9 [c] = some y) : ∃ s : ByteArray, c = .string s ∧ y = (.lit (.string s.data.toList), []) := by
  cases fuel with
  | zero => simp [DataW.trod] at h
  | succ fuel =>
    cases c <;> simp [DataW.trod, Tryd.underlying9] at h
    rename_i s
    exact ⟨s, rfl, h.2.symm⟩
theorem bytes_mk {s : ByteArray} {l : List UInt8} (h : s.data.toList = l) : s = ⟨l.toArray⟩ := by
  rw [← h]

set_option maxRecDepth 100000 in
theorem cells3 {W : World} {fuel : Nat} {cs : Array Value} {p : List MemPlace} (hd : DataW.trod (fun _ => ()) Tryd.prog W 0 (fun _ => true) false fuel 105 cs.toList = some (Rows.laid_inkling_lex_reserved, p)) :
    cs = #[.string ⟨#[105, 110, 112, 117, 116]⟩, .string ⟨#[111, 117, 116, 112, 117, 116]⟩, .string ⟨#[110, 111, 116]⟩] := by
  obtain ⟨l⟩ := cs
  cases fuel with
  | zero => simp [DataW.trod] at hd
  | succ fuel =>
    simp only [DataW.trod, Tryd.underlying105, c3, c1s] at hd
    split at hd
    · rename_i hl
      obtain ⟨a0, a1, a2, rfl⟩ : ∃ a0 a1 a2, l = [a0, a1, a2] := by
        match l, hl with
        | [a, b, c], _ => exact ⟨a, b, c, rfl⟩
      rw [show List.range 3 = [0, 1, 2] from rfl] at hd
      simp only [Option.map_eq_some_iff, List.mapM_cons, List.mapM_nil, Option.bind_eq_bind, Option.bind_eq_some_iff, Option.pure_def, Option.some.injEq] at hd
      obtain ⟨xs, ⟨y0, h0, _, ⟨y1, h1, _, ⟨y2, h2, _, rfl, rfl⟩, rfl⟩, rfl⟩, hx⟩ := hd
      obtain ⟨s0, rfl, rfl⟩ := str_trod h0
      obtain ⟨s1, rfl, rfl⟩ := str_trod h1
      obtain ⟨s2, rfl, rfl⟩ := str_trod h2
      simp [Rows.laid_inkling_lex_reserved] at hx
      obtain ⟨⟨e0, e1, e2⟩, _⟩ := hx
      rw [bytes_mk e0, bytes_mk e1, bytes_mk e2]
    · cases hd
theorem tabs_of_laid {W : World} (h : laidMetH Tryd.prog laid2 W) : Tabs W := by
  have h0 : laidMet Tryd.prog laid2 W := h
  obtain ⟨ps, ⟨g', t', cs', fuel', p', q', hg', ht', hvar', hd', _, _⟩, _⟩ := h0
  obtain rfl := Option.some.inj (gR.symm.trans hg')
  obtain rfl := Option.some.inj (gRT.symm.trans ht')
  rw [cells3 hd'] at hvar'
  have r := fun i => World.var?_cell gR hvar' i
  exact ⟨r 0, r 1, r 2⟩
end Go.Proofs.YtmbjghhicbbgmaaDoor
