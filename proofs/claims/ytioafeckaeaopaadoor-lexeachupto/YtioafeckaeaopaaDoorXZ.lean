/- What the two listed variables hold: Tabs out of the row's condition; the witness. -/
import Derived.Test.YtioafeckaeaopaaDoorXX
import Derived.Test.YtioafeckaeaopaaDoorRows
import Derived.ProofKit
import Derived.LaidMore
import Derived.OpenShut
import Derived.Stop.Joined
namespace Go.Proofs.YtioafeckaeaopaaDoor
open Go.ChangeShapes Go.WideShapes Go.ChangeAt Go.RowKit

def laid2 : List (String × DataW Unit) := [("inkling/lex.signs", Rows.laid_inkling_lex_signs), ("inkling/lex.reserved", Rows.laid_inkling_lex_reserved)]
theorem ownKnL : ownKnob Tryd.prog.godebug = none := by kernel_rfl
theorem door_met (os : Os) (args : Array Value) : laidMetH Tryd.prog laid2 ((World.doorLaid Tryd.prog 400 os).forCall (fun _ _ => 0) ⟨#[], args, []⟩).memory :=
  laidMetH_of_parts3 (fuel := 8) (laidMet_of_run' 8 (by kernel_rfl) (by kernel_rfl)) (by kernel_rfl) (by kernel_rfl)

theorem gS : Tryd.prog.globalNamed "inkling/lex.signs" = some 1 := by kernel_rfl
theorem gR : Tryd.prog.globalNamed "inkling/lex.reserved" = some 0 := by kernel_rfl
theorem gST : (Tryd.prog.globals[1]?).map (·.type) = some 91 := by kernel_rfl
theorem gRT : (Tryd.prog.globals[0]?).map (·.type) = some 72 := by kernel_rfl
theorem c7 : Tryd.prog.cellsOf 91 = 7 := by kernel_rfl
theorem c3 : Tryd.prog.cellsOf 72 = 3 := by kernel_rfl
theorem c1s : Tryd.prog.cellsOf 9 = 1 := by kernel_rfl
theorem str_trod {H : Type} {enc : TypeId × Value → H} {w : World} {base : Nat} {sp : Nat → Bool} {held : Bool} {fuel : Nat} {c : Value} {y : DataW H × List MemPlace}
    (h : DataW.trod enc Tryd.prog w base sp held fuel 9 [c] = some y) : ∃ s : ByteArray, c = .string s ∧ y = (.lit (.string s.data.toList), []) := by
  cases fuel with
  | zero => simp [DataW.trod] at h
  | succ fuel =>
    cases c <;> simp [DataW.trod, Tryd.underlying9] at h
    rename_i s
    exact ⟨s, rfl, h.2.symm⟩
theorem bytes_mk {s : ByteArray} {l : List UInt8} (h : s.data.toList = l) : s = ⟨l.toArray⟩ := by
  rw [← h]

set_option maxRecDepth 100000 in
theorem cells3 {W : World} {fuel : Nat} {cs : Array Value} {p : List MemPlace} (hd : DataW.trod (fun _ => ()) Tryd.prog W 0 (fun _ => true) false fuel 72 cs.toList = some (Rows.laid_inkling_lex_reserved, p)) :
    cs = #[.string ⟨#[105, 110, 112, 117, 116]⟩, .string ⟨#[111, 117, 116, 112, 117, 116]⟩, .string ⟨#[110, 111, 116]⟩] := by
  obtain ⟨l⟩ := cs
  cases fuel with
  | zero => simp [DataW.trod] at hd
  | succ fuel =>
    simp only [DataW.trod, Tryd.underlying72, c3, c1s] at hd
    split at hd
    · rename_i hl
      obtain ⟨a0, a1, a2, rfl⟩ : ∃ a0 a1 a2, l = [a0, a1, a2] := by
        match l, hl with
        | [a, b, c], _ => exact ⟨a, b, c, rfl⟩
      rw [show List.range 3 = [0, 1, 2] from rfl] at hd
      simp only [Option.map_eq_some_iff, List.mapM_cons, List.mapM_nil, Option.bind_eq_bind, Option.bind_eq_some_iff, Option.pure_def, Option.some.injEq] at hd
      obtain ⟨xs, ⟨y0, h0, _, ⟨y1, h1, _, ⟨y2, h2, _, rfl, rfl⟩, rfl⟩, rfl⟩, hx⟩ := hd
      obtain ⟨s0, rfl, rfl⟩ := str_trod h0
      obtain ⟨s1, rfl, rfl⟩ := str_trod h1
      obtain ⟨s2, rfl, rfl⟩ := str_trod h2
      simp [Rows.laid_inkling_lex_reserved] at hx
      obtain ⟨⟨e0, e1, e2⟩, _⟩ := hx
      rw [bytes_mk e0, bytes_mk e1, bytes_mk e2]
    · cases hd
set_option maxRecDepth 100000 in
theorem cells7 {W : World} {fuel : Nat} {cs : Array Value} {p : List MemPlace} (hd : DataW.trod (fun _ => ()) Tryd.prog W 0 (fun _ => true) false fuel 91 cs.toList = some (Rows.laid_inkling_lex_signs, p)) :
    cs = #[.string ⟨#[40]⟩, .string ⟨#[41]⟩, .string ⟨#[44]⟩, .string ⟨#[46]⟩, .string ⟨#[47]⟩, .string ⟨#[58, 45]⟩, .string ⟨#[33, 61]⟩] := by
  obtain ⟨l⟩ := cs
  cases fuel with
  | zero => simp [DataW.trod] at hd
  | succ fuel =>
    simp only [DataW.trod, Tryd.underlying91, c7, c1s] at hd
    split at hd
    · rename_i hl
      obtain ⟨a0, a1, a2, a3, a4, a5, a6, rfl⟩ : ∃ a0 a1 a2 a3 a4 a5 a6, l = [a0, a1, a2, a3, a4, a5, a6] := by
        match l, hl with
        | [a, b, c, d, e, f, g], _ => exact ⟨a, b, c, d, e, f, g, rfl⟩
      rw [show List.range 7 = [0, 1, 2, 3, 4, 5, 6] from rfl] at hd
      simp only [Option.map_eq_some_iff, List.mapM_cons, List.mapM_nil, Option.bind_eq_bind, Option.bind_eq_some_iff, Option.pure_def, Option.some.injEq] at hd
      obtain ⟨xs, ⟨y0, h0, _, ⟨y1, h1, _, ⟨y2, h2, _, ⟨y3, h3, _, ⟨y4, h4, _, ⟨y5, h5, _, ⟨y6, h6, _, rfl, rfl⟩, rfl⟩, rfl⟩, rfl⟩, rfl⟩, rfl⟩, rfl⟩, hx⟩ := hd
      obtain ⟨s0, rfl, rfl⟩ := str_trod h0
      obtain ⟨s1, rfl, rfl⟩ := str_trod h1
      obtain ⟨s2, rfl, rfl⟩ := str_trod h2
      obtain ⟨s3, rfl, rfl⟩ := str_trod h3
      obtain ⟨s4, rfl, rfl⟩ := str_trod h4
      obtain ⟨s5, rfl, rfl⟩ := str_trod h5
      obtain ⟨s6, rfl, rfl⟩ := str_trod h6
      simp [Rows.laid_inkling_lex_signs] at hx
      obtain ⟨⟨e0, e1, e2, e3, e4, e5, e6⟩, _⟩ := hx
      rw [bytes_mk e0, bytes_mk e1, bytes_mk e2, bytes_mk e3, bytes_mk e4, bytes_mk e5, bytes_mk e6]
    · cases hd
theorem tabs_of_laid {W : World} (h : laidMetH Tryd.prog laid2 W) : Tabs W := by
  have h0 : laidMet Tryd.prog laid2 W := h
  obtain ⟨ps, ⟨g, t, cs, fuel, p, q, hg, ht, hvar, hd, ⟨g', t', cs', fuel', p', q', hg', ht', hvar', hd', _, _⟩, _⟩, _⟩ := h0
  obtain rfl := Option.some.inj (gS.symm.trans hg)
  obtain rfl := Option.some.inj (gST.symm.trans ht)
  obtain rfl := Option.some.inj (gR.symm.trans hg')
  obtain rfl := Option.some.inj (gRT.symm.trans ht')
  rw [cells7 hd] at hvar
  rw [cells3 hd'] at hvar'
  have s := fun i => World.var?_cell gS hvar i
  have r := fun i => World.var?_cell gR hvar' i
  exact ⟨r 0, r 1, r 2, s 0, s 1, s 2, s 3, s 4, s 5, s 6⟩
end Go.Proofs.YtioafeckaeaopaaDoor
