/- What the listed variables hold: Tabs out of the row's condition; the witness. Four are listed, one is read. -/
import Derived.Test.YtiobhadchakoiaaGreatDoorPH
import Derived.Test.YtiobhadchakoiaaGreatDoorCQp
namespace Go.Proofs.YtiobhadchakoiaaGreatDoor
open Go.ChangeShapes Go.WideShapes Go.ChangeAt Go.RowKit

def laid2 : List (String × DataW Unit) := [("math/bits.deBruijn32tab", Rows.laid_math_bits_deBruijn32tab), ("math/bits.deBruijn64tab", Rows.laid_math_bits_deBruijn64tab), ("internal/strconv.uint64pow10", Rows.laid_internal_strconv_uint64pow10), ("inkling/lex.reserved", Rows.laid_inkling_lex_reserved)]
theorem door_met (os : Os) (args : Array Value) : laidMetH Tryz.prog laid2 ((World.doorLaid Tryz.prog 400 os).forCall (fun _ _ => 0) ⟨#[], args, []⟩).memory :=
  laidMetH_of_parts3 (fuel := 8) (laidMet_of_run' 8 (by kernel_rfl) (by kernel_rfl)) (by kernel_rfl) (by kernel_rfl)

theorem gR : Tryz.prog.globalNamed "inkling/lex.reserved" = some 0 := by kernel_rfl
theorem gRT : (Tryz.prog.globals[0]?).map (·.type) = some 135 := by kernel_rfl
theorem c3 : Tryz.prog.cellsOf 135 = 3 := by kernel_rfl
set_option maxRecDepth 100000 in
theorem cells3 {W : World} {fuel : Nat} {cs : Array Value} {p : List MemPlace} (hd : DataW.trod (fun _ => ()) Tryz.prog W 0 (fun _ => true) false fuel 135 cs.toList = some (Rows.laid_inkling_lex_reserved, p)) :
    cs = #[.string ⟨#[105, 110, 112, 117, 116]⟩, .string ⟨#[111, 117, 116, 112, 117, 116]⟩, .string ⟨#[110, 111, 116]⟩] := by
  obtain ⟨l⟩ := cs
  cases fuel with
  | zero => simp [DataW.trod] at hd
  | succ fuel =>
    simp only [DataW.trod, Tryz.underlying135, c3, c1s] at hd
    split at hd
    · rename_i hl
      obtain ⟨a0, a1, a2, rfl⟩ : ∃ a0 a1 a2, l = [a0, a1, a2] := by
        match l, hl with
        | [a, b, c], _ => exact ⟨a, b, c, rfl⟩
      rw [show List.range 3 = [0, 1, 2] from rfl] at hd
      simp only [Option.map_eq_some_iff, List.mapM_cons, List.mapM_nil, Option.bind_eq_bind, Option.bind_eq_some_iff, Option.pure_def, Option.some.injEq] at hd
      obtain ⟨xs, ⟨y0, h0, _, ⟨y1, h1, _, ⟨y2, h2, _, rfl, rfl⟩, rfl⟩, rfl⟩, hx⟩ := hd
      obtain ⟨s0, rfl, rfl⟩ := str_trod h0
      obtain ⟨s1, rfl, rfl⟩ := str_trod h1
      obtain ⟨s2, rfl, rfl⟩ := str_trod h2
      simp [Rows.laid_inkling_lex_reserved] at hx
      obtain ⟨⟨e0, e1, e2⟩, _⟩ := hx
      rw [bytes_mk e0, bytes_mk e1, bytes_mk e2]
    · cases hd
theorem tabs_of_laid {W : World} (h : laidMetH Tryz.prog laid2 W) : Tabs W := by
  have h0 : laidMet Tryz.prog laid2 W := h
  obtain ⟨ps, ⟨g1, t1, cs1, fuel1, p1, q1, hg1, ht1, hvar1, hd1, ⟨g2, t2, cs2, fuel2, p2, q2, hg2, ht2, hvar2, hd2, ⟨g3, t3, cs3, fuel3, p3, q3, hg3, ht3, hvar3, hd3, ⟨g', t', cs', fuel', p', q', hg', ht', hvar', hd', _, _⟩, _⟩, _⟩, _⟩, _⟩ := h0
  obtain rfl := Option.some.inj (gR.symm.trans hg')
  obtain rfl := Option.some.inj (gRT.symm.trans ht')
  rw [cells3 hd'] at hvar'
  have r := fun i => World.var?_cell gR hvar' i
  exact ⟨r 0, r 1, r 2⟩
end Go.Proofs.YtiobhadchakoiaaGreatDoor
