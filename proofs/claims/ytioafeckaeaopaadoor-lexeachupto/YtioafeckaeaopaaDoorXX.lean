/- num; tokens held against one another; known. -/
import Derived.Test.YtioafeckaeaopaaDoorXV
import Derived.Test.YtioafeckaeaopaaDoorXW
import Derived.Laws.StructEq
namespace Go.Proofs.YtioafeckaeaopaaDoor
open Go.RowKit Go.Maps

theorem num_any (z : Int) (w : World) : Calls Tryd.prog 12 #[.int .i64 z] w fun e w' => e = .returned (.int .i64 z) ∧ w' = w := by
  go_enter Tryd.func12, Tryd.ntmps12
  go_wp2
  go_ret
  exact ⟨rfl, rfl⟩
theorem fieldsK : Tryd.prog.underlying 25 = some (.struct (Tryd.prog.fieldsOf 25)) := by kernel_rfl
theorem heldK : Tryd.prog.stoodInHeld 25 = false := by kernel_rfl
theorem guardK : Tryd.prog.eqGuardType Tryd.prog.depth 25 = false := by kernel_rfl
theorem str_eq (a b : List UInt8) : ((⟨a.toArray⟩ : ByteArray).toList == (⟨b.toArray⟩ : ByteArray).toList) = decide (a = b) := by
  rw [ByteArray.toList_eq, ByteArray.toList_eq, Bool.eq_iff_iff]
  simp
theorem eqlK (x y : Tok) (w : World) : (binOp .eql 25 (.agg #[.int .i64 x.kind, .string ⟨x.text.toArray⟩, .int .i64 (x.at_ : Int), .int .i64 (x.fin : Int)]) (.agg #[.int .i64 y.kind, .string ⟨y.text.toArray⟩, .int .i64 (y.at_ : Int), .int .i64 (y.fin : Int)])).run Tryd.prog w = .ok (.bool (decide (x = y))) w := by
  obtain ⟨x1, x2, x3, x4⟩ := x
  obtain ⟨y1, y2, y3, y4⟩ := y
  have u3 := Tryd.underlying3
  have a3 := Tryd.isAgg3
  have z3 := Tryd.sizeOf3
  have u9 := Tryd.underlying9
  have a9 := Tryd.isAgg9
  have z9 := Tryd.sizeOf9
  have u23 := Tryd.underlying23
  have a23 := Tryd.isAgg23
  have z23 := Tryd.sizeOf23
  rw [run_eql_struct, show (10000 : Nat) = 9999 + 1 from rfl, run_equalIn_agg w 9999 25 _ _ fieldsK heldK]
  simp only [Program.fieldsOf, Tryd.underlying25]
  go_simp
  by_cases h1 : x1 = y1 <;> by_cases h2 : x2 = y2 <;> by_cases h3 : x3 = y3 <;> by_cases h4 : x4 = y4 <;> simp [h1, h2, h3, h4]
  all_goals omega

theorem OwnK.stay {base : Nat} {w w' : World} {v : Value} {ts : List Tok} (h : OwnK base w v ts) (hs : Stay w w') : OwnK base w' v ts :=
  h.blocks (fun g _ _ _ _ hh => (hs.block g (Array.getElem?_eq_some_iff.1 hh).1).trans hh)
theorem OwnK.cells {base : Nat} {w : World} {g n c : Nat} {ts : List Tok} (h : OwnK base w (.slice (some ⟨g, 0, none⟩) n c) ts) (j : Nat) (v : Value) (hj : (cellsK ts)[j]? = some v) : w.cell? ⟨g, j, none⟩ = some v := by
  have := World.ownsRow.cells h (g := g) rfl j v hj
  rwa [add_at, Nat.zero_add] at this

def known1 : List UInt8 := [112, 40, 88, 41, 58, 45, 110, 111, 116, 32, 113, 46]
def known2 : List UInt8 := [112, 32, 58, 120]
theorem lex_known1 : lexT known1 = ([⟨1, [112], 0, 1⟩, ⟨8, [], 1, 2⟩, ⟨2, [88], 2, 3⟩, ⟨9, [], 3, 4⟩, ⟨13, [], 4, 6⟩, ⟨7, [], 6, 9⟩, ⟨1, [113], 10, 11⟩, ⟨11, [], 11, 12⟩], tok0, 12, 0) := by decide +kernel
theorem lex_known2 : lexT known2 = ([⟨1, [112], 0, 1⟩], ⟨13, [], 2, 3⟩, 3, 11) := by decide +kernel
theorem quote_known : quoteT [97, 10, 34, 200] = ([34, 97, 92, 110, 92, 34, 92, 120, 99, 56, 34], 0) := by decide +kernel

set_option maxRecDepth 100000 in
set_option maxHeartbeats 4000000 in
theorem known_any (w : World) (hT : Tabs w) : Calls Tryd.prog 13 #[] w fun e w' => e = .returned (.bool true) ∧ Stay w w' := by
  have t1 := fun W hW => Tokens_any ⟨#[112, 40, 88, 41, 58, 45, 110, 111, 116, 32, 113, 46]⟩ (by decide) W hW
  have t2 := fun W hW => Tokens_any ⟨#[112, 32, 58, 120]⟩ (by decide) W hW
  have t3 := fun W => Quote_any ⟨#[97, 10, 34, 200]⟩ W
  rw [show (⟨#[112, 40, 88, 41, 58, 45, 110, 111, 116, 32, 113, 46]⟩ : ByteArray).data.toList = known1 from rfl, lex_known1] at t1
  rw [show (⟨#[112, 32, 58, 120]⟩ : ByteArray).data.toList = known2 from rfl, lex_known2] at t2
  rw [show (⟨#[97, 10, 34, 200]⟩ : ByteArray).data.toList = [97, 10, 34, 200] from rfl, quote_known] at t3
  dsimp only [Tok.val, Tok.cells, tok0] at t1 t2 t3
  have hg := guardK
  have e1 := eqlK tok0 tok0
  have e2 := eqlK ⟨2, [88], 2, 3⟩ ⟨2, [88], 2, 3⟩
  have e3 := eqlK ⟨13, [], 2, 3⟩ ⟨13, [], 2, 3⟩
  simp only [tok0, decide_true] at e1 e2 e3
  have hst := str_eq [34, 97, 92, 110, 92, 34, 92, 120, 99, 56, 34] [34, 97, 92, 110, 92, 34, 92, 120, 99, 56, 34]
  go_enter Tryd.func13, Tryd.ntmps13
  go_wp2_with fail
  refine (t1 w hT).mono ?_
  rintro e W1 ⟨v1, rfl, hO1, hS1⟩
  obtain ⟨g1, c1, rfl⟩ := ownsRow_succ hO1
  clear t1
  have H1 : Hid (Stay w W1 ∧ OwnK w.heap.size W1 (.slice (some ⟨g1, 0, none⟩) 8 c1) [⟨1, [112], 0, 1⟩, ⟨8, [], 1, 2⟩, ⟨2, [88], 2, 3⟩, ⟨9, [], 3, 4⟩, ⟨13, [], 4, 6⟩, ⟨7, [], 6, 9⟩, ⟨1, [113], 10, 11⟩, ⟨11, [], 11, 12⟩]) := ⟨hS1, hO1⟩
  have HT : Hid (Tabs w) := hT
  clear hS1 hO1 hT
  go_wp2_with fail
  refine (t2 _ ((HT.out.stay H1.out.1).stay (Stay.new _ _))).mono ?_
  rintro e W2 ⟨v2, rfl, hO2, hS2⟩
  obtain ⟨g2, c2, rfl⟩ := ownsRow_succ hO2
  clear t2 hO2
  have H2 : Hid (Stay (W1.alloc (.cells #[.int .i64 0, .string ⟨#[]⟩, .int .i64 0, .int .i64 0] 25)) W2) := hS2
  clear hS2
  go_wp2_with fail
  refine (t3 _).mono ?_
  rintro e W3 ⟨rfl, hS3⟩
  have H3 : Hid (Stay (W2.alloc (.cells #[.int .i64 13, .string ⟨#[]⟩, .int .i64 2, .int .i64 3] 25)) W3) := hS3
  have s23 : Stay W2 W3 := (Stay.new _ _).trans H3.out
  have s13 : Stay W1 W3 := ((Stay.new _ _).trans H2.out).trans s23
  have a1 := (s23.block W1.heap.size (by have := H2.out.size; simp at this; omega)).trans (stay_of_new H2.out)
  have a2 := stay_of_new H3.out
  obtain ⟨b0, b1, b2, b3, -⟩ := four a1
  obtain ⟨d0, d1, d2, d3, -⟩ := four a2
  have hO := H1.out.2.stay s13
  have k0 := hO.cells 8 (.int .i64 2) rfl
  have k1 := hO.cells 9 (.string ⟨#[88]⟩) rfl
  have k2 := hO.cells 10 (.int .i64 2) rfl
  have k3 := hO.cells 11 (.int .i64 3) rfl
  have HS : Hid (Stay w W3) := H1.out.1.trans s13
  clear t3 hS3 s23 s13 a1 a2 hO H1 H2 H3
  go_wp2_with (first
    | (go_at_call 12; refine (num_any _ _).mono ?_; rintro e w' ⟨rfl, hw'⟩; have hw2 := hw'.symm; subst hw2))
  go_ret
  exact ⟨rfl, HS.out⟩
end Go.Proofs.YtioafeckaeaopaaDoor
