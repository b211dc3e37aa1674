/- Terms, atoms, literals, rules as they lie in memory. No walk here. -/
import Derived.Test.YtpnjmldbohecdaaA
import Derived.Laws.StructEq
namespace Go.Proofs.Ytpnjmldbohecdaa
open Go.RowKit Go.Maps

/-- A term, plainly. -/
structure Tm where
  var : Bool
  text : ByteArray
def Tm.v (t : Tm) : Value := .agg #[.bool t.var, .string t.text]
/-- The slice at a holds the terms ts. -/
def TmsS (w : World) (a : Option Addr) (b off : Nat) (ts : List Tm) : Prop :=
  (0 < ts.length → a = some ⟨b, off, none⟩) ∧ ∀ j (h : j < ts.length), w.cell? ⟨b, off + j * 2, none⟩ = some (.bool ts[j].var) ∧ w.cell? ⟨b, off + j * 2 + 1, none⟩ = some (.string ts[j].text)
theorem TmsS.nil (w : World) (a : Option Addr) (b off : Nat) : TmsS w a b off [] := ⟨fun h => absurd h (Nat.lt_irrefl _), fun _ h => absurd h (Nat.not_lt_zero _)⟩
theorem TmsS.stay {w w' : World} {a : Option Addr} {b off : Nat} {ts : List Tm} (h : TmsS w a b off ts) (hs : Stay w w') : TmsS w' a b off ts :=
  ⟨h.1, fun j hj => ⟨hs.cell (h.2 j hj).1, hs.cell (h.2 j hj).2⟩⟩
theorem below_cell {B : Nat} {w w' : World} (h : Below B w w') {p : Addr} (hp : p.block < B) {v : Value} (hv : w.cell? p = some v) : w'.cell? p = some v := by
  rw [← hv]
  unfold World.cell?
  rw [h.block _ hp]
theorem TmsS.below {B : Nat} {w w' : World} {a : Option Addr} {b off : Nat} {ts : List Tm} (h : TmsS w a b off ts) (hb : b < B) (hs : Below B w w') : TmsS w' a b off ts :=
  ⟨h.1, fun j hj => ⟨below_cell hs hb (h.2 j hj).1, below_cell hs hb (h.2 j hj).2⟩⟩
/-- An atom as it lies in memory: its predicate, and where its terms lie. -/
structure At where
  pred : ByteArray
  a : Option Addr
  b : Nat
  off : Nat
  cap : Nat
  ts : List Tm
def At.sl (x : At) : Value := .slice x.a x.ts.length x.cap
def At.v (x : At) : Value := .agg #[.string x.pred, x.sl]
def At.In (x : At) (w : World) : Prop := TmsS w x.a x.b x.off x.ts
theorem fieldsTm : Try.prog.underlying 51 = some (.struct (Try.prog.fieldsOf 51)) := by kernel_rfl
theorem heldTm : Try.prog.stoodInHeld 51 = false := by kernel_rfl
theorem guardTm : Try.prog.eqGuardType Try.prog.depth 51 = false := by kernel_rfl
theorem eqlTm (x1 y1 : Bool) (x2 y2 : ByteArray) (w : World) : (binOp .eql 51 (.agg #[.bool x1, .string x2]) (.agg #[.bool y1, .string y2])).run Try.prog w = .ok (.bool ((x1 == y1) && (x2.toList == y2.toList))) w := by
  have u3 := Try.underlying4
  have a3 := Try.isAgg4
  have z3 := Try.sizeOf4
  have u9 := Try.underlying9
  have a9 := Try.isAgg9
  have z9 := Try.sizeOf9
  rw [run_eql_struct, show (10000 : Nat) = 9999 + 1 from rfl, run_equalIn_agg w 9999 51 _ _ fieldsTm heldTm]
  simp only [Program.fieldsOf, Try.underlying51]
  go_simp
  by_cases hx : x2.toList = y2.toList <;> cases x1 <;> cases y1 <;> simp [hx]

/-- A literal as it lies in memory. -/
structure Li where
  kind : Int
  atom : At
  left : Tm
  right : Tm
def Li.v (x : Li) : Value := .agg #[.int .i64 x.kind, .string x.atom.pred, x.atom.sl, .bool x.left.var, .string x.left.text, .bool x.right.var, .string x.right.text]
/-- The slice at a holds the literals ls. -/
def LisS (w : World) (a : Option Addr) (b off : Nat) (ls : List Li) : Prop :=
  (0 < ls.length → a = some ⟨b, off, none⟩) ∧ ∀ j (h : j < ls.length), w.cell? ⟨b, off + j * 7, none⟩ = some (.int .i64 ls[j].kind) ∧ w.cell? ⟨b, off + j * 7 + 1, none⟩ = some (.string ls[j].atom.pred) ∧ w.cell? ⟨b, off + j * 7 + 2, none⟩ = some ls[j].atom.sl ∧
    w.cell? ⟨b, off + j * 7 + 3, none⟩ = some (.bool ls[j].left.var) ∧ w.cell? ⟨b, off + j * 7 + 4, none⟩ = some (.string ls[j].left.text) ∧ w.cell? ⟨b, off + j * 7 + 5, none⟩ = some (.bool ls[j].right.var) ∧ w.cell? ⟨b, off + j * 7 + 6, none⟩ = some (.string ls[j].right.text) ∧ ls[j].atom.In w
theorem LisS.nil (w : World) (a : Option Addr) (b off : Nat) : LisS w a b off [] := ⟨fun h => absurd h (Nat.lt_irrefl _), fun _ h => absurd h (Nat.not_lt_zero _)⟩
theorem LisS.stay {w w' : World} {a : Option Addr} {b off : Nat} {ls : List Li} (h : LisS w a b off ls) (hs : Stay w w') : LisS w' a b off ls :=
  ⟨h.1, fun j hj => by obtain ⟨h0, h1, h2, h3, h4, h5, h6, h7⟩ := h.2 j hj; exact ⟨hs.cell h0, hs.cell h1, hs.cell h2, hs.cell h3, hs.cell h4, hs.cell h5, hs.cell h6, TmsS.stay h7 hs⟩⟩
theorem LisS.below {B : Nat} {w w' : World} {a : Option Addr} {b off : Nat} {ls : List Li} (h : LisS w a b off ls) (hb : b < B) (hx : ∀ x ∈ ls, x.atom.b < B) (hs : Below B w w') : LisS w' a b off ls :=
  ⟨h.1, fun j hj => by
    obtain ⟨h0, h1, h2, h3, h4, h5, h6, h7⟩ := h.2 j hj
    exact ⟨below_cell hs hb h0, below_cell hs hb h1, below_cell hs hb h2, below_cell hs hb h3, below_cell hs hb h4, below_cell hs hb h5, below_cell hs hb h6, TmsS.below h7 (hx _ (List.getElem_mem hj)) hs⟩⟩

/-- A rule as it lies in memory. -/
structure Ru where
  head : At
  a : Option Addr
  b : Nat
  off : Nat
  cap : Nat
  body : List Li
def Ru.v (x : Ru) : Value := .agg #[.string x.head.pred, x.head.sl, .slice x.a x.body.length x.cap]
def Ru.In (x : Ru) (w : World) : Prop := x.head.In w ∧ LisS w x.a x.b x.off x.body
theorem Ru.stay {x : Ru} {w w' : World} (h : x.In w) (hs : Stay w w') : x.In w' := ⟨TmsS.stay h.1 hs, h.2.stay hs⟩
end Go.Proofs.Ytpnjmldbohecdaa
