/- The first rule that is not safe: Check. -/
import Derived.Test.YtpnjmldbohecdaaQL
import Derived.Test.YtpnjmldbohecdaaBB
namespace Go.Proofs.Ytpnjmldbohecdaa
open Go.RowKit Go.Maps Go.Shelf

/-- A rule that all calls of the layer can take. -/
structure Ru.fit (x : Ru) (w : World) : Prop where
  ins : x.In w
  small : x.small
  reads : x.reads (fun i => i < w.heap.size)
  shorts : x.shorts
theorem Ru.fit.stay {x : Ru} {w w' : World} (h : x.fit w) (hs : Stay w w') : x.fit w' := ⟨Ru.stay h.ins hs, h.small, h.reads.mono fun _ hi => Nat.lt_of_lt_of_le hi hs.size, h.shorts⟩
theorem rule_fit (x : Ru) (w : World) (h : x.fit w) : Calls Try.prog 8 #[x.v] w fun e w' => e = .returned (.tuple #[.string (ruleN x), .bool (ruleB x)]) ∧ Stay w w' := rule_any x w h.ins h.small h.reads h.shorts

/-- What Check tells. -/
def checkF : Nat → List Ru → Int × ByteArray × Int
  | _, [] => (0, ⟨#[]⟩, 0)
  | i, r :: rs => if ruleB r then checkF (i + 1) rs else ((i : Int), ruleN r, 14)
def checkV (rs : List Ru) : Value := .tuple #[.int .i64 (checkF 0 rs).1, .string (checkF 0 rs).2.1, .int .i64 (checkF 0 rs).2.2]
theorem checkF_good : ∀ (i : Nat) (rs : List Ru), (∀ r ∈ rs, ruleB r = true) → checkF i rs = (0, ⟨#[]⟩, 0)
  | _, [], _ => rfl
  | i, r :: rs, h => by rw [checkF, h r List.mem_cons_self, if_pos rfl, checkF_good (i + 1) rs fun x hx => h x (List.mem_cons_of_mem _ hx)]

end Go.Proofs.Ytpnjmldbohecdaa
