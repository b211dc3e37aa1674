/- How much an argument is of: bulk. -/
import Derived.Test.YtnmaldgmlkcliaaOB
import Derived.Test.YtnmaldgmlkcliaaRows
namespace Go.Proofs.Ytnmaldgmlkcliaa
open Go.ChangeShapes Go.WideShapes Go.ChangeAt Go.RowKit

section
variable {H : Type}
theorem bulk_one (d : DataW H) : 1 ≤ Rows.uptoBulk d := by
  cases d with
  | lit l => cases l <;> simp [Rows.uptoBulk]
  | _ => simp [Rows.uptoBulk]
theorem bulk_len : ∀ (l : List (DataW H)), l.length ≤ Rows.uptoBulkAll l
  | [] => by simp
  | x :: r => by have := bulk_len r; have := bulk_one x; simp only [Rows.uptoBulkAll, List.length_cons]; omega
theorem bulk_things {d : DataW H} {ts : List (Int × Int)} (hx : d = .nil ∧ ts = [] ∨ ∃ elems spare, d = .slice elems spare ∧ elems.length = ts.length) : ts.length ≤ Rows.uptoBulk d := by
  rcases hx with ⟨_, rfl⟩ | ⟨elems, spare, rfl, he⟩
  · simp
  · simp only [Rows.uptoBulk]
    have h1 := bulk_len (H := H) elems
    omega
end
end Go.Proofs.Ytnmaldgmlkcliaa
