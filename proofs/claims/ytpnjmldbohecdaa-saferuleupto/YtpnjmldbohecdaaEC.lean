/- Rules that were read are such that all calls of layer 12 can take. -/
import Derived.Test.YtpnjmldbohecdaaEA
import Derived.Test.YtpnjmldbohecdaaEB
namespace Go.Proofs.Ytpnjmldbohecdaa
open Go.RowKit

theorem RuB.fit {W : World} {x : Ru} (h : RuB W 1048576 x) : x.fit W := by
  have h1 := h.mass
  have h2 := mass_len x.body
  unfold Ru.mass at h1
  exact ⟨h.ins, ⟨by omega, by omega, fun l hl => (h.lits l hl).few⟩, reads_of_in h.ins, h.texts, fun l hl => ⟨(h.lits l hl).texts, (h.lits l hl).left, (h.lits l hl).right⟩⟩
theorem LiB.fit {W : World} {l : Li} (h : LiB W 1048576 l) : l.fit W := ⟨h.ins, h.few, h.texts, h.left, h.right⟩
end Go.Proofs.Ytpnjmldbohecdaa
