/- Numbers of any kind in memory. -/
import Derived.Test.YtpflbaniijbpaaaC
namespace Go.Proofs.Ytpflbaniijbpaaa
open Go.RowKit Go.Maps

/-- The slice value with the address a and the length of zs holds the numbers zs, in cells of kind κ. -/
def IntsK (κ : IntKind) (w : World) (a : Option Addr) (b off : Nat) (zs : List Int) : Prop :=
  (0 < zs.length → a = some ⟨b, off, none⟩) ∧ ∀ j (h : j < zs.length), w.cell? ⟨b, off + j, none⟩ = some (.int κ zs[j])
theorem IntsK.stay {κ : IntKind} {w w' : World} {a : Option Addr} {b off : Nat} {zs : List Int} (h : IntsK κ w a b off zs) (hs : Stay w w') : IntsK κ w' a b off zs :=
  ⟨h.1, fun j hj => hs.cell (h.2 j hj)⟩
theorem wrap64s (x : Int) (h1 : -9223372036854775808 ≤ x) (h2 : x < 9223372036854775808) : IntKind.i64.wrap x = x := by
  simp [IntKind.wrap, IntKind.signed, IntKind.bits]; omega
end Go.Proofs.Ytpflbaniijbpaaa
