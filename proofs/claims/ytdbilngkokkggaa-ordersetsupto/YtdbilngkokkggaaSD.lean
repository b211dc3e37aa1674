/- order.Meet and order.Minus, as sift has them; the document's Union. -/
import Derived.Test.YtdbilngkokkggaaSC
import Derived.Test.YtdbilngkokkggaaTD
import Derived.Deep.Onto
namespace Go.Proofs.Ytdbilngkokkggaa
open Go.RowKit Go.Maps Go.Sort

section
variable (w : World) (a1 a2 : Option Addr) (b1 o1 b2 o2 c1 c2 : Nat) (l m : List (Int × Int)) (h1 : ThS w a1 b1 o1 l) (h2 : ThS w a2 b2 o2 m)
include h1 h2
theorem meet_any (hr1 : Rises l) (hr2 : Rises m) (hl : (l.length + 1) * 16 ≤ 140737488355328) (hm : m.length ≤ c2) (hm2 : m.length ≤ 8796093022208) :
    Calls Try.prog 33 #[.slice a1 l.length c1, .slice a2 m.length c2, .func (.func 18) #[] #[]] w fun e w' => ∃ v, e = .returned v ∧ OwnT w.heap.size w' v (meetR l m) ∧ Stay w w' := by
  have hs := sift_any true w a1 a2 b1 o1 b2 o2 c1 c2 l m h1 h2 hr1 hr2 hl hm hm2
  rw [sift_meet] at hs
  clear h1 h2 hr1 hr2 hl hm hm2
  go_enter Try.func33, Try.ntmps33
  go_wp2_with fail
  refine hs.mono ?_
  rintro e w1 ⟨v, rfl, hown, hst⟩
  have HR : Hid (OwnT w.heap.size w1 v (meetR l m) ∧ Stay w w1) := ⟨hown, hst⟩
  clear hown hst hs
  go_wp2
  go_ret
  exact ⟨_, rfl, HR.out⟩
theorem minus_any (hr1 : Rises l) (hr2 : Rises m) (hl : (l.length + 1) * 16 ≤ 140737488355328) (hm : m.length ≤ c2) (hm2 : m.length ≤ 8796093022208) :
    Calls Try.prog 34 #[.slice a1 l.length c1, .slice a2 m.length c2, .func (.func 18) #[] #[]] w fun e w' => ∃ v, e = .returned v ∧ OwnT w.heap.size w' v (minusR l m) ∧ Stay w w' := by
  have hs := sift_any false w a1 a2 b1 o1 b2 o2 c1 c2 l m h1 h2 hr1 hr2 hl hm hm2
  rw [sift_minus] at hs
  clear h1 h2 hr1 hr2 hl hm hm2
  go_enter Try.func34, Try.ntmps34
  go_wp2_with fail
  refine hs.mono ?_
  rintro e w1 ⟨v, rfl, hown, hst⟩
  have HR : Hid (OwnT w.heap.size w1 v (minusR l m) ∧ Stay w w1) := ⟨hown, hst⟩
  clear hown hst hs
  go_wp2
  go_ret
  exact ⟨_, rfl, HR.out⟩
end
end Go.Proofs.Ytdbilngkokkggaa
