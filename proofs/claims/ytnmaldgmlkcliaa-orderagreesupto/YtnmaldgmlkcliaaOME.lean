/- pushRest: a list's rest goes in, unless nothing is left of it. -/
import Derived.Test.YtnmaldgmlkcliaaHGH
namespace Go.Proofs.Ytnmaldgmlkcliaa.HH
open Go.RowKit Go.Maps Go.Shelf Go.Sort Go.Proofs.Ytnmaldgmlkcliaa

theorem rest_none (hb : Nat) (a : Option Addr) (c : Nat) (i : Int) (w : World) :
    Calls Try.prog 26 #[.pointer (some ⟨hb, 0, none⟩), .agg #[.slice a 0 c, .int .i64 i]] w fun e w' => e = .returned (.tuple #[]) ∧ Stay w w' := by
  go_enter Try.func26, Try.ntmps26
  go_wp2
  go_end0
  exact ⟨rfl, Stay.new _ _⟩

set_option maxRecDepth 100000 in
set_option maxHeartbeats 1000000 in
theorem rest_some {B w : World} {hb turns : Nat} {fv v : Value} {came : List E} {cf : Hd → Hd → Int} (hf : Fv fv cf) (h : Held cf B w hb fv v turns came) (x : Hd) (hin : ∃ xb, fv = headV xb ∧ x.In w xb) (hsz : (came.length + 1) * 40 ≤ 140737488355328) (htn : turns ≤ 140737488355328) :
    Calls Try.prog 26 #[.pointer (some ⟨hb, 0, none⟩), .agg #[.slice x.a x.n x.c, .int .i64 (x.i : Int)]] w fun e w' => e = .returned (.tuple #[]) ∧ ∃ v' came', came'.Perm (came ++ [(x, turns)]) ∧ Held cf B w' hb fv v' (turns + 1) came' := by
  obtain ⟨xa, xn, xc, xi, xx⟩ := x
  have hn : 0 < xn := by obtain ⟨_, _, _, _, _, _, h3, _⟩ := hin; exact h3
  have hn1 : (0 : Int) < (xn : Int) := by omega
  have hp := (h.go (Stay.new w (.cells #[.slice xa xn xc, .int .i64 (xi : Int)] 47))).push hf ⟨xa, xn, xc, xi, xx⟩ (by obtain ⟨xb, h1, h2⟩ := hin; exact ⟨xb, h1, h2.turn (S := fun _ => False) (Turn.of_stay (Stay.new _ _)) (fun _ _ => id)⟩) hsz htn
  dsimp only at hp ⊢
  clear h hf hin
  go_enter Try.func26, Try.ntmps26
  go_wp2_with fail
  refine hp.mono ?_
  rintro e9 w1 ⟨rfl, v', came', h1, h2⟩
  have HE : Hid _ := And.intro h1 h2
  clear h1 h2 hp
  go_wp2
  go_end0
  exact ⟨rfl, v', came', HE.out.1, HE.out.2⟩
end Go.Proofs.Ytnmaldgmlkcliaa.HH
