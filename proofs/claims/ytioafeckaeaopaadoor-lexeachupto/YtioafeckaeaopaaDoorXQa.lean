/- next's first drawn region: far goes behind blanks. -/
import Derived.Test.YtioafeckaeaopaaDoorXQ
namespace Go.Proofs.YtioafeckaeaopaaDoor
open Go.RowKit Go.Maps

set_option maxRecDepth 100000 in
set_option maxHeartbeats 4000000 in
theorem next_r1 {s : ByteArray} {W W1 : World} {b far n : Nat} {o : Tok} (hN : Nx W W1 b s far o) (hbW : b < W.heap.size) (hf : far + n ≤ s.size) (hs : s.size ≤ 140737488355328)
    (hbl : ∀ X : World, Calls Tryd.prog 56 #[.string (s.extract far s.size)] X fun e w' => e = .returned (.int .i64 (n : Int)) ∧ w' = X)
    {c : Code} (hc : Tryd.f45.body.bind (regionOf 1) = some c) (K : Act → World → Prop) (hQ : ∀ (X : World) (u6 u7 u8 u9 u10 u11 u12 u13 u14 u15 u16 u17 u18 u19 u20 u21 u22 : Value), Nx W X b s (far + n) o → K { tmps := #[.pointer (some ⟨b, 0, none⟩), undef, .pointer (some ⟨W.heap.size, 0, none⟩), .bool false, undef, undef, u6, u7, u8, u9, u10, u11, u12, u13, u14, u15, u16, u17, u18, u19, u20, u21, u22, undef, undef, undef, undef, undef, undef, undef, undef, undef, undef, undef, undef, undef, undef, undef, undef, undef, undef, undef, undef, undef, undef, undef, undef, undef, undef, undef, undef, undef, undef, undef, undef, undef, undef, undef, undef, undef, undef, undef, undef, undef, undef, undef, undef, undef, undef, undef, undef, undef, undef], defers := [] } X) :
    c.wp Tryd.prog (Exit.then K fun _ _ _ => False) { tmps := #[.pointer (some ⟨b, 0, none⟩), undef, .pointer (some ⟨W.heap.size, 0, none⟩), .bool false, undef, undef, undef, undef, undef, undef, undef, undef, undef, undef, undef, undef, undef, undef, undef, undef, undef, undef, undef, undef, undef, undef, undef, undef, undef, undef, undef, undef, undef, undef, undef, undef, undef, undef, undef, undef, undef, undef, undef, undef, undef, undef, undef, undef, undef, undef, undef, undef, undef, undef, undef, undef, undef, undef, undef, undef, undef, undef, undef, undef, undef, undef, undef, undef, undef, undef, undef, undef, undef], defers := [] } W1 := by
  simp only [Tryd.f45, Option.bind_some, regionOf, Nat.reduceEqDiff, if_true, if_false, Option.none_or, Option.some_or, Option.or_some, Option.getD_none, Option.some.injEq] at hc
  subst hc
  obtain ⟨d0, d1, -, -, -, -, d6⟩ := six hN.at_
  have d7 := d6 1
  have hadd : IntKind.i64.wrap ((far : Int) + (n : Int)) = (far : Int) + (n : Int) := by
    rw [IntWalk.i64_in] <;> omega
  have hle : (far : Int) ≤ (s.size : Int) := by omega
  have HN : Hid (Nx W W1 b s far o) := hN
  have HQ : Hid (∀ (X : World) (u6 u7 u8 u9 u10 u11 u12 u13 u14 u15 u16 u17 u18 u19 u20 u21 u22 : Value), Nx W X b s (far + n) o → K { tmps := #[.pointer (some ⟨b, 0, none⟩), undef, .pointer (some ⟨W.heap.size, 0, none⟩), .bool false, undef, undef, u6, u7, u8, u9, u10, u11, u12, u13, u14, u15, u16, u17, u18, u19, u20, u21, u22, undef, undef, undef, undef, undef, undef, undef, undef, undef, undef, undef, undef, undef, undef, undef, undef, undef, undef, undef, undef, undef, undef, undef, undef, undef, undef, undef, undef, undef, undef, undef, undef, undef, undef, undef, undef, undef, undef, undef, undef, undef, undef, undef, undef, undef, undef, undef, undef, undef, undef], defers := [] } X) := hQ
  have HB : Hid (b < W.heap.size) := hbW
  clear d6 hN hQ hbW
  dsimp only
  go_region_with (first
    | (go_at_call 56; refine (hbl _).mono ?_; rintro e w' ⟨rfl, rfl⟩))
  all_goals
    have e1 := (HN.out.draw 1).far HB.out (far + n)
    rw [show ((far + n : Nat) : Int) = (far : Int) + (n : Int) by omega] at e1
    exact HQ.out _ _ _ _ _ _ _ _ _ _ _ _ _ _ _ _ _ _ e1
end Go.Proofs.YtioafeckaeaopaaDoor
