/- Least: the tuple that comes first. -/
import Derived.Test.YtpflbaniijbpaaaH
namespace Go.Proofs.Ytpflbaniijbpaaa
open Go.RowKit Go.Maps

/-- A tuple in memory. -/
structure Tup where
  a : Option Addr
  b : Nat
  o : Nat
  c : Nat
  xs : List Int
def Tup.v (t : Tup) : Value := .slice t.a t.xs.length t.c
def Tup.ok (w : World) (t : Tup) : Prop := IntsS w t.a t.b t.o t.xs ∧ 8 * t.xs.length ≤ 281474976710656
theorem Tup.ok.stay {w w' : World} {t : Tup} (h : t.ok w) (hs : Stay w w') : t.ok w' := ⟨h.1.stay hs, h.2⟩

/-- A list of tuples in memory. -/
def TupsS (w : World) (a : Option Addr) (b off : Nat) (ts : List Tup) : Prop :=
  (0 < ts.length → a = some ⟨b, off, none⟩) ∧ ∀ j (h : j < ts.length), w.cell? ⟨b, off + j, none⟩ = some ts[j].v ∧ ts[j].ok w
theorem TupsS.stay {w w' : World} {a : Option Addr} {b off : Nat} {ts : List Tup} (h : TupsS w a b off ts) (hs : Stay w w') : TupsS w' a b off ts :=
  ⟨h.1, fun j hj => ⟨hs.cell (h.2 j hj).1, (h.2 j hj).2.stay hs⟩⟩

def leastL : List Int → List (List Int) → List Int
  | best, [] => best
  | best, x :: r => leastL (if cmpL x best < 0 then x else best) r

theorem leastL_step {best : List Int} {ts : List Tup} {k : Nat} (h : k < ts.length) : leastL best ((ts.drop k).map Tup.xs) = leastL (if cmpL ts[k].xs best < 0 then ts[k].xs else best) ((ts.drop (k + 1)).map Tup.xs) := by
  rw [List.drop_eq_getElem_cons h]; rfl

theorem least_none (w : World) (a : Option Addr) (c : Nat) : Calls Try.prog 27 #[.slice a 0 c] w fun e w' => e = .returned (.tuple #[.slice none 0 0, .bool false]) ∧ w' = w := by
  go_enter Try.func27, Try.ntmps27
  go_wp2
  go_ret2
  exact ⟨rfl, rfl⟩

set_option maxRecDepth 100000 in
set_option maxHeartbeats 1000000 in
theorem least_any (w : World) (a1 : Option Addr) (b1 o1 c1 : Nat) (T : Tup) (ts : List Tup) (hx : TupsS w a1 b1 o1 (T :: ts)) (hlx : ts.length < maxLen) (hc : ts.length + 1 ≤ c1) (hc2 : c1 ≤ maxLen) :
    Calls Try.prog 27 #[.slice a1 (ts.length + 1) c1] w fun e w' => ∃ v, e = .returned (.tuple #[v, .bool true]) ∧ OwnI w.heap.size w' v (leastL T.xs (ts.map Tup.xs)) ∧ Stay w w' := by
  unfold maxLen at hlx hc2
  obtain rfl := hx.1 (by simp)
  have hc0 := (hx.2 0 (by simp)).1
  rw [Nat.add_zero, List.getElem_cons_zero] at hc0
  have HX : Hid (T.ok w ∧ ∀ j (h : j < ts.length), w.cell? ⟨b1, o1 + 1 + j, none⟩ = some ts[j].v ∧ ts[j].ok w) := by
    refine ⟨(hx.2 0 (by simp)).2, fun j hj => ?_⟩
    have h := hx.2 (j + 1) (by simpa using hj)
    rw [show o1 + (j + 1) = o1 + 1 + j by omega] at h
    simpa using h
  clear hx
  unfold Tup.v at hc0
  have h1 : (1 : Int) ≤ (ts.length : Int) + 1 := by omega
  have h2 : (1 : Int) ≤ (c1 : Int) := by omega
  have h3 : (ts.length : Int) + 1 ≤ (c1 : Int) := by omega
  have h4 : (((ts.length : Int) + 1) == 0) = false := by simp; omega
  have HC : Hid (∀ (S T : Tup), S.ok w → T.ok w → Calls Try.prog 30 #[S.v, T.v] w fun e w' => e = .returned (.int .i64 (cmpL S.xs T.xs)) ∧ w' = w) := fun S T h1 h2 =>
    compare_any w S.a T.a S.b S.o T.b T.o S.c T.c S.xs T.xs h1.1 h2.1 (by have := h1.2; unfold maxLen; omega) (by have := h2.2; unfold maxLen; omega)
  have HP : Hid (∀ (T : Tup), T.ok w → Calls Try.prog 38 #[T.v] w fun e w' => ∃ v, e = .returned v ∧ OwnI w.heap.size w' v T.xs ∧ Stay w w') := fun T h => copied_any w T.a T.b T.o T.c T.xs h.1 h.2
  go_enter Try.func27, Try.ntmps27
  go_wp2
  all_goals
    go_loopw [4, 16] (fun v i wr => ∃ (k : Nat) (S : Tup), k ≤ ts.length ∧ i = .int .i64 k ∧ v = S.v ∧ S.ok w ∧ leastL S.xs ((ts.drop k).map Tup.xs) = leastL T.xs (ts.map Tup.xs) ∧ w = wr) (fun v i _ => ts.length - (intOf i).toNat)
    case atStart => exact ⟨0, T, Nat.zero_le _, rfl, rfl, HX.out.1, rfl, rfl⟩
    case round =>
      obtain ⟨k, S, hk, rfl, rfl, hS, hh, rfl⟩ := hrel
      by_cases hlt : k < ts.length
      · first
          | (exfalso; omega)
          | (have hi1 : (k : Int) < (ts.length : Int) := by omega
             obtain ⟨hck, hok⟩ := HX.out.2 k hlt
             rw [leastL_step hlt] at hh
             generalize ts[k] = U at hck hok hh
             have hcmp := HC.out U S hok hS
             have HH : Hid (S.ok w ∧ U.ok w ∧ leastL (if cmpL U.xs S.xs < 0 then U.xs else S.xs) ((ts.drop (k + 1)).map Tup.xs) = leastL T.xs (ts.map Tup.xs)) := ⟨hS, hok, hh⟩
             clear hok hS hh hc0
             have hcu : U.v = .slice U.a U.xs.length U.c := rfl
             have hcs : S.v = .slice S.a S.xs.length S.c := rfl
             by_cases hneg : cmpL U.xs S.xs < 0
             · go_wp2_with (go_at_call 30; refine Calls.mono hcmp ?_; rintro e w9 ⟨rfl, hw9⟩; subst w9)
               go_roundw
               case rel => exact ⟨k + 1, U, by omega, by go_num, rfl, HH.out.2.1, by have := HH.out.2.2; rw [if_pos hneg] at this; exact this, by first | rfl | trivial⟩
               case measure => simp [intOf]; omega
             · go_wp2_with (go_at_call 30; refine Calls.mono hcmp ?_; rintro e w9 ⟨rfl, hw9⟩; subst w9)
               go_roundw
               case rel => exact ⟨k + 1, S, by omega, by go_num, rfl, HH.out.1, by have := HH.out.2.2; rw [if_neg (by omega)] at this; exact this, by first | rfl | trivial⟩
               case measure => simp [intOf]; omega)
      · have hi1 : ¬ (k : Int) < (ts.length : Int) := by omega
        rw [List.drop_of_length_le (by omega)] at hh
        have hcp := HP.out S hS
        have HH : Hid (S.xs = leastL T.xs (ts.map Tup.xs)) := hh
        clear hh hS
        go_wp2_with (go_at_call 38; refine Calls.mono hcp ?_; rintro e w2 ⟨v, rfl, hown, hst⟩; have HR : Hid (OwnI w.heap.size w2 v S.xs ∧ Stay w w2) := ⟨hown, hst⟩; clear hown hst)
        go_ret2
        exact ⟨_, rfl, by rw [← HH.out]; exact HR.out.1, HR.out.2⟩
end Go.Proofs.Ytpflbaniijbpaaa
