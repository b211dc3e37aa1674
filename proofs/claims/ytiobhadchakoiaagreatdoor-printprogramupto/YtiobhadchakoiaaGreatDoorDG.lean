/- The document's named, form, Formed: the first statement of a program that is not in form. -/
import Derived.Test.YtiobhadchakoiaaGreatDoorDE
import Derived.Test.YtiobhadchakoiaaGreatDoorCI
namespace Go.Proofs.YtiobhadchakoiaaGreatDoor
open Go.RowKit Go.Maps

/-- Where the first stands that is not so. -/
def badAt {α : Type} (ok : α → Bool) : List α → Option Nat
  | [] => none
  | x :: xs => if ok x then (badAt ok xs).map (· + 1) else some 0
theorem badAt_none {α : Type} {ok : α → Bool} : ∀ {xs : List α}, xs.all ok = true → badAt ok xs = none
  | [], _ => rfl
  | x :: xs, h => by
    simp only [List.all_cons, Bool.and_eq_true] at h
    rw [badAt, if_pos h.1, badAt_none h.2]; rfl
theorem badAt_some {α : Type} {ok : α → Bool} : ∀ {xs : List α} {k : Nat} (hk : k < xs.length), (xs.take k).all ok = true → ok xs[k] = false → badAt ok xs = some k
  | x :: xs, 0, _, _, h => by
    have h' : ok x = false := h
    rw [badAt, h']; rfl
  | x :: xs, k + 1, hk, h1, h2 => by
    simp only [List.take_succ_cons, List.all_cons, Bool.and_eq_true] at h1
    rw [badAt, if_pos h1.1, badAt_some (xs := xs) (k := k) (by simpa using hk) h1.2 (by simpa using h2)]; rfl
theorem badAt_all {α : Type} (ok : α → Bool) : ∀ xs : List α, (badAt ok xs).isNone = xs.all ok
  | [] => rfl
  | x :: xs => by
    rw [badAt, List.all_cons]
    cases hx : ok x
    · rfl
    · rw [if_pos rfl, Option.isNone_map, badAt_all ok xs, Bool.true_and]
/-- The part and the number of the first statement that is not in form. -/
def spotZ (ins : List Inp) (outs : List Oup) (rules : List Ru) : Option (Int × Nat) :=
  match badAt Inp.ok ins with
  | some i => some (1, i)
  | none => match badAt Oup.ok outs with
    | some i => some (2, i)
    | none => (badAt Ru.ok rules).map fun i => (3, i)
theorem spot_all (ins : List Inp) (outs : List Oup) (rules : List Ru) : (spotZ ins outs rules).isNone = (ins.all Inp.ok && outs.all Oup.ok && rules.all Ru.ok) := by
  unfold spotZ
  rw [← badAt_all, ← badAt_all, ← badAt_all]
  cases badAt Inp.ok ins with
  | some i => rfl
  | none =>
    cases badAt Oup.ok outs with
    | some i => rfl
    | none => simp
/-- What form answers. -/
def SpotB (w : World) (z : Option (Int × Nat)) (e : Ending) (w' : World) : Prop :=
  e = .returned (.tuple #[.agg #[.int .i64 (z.getD (0, 0)).1, .int .i64 ((z.getD (0, 0)).2 : Int), .string ⟨#[]⟩], .bool z.isSome]) ∧ Stay w w'

theorem y11named_any (p : ByteArray) (ar : Int) (w : World) : Calls Tryz.prog 38 #[.string p, .int .i64 ar] w fun e w' => e = .returned (.bool (decB p ar)) ∧ w' = w := by
  have hn := y_Name p w
  unfold decB
  generalize nameB p.data.toList = nb at *
  cases nb
  · go_enter Tryz.func38, Tryz.ntmps38
    go_wp2_with (go_at_call 55; refine hn.mono ?_; rintro e w' ⟨rfl, hw'⟩; have hw2 := hw'.symm; subst hw2)
    go_ret
    exact ⟨rfl, rfl⟩
  · by_cases h0 : 0 ≤ ar
    · rw [decide_eq_true h0]
      by_cases h16 : ar ≤ 16
      · rw [decide_eq_true h16]
        go_enter Tryz.func38, Tryz.ntmps38
        go_wp2_with (go_at_call 55; refine hn.mono ?_; rintro e w' ⟨rfl, hw'⟩; have hw2 := hw'.symm; subst hw2)
        go_ret
        exact ⟨rfl, rfl⟩
      · rw [decide_eq_false h16]
        have hd : decide (ar ≤ 16) = false := decide_eq_false h16
        go_enter Tryz.func38, Tryz.ntmps38
        go_wp2_with (go_at_call 55; refine hn.mono ?_; rintro e w' ⟨rfl, hw'⟩; have hw2 := hw'.symm; subst hw2)
        go_ret
        exact ⟨rfl, rfl⟩
    · rw [decide_eq_false h0]
      have h0' : ar < 0 := by omega
      go_enter Tryz.func38, Tryz.ntmps38
      go_wp2_with (go_at_call 55; refine hn.mono ?_; rintro e w' ⟨rfl, hw'⟩; have hw2 := hw'.symm; subst hw2)
      go_ret
      exact ⟨rfl, rfl⟩

theorem results_spot {P : Program} {fn : Func} {p t : Tmp} {ty : TypeId} (h : fn.results = #[.cell p ty, .tmp t]) (tmps : Array Value) (w : World) (g : Nat) (t' : TypeId) (cs : Array Value) (fr : Nat × Nat) (d : TypeDesc)
    (hp : tmps.getD p undef = .pointer (some ⟨g, 0, none⟩)) (hg : w.heap[g]? = some (.cells cs t' fr))
    (hu : P.underlying ty = some d) (hd : (match d with | .struct _ | .array _ _ => true | _ => false) = true) (hi : (P.info? ty).map (·.size) = some cs.size) :
    (results fn tmps).run P w = .ok (.tuple #[.agg cs, tmps.getD t undef]) w := by
  have hp' : tmps[p]?.getD undef = .pointer (some ⟨g, 0, none⟩) := by simpa using hp
  simp [results, h, hp', asAddr, run_loadVar_row w g t' ty cs fr d hg hu hd hi]
theorem sizeSpot : (Tryz.prog.info? 61).map (·.size) = some 3 := by kernel_rfl
end Go.Proofs.YtiobhadchakoiaaGreatDoor
