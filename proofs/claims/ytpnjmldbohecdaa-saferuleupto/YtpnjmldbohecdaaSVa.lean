/- Texts and numbers held against each other; Vars, Bound and Way as lists of their own; a drawn region that reads cells beside calls. -/
import Derived.Test.YtpnjmldbohecdaaEM
import Derived.Test.YtpnjmldbohecdaaEW
import Derived.Test.YtpnjmldbohecdaaEY
import Derived.Test.YtpnjmldbohecdaaER
import Derived.Test.YtpnjmldbohecdaaEB
import Derived.OwnWalk
namespace Go.Proofs.Ytpnjmldbohecdaa
open Go.RowKit Go.Maps Go.Shelf

set_option maxRecDepth 100000 in
set_option maxHeartbeats 2000000 in
theorem sameInts_yes (w : World) (a1 a2 : Option Addr) (b1 b2 o1 o2 c1 c2 : Nat) (ts : List Int) (h1 : RecS 1 encI w a1 b1 o1 ts) (h2 : RecS 1 encI w a2 b2 o2 ts) (hn : ts.length ≤ 140737488355328) :
    Calls Try.prog 14 #[.slice a1 ts.length c1, .slice a2 ts.length c2] w fun e w' => e = .returned (.bool true) ∧ Stay w w' := by
  have HH : Hid (RecS 1 encI w a1 b1 o1 ts ∧ RecS 1 encI w a2 b2 o2 ts) := ⟨h1, h2⟩
  have HA1 : Hid (0 < ts.length → a1 = some ⟨b1, o1, none⟩) := h1.1
  have HA2 : Hid (0 < ts.length → a2 = some ⟨b2, o2, none⟩) := h2.1
  clear h1 h2
  generalize hm : ts.length = n at *
  have HN : Hid (ts.length = n) := hm
  clear hm
  have hnn : ((n : Int) != (n : Int)) = false := by simp
  go_enter Try.func14, Try.ntmps14
  go_wp2
  go_loopw [5] (fun i wr => Stay w wr ∧ ∃ k : Nat, k ≤ n ∧ i = .int .i64 (k : Int)) (fun i _ => n - (intOf i).toNat)
  case atStart => exact ⟨Stay.refl _, 0, Nat.zero_le _, rfl⟩
  case round =>
    obtain ⟨hst, k, hk, rfl⟩ := hrel
    by_cases hlt : k < n
    · have hkt : k < ts.length := by rw [HN.out]; exact hlt
      have hki : (k : Int) < (n : Int) := by omega
      obtain rfl := HA1.out (by omega)
      obtain rfl := HA2.out (by omega)
      have p0 := (HH.out.1.stay hst).2 k hkt 0 _ rfl
      have q0 := (HH.out.2.stay hst).2 k hkt 0 _ rfl
      simp only [Nat.mul_one, Nat.add_zero] at p0 q0
      generalize ts[k] = t at *
      have hq : (t != t) = false := by simp
      have HS : Hid (Stay w wr) := hst
      clear hst
      go_wp2_with fail
      go_region
      go_wp2_with fail
      go_roundw
      case rel => exact ⟨Below.drew HS.out, k + 1, by omega, by simp⟩
      case measure => simp [intOf]; omega
    · obtain rfl : k = n := by omega
      have hge : ¬ (k : Int) < (k : Int) := by omega
      have HS : Hid (Stay w wr) := hst
      clear hst
      go_wp2
      go_ret
      exact ⟨rfl, HS.out⟩

set_option maxRecDepth 100000 in
set_option maxHeartbeats 2000000 in
theorem sameTexts_yes (w : World) (a1 a2 : Option Addr) (b1 b2 o1 o2 c1 c2 : Nat) (ts : List ByteArray) (h1 : RecS 1 encSt w a1 b1 o1 ts) (h2 : RecS 1 encSt w a2 b2 o2 ts) (hn : ts.length ≤ 140737488355328) :
    Calls Try.prog 11 #[.slice a1 ts.length c1, .slice a2 ts.length c2] w fun e w' => e = .returned (.bool true) ∧ Stay w w' := by
  have HH : Hid (RecS 1 encSt w a1 b1 o1 ts ∧ RecS 1 encSt w a2 b2 o2 ts) := ⟨h1, h2⟩
  have HA1 : Hid (0 < ts.length → a1 = some ⟨b1, o1, none⟩) := h1.1
  have HA2 : Hid (0 < ts.length → a2 = some ⟨b2, o2, none⟩) := h2.1
  clear h1 h2
  generalize hm : ts.length = n at *
  have HN : Hid (ts.length = n) := hm
  clear hm
  have hnn : ((n : Int) != (n : Int)) = false := by simp
  go_enter Try.func11, Try.ntmps11
  go_wp2
  go_loopw [5] (fun i wr => Stay w wr ∧ ∃ k : Nat, k ≤ n ∧ i = .int .i64 (k : Int)) (fun i _ => n - (intOf i).toNat)
  case atStart => exact ⟨Stay.refl _, 0, Nat.zero_le _, rfl⟩
  case round =>
    obtain ⟨hst, k, hk, rfl⟩ := hrel
    by_cases hlt : k < n
    · have hkt : k < ts.length := by rw [HN.out]; exact hlt
      have hki : (k : Int) < (n : Int) := by omega
      obtain rfl := HA1.out (by omega)
      obtain rfl := HA2.out (by omega)
      have p0 := (HH.out.1.stay hst).2 k hkt 0 _ rfl
      have q0 := (HH.out.2.stay hst).2 k hkt 0 _ rfl
      simp only [Nat.mul_one, Nat.add_zero] at p0 q0
      generalize ts[k] = t at *
      have hq : (t.toList != t.toList) = false := by simp
      have HS : Hid (Stay w wr) := hst
      clear hst
      go_wp2_with fail
      go_region
      go_wp2_with fail
      go_roundw
      case rel => exact ⟨Below.drew HS.out, k + 1, by omega, by simp⟩
      case measure => simp [intOf]; omega
    · obtain rfl : k = n := by omega
      have hge : ¬ (k : Int) < (k : Int) := by omega
      have HS : Hid (Stay w wr) := hst
      clear hst
      go_wp2
      go_ret
      exact ⟨rfl, HS.out⟩
theorem nvars (x : Ru) (V : World) (h : x.fit V) : Calls Try.prog 5 #[x.v] V fun e w' => ∃ a b c, e = .returned (.slice a (onceN (placesR x)).length c) ∧ RecS 1 encSt w' a b 0 (onceN (placesR x)) ∧ Stay V w' := by
  refine (sVars_any x V h).mono fun e w' ⟨a, c, he, hO, hs⟩ => ?_
  obtain ⟨va, b, vc, hv, hR, -⟩ := hO.form encStOk
  simp only [Value.slice.injEq] at hv
  obtain ⟨rfl, -, rfl⟩ := hv
  exact ⟨a, b, c, he, hR, hs⟩
theorem nbound (x : Ru) (V : World) (h : x.fit V) : Calls Try.prog 6 #[.slice x.a x.body.length x.cap] V fun e w' => ∃ a b c, e = .returned (.slice a (onceN (bindP x.body)).length c) ∧ RecS 1 encSt w' a b 0 (onceN (bindP x.body)) ∧ Stay V w' := by
  refine (sBound_any x V h).mono fun e w' ⟨a, c, he, hO, hs⟩ => ?_
  obtain ⟨va, b, vc, hv, hR, -⟩ := hO.form encStOk
  simp only [Value.slice.injEq] at hv
  obtain ⟨rfl, -, rfl⟩ := hv
  exact ⟨a, b, c, he, hR, hs⟩
theorem nway (x : Ru) (V : World) (h : x.fit V) : Calls Try.prog 7 #[x.v] V fun e w' => ∃ a b c, e = .returned (.tuple #[.slice a (wayL x.body).length c, .bool (wayOk x.body)]) ∧ RecS 1 encI w' a b 0 (wayL x.body) ∧ Stay V w' := by
  refine (way_any x V h).mono fun e w' ⟨a, c, he, hO, hs⟩ => ?_
  obtain ⟨va, b, vc, hv, hR, -⟩ := hO.form encIOk
  simp only [Value.slice.injEq] at hv
  obtain ⟨rfl, -, rfl⟩ := hv
  exact ⟨a, b, c, he, hR, hs⟩

theorem region_wpH {id : Nat} {P : Program} {os : List Oper} {Q : Exit → Act → World → Prop} {S : World → Prop} {a : Act} {w : World} (hm : P.follows .mixedOrders = true) (h : wpAnyH P .any os.toArray (normQ Q) S os.toArray.size (Array.replicate os.toArray.size false) a w.drew) : (Code.region id os.toArray true).wp P Q a w :=
  region_wp hm (wpAny_of_held _ _ _ _ h)
end Go.Proofs.Ytpnjmldbohecdaa
