/- The document's table of layer 3: Place, Probes. -/
import Derived.Test.YtdnophgcdnghkaaJ3g
namespace Go.Proofs.Ytdnophgcdnghkaa.I
open Go.RowKit Go.Maps Go.Proofs.Ytdnophgcdnghkaa

variable {w w' : World} {br : Nat} {way : Int} {a : Option Addr} {b c : Nat} {ps : List (Int × Int)} {size : Nat}
theorem out_at {places : List Nat} {s p : Nat} (hp : places[s]? = some p) : (outL places)[s]? = some (.int .i64 ((p : Int) - 1)) := by unfold outL; rw [List.getElem?_map, hp]; rfl
theorem LayI.place {n N : Nat} {came : List E} {places : List Nat} (h : LayI way ps N n came places) {i : Nat} (hi : i < n) (hn : n ≤ ps.length) : ∃ x : E, came[i]? = some x ∧ x.place < N ∧ places[x.place]? = some (i + 1) ∧ ∀ q, places[q]? = some (i + 1) → q = x.place := by
  obtain ⟨x, hx, -, hth⟩ := h.at (n := n) (ps := ps) (N := N) |> fun _ => (show ∃ e : E, came[i]? = some e ∧ e.hash = hashOf way (ps[i]'(by omega)).1 ∧ e.there = true from by
    have hl := h.sim.len
    rw [List.length_map] at hl
    have hlt : i < came.length := by omega
    have hip : i < ps.length := by omega
    refine ⟨came[i], List.getElem?_eq_getElem hlt, ?_⟩
    have hs := congrArg (fun l => l[i]?) h.sim
    simp only [List.getElem?_map, List.getElem?_eq_getElem hlt, List.getElem?_eq_getElem hip, Option.map_some, Option.some.injEq] at hs
    exact ⟨congrArg Ent.hash hs, congrArg Ent.there hs⟩)
  obtain ⟨reach, hL⟩ := h.lies
  obtain ⟨h1, h2⟩ := hL.here i x hi hx hth
  refine ⟨x, hx, h1, h2, fun q hq => ?_⟩
  obtain ⟨-, e, he, -, hpl⟩ := hL.back q i hq
  rw [hx] at he
  cases he
  exact hpl.symm
def PlaceR (w : World) (way : Int) (ps : List (Int × Int)) (N i : Nat) (e : Ending) (w' : World) : Prop :=
  (∃ (came : List E) (places : List Nat) (x : E), LayI way ps N ps.length came places ∧ came[i]? = some x ∧ e = .returned (.tuple #[.int .i64 (x.place : Int), .bool true])) ∧ Stay w w'

set_option maxRecDepth 100000 in
set_option maxHeartbeats 1000000 in
theorem rPlace_yes (h : RTab w br way a b c ps size) (key : Int) (hk : KeyOk key) (hn : ps.length < size) (hs : size ≤ 1099511627776) {i : Nat} (ho : atN way ps key = some i) : Calls Try.prog 30 #[.pointer (some ⟨br, 0, none⟩), .int .i64 key] w (PlaceR w way ps size i) := by
  have hat := rAt_any h key hk (by omega)
  rw [ho] at hat
  have hi := atN_lt ho
  obtain ⟨R, hR⟩ : ∃ R, R = PlaceR w way ps size i := ⟨_, rfl⟩
  rw [← hR]
  have HR : Hid (R = PlaceR w way ps size i) := hR
  have HT : Hid (RTab w br way a b c ps size ∧ ps.length < size) := ⟨h, hn⟩
  have hi0 : (0 : Int) ≤ (i : Int) := by omega
  dsimp only [atZ] at hat
  clear h ho hk hR
  go_enter Try.func30, Try.ntmps30
  go_wp2_with (first
    | (go_at_call 45; refine hat.mono ?_; rintro e w1 ⟨rfl, s1⟩; have HS1 : Hid (Stay w w1) := s1; have hlay := rLayout_any (HT.out.1.stay s1) HT.out.2 (by omega); clear hat s1)
    | (go_at_call 39; refine hlay.mono ?_; rintro e w2 ⟨came, places, rfl, hrow, hI, hpl, s2⟩; have HL : Hid (LayRow w2 w1.heap.size (outL places) ∧ LayI way ps size ps.length came places ∧ places.length = size ∧ Stay w1 w2) := ⟨hrow, hI, hpl, s2⟩; clear hlay hrow hI hpl s2))
  obtain ⟨x, hx, hxl, hxp, hxu⟩ := HL.out.2.1.place hi (Nat.le_refl _)
  have HX : Hid (came[i]? = some x ∧ places[x.place]? = some (i + 1) ∧ ∀ q, places[q]? = some (i + 1) → q = x.place) := ⟨hx, hxp, hxu⟩
  clear hx hxp hxu
  go_loopw [8] (fun u wr => ∃ j : Nat, j ≤ size ∧ u = .int .i64 (j : Int) ∧ (∀ q, q < j → places[q]? ≠ some (i + 1)) ∧ wr = w2) (fun u _ => size - (intOf u).toNat)
  case atStart => exact ⟨0, Nat.zero_le _, rfl, fun q hq => absurd hq (Nat.not_lt_zero _), rfl⟩
  case round =>
    obtain ⟨j, hj, rfl, hno, hwr⟩ := hrel
    subst hwr
    rename World => w2
    have hlt : j < size := by
      rcases Nat.lt_or_ge j size with g | g
      · exact g
      · exact absurd HX.out.2.1 (hno x.place (by omega))
    have hji : (j : Int) < (size : Int) := by omega
    obtain ⟨p, hp⟩ : ∃ p, places[j]? = some p := ⟨_, List.getElem?_eq_getElem (by have := HL.out.2.2.1; omega)⟩
    obtain ⟨q0, -⟩ := HL.out.1.cell (out_at hp)
    by_cases hpi : p = i + 1
    · have hv : ((p : Int) - 1) = (i : Int) := by omega
      rw [hv] at q0
      have hxj : j = x.place := HX.out.2.2 j (by rw [hp, hpi])
      have HE : Hid (R (.returned (.tuple #[.int .i64 (j : Int), .bool true])) w2) := by
        show R _ _
        rw [HR.out]
        exact ⟨⟨came, places, x, HL.out.2.1, HX.out.1, by rw [hxj]⟩, HS1.out.trans HL.out.2.2.2⟩
      have hii : ((i : Int) == (i : Int)) = true := by simp
      clear hv hxj hp hno hpi HR
      go_wp2_with fail
      exact HE.out
    · obtain ⟨v, hv⟩ : ∃ v, v = ((p : Int) - 1) := ⟨_, rfl⟩
      rw [← hv] at q0
      have hne : (v == (i : Int)) = false := by simp; omega
      have HN : Hid (∀ q, q < j + 1 → places[q]? ≠ some (i + 1)) := fun q hq e => by
        rcases Nat.lt_or_eq_of_le (Nat.le_of_lt_succ hq) with g | g
        · exact hno q g e
        · subst g
          rw [hp] at e
          exact hpi (Option.some.inj e)
      clear hv hp hno hpi
      go_wp2_with fail
      go_roundw
      case rel => exact ⟨j + 1, by omega, by simp, HN.out, by first | rfl | trivial⟩
      case measure => simp [intOf]; omega
set_option maxRecDepth 100000 in
set_option maxHeartbeats 1000000 in
theorem rPlace_no (h : RTab w br way a b c ps size) (key : Int) (hk : KeyOk key) (hn : ps.length < size) (hs : size ≤ 1099511627776) (ho : atN way ps key = none) : Calls Try.prog 30 #[.pointer (some ⟨br, 0, none⟩), .int .i64 key] w fun e w' => e = .returned (.tuple #[.int .i64 0, .bool false]) ∧ Stay w w' := by
  have hat := rAt_any h key hk (by omega)
  rw [ho] at hat
  obtain ⟨R, hR⟩ : ∃ R : Ending → World → Prop, R = fun e w' => e = .returned (.tuple #[.int .i64 0, .bool false]) ∧ Stay w w' := ⟨_, rfl⟩
  rw [← hR]
  have HR : Hid (R = fun e w' => e = .returned (.tuple #[.int .i64 0, .bool false]) ∧ Stay w w') := hR
  have HT : Hid (RTab w br way a b c ps size ∧ ps.length < size) := ⟨h, hn⟩
  have hsi : (0 : Int) < (size : Int) := by omega
  dsimp only [atZ] at hat
  clear h ho hk hR
  go_enter Try.func30, Try.ntmps30
  go_wp2_with (first
    | (go_at_call 45; refine hat.mono ?_; rintro e w1 ⟨rfl, s1⟩; have HS1 : Hid (Stay w w1) := s1; have hlay := rLayout_any (HT.out.1.stay s1) HT.out.2 (by omega); clear hat s1)
    | (go_at_call 39; refine hlay.mono ?_; rintro e w2 ⟨came, places, rfl, hrow, hI, hpl, s2⟩; have HS2 : Hid (Stay w w2) := HS1.out.trans s2; clear hlay hrow hI hpl s2))
  go_loopw [8] (fun u wr => u = .int .i64 ((0 : Nat) : Int) ∧ wr = w2) (fun u _ => 0)
  case atStart => exact ⟨rfl, rfl⟩
  case round =>
    obtain ⟨rfl, hwr⟩ := hrel
    subst hwr
    rename World => w2
    go_wp2_with fail
    show R _ _
    rw [HR.out]
    exact ⟨rfl, HS2.out⟩
end Go.Proofs.Ytdnophgcdnghkaa.I
