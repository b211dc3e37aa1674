/- The document's table of layer 3: Probes. -/
import Derived.Test.YtdnophgcdnghkaaJ3h
namespace Go.Proofs.Ytdnophgcdnghkaa.I
open Go.RowKit Go.Maps Go.Proofs.Ytdnophgcdnghkaa

/-- Where the document's search from home on ends: at an empty place, or at the key's own. -/
structure PEnds (N home : Nat) (places : List Nat) (oi : Option Nat) (r : Nat) : Prop where
  lt : r < N
  past : ∀ q, q < N → dist N home q < dist N home r → ∃ t, places[q]? = some (t + 1) ∧ oi ≠ some t
  stop : places[r]? = some 0 ∨ ∃ t, places[r]? = some (t + 1) ∧ oi = some t
variable {w w' : World} {br : Nat} {way : Int} {a : Option Addr} {b c : Nat} {ps : List (Int × Int)} {size : Nat}
def ProbesR (w : World) (way : Int) (ps : List (Int × Int)) (N home : Nat) (oi : Option Nat) (e : Ending) (w' : World) : Prop :=
  (∃ (came : List E) (places : List Nat) (r : Nat), LayI way ps N ps.length came places ∧ PEnds N home places oi r ∧ e = .returned (.int .i64 ((dist N home r + 1 : Nat) : Int))) ∧ Stay w w'
theorem atZ_ne {oi : Option Nat} {t : Nat} (h : oi ≠ some t) : ((t : Int) != atZ oi) = true := by
  cases oi with
  | none => simp [atZ]
  | some i =>
    have : t ≠ i := fun e => h (by rw [e])
    simp [atZ]
    omega

set_option maxRecDepth 100000 in
set_option maxHeartbeats 1000000 in
theorem rProbes_any (h : RTab w br way a b c ps size) (key : Int) (hk : KeyOk key) (hn : ps.length < size) (hs : size ≤ 1099511627776) : Calls Try.prog 32 #[.pointer (some ⟨br, 0, none⟩), .int .i64 key] w (ProbesR w way ps size (hashOf way key % size) (atN way ps key)) := by
  have hat := rAt_any h key hk (by omega)
  obtain ⟨oi, hoi⟩ : ∃ oi, oi = atN way ps key := ⟨_, rfl⟩
  obtain ⟨home, hhome⟩ : ∃ home, home = hashOf way key % size := ⟨_, rfl⟩
  have hhl : home < size := by rw [hhome]; exact Nat.mod_lt _ (by omega)
  have hho := fun W (hW : Stay w W) => rhome_any (h.stay hW) key hk (by omega) (by omega)
  rw [← hoi] at hat ⊢
  rw [← hhome] at hho ⊢
  obtain ⟨R, hR⟩ : ∃ R, R = ProbesR w way ps size home oi := ⟨_, rfl⟩
  rw [← hR]
  have HR : Hid (R = ProbesR w way ps size home oi) := hR
  have HT : Hid (RTab w br way a b c ps size ∧ ps.length < size) := ⟨h, hn⟩
  obtain ⟨zi, hzi⟩ : ∃ zi, zi = atZ oi := ⟨_, rfl⟩
  have HZ : Hid (zi = atZ oi) := hzi
  rw [← hzi] at hat
  clear h hk hR hoi hhome hzi
  go_enter Try.func32, Try.ntmps32
  go_wp2_with (first
    | (go_at_call 45; refine hat.mono ?_; rintro e w1 ⟨rfl, s1⟩; have HS1 : Hid (Stay w w1) := s1; have hlay := rLayout_any (HT.out.1.stay s1) HT.out.2 (by omega); clear hat s1)
    | (go_at_call 39; refine hlay.mono ?_; rintro e w2 ⟨came, places, rfl, hrow, hI, hpl, s2⟩; have HL : Hid (LayRow w2 w1.heap.size (outL places) ∧ LayI way ps size ps.length came places ∧ places.length = size ∧ Stay w w2) := ⟨hrow, hI, hpl, HS1.out.trans s2⟩; have hho2 := hho w2 HL.out.2.2.2; clear hlay hrow hI hpl s2 hho)
    | (go_at_call 51; refine hho2.mono ?_; rintro e w3 ⟨rfl, s3⟩; have HS3 : Hid (Stay w2 w3) := s3; clear hho2 s3))
  obtain ⟨z, hz, hz0⟩ := zeros_ex (l := places) (by have := HL.out.2.1.free; omega)
  have HZ0 : Hid (places[z]? = some 0 ∧ z < size) := ⟨hz0, by have := HL.out.2.2.1; omega⟩
  clear hz hz0
  go_loopw [7, 8] (fun v u wr => ∃ s : Nat, u = .int .i64 (s : Int) ∧ v = .int .i64 ((dist size home s + 1 : Nat) : Int) ∧ (s < size ∧ ∀ q, q < size → dist size home q < dist size home s → ∃ t, places[q]? = some (t + 1) ∧ oi ≠ some t) ∧ wr = w3) (fun _ u _ => dist size home z - dist size home (intOf u).toNat)
  case atStart => exact ⟨home, rfl, by rw [dist_self]; rfl, ⟨hhl, fun q _ hd => by rw [dist_self] at hd; omega⟩, rfl⟩
  case round =>
    obtain ⟨s, rfl, rfl, ⟨hsl, hF⟩, hwr⟩ := hrel
    subst hwr
    rename World => w3
    have hsi : (s : Int) < (size : Int) := by omega
    have hdl := (dist_spec hhl hsl).1
    obtain ⟨p, hp⟩ : ∃ p, places[s]? = some p := ⟨_, List.getElem?_eq_getElem (by have := HL.out.2.2.1; omega)⟩
    obtain ⟨q0, -⟩ := (HL.out.1.stay HS3.out).cell (out_at hp)
    obtain ⟨-, -, e2⟩ := (HT.out.1.stay (HL.out.2.2.2.trans HS3.out)).cells
    have HE : Hid (places[s]? = some 0 ∨ (∃ t, places[s]? = some (t + 1) ∧ oi = some t) → R (.returned (.int .i64 ((dist size home s + 1 : Nat) : Int))) w3) := fun g => by
      rw [HR.out]
      exact ⟨⟨came, places, s, HL.out.2.1, ⟨hsl, hF, g⟩, rfl⟩, HL.out.2.2.2.trans HS3.out⟩
    cases p with
    | zero =>
      have HX := HE.out (.inl hp)
      rw [show (((0 : Nat) : Int) - 1) = -1 from rfl] at q0
      obtain ⟨D, hD⟩ : ∃ D, D = dist size home s + 1 := ⟨_, rfl⟩
      rw [← hD] at HX ⊢
      have HX2 : Hid (R (.returned (.int .i64 (D : Int))) w3) := HX
      clear HX HE hF hp e2 hD
      go_wp2_with fail
      exact HX2.out
    | succ t =>
      rw [show (((t + 1 : Nat) : Int) - 1) = (t : Int) by omega] at q0
      have ht0 : (0 : Int) ≤ (t : Int) := by omega
      by_cases hot : oi = some t
      · have HX := HE.out (.inr ⟨t, hp, hot⟩)
        have hzt : ((t : Int) != zi) = false := by rw [HZ.out, hot]; simp [atZ]
        obtain ⟨D, hD⟩ : ∃ D, D = dist size home s + 1 := ⟨_, rfl⟩
        rw [← hD] at HX ⊢
        have HX2 : Hid (R (.returned (.int .i64 (D : Int))) w3) := HX
        clear HX HE hF hp e2 hD hot
        go_wp2_with fail
        exact HX2.out
      · have hzt : ((t : Int) != zi) = true := by rw [HZ.out]; exact atZ_ne hot
        have hFull : Full size home places s := ⟨hsl, fun q hq hd => by obtain ⟨t', h1, -⟩ := hF q hq hd; exact ⟨t', h1⟩⟩
        obtain ⟨hF2, hd, hlz⟩ := hFull.next hhl HZ0.out.2 HZ0.out.1 hp
        have HF : Hid ((nx size s < size ∧ ∀ q, q < size → dist size home q < dist size home (nx size s) → ∃ t, places[q]? = some (t + 1) ∧ oi ≠ some t) ∧ dist size home (nx size s) = dist size home s + 1 ∧ dist size home s < dist size home z) := by
          refine ⟨⟨hF2.1, fun q hq hdq => ?_⟩, hd, hlz⟩
          rw [hd] at hdq
          rcases Nat.lt_or_eq_of_le (Nat.le_of_lt_succ hdq) with g | g
          · exact hF q hq g
          · have := dist_inj hhl hq hsl g
            subst this
            exact ⟨t, hp, hot⟩
        have hrl := (nx_spec hsl).1
        have e3 : ((s : Int) + 1).tmod (size : Int) = (nx size s : Int) := by rw [← nx_mod hsl]; rfl
        generalize nx size s = r at *
        obtain ⟨D, hD⟩ : ∃ D, D = dist size home s + 1 := ⟨_, rfl⟩
        have HD : Hid (D = dist size home s + 1) := hD
        rw [← hD]
        have e1 : IntKind.i64.wrap ((s : Int) + 1) = (s : Int) + 1 := by simp only [IntKind.wrap_i64]; omega
        have e6 : IntKind.i64.wrap ((D : Int) + 1) = (D : Int) + 1 := by simp only [IntKind.wrap_i64]; omega
        have e4 : IntKind.i64.wrap (r : Int) = (r : Int) := by simp only [IntKind.wrap_i64]; omega
        have e5 : ((size : Int) == 0) = false := by simp; omega
        clear hF2 hd hlz hp hF hFull HE hD hot
        go_wp2_with fail
        go_roundw
        case rel =>
          refine ⟨r, rfl, ?_, HF.out.1, by first | rfl | trivial⟩
          rw [HF.out.2.1, ← HD.out]
          simp
        case measure =>
          have := HF.out.2
          simp [intOf]
          omega
end Go.Proofs.Ytdnophgcdnghkaa.I
