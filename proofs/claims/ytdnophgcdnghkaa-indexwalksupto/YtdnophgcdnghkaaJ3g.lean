/- The document's table of layer 3: Layout: the walk. -/
import Derived.Test.YtdnophgcdnghkaaJ3f
namespace Go.Proofs.Ytdnophgcdnghkaa.I
open Go.RowKit Go.Maps Go.Proofs.Ytdnophgcdnghkaa

variable {w w' : World} {br : Nat} {way : Int} {a : Option Addr} {b c : Nat} {ps : List (Int × Int)} {size : Nat}
def LayR (w : World) (way : Int) (ps : List (Int × Int)) (N : Nat) (e : Ending) (w' : World) : Prop :=
  ∃ came places, e = .returned (.slice (some ⟨w.heap.size, 0, none⟩) N N) ∧ LayRow w' w.heap.size (outL places) ∧ LayI way ps N ps.length came places ∧ places.length = N ∧ Stay w w'
theorem stay_set {w0 W : World} (h : Stay w0 W) {j : Nat} (v : Value) : Stay w0 (W.setCell ⟨w0.heap.size, j, none⟩ v) := Below.setCell h (p := ⟨w0.heap.size, j, none⟩) (Nat.le_refl _) v
theorem out_start {L : List Value} {N : Nat} (hl : L.length = N) (h : ∀ q, q < N → L[q]? = some (.int .i64 (-1))) : L = outL (List.replicate N 0) := by
  apply List.ext_getElem?
  intro q
  by_cases hq : q < N
  · rw [h q hq]
    simp [outL, hq]
  · rw [List.getElem?_eq_none (by omega), List.getElem?_eq_none (by simp [outL]; omega)]

set_option maxRecDepth 100000 in
set_option maxHeartbeats 2000000 in
theorem rLayout_any (h : RTab w br way a b c ps size) (hn : ps.length < size) (hs : size ≤ 4398046511104) : Calls Try.prog 39 #[.pointer (some ⟨br, 0, none⟩)] w (LayR w way ps size) := by
  obtain ⟨R, hR⟩ : ∃ R, R = LayR w way ps size := ⟨_, rfl⟩
  rw [← hR]
  have HR : Hid (R = LayR w way ps size) := hR
  have HT : Hid (RTab w br way a b c ps size) := h
  obtain ⟨n, hn'⟩ : ∃ n, n = ps.length := ⟨_, rfl⟩
  have HN : Hid (n = ps.length) := hn'
  rw [← hn'] at hn
  obtain ⟨c0, c1, c2⟩ := h.cells
  have hmk := run_makeSpots size (by omega) w
  have HL0 : Hid (LayRow (w.alloc (.cells ((List.replicate size 0).map fun (p : Nat) => Value.int .i64 (p : Int)).toArray 3)) w.heap.size ((List.replicate size 0).map fun (p : Nat) => Value.int .i64 (p : Int))) := heap_new _ _
  generalize hL : ((List.replicate size 0).map fun (p : Nat) => Value.int .i64 (p : Int)) = L0 at *
  have HL1 : Hid (L0.length = size) := by show _ = _; rw [← hL]; simp
  clear h hR hn' hL
  go_enter Try.func39, Try.ntmps39
  go_wp2_with fail
  clear c0 c1 c2 hmk
  go_loopw [4] (fun u wr => ∃ (k : Nat) (L : List Value), k ≤ size ∧ u = .int .i64 (k : Int) ∧ LayRow wr w.heap.size L ∧ L.length = size ∧ (∀ q, q < k → L[q]? = some (.int .i64 (-1))) ∧ Stay w wr) (fun u _ => size - (intOf u).toNat)
  case atStart => exact ⟨0, L0, Nat.zero_le _, rfl, HL0.out, HL1.out, fun q hq => absurd hq (Nat.not_lt_zero _), Stay.new _ _⟩
  case round =>
    obtain ⟨k, L, hk, rfl, hrow, hlen, hall, hst⟩ := hrel
    by_cases hlt : k < size
    · have hki : (k : Int) < (size : Int) := by omega
      obtain ⟨q0, q1⟩ := hrow.cell (List.getElem?_eq_getElem (show k < L.length by omega))
      have HX : Hid (LayRow (wr.setCell ⟨w.heap.size, k, none⟩ (.int .i64 (-1))) w.heap.size (L.set k (.int .i64 (-1))) ∧ (L.set k (.int .i64 (-1))).length = size ∧ (∀ q, q < k + 1 → (L.set k (.int .i64 (-1)))[q]? = some (.int .i64 (-1))) ∧ Stay w (wr.setCell ⟨w.heap.size, k, none⟩ (.int .i64 (-1)))) := by
        refine ⟨hrow.set _ _, by rw [List.length_set]; exact hlen, fun q hq => ?_, stay_set hst _⟩
        rw [List.getElem?_set]
        split
        · rename_i e; subst e; rw [if_pos (by omega)]
        · exact hall q (by omega)
      generalize L[k] = lk at *
      clear hrow hall hst
      go_wp2_with fail
      go_roundw
      case rel => exact ⟨k + 1, _, by omega, by simp, HX.out⟩
      case measure => simp [intOf]; omega
    · obtain rfl : size = k := by omega
      have HX : Hid (LayRow wr w.heap.size (outL (List.replicate size 0)) ∧ Stay w wr) := ⟨by rw [← out_start hlen hall]; exact hrow, hst⟩
      clear hrow hlen hall hst
      rename World => w2
      go_wp2_with fail
      go_loopw [5] (fun u wr => ∃ (i : Nat) (came : List E) (places : List Nat), i ≤ n ∧ u = .int .i64 (i : Int) ∧ LayI way ps size i came places ∧ LayRow wr w.heap.size (outL places) ∧ places.length = size ∧ Stay w wr) (fun u _ => n - (intOf u).toNat)
      case atStart => exact ⟨0, _, _, Nat.zero_le _, rfl, LayI.start way ps size, HX.out.1, by simp, HX.out.2⟩
      case round =>
        clear HX
        obtain ⟨i, came, places, hi, rfl, hI, hrow, hpl, hst⟩ := hrel
        rename World => wa
        obtain ⟨c0, c1, c2⟩ := (HT.out.stay hst).cells
        rw [← HN.out] at c1
        by_cases hlt2 : i < n
        · have hii : (i : Int) < (n : Int) := by omega
          have hil : i < ps.length := by have := HN.out; omega
          obtain ⟨rfl, d0, d1⟩ := (HT.out.stay hst).pair hil
          have hho := rhome_any (HT.out.stay hst) ps[i].1 (HT.out.keys _ (List.getElem_mem hil)).1 (by omega) hs
          obtain ⟨home, hhome⟩ : ∃ home, home = hashOf way ps[i].1 % size := ⟨_, rfl⟩
          rw [← hhome] at hho
          have hhl : home < size := by rw [hhome]; exact Nat.mod_lt _ (by omega)
          obtain ⟨z, hz, hz0⟩ := zeros_ex (l := places) (by have := hI.free; omega)
          have HI : Hid (LayI way ps size i came places ∧ LayRow wa w.heap.size (outL places) ∧ places.length = size ∧ Stay w wa ∧ home = hashOf way ps[i].1 % size ∧ places[z]? = some 0 ∧ z < size) := ⟨hI, hrow, hpl, hst, hhome, hz0, by omega⟩
          generalize ps[i] = p at hho d0 d1
          obtain ⟨p1, p2⟩ := p
          dsimp only at hho d0 d1
          clear hI hrow hpl hst hhome hz0 hz
          go_wp2_with (go_at_call 51; refine hho.mono ?_; rintro e w9 ⟨rfl, s9⟩; have HS9 : Hid (Stay wa w9) := s9; clear s9 hho c0 c1 d0 d1)
          go_loopw [6] (fun u wr => ∃ s : Nat, u = .int .i64 (s : Int) ∧ Full size home places s ∧ wr = w9) (fun u _ => dist size home z - dist size home (intOf u).toNat)
          case atStart => exact ⟨home, rfl, Full.start _ hhl, rfl⟩
          case round =>
            obtain ⟨s, rfl, hF, hwr⟩ := hrel
            subst hwr
            rename World => w9
            have hsl := hF.1
            have hsi : (s : Int) < (size : Int) := by omega
            obtain ⟨p, hp⟩ : ∃ p, places[s]? = some p := ⟨_, List.getElem?_eq_getElem (by have := HI.out.2.2.1; omega)⟩
            have hol : (outL places)[s]? = some (.int .i64 ((p : Int) - 1)) := by unfold outL; rw [List.getElem?_map, hp]; rfl
            obtain ⟨q0, q1⟩ := (HI.out.2.1.stay HS9.out).cell hol
            obtain ⟨-, -, e2⟩ := (HT.out.stay (HI.out.2.2.2.1.trans HS9.out)).cells
            cases p with
            | zero =>
              obtain ⟨came', hI'⟩ := HI.out.1.lay hil (r := s) (by rw [← HI.out.2.2.2.2.1]; exact ⟨hF.1, hp, hF.2⟩)
              have HX : Hid (LayI way ps size (i + 1) came' (places.set s (i + 1)) ∧ LayRow (w9.setCell ⟨w.heap.size, s, none⟩ (.int .i64 (i : Int))) w.heap.size (outL (places.set s (i + 1))) ∧ (places.set s (i + 1)).length = size ∧ Stay w (w9.setCell ⟨w.heap.size, s, none⟩ (.int .i64 (i : Int)))) :=
                ⟨hI', by rw [← outL_set]; exact (HI.out.2.1.stay HS9.out).set _ _, by rw [List.length_set]; exact HI.out.2.2.1, stay_set (HI.out.2.2.2.1.trans HS9.out) _⟩
              rw [show (((0 : Nat) : Int) - 1) = -1 from rfl] at q0
              clear hI' hol hp hF e2 HI
              go_wp2_with fail
              go_roundw
              case rel => exact ⟨i + 1, came', _, by omega, by simp, HX.out⟩
              case measure => simp [intOf]; omega
            | succ t =>
              obtain ⟨hF2, hd, hlz⟩ := hF.next hhl HI.out.2.2.2.2.2.2 HI.out.2.2.2.2.2.1 hp
              have HF : Hid (Full size home places (nx size s) ∧ dist size home (nx size s) = dist size home s + 1 ∧ dist size home s < dist size home z) := ⟨hF2, hd, hlz⟩
              have hrl := (nx_spec hsl).1
              have e3 : ((s : Int) + 1).tmod (size : Int) = (nx size s : Int) := by rw [← nx_mod hsl]; rfl
              generalize nx size s = r at *
              rw [show (((t + 1 : Nat) : Int) - 1) = (t : Int) by omega] at q0
              have ht0 : (0 : Int) ≤ (t : Int) := by omega
              have e1 : IntKind.i64.wrap ((s : Int) + 1) = (s : Int) + 1 := by simp only [IntKind.wrap_i64]; omega
              have e4 : IntKind.i64.wrap (r : Int) = (r : Int) := by simp only [IntKind.wrap_i64]; omega
              have e5 : ((size : Int) == 0) = false := by simp; omega
              clear hF2 hd hlz hol hp hF q1
              go_wp2_with fail
              go_roundw
              case rel => exact ⟨r, rfl, HF.out.1, by first | rfl | trivial⟩
              case measure =>
                have := HF.out.2
                simp [intOf]
                omega
        · obtain rfl : n = i := by omega
          have HX : Hid (R (.returned (.slice (some ⟨w.heap.size, 0, none⟩) size size)) wa) := by
            show R _ _
            rw [HR.out]
            rw [HN.out] at hI
            exact ⟨came, places, rfl, hrow, hI, hpl, hst⟩
          clear hI hrow hst HR
          go_wp2_with fail
          exact HX.out
end Go.Proofs.Ytdnophgcdnghkaa.I
