/- The document's table of layer 3 in memory: its pairs in the order in which they came; where a key stands among them. -/
import Derived.Test.YtdnophgcdnghkaaIFi
import Derived.Test.YtdnophgcdnghkaaCR
import Derived.Test.YtdnophgcdnghkaaIT
namespace Go.Proofs.Ytdnophgcdnghkaa.I
open Go.RowKit Go.Maps

def encPr (p : Int × Int) : List Value := [.int .i64 p.1, .int .i64 p.2]
theorem encPrOk : EncOk 2 encPr := ⟨fun _ => rfl, fun _ u hu => by simp [encPr] at hu; rcases hu with rfl | rfl <;> rfl, by decide⟩
theorem infoPr : (Try.prog.info? 77).map (fun i => (i.zero, i.size, i.bytes)) = some (some (.agg #[.int .i64 0, .int .i64 0]), 2, 16) := by kernel_rfl
/-- Which of the pairs has the key. -/
def atN (way : Int) (ps : List (Int × Int)) (key : Int) : Option Nat := ps.findIdx? (fun p => sameOf way p.1 key)
def atZ : Option Nat → Int
  | some i => (i : Int)
  | none => -1
theorem atN_some {way : Int} {ps : List (Int × Int)} {key : Int} {j : Nat} (hj : j < ps.length) (hs : sameOf way ps[j].1 key = true) (hno : ∀ k (h : k < j), sameOf way (ps[k]'(by omega)).1 key = false) : atN way ps key = some j := by
  unfold atN
  rw [List.findIdx?_eq_some_iff_getElem]
  exact ⟨hj, hs, fun k hk => by simp [hno k hk]⟩
theorem atN_none {way : Int} {ps : List (Int × Int)} {key : Int} (hno : ∀ k (h : k < ps.length), sameOf way ps[k].1 key = false) : atN way ps key = none := by
  unfold atN
  rw [List.findIdx?_eq_none_iff]
  intro p hp
  obtain ⟨k, hk, rfl⟩ := List.mem_iff_getElem.1 hp
  simp [hno k hk]

/-- The document's table: a box with the way, the pairs and the size; the pairs lie in a row of their own. -/
structure RTab (w : World) (br : Nat) (way : Int) (a : Option Addr) (b c : Nat) (ps : List (Int × Int)) (size : Nat) : Prop where
  box : w.heap[br]? = some (.cells #[.int .i64 way, .slice a ps.length c, .int .i64 (size : Int)] 54 (0, 0))
  own : OwnR 77 2 encPr 0 w (.slice a ps.length c) ps
  at0 : 0 < ps.length → a = some ⟨b, 0, none⟩
  apart : (Value.slice a ps.length c).ownBlock ≠ some br
  keys : ∀ p ∈ ps, KeyOk p.1 ∧ KeyOk p.2
  wayOk : KeyOk way
variable {w w' : World} {br : Nat} {way : Int} {a : Option Addr} {b c : Nat} {ps : List (Int × Int)} {size : Nat}
theorem RTab.stay (h : RTab w br way a b c ps size) (hs : Stay w w') : RTab w' br way a b c ps size :=
  ⟨(hs.block br (Array.getElem?_eq_some_iff.1 h.box).1).trans h.box, h.own.stay hs, h.at0, h.apart, h.keys, h.wayOk⟩
theorem RTab.recs (h : RTab w br way a b c ps size) : RecS 2 encPr w a b 0 ps := by
  obtain ⟨a1, b1, c1, hv, hR, -, hp, -⟩ := h.own.form encPrOk
  simp only [Value.slice.injEq] at hv
  obtain ⟨rfl, -, rfl⟩ := hv
  rcases Nat.eq_zero_or_pos ps.length with h0 | h0
  · exact ⟨fun h1 => by omega, fun j hj => by omega⟩
  · have e1 := hp h0
    have e2 := h.at0 h0
    rw [e1] at e2
    simp only [Option.some.injEq, Addr.mk.injEq] at e2
    obtain ⟨rfl, -⟩ := e2
    exact hR
theorem RTab.cells (h : RTab w br way a b c ps size) : w.cell? ⟨br, 0, none⟩ = some (.int .i64 way) ∧ w.cell? ⟨br, 1, none⟩ = some (.slice a ps.length c) ∧ w.cell? ⟨br, 2, none⟩ = some (.int .i64 (size : Int)) := by
  simp [World.cell?, h.box]

set_option maxRecDepth 100000 in
set_option maxHeartbeats 2000000 in
theorem rAt_any (h : RTab w br way a b c ps size) (key : Int) (hk : KeyOk key) (hn : ps.length ≤ 1099511627776) : Calls Try.prog 45 #[.pointer (some ⟨br, 0, none⟩), .int .i64 key] w fun e w' => e = .returned (.int .i64 (atZ (atN way ps key))) ∧ Stay w w' := by
  obtain ⟨rv, hrv⟩ : ∃ rv, rv = atZ (atN way ps key) := ⟨_, rfl⟩
  rw [← hrv]
  have HV : Hid (rv = atZ (atN way ps key)) := hrv
  have HT : Hid (RTab w br way a b c ps size) := h
  obtain ⟨n, hn'⟩ : ∃ n, n = ps.length := ⟨_, rfl⟩
  have HN : Hid (n = ps.length) := hn'
  have hsm := fun j (hj : j < ps.length) W => rsame_any W way ps[j].1 key h.wayOk (h.keys _ (List.getElem_mem hj)).1 hk
  rw [← hn'] at hn
  clear h hrv hn'
  go_enter Try.func45, Try.ntmps45
  go_wp2
  go_loopw [5] (fun u wr => ∃ j : Nat, j ≤ n ∧ u = .int .i64 (j : Int) ∧ (∀ k, k < j → ∀ h : k < ps.length, sameOf way ps[k].1 key = false) ∧ Stay w wr) (fun u _ => n - (intOf u).toNat)
  case atStart => exact ⟨0, Nat.zero_le _, rfl, fun k hk => absurd hk (Nat.not_lt_zero _), Stay.refl _⟩
  case round =>
    obtain ⟨j, hj, rfl, hno, hst⟩ := hrel
    obtain ⟨c0, c1, c2⟩ := (HT.out.stay hst).cells
    rw [← HN.out] at c1
    have HS : Hid (Stay w wr ∧ ∀ k, k < j → ∀ h : k < ps.length, sameOf way ps[k].1 key = false) := ⟨hst, hno⟩
    clear hno
    by_cases hlt : j < n
    · have hki : (j : Int) < (n : Int) := by omega
      have hjl : j < ps.length := by have := HN.out; omega
      obtain rfl := HT.out.at0 (by omega)
      have d0 := (HT.out.stay hst).recs.2 j hjl 0 _ rfl
      rw [Nat.zero_add, Nat.add_zero] at d0
      have hs := hsm j hjl
      clear hsm hst
      generalize hp : ps[j] = p at *
      obtain ⟨p1, p2⟩ := p
      dsimp only at *
      have HP : Hid (ps[j] = (p1, p2)) := hp
      clear hp
      cases hc : sameOf way p1 key
      · rw [hc] at hs
        go_wp2_with fail
        go_quiet ((first | (go_at_call 23; exact Calls.quiet_of_same (hs _))))
        go_wp2_with fail
        go_roundw
        case rel =>
          refine ⟨j + 1, by omega, by simp, fun k hk hkl => ?_, HS.out.1.trans (Stay.drewN _ _)⟩
          rcases Nat.lt_or_eq_of_le (Nat.le_of_lt_succ hk) with g | g
          · exact HS.out.2 k g hkl
          · subst g
            rw [HP.out]
            exact hc
        case measure => simp [intOf]; omega
      · rw [hc] at hs
        have HX : Hid (rv = (j : Int)) := by
          show _ = _
          rw [HV.out, atN_some hjl (by rw [HP.out]; exact hc) (fun k hk => HS.out.2 k hk (by omega))]
          rfl
        go_wp2_with fail
        go_quiet ((first | (go_at_call 23; exact Calls.quiet_of_same (hs _))))
        go_wp2_with fail
        go_ret
        exact ⟨by rw [HX.out]; rfl, HS.out.1.trans (Stay.drewN _ _)⟩
    · obtain rfl : n = j := by omega
      have HX : Hid (rv = -1) := by
        show _ = _
        rw [HV.out, atN_none (fun k hk => HS.out.2 k (by have := HN.out; omega) hk)]
        rfl
      clear hsm hst
      go_wp2_with fail
      go_ret
      exact ⟨by rw [HX.out]; rfl, HS.out.1⟩
end Go.Proofs.Ytdnophgcdnghkaa.I
