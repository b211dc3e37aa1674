/- The document's table of layer 3: Get, Put, New. -/
import Derived.Test.YtdnophgcdnghkaaJ3a
import Derived.OwnWalk
namespace Go.Proofs.Ytdnophgcdnghkaa.I
open Go.RowKit Go.Maps

theorem atN_lt {way : Int} {ps : List (Int × Int)} {key : Int} {i : Nat} (h : atN way ps key = some i) : i < ps.length := by
  unfold atN at h
  rw [List.findIdx?_eq_some_iff_getElem] at h
  exact h.1
/-- What Get tells. -/
def getV (ps : List (Int × Int)) : Option Nat → Int
  | some i => (ps[i]?.getD (0, 0)).2
  | none => 0
variable {w w' : World} {br : Nat} {way : Int} {a : Option Addr} {b c : Nat} {ps : List (Int × Int)} {size : Nat}
theorem RTab.pair (h : RTab w br way a b c ps size) {i : Nat} (hi : i < ps.length) : a = some ⟨b, 0, none⟩ ∧ w.cell? ⟨b, i * 2, none⟩ = some (.int .i64 ps[i].1) ∧ w.cell? ⟨b, i * 2 + 1, none⟩ = some (.int .i64 ps[i].2) := by
  have h0 := h.recs.2 i hi 0 _ rfl
  have h1 := h.recs.2 i hi 1 _ rfl
  rw [Nat.zero_add, Nat.add_zero] at h0
  rw [Nat.zero_add] at h1
  exact ⟨h.at0 (by omega), h0, h1⟩

set_option maxRecDepth 100000 in
theorem rGet_any (h : RTab w br way a b c ps size) (key : Int) (hk : KeyOk key) (hn : ps.length ≤ 1099511627776) : Calls Try.prog 26 #[.pointer (some ⟨br, 0, none⟩), .int .i64 key] w fun e w' => e = .returned (.tuple #[.int .i64 (getV ps (atN way ps key)), .bool (atN way ps key).isSome]) ∧ Stay w w' := by
  have hat := rAt_any h key hk hn
  cases ho : atN way ps key with
  | none =>
    rw [ho] at hat
    dsimp only [atZ, getV, Option.isSome] at hat ⊢
    clear h
    go_enter Try.func26, Try.ntmps26
    go_wp2_with (go_at_call 45; refine hat.mono ?_; rintro e w1 ⟨rfl, s1⟩)
    go_ret2
    exact ⟨rfl, s1⟩
  | some i =>
    rw [ho] at hat
    have hi := atN_lt ho
    dsimp only [atZ, getV, Option.isSome] at hat ⊢
    rw [List.getElem?_eq_getElem hi, Option.getD_some]
    have HT : Hid (RTab w br way a b c ps size) := h
    have hi0 : ¬ ((i : Int) < 0) := by omega
    have hii : (i : Int) < (ps.length : Int) := by omega
    clear h ho hk
    go_enter Try.func26, Try.ntmps26
    go_wp2_with (go_at_call 45; refine hat.mono ?_; rintro e w1 ⟨rfl, s1⟩; obtain ⟨c0, c1, c2⟩ := (HT.out.stay s1).cells; obtain ⟨rfl, d0, d1⟩ := (HT.out.stay s1).pair hi)
    go_ret2
    exact ⟨rfl, s1⟩

theorem row_setR {base : Nat} {w : World} {e : TypeId} {m G n k c : Nat} {xs : List Value} (h : w.ownsRow base e m (.slice (some ⟨G, 0, none⟩) n c) k xs) (hk : xs.length = k * m) (j : Nat) (x : Value) : (w.setCell ⟨G, j, none⟩ x).ownsRow base e m (.slice (some ⟨G, 0, none⟩) n c) k (xs.set j x) := by
  refine ⟨by rw [List.length_set]; exact h.1, ?_⟩
  rcases h.2 with ⟨hv, hl⟩ | ⟨g, cap, cur, hv, hb, hh, h1, h2, h3, h4⟩
  · cases hv
  · simp only [Value.slice.injEq, Option.some.injEq, Addr.mk.injEq, and_true] at hv
    obtain ⟨rfl, rfl, rfl⟩ := hv
    refine .inr ⟨G, c, _, rfl, hb, heap_setCell_same w G j cur _ _ hh, h1, h2, by simpa using h3, ?_⟩
    rw [Array.toList_setIfInBounds, List.take_set, h4]
theorem cells_setV : ∀ (ps : List (Int × Int)) (i : Nat) (hi : i < ps.length) (v : Int), cellsR encPr (ps.set i (ps[i].1, v)) = (cellsR encPr ps).set (i * 2 + 1) (.int .i64 v)
  | p :: ps, 0, _, v => by simp [cellsR, encPr]
  | p :: ps, i + 1, hi, v => by
    have ih := cells_setV ps i (by simpa using hi) v
    rw [show (i + 1) * 2 + 1 = (i * 2 + 1) + 2 by omega]
    simp only [cellsR, List.flatMap_cons, List.set_cons_succ, List.getElem_cons_succ] at ih ⊢
    rw [ih]
    simp [encPr]
theorem own_frozen {base : Nat} {v : Value} (h : OwnR 77 2 encPr base w v ps) {G n k : Nat} (hv : v = .slice (some ⟨G, 0, none⟩) n k) (j : Nat) : w.frozen? ⟨G, j, none⟩ = false := by
  subst hv
  rcases h.2 with ⟨hv, hl⟩ | ⟨g, cap, cur, hv, hb, hh, h1, h2, h3, h4⟩
  · cases hv
  · simp only [Value.slice.injEq, Option.some.injEq, Addr.mk.injEq, and_true] at hv
    obtain ⟨rfl, rfl, rfl⟩ := hv
    simp [World.frozen?, hh]
end Go.Proofs.Ytdnophgcdnghkaa.I
