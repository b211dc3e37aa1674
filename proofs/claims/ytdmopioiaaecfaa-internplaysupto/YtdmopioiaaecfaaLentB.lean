/- lentInts, leftTexts, leftInts, place: small helpers of the statements. -/
import Derived.Test.YtdmopioiaaecfaaCopy
namespace Go.Proofs.Ytdmopioiaaecfaa
open Go.RowKit Go.Maps

def imark : Value := .int .i64 (-77)

set_option maxRecDepth 100000 in
set_option maxHeartbeats 400000 in
theorem lentI_some (w : World) (ad : Addr) (cap : Nat) (xs : List Value) (hx : ∀ j u, xs[j]? = some u → w.cell? (ad.add j) = some u) (h1 : ∀ u ∈ xs, u.oneCell' = true) (hb : (xs.length + 2) * 8 ≤ 140737488355328) :
    Calls Try.prog 53 #[.slice (some ad) xs.length cap] w fun e w' => ∃ b c, e = .returned (.slice (some ⟨b, 0, none⟩) xs.length c) ∧
      w'.ownsRow w.heap.size 3 1 (.slice (some ⟨b, 0, none⟩) (xs.length + 2) c) (xs.length + 2) (xs ++ [imark, imark]) ∧ Below w.heap.size w w' := by
  obtain ⟨i0, hi, hz0, hz1, hz2⟩ := info_parts info3
  have HX : Hid (∀ j u, xs[j]? = some u → w.cell? (ad.add j) = some u) := hx
  have H1 : Hid (∀ u ∈ xs, u.oneCell' = true) := h1
  have hr0 := World.ownsRow_nil w w.heap.size 3 1
  clear hx h1
  go_enter Try.func53, Try.ntmps53
  go_wp2_with (first | (at_builtin; refine wpList_append_own _ rfl _ _ 31 rfl w.heap.size 3 i0 _ 1 8 Try.underlying31 hi hz0 hz1 hz2 rfl (by decide) (.slice none 0 0) 0 [] rfl hr0 ad xs.length cap xs rfl (by simp) HX.out H1.out (by unfold maxLen; omega) (by omega) (Nat.le_refl _) ?_; intro v1 w1 hown1 hg1 hn1; rw [Nat.zero_add, List.nil_append] at hown1; have HB1 : Hid (Below w.heap.size w w1) := (Below.refl _ _).grown hg1 (Nat.le_refl _) (fun k e => by simp [Value.ownBlock] at e); have hs1 := HB1.out.size; clear hg1 hn1 hr0) | (at_builtin; (refine wpList_append_own _ rfl _ _ 31 rfl w.heap.size 3 i0 _ 1 8 Try.underlying31 hi hz0 hz1 hz2 rfl (by decide) v1 xs.length xs rfl (hown1.alloc _) ⟨w1.heap.size, 0, none⟩ 2 2 [imark, imark] rfl rfl (new_cells w1 [imark, imark] 3) (by simp [imark, Value.oneCell']) (by unfold maxLen; omega) (by omega) (by rw [World.size_alloc]; omega) ?_; intro v2 w2 hown2 hg2 hn2; obtain ⟨b, c, rfl⟩ := ownsRow_succ hown2; obtain ⟨hb1, hb2, hb3⟩ := rowBound hown2 rfl; have hc2 : ((xs.length : Nat) : Int) ≤ (c : Int) := (by omega); have HR : Hid (w2.ownsRow w.heap.size 3 1 (.slice (some ⟨b, 0, none⟩) (xs.length + 2) c) (xs.length + 2) (xs ++ [imark, imark]) ∧ Below w.heap.size w w2) := ⟨hown2, (HB1.out.alloc hs1 _).grown hg2 (by rw [World.size_alloc]; omega) (fun k e => (hown1.lt k e).1)⟩; unfold maxLen at hb3; clear hown2 hg2 hn2 hown1 hs1)))
  go_ret
  exact ⟨b, c, rfl, HR.out⟩

set_option maxRecDepth 100000 in
set_option maxHeartbeats 400000 in
theorem lentI_nil (w : World) : Calls Try.prog 53 #[.slice none 0 0] w fun e w' => ∃ b c, e = .returned (.slice (some ⟨b, 0, none⟩) 0 c) ∧
      w'.ownsRow w.heap.size 3 1 (.slice (some ⟨b, 0, none⟩) 2 c) 2 [imark, imark] ∧ Below w.heap.size w w' := by
  obtain ⟨i0, hi, hz0, hz1, hz2⟩ := info_parts info3
  have hr0 := World.ownsRow_nil w w.heap.size 3 1
  go_enter Try.func53, Try.ntmps53
  go_wp2_with (at_builtin; refine wpList_append_own _ rfl _ _ 31 rfl w.heap.size 3 i0 _ 1 8 Try.underlying31 hi hz0 hz1 hz2 rfl (by decide) (.slice none 0 0) 0 [] rfl (hr0.alloc _) ⟨w.heap.size, 0, none⟩ 2 2 [imark, imark] rfl rfl (new_cells w [imark, imark] 3) (by simp [imark, Value.oneCell']) (by unfold maxLen; omega) (by omega) (by rw [World.size_alloc]; omega) ?_; intro v2 w2 hown2 hg2 hn2; obtain ⟨b, c, rfl⟩ := ownsRow_succ hown2; obtain ⟨hb1, hb2, hb3⟩ := rowBound hown2 rfl; have HR : Hid (w2.ownsRow w.heap.size 3 1 (.slice (some ⟨b, 0, none⟩) 2 c) 2 [imark, imark] ∧ Below w.heap.size w w2) := ⟨hown2, ((Below.refl _ w).alloc (Nat.le_refl _) _).grown hg2 (by rw [World.size_alloc]; omega) (fun k e => (by simp [Value.ownBlock] at e))⟩; unfold maxLen at hb3; clear hown2 hg2 hn2)
  go_ret
  exact ⟨b, c, rfl, HR.out⟩

/-- lentInts: the numbers in new memory, two marks behind them. -/
theorem lentI_any (w : World) (a : Option Addr) (b off cap : Nat) (zs : List Int) (hS : IntsS w a b off zs) (ha : a = none → cap = 0 ∧ zs = []) (hb : (zs.length + 2) * 8 ≤ 140737488355328) :
    Calls Try.prog 53 #[.slice a zs.length cap] w fun e w' => ∃ b' c, e = .returned (.slice (some ⟨b', 0, none⟩) zs.length c) ∧
      w'.ownsRow w.heap.size 3 1 (.slice (some ⟨b', 0, none⟩) (zs.length + 2) c) (zs.length + 2) (zs.map (Value.int .i64) ++ [imark, imark]) ∧ Below w.heap.size w w' := by
  cases a with
  | none =>
    obtain ⟨rfl, rfl⟩ := ha rfl
    exact lentI_nil w
  | some ad =>
    have h := lentI_some w ad cap (zs.map (Value.int .i64)) (fun j u h => ?_) (fun u h => ?_) (by simpa using hb)
    · simpa using h
    · rw [List.getElem?_map, Option.map_eq_some_iff] at h
      obtain ⟨s, h1, rfl⟩ := h
      obtain ⟨hj, rfl⟩ := List.getElem?_eq_some_iff.1 h1
      have e := hS.1 (by omega)
      simp only [Option.some.injEq] at e
      subst e
      rw [add_at]
      exact hS.2 j hj
    · rw [List.mem_map] at h
      obtain ⟨s, _, rfl⟩ := h
      rfl

/-- What a lent list is: its numbers ¦ texts, the marks behind them. -/
theorem row_cell {w : World} {base b n c : Nat} {t : TypeId} {xs : List Value} (h : w.ownsRow base t 1 (.slice (some ⟨b, 0, none⟩) n c) n xs) (j : Nat) (u : Value) (hj : xs[j]? = some u) : w.cell? ⟨b, j, none⟩ = some u := by
  have := h.cells (g := b) rfl j u hj
  rwa [add_at, Nat.zero_add] at this

theorem ints_of_row2 {w : World} {base b n c : Nat} {zs : List Int} {r : List Value} (h : w.ownsRow base 3 1 (.slice (some ⟨b, 0, none⟩) n c) n (zs.map (Value.int .i64) ++ r)) : IntsS w (some ⟨b, 0, none⟩) b 0 zs := by
  refine ⟨fun _ => rfl, fun j hj => ?_⟩
  rw [Nat.zero_add]
  exact row_cell h j _ (by rw [List.getElem?_append_left (by simpa using hj)]; simp [hj])

theorem IntsS.drewN {w : World} {a : Option Addr} {b off : Nat} {zs : List Int} (h : IntsS w a b off zs) (n : Nat) : IntsS (w.drewN n) a b off zs := h

theorem sameInts_same (w : World) (a1 a2 : Option Addr) (b1 o1 b2 o2 c1 c2 : Nat) (xs : List Int) (hx : IntsS w a1 b1 o1 xs) (hy : IntsS w a2 b2 o2 xs) (hlx : xs.length ≤ maxLen) :
    Calls Try.prog 42 #[.slice a1 xs.length c1, .slice a2 xs.length c2] w fun e w' => e = .returned (.bool true) ∧ ∃ n, w' = w.drewN n := by
  refine (sameInts_any w a1 a2 b1 o1 b2 o2 c1 c2 xs xs hx hy hlx hlx).mono ?_
  rintro e w' ⟨rfl, hn⟩
  exact ⟨by simp, hn⟩

set_option maxRecDepth 100000 in
theorem leftTexts_yes (w : World) (b c : Nat) (a2 : Option Addr) (b2 o2 c2 base : Nat) (ss : List ByteArray) (hr : w.ownsRow base 9 1 (.slice (some ⟨b, 0, none⟩) (ss.length + 2) c) (ss.length + 2) (ss.map Value.string ++ [mark, mark])) (hS : StrsAt w a2 b2 o2 ss) :
    Calls Try.prog 52 #[.slice (some ⟨b, 0, none⟩) ss.length c, .slice a2 ss.length c2] w fun e w' => e = .returned (.bool true) ∧ ∃ n, w' = w.drewN n := by
  obtain ⟨hb1, hb2, hb3⟩ := rowBound hr rfl
  have hl : ss.length ≤ maxLen := by omega
  have hsm := sameTexts_same w (some ⟨b, 0, none⟩) a2 b 0 b2 o2 c c2 ss (strs_of_row hr) hS hl
  have m1 : w.cell? ⟨b, ss.length, none⟩ = some mark := row_cell hr _ _ (by rw [List.getElem?_append_right (by simp)]; simp)
  have m2 : w.cell? ⟨b, ss.length + 1, none⟩ = some mark := row_cell hr _ _ (by rw [List.getElem?_append_right (by simp)]; simp)
  unfold mark at m1 m2
  unfold maxLen at hl hb3
  have hcc : ((ss.length : Int) + 2) ≤ (c : Int) := by omega
  have hlb : (ss.length : Int) + 2 ≤ 9223372036854775807 := by omega
  clear hr hS hb1
  go_enter Try.func52, Try.ntmps52
  go_wp2_with (go_at_call 27; refine Calls.mono hsm ?_; rintro e w' ⟨rfl, n, rfl⟩)
  go_ret
  exact ⟨rfl, n, rfl⟩

set_option maxRecDepth 100000 in
theorem leftInts_yes (w : World) (b c : Nat) (a2 : Option Addr) (b2 o2 c2 base : Nat) (zs : List Int) (hr : w.ownsRow base 3 1 (.slice (some ⟨b, 0, none⟩) (zs.length + 2) c) (zs.length + 2) (zs.map (Value.int .i64) ++ [imark, imark])) (hS : IntsS w a2 b2 o2 zs) :
    Calls Try.prog 54 #[.slice (some ⟨b, 0, none⟩) zs.length c, .slice a2 zs.length c2] w fun e w' => e = .returned (.bool true) ∧ ∃ n, w' = w.drewN n := by
  obtain ⟨hb1, hb2, hb3⟩ := rowBound hr rfl
  have hl : zs.length ≤ maxLen := by omega
  have hsm := sameInts_same w (some ⟨b, 0, none⟩) a2 b 0 b2 o2 c c2 zs (ints_of_row2 hr) hS hl
  have m1 : w.cell? ⟨b, zs.length, none⟩ = some imark := row_cell hr _ _ (by rw [List.getElem?_append_right (by simp)]; simp)
  have m2 : w.cell? ⟨b, zs.length + 1, none⟩ = some imark := row_cell hr _ _ (by rw [List.getElem?_append_right (by simp)]; simp)
  unfold imark at m1 m2
  unfold maxLen at hl hb3
  have hcc : ((zs.length : Int) + 2) ≤ (c : Int) := by omega
  have hlb : (zs.length : Int) + 2 ≤ 9223372036854775807 := by omega
  clear hr hS hb1
  go_enter Try.func54, Try.ntmps54
  go_wp2_with (go_at_call 42; refine Calls.mono hsm ?_; rintro e w' ⟨rfl, n, rfl⟩)
  go_ret
  exact ⟨rfl, n, rfl⟩

theorem place_any (w : World) (z : Int) : Calls Try.prog 9 #[.int .i64 z] w fun e w' => (∃ k : Nat, k < 3 ∧ e = .returned (.int .i64 (k : Int))) ∧ w' = w := by
  have hm1 := Int.tmod_lt_of_pos z (show (0 : Int) < 3 by omega)
  have hm2 := Int.lt_tmod_of_pos z (show (0 : Int) < 3 by omega)
  go_enter Try.func9, Try.ntmps9
  go_wp2
  · go_ret
    refine ⟨⟨(Int.tmod z 3 + 3).toNat, by omega, ?_⟩, rfl⟩
    rw [show (((Int.tmod z 3 + 3).toNat : Nat) : Int) = Int.tmod z 3 + 3 by omega]
    rfl
  · go_ret
    refine ⟨⟨(Int.tmod z 3).toNat, by omega, ?_⟩, rfl⟩
    rw [show (((Int.tmod z 3).toNat : Nat) : Int) = Int.tmod z 3 by omega]
    rfl
end Go.Proofs.Ytdmopioiaaecfaa
