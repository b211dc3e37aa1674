/- The library's swapRange and rotate, on a row of things. -/
import Derived.Test.YtnmaldgmlkcliaaGB
import Derived.BigRegion
namespace Go.Proofs.Ytnmaldgmlkcliaa
open Go.RowKit Go.Maps Go.Shelf Go.Sort Go.Proofs.Ytnmaldgmlkcliaa.HT

theorem InT.swap {W : World} {G : Nat} {ts : List (Int × Int)} (h : InT W G ts) (i j : Nat) (x y : Int × Int) (hi : i < ts.length) (hj : j < ts.length) : InT (putT (putT W G i y) G j x) G ((ts.set i y).set j x) :=
  (h.put i y hi).put j x (by rw [List.length_set]; exact hj)
theorem swap_turn {S : Nat → Prop} {A W : World} {G : Nat} (h : Turn S A W) (hG : S G) (i j : Nat) (x y : Int × Int) : Turn S A (putT (putT W G i y) G j x) := putT_turn (putT_turn h hG _ _) hG _ _

/-- The first i of two stretches, exchanged. -/
def exch (ts : List (Int × Int)) (a b : Nat) : Nat → List (Int × Int)
  | 0 => ts
  | i + 1 => ((exch ts a b i).set (a + i) (ts.getD (b + i) (0, 0))).set (b + i) (ts.getD (a + i) (0, 0))
theorem exch_len (ts : List (Int × Int)) (a b : Nat) : ∀ i, (exch ts a b i).length = ts.length
  | 0 => rfl
  | i + 1 => by rw [exch, List.length_set, List.length_set, exch_len ts a b i]
theorem getD_at {ts : List (Int × Int)} {k : Nat} (h : k < ts.length) : some (ts.getD k (0, 0)) = ts[k]? := by simp [List.getD_eq_getElem?_getD, List.getElem?_eq_getElem h]
theorem exch_get (ts : List (Int × Int)) (a b k : Nat) (hab : a + k ≤ b) (hb : b + k ≤ ts.length) : ∀ i, i ≤ k → ∀ j, (exch ts a b i)[j]? = if a ≤ j ∧ j < a + i then ts[b + (j - a)]? else if b ≤ j ∧ j < b + i then ts[a + (j - b)]? else ts[j]?
  | 0, _, j => by rw [if_neg (by omega), if_neg (by omega), exch]
  | i + 1, hi, j => by
    have ih := exch_get ts a b k hab hb i (by omega) j
    have hl := exch_len ts a b i
    rw [exch, List.getElem?_set, List.getElem?_set]
    by_cases c1 : b + i = j
    · subst c1
      rw [if_pos rfl, if_pos (by rw [List.length_set, hl]; omega), if_neg (by omega), if_pos (by omega), getD_at (by omega)]
      congr 1; omega
    · rw [if_neg c1]
      by_cases c2 : a + i = j
      · subst c2
        rw [if_pos rfl, if_pos (by omega), if_pos (by omega), getD_at (by omega)]
        congr 1; omega
      · rw [if_neg c2, ih]
        by_cases c3 : a ≤ j ∧ j < a + i
        · rw [if_pos c3, if_pos (by omega)]
        · rw [if_neg c3]
          by_cases c4 : b ≤ j ∧ j < b + i
          · rw [if_pos c4, if_neg (show ¬ (a ≤ j ∧ j < a + (i + 1)) by omega), if_pos (show b ≤ j ∧ j < b + (i + 1) by omega)]
          · rw [if_neg c4, if_neg (show ¬ (a ≤ j ∧ j < a + (i + 1)) by omega), if_neg (show ¬ (b ≤ j ∧ j < b + (i + 1)) by omega)]
section
variable (P X M Y Q : List (Int × Int)) (k : Nat)
theorem five2 (h : k < X.length) : (P ++ (X ++ (M ++ (Y ++ Q))))[P.length + k]? = X[k]? := by
  rw [List.getElem?_append_right (by omega), List.getElem?_append_left (by omega)]; congr 1; omega
theorem five3 (h : k < M.length) : (P ++ (X ++ (M ++ (Y ++ Q))))[P.length + X.length + k]? = M[k]? := by
  rw [List.getElem?_append_right (by omega), List.getElem?_append_right (by omega), List.getElem?_append_left (by omega)]; congr 1; omega
theorem five4 (h : k < Y.length) : (P ++ (X ++ (M ++ (Y ++ Q))))[P.length + X.length + M.length + k]? = Y[k]? := by
  rw [List.getElem?_append_right (by omega), List.getElem?_append_right (by omega), List.getElem?_append_right (by omega), List.getElem?_append_left (by omega)]; congr 1; omega
theorem five5 : (P ++ (X ++ (M ++ (Y ++ Q))))[P.length + X.length + M.length + Y.length + k]? = Q[k]? := by
  rw [List.getElem?_append_right (by omega), List.getElem?_append_right (by omega), List.getElem?_append_right (by omega), List.getElem?_append_right (by omega)]; congr 1; omega
end
/-- Two stretches as long as one another, exchanged. -/
theorem exch_parts (P X M Y Q : List (Int × Int)) (h : X.length = Y.length) : exch (P ++ (X ++ (M ++ (Y ++ Q)))) P.length (P.length + X.length + M.length) X.length = P ++ (Y ++ (M ++ (X ++ Q))) := by
  apply List.ext_getElem?
  intro j
  rw [exch_get _ _ _ X.length (by omega) (by simp; omega) _ (Nat.le_refl _)]
  by_cases c0 : j < P.length
  · rw [if_neg (by omega), if_neg (by omega), List.getElem?_append_left c0, List.getElem?_append_left c0]
  · obtain ⟨k, rfl⟩ : ∃ k, j = P.length + k := ⟨j - P.length, by omega⟩
    by_cases c1 : k < X.length
    · rw [if_pos (by omega), show P.length + X.length + M.length + (P.length + k - P.length) = P.length + X.length + M.length + k by omega, five4 P X M Y Q k (by omega), five2 P Y M X Q k (by omega)]
    · obtain ⟨k, rfl⟩ : ∃ q, k = X.length + q := ⟨k - X.length, by omega⟩
      rw [if_neg (by omega)]
      by_cases c2 : k < M.length
      · rw [if_neg (by omega), ← Nat.add_assoc, five3 P X M Y Q k c2, h, five3 P Y M X Q k c2]
      · obtain ⟨k, rfl⟩ : ∃ q, k = M.length + q := ⟨k - M.length, by omega⟩
        by_cases c3 : k < X.length
        · rw [if_pos (by omega), show P.length + (P.length + (X.length + (M.length + k)) - (P.length + X.length + M.length)) = P.length + k by omega, five2 P X M Y Q k c3, show P.length + (X.length + (M.length + k)) = P.length + Y.length + M.length + k by omega, five4 P Y M X Q k c3]
        · obtain ⟨k, rfl⟩ : ∃ q, k = X.length + q := ⟨k - X.length, by omega⟩
          rw [if_neg (by omega), show P.length + (X.length + (M.length + (X.length + k))) = P.length + X.length + M.length + Y.length + k by omega, five5 P X M Y Q k, show P.length + X.length + M.length + Y.length + k = P.length + Y.length + M.length + X.length + k by omega, five5 P Y M X Q k]

set_option maxRecDepth 100000 in
set_option maxHeartbeats 4000000 in
theorem swapRange_at (W : World) (G cap n a b k : Nat) (fv : Value) (ts : List (Int × Int)) (hn : n = ts.length) (hab : a + k ≤ b) (hb : b + k ≤ n) (hsz : n < 4611686018427387904) (hI : InT W G ts) :
    Calls Try.prog 64 #[.slice (some ⟨G, 0, none⟩) n cap, .int .i64 (a : Int), .int .i64 (b : Int), .int .i64 (k : Int), fv] W fun e w' => e = .returned (.tuple #[]) ∧ InT w' G (exch ts a b k) ∧ Turn (fun j => j = G) W w' := by
  have HX : Hid (InT W G ts ∧ n = ts.length) := ⟨hI, hn⟩
  clear hI hn
  go_enter Try.func64, Try.ntmps64
  go_wp2
  go_loopw [10] (fun vi wr => ∃ q : Nat, q ≤ k ∧ vi = .int .i64 q ∧ InT wr G (exch ts a b q) ∧ Turn (fun j => j = G) W wr) (fun vi _ => k - (intOf vi).toNat)
  case atStart => exact ⟨0, Nat.zero_le _, rfl, HX.out.1, Turn.refl _ _⟩
  case round =>
    obtain ⟨q, hq, rfl, hI, hT⟩ := hrel
    by_cases hlt : q < k
    · have hi1 : (q : Int) < (k : Int) := by omega
      have hlen : ts.length = n := HX.out.2.symm
      have hgx : (exch ts a b q)[a + q]? = some (ts.getD (a + q) (0, 0)) := by rw [exch_get ts a b k hab (by omega) q (by omega), if_neg (by omega), if_neg (by omega), getD_at (by omega)]
      have hgy : (exch ts a b q)[b + q]? = some (ts.getD (b + q) (0, 0)) := by rw [exch_get ts a b k hab (by omega) q (by omega), if_neg (by omega), if_neg (by omega), getD_at (by omega)]
      have hI2 := hI.stay (Stay.drew wr)
      have HS : Hid (InT (putT (putT wr.drew G (a + q) (ts.getD (b + q) (0, 0))) G (b + q) (ts.getD (a + q) (0, 0))) G (exch ts a b (q + 1)) ∧ Turn (fun j => j = G) W (putT (putT wr.drew G (a + q) (ts.getD (b + q) (0, 0))) G (b + q) (ts.getD (a + q) (0, 0)))) :=
        ⟨hI2.swap _ _ _ _ (by rw [exch_len]; omega) (by rw [exch_len]; omega), swap_turn (hT.trans (Turn.of_stay (Stay.drew wr))) rfl _ _ _ _⟩
      obtain ⟨x0, x1, x2, x3⟩ := hI.spot _ _ hgx
      obtain ⟨y0, y1, y2, y3⟩ := hI.spot _ _ hgy
      generalize ts.getD (a + q) (0, 0) = x at x0 x1 HS
      generalize ts.getD (b + q) (0, 0) = y at y0 y1 HS
      obtain ⟨xa, xb⟩ := x
      obtain ⟨ya, yb⟩ := y
      dsimp only at x0 x1 y0 y1
      have wa : IntKind.i64.wrap ((a : Int) + (q : Int)) = (a : Int) + (q : Int) := by rw [IntKind.wrap_i64]; omega
      have wb : IntKind.i64.wrap ((b : Int) + (q : Int)) = (b : Int) + (q : Int) := by rw [IntKind.wrap_i64]; omega
      have pa : (0 : Int) ≤ (a : Int) + (q : Int) := by omega
      have pb : (0 : Int) ≤ (b : Int) + (q : Int) := by omega
      have la : (a : Int) + (q : Int) < (n : Int) := by omega
      have lb : (b : Int) + (q : Int) < (n : Int) := by omega
      have ea : ((a : Int) + (q : Int)).toNat = a + q := by omega
      have eb : ((b : Int) + (q : Int)).toNat = b + q := by omega
      have n1 : ¬ (b + q) * 2 = (a + q) * 2 := by omega
      have n2 : ¬ (b + q) * 2 = (a + q) * 2 + 1 := by omega
      have n3 : ¬ (b + q) * 2 + 1 = (a + q) * 2 := by omega
      have n4 : ¬ (b + q) * 2 + 1 = (a + q) * 2 + 1 := by omega
      clear hI hT hgx hgy hI2 hlen
      go_wp2_with fail
      go_region
      go_wp2
      exact ⟨⟨q + 1, by omega, by go_num, HS.out.1, HS.out.2⟩, by simp [intOf]; omega⟩
    · have hi1 : ¬ (q : Int) < (k : Int) := by omega
      obtain rfl : q = k := by omega
      have HS : Hid (InT wr G (exch ts a b q) ∧ Turn (fun j => j = G) W wr) := ⟨hI, hT⟩
      clear hI hT
      go_wp2
      go_end0
      exact ⟨rfl, HS.out.1, HS.out.2⟩

theorem swapRange_any (W : World) (G cap n : Nat) (fv : Value) (P X M Y Q : List (Int × Int)) (hn : n = P.length + X.length + M.length + Y.length + Q.length) (h : X.length = Y.length) (hsz : n < 4611686018427387904) (hI : InT W G (P ++ (X ++ (M ++ (Y ++ Q))))) :
    Calls Try.prog 64 #[.slice (some ⟨G, 0, none⟩) n cap, .int .i64 (P.length : Int), .int .i64 ((P.length + X.length + M.length : Nat) : Int), .int .i64 (X.length : Int), fv] W fun e w' => e = .returned (.tuple #[]) ∧ InT w' G (P ++ (Y ++ (M ++ (X ++ Q)))) ∧ Turn (fun j => j = G) W w' := by
  have := swapRange_at W G cap n P.length (P.length + X.length + M.length) X.length fv _ (by rw [hn]; simp; omega) (by omega) (by omega) hsz hI
  rwa [exch_parts P X M Y Q h] at this
end Go.Proofs.Ytnmaldgmlkcliaa
