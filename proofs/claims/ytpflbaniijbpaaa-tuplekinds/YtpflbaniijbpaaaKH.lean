/- What eight lists hold when one of them grows, plainly. -/
import Derived.Test.YtpflbaniijbpaaaKG
namespace Go.Proofs.Ytpflbaniijbpaaa
open Go.RowKit Go.Maps

/-- What four lists hold: k numbers, and the first r of them one more. -/
def kz (xs : List Int) (k r : Nat) : Nat → List Int
  | 0 => kinds .i8 xs (if 0 < r then k + 1 else k)
  | 1 => kinds .u16 xs (if 1 < r then k + 1 else k)
  | 2 => kinds .i32 xs (if 2 < r then k + 1 else k)
  | _ => kinds .u32 xs (if 3 < r then k + 1 else k)
/-- What the eight lists hold. -/
def zA (xs ys : List Int) (k r k2 r2 : Nat) : Nat → List Int := fun j => if j < 4 then kz xs k r j else kz ys k2 r2 (j - 4)
theorem kz_0 (ys : List Int) (k : Nat) (h : k < ys.length) : kz ys k 0 0 ++ [IntKind.i8.wrap ys[k]] = kz ys k 1 0 := by
  show kinds .i8 ys k ++ [_] = kinds .i8 ys (k + 1)
  exact (kinds_succ _ _ _ h).symm
theorem kz_0o (ys : List Int) (k : Nat) : ∀ j, j < 4 → j ≠ 0 → kz ys k 0 j = kz ys k 1 j
  | 0, _, h => absurd rfl h
  | 1, _, _ => rfl
  | 2, _, _ => rfl
  | 3, _, _ => rfl
theorem kz_1 (ys : List Int) (k : Nat) (h : k < ys.length) : kz ys k 1 1 ++ [IntKind.u16.wrap ys[k]] = kz ys k 2 1 := by
  show kinds .u16 ys k ++ [_] = kinds .u16 ys (k + 1)
  exact (kinds_succ _ _ _ h).symm
theorem kz_1o (ys : List Int) (k : Nat) : ∀ j, j < 4 → j ≠ 1 → kz ys k 1 j = kz ys k 2 j
  | 0, _, _ => rfl
  | 1, _, h => absurd rfl h
  | 2, _, _ => rfl
  | 3, _, _ => rfl
theorem kz_2 (ys : List Int) (k : Nat) (h : k < ys.length) : kz ys k 2 2 ++ [IntKind.i32.wrap ys[k]] = kz ys k 3 2 := by
  show kinds .i32 ys k ++ [_] = kinds .i32 ys (k + 1)
  exact (kinds_succ _ _ _ h).symm
theorem kz_2o (ys : List Int) (k : Nat) : ∀ j, j < 4 → j ≠ 2 → kz ys k 2 j = kz ys k 3 j
  | 0, _, _ => rfl
  | 1, _, _ => rfl
  | 2, _, h => absurd rfl h
  | 3, _, _ => rfl
theorem kz_3 (ys : List Int) (k : Nat) (h : k < ys.length) : kz ys k 3 3 ++ [IntKind.u32.wrap ys[k]] = kz ys k 4 3 := by
  show kinds .u32 ys k ++ [_] = kinds .u32 ys (k + 1)
  exact (kinds_succ _ _ _ h).symm
theorem kz_3o (ys : List Int) (k : Nat) : ∀ j, j < 4 → j ≠ 3 → kz ys k 3 j = kz ys k 4 j
  | 0, _, _ => rfl
  | 1, _, _ => rfl
  | 2, _, _ => rfl
  | 3, _, h => absurd rfl h
theorem zx_0 (xs ys : List Int) (k : Nat) (h : k < xs.length) (y : Int) (hy : y = IntKind.i8.wrap xs[k]) : ∀ i, i < 8 → updZ (zA xs ys k 0 0 0) 0 (zA xs ys k 0 0 0 0 ++ [y]) i = zA xs ys k 1 0 0 i := fun i hi => by
  subst hy
  unfold updZ
  split
  · rename_i e; subst e; exact kz_0 xs k h
  · rename_i e
    unfold zA
    split
    · rename_i l; exact kz_0o xs k i l e
    · rfl
theorem zy_0 (xs ys : List Int) (n k : Nat) (h : k < ys.length) (y : Int) (hy : y = IntKind.i8.wrap ys[k]) : ∀ i, i < 8 → updZ (zA xs ys n 0 k 0) 4 (zA xs ys n 0 k 0 4 ++ [y]) i = zA xs ys n 0 k 1 i := fun i hi => by
  subst hy
  unfold updZ
  split
  · rename_i e; subst e; exact kz_0 ys k h
  · rename_i e
    unfold zA
    split
    · rfl
    · exact kz_0o ys k (i - 4) (by omega) (by omega)
theorem zx_1 (xs ys : List Int) (k : Nat) (h : k < xs.length) (y : Int) (hy : y = IntKind.u16.wrap xs[k]) : ∀ i, i < 8 → updZ (zA xs ys k 1 0 0) 1 (zA xs ys k 1 0 0 1 ++ [y]) i = zA xs ys k 2 0 0 i := fun i hi => by
  subst hy
  unfold updZ
  split
  · rename_i e; subst e; exact kz_1 xs k h
  · rename_i e
    unfold zA
    split
    · rename_i l; exact kz_1o xs k i l e
    · rfl
theorem zy_1 (xs ys : List Int) (n k : Nat) (h : k < ys.length) (y : Int) (hy : y = IntKind.u16.wrap ys[k]) : ∀ i, i < 8 → updZ (zA xs ys n 0 k 1) 5 (zA xs ys n 0 k 1 5 ++ [y]) i = zA xs ys n 0 k 2 i := fun i hi => by
  subst hy
  unfold updZ
  split
  · rename_i e; subst e; exact kz_1 ys k h
  · rename_i e
    unfold zA
    split
    · rfl
    · exact kz_1o ys k (i - 4) (by omega) (by omega)
theorem zx_2 (xs ys : List Int) (k : Nat) (h : k < xs.length) (y : Int) (hy : y = IntKind.i32.wrap xs[k]) : ∀ i, i < 8 → updZ (zA xs ys k 2 0 0) 2 (zA xs ys k 2 0 0 2 ++ [y]) i = zA xs ys k 3 0 0 i := fun i hi => by
  subst hy
  unfold updZ
  split
  · rename_i e; subst e; exact kz_2 xs k h
  · rename_i e
    unfold zA
    split
    · rename_i l; exact kz_2o xs k i l e
    · rfl
theorem zy_2 (xs ys : List Int) (n k : Nat) (h : k < ys.length) (y : Int) (hy : y = IntKind.i32.wrap ys[k]) : ∀ i, i < 8 → updZ (zA xs ys n 0 k 2) 6 (zA xs ys n 0 k 2 6 ++ [y]) i = zA xs ys n 0 k 3 i := fun i hi => by
  subst hy
  unfold updZ
  split
  · rename_i e; subst e; exact kz_2 ys k h
  · rename_i e
    unfold zA
    split
    · rfl
    · exact kz_2o ys k (i - 4) (by omega) (by omega)
theorem zx_3 (xs ys : List Int) (k : Nat) (h : k < xs.length) (y : Int) (hy : y = IntKind.u32.wrap xs[k]) : ∀ i, i < 8 → updZ (zA xs ys k 3 0 0) 3 (zA xs ys k 3 0 0 3 ++ [y]) i = zA xs ys k 4 0 0 i := fun i hi => by
  subst hy
  unfold updZ
  split
  · rename_i e; subst e; exact kz_3 xs k h
  · rename_i e
    unfold zA
    split
    · rename_i l; exact kz_3o xs k i l e
    · rfl
theorem zy_3 (xs ys : List Int) (n k : Nat) (h : k < ys.length) (y : Int) (hy : y = IntKind.u32.wrap ys[k]) : ∀ i, i < 8 → updZ (zA xs ys n 0 k 3) 7 (zA xs ys n 0 k 3 7 ++ [y]) i = zA xs ys n 0 k 4 i := fun i hi => by
  subst hy
  unfold updZ
  split
  · rename_i e; subst e; exact kz_3 ys k h
  · rename_i e
    unfold zA
    split
    · rfl
    · exact kz_3o ys k (i - 4) (by omega) (by omega)
end Go.Proofs.Ytpflbaniijbpaaa
