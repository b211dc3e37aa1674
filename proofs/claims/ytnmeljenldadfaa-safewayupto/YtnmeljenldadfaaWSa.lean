/- SafeWay's own search in a list of names: in. -/
import Derived.Test.YtnmeljenldadfaaED
namespace Go.Proofs.Ytnmeljenldadfaa
open Go.RowKit Go.Maps Go.Shelf

set_option maxRecDepth 100000 in
theorem in_any (w : World) (a : Option Addr) (b off c : Nat) (xs : List ByteArray) (s : ByteArray) (h : RecS 1 encSt w a b off xs) (hn : xs.length ≤ 4398046511104) : Calls Try.prog 29 #[.slice a xs.length c, .string s] w fun e w' => e = .returned (.bool (inB xs s)) ∧ w' = w := by
  have HR : Hid (RecS 1 encSt w a b off xs) := h
  obtain ⟨rv, hrv⟩ : ∃ rv, rv = inB xs s := ⟨_, rfl⟩
  rw [← hrv]
  have HV : Hid (rv = inB xs s) := hrv
  clear h hrv
  go_enter Try.func29, Try.ntmps29
  go_wp2
  go_loopw [5] (fun u wr => ∃ j : Nat, j ≤ xs.length ∧ u = .int .i64 (j : Int) ∧ inB (xs.take j) s = false ∧ wr = w) (fun u _ => xs.length - (intOf u).toNat)
  case atStart => exact ⟨0, Nat.zero_le _, rfl, by simp [inB], rfl⟩
  case round =>
    obtain ⟨j, hj, rfl, hno, hwr⟩ := hrel
    subst wr
    by_cases hlt : j < xs.length
    · have hki : (j : Int) < (xs.length : Int) := by omega
      obtain rfl := HR.out.1 (by omega)
      have c0 := HR.out.2 j hlt 0 _ rfl
      rw [Nat.mul_one, Nat.add_zero] at c0
      have htk : inB (xs.take (j + 1)) s = (inB (xs.take j) s || s == xs[j]) := by rw [List.take_add_one, List.getElem?_eq_getElem hlt]; exact inB_snoc _ _ _
      have HM : Hid (xs[j] ∈ xs) := List.getElem_mem hlt
      have HT : Hid (inB (xs.take (j + 1)) s = (s == xs[j])) := by show _ = _; rw [htk, hno]; simp
      clear hno htk
      generalize xs[j] = x at *
      by_cases he : x = s
      · have hbeq : (x.toList == s.toList) = true := by rw [tl_eq]; simpa using he
        have HX : Hid (rv = true) := by show _ = _; rw [HV.out]; exact (inB_iff _ _).2 (he ▸ HM.out)
        clear he
        go_wp2
        go_ret
        exact ⟨by rw [HX.out]; rfl, rfl⟩
      · have hbeq : (x.toList == s.toList) = false := by rw [tl_eq]; simpa using he
        have HX : Hid (inB (xs.take (j + 1)) s = false) := by show _ = _; rw [HT.out]; simpa using Ne.symm he
        clear he HT
        go_wp2
        go_roundw
        case rel => exact ⟨j + 1, by omega, by simp, HX.out, by first | rfl | trivial⟩
        case measure => simp [intOf]; omega
    · obtain rfl : j = xs.length := by omega
      have HX : Hid (rv = false) := by show _ = _; rw [HV.out, ← hno, List.take_of_length_le (Nat.le_refl _)]
      clear hno
      go_wp2
      go_ret
      exact ⟨by rw [HX.out]; rfl, rfl⟩
end Go.Proofs.Ytnmeljenldadfaa
