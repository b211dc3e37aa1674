/- The library's stable sort, of any length. -/
import Derived.Test.YtnmaldgmlkcliaaGH
namespace Go.Proofs.Ytnmaldgmlkcliaa
open Go.RowKit Go.Maps Go.Shelf Go.Sort Go.Proofs.Ytnmaldgmlkcliaa.HT

/-- The first q chunks of k rise. -/
def Done (κ : Int × Int → Int) (k q : Nat) (L : List (Int × Int)) : Prop := ∀ i, i < q → RisK κ (chunk k i L)
/-- The chunks of k from q on rise. -/
def Left2 (κ : Int × Int → Int) (k q : Nat) (L : List (Int × Int)) : Prop := ∀ i, q ≤ i → RisK κ (chunk k i L)
theorem Done.next {κ : Int × Int → Int} {k q : Nat} {P S Z Q : List (Int × Int)} (h : Done κ k q (P ++ (S ++ Q))) (hP : q * k = P.length) (hr : RisK κ Z) (hz : Z.length = k ∨ Z.length ≤ k ∧ Q = []) : Done κ k (q + 1) (P ++ (Z ++ Q)) := fun i hi => by
  by_cases e : i = q
  · subst e; rw [chunk_at hP hz]; exact hr
  · rw [← chunk_left (R := S ++ Q) (by have := Nat.mul_le_mul_right k (show i + 1 ≤ q by omega); omega)]
    exact h i (by omega)
theorem Done.all {κ : Int × Int → Int} {k q : Nat} {L : List (Int × Int)} (h : Done κ k q L) (hq : L.length ≤ q * k) : Left2 κ k 0 L := fun i _ => by
  by_cases e : i < q
  · exact h i e
  · rw [chunk_none (by have := Nat.mul_le_mul_right k (show q ≤ i by omega); omega)]
    exact List.Pairwise.nil
theorem Left2.skip {κ : Int × Int → Int} {k q : Nat} {P S Z Q : List (Int × Int)} (h : Left2 κ k (2 * q) (P ++ (S ++ Q))) (hP : q * (2 * k) = P.length) (hz : Z.length = S.length) (hS2 : S.length ≤ 2 * k) : Left2 κ k (2 * (q + 1)) (P ++ (Z ++ Q)) := fun i hi => by
  have h1 : 2 * (q + 1) * k ≤ i * k := Nat.mul_le_mul_right k hi
  have h2 : 2 * (q + 1) * k = q * (2 * k) + 2 * k := by rw [Nat.mul_add, Nat.mul_one, Nat.add_mul, Nat.mul_comm 2 q, Nat.mul_assoc]
  rw [← chunk_right (S := S) (by omega) hz]
  exact h i (by omega)
theorem risk_whole {κ : Int × Int → Int} {k : Nat} {L : List (Int × Int)} (h : Left2 κ k 0 L) (hk : L.length ≤ k) : RisK κ L := by
  have := h 0 (Nat.le_refl _)
  unfold chunk at this
  rwa [Nat.zero_mul, List.drop_zero, List.take_of_length_le hk] at this
/-- Two chunks, one behind the other. -/
theorem two_chunks {k q n : Nat} {L : List (Int × Int)} (hl : L.length = n) (h : q * (2 * k) + k < n) : ∃ P X Y Q, L = P ++ (X ++ (Y ++ Q)) ∧ P.length = q * (2 * k) ∧ X = chunk k (2 * q) L ∧ Y = chunk k (2 * q + 1) L ∧ X.length = k ∧ Y.length = min k (n - (q * (2 * k) + k)) := by
  have e1 : 2 * q * k = q * (2 * k) := by rw [Nat.mul_comm 2 q, Nat.mul_assoc]
  have e2 : (2 * q + 1) * k = q * (2 * k) + k := by rw [Nat.add_mul, Nat.one_mul, e1]
  have hX : (chunk k (2 * q) L).length = k := by rw [chunk_len, e1, hl]; omega
  refine ⟨L.take (q * (2 * k)), chunk k (2 * q) L, chunk k (2 * q + 1) L, L.drop (q * (2 * k) + k + k), ?_, by rw [List.length_take]; omega, rfl, rfl, hX, by rw [chunk_len, e2, hl]⟩
  have h1 := chunk_split k (2 * q) L
  have h2 := chunk_split k (2 * q + 1) L
  rw [e1] at h1
  rw [e2] at h2
  have h3 : L.drop (q * (2 * k) + k) = chunk k (2 * q + 1) L ++ L.drop (q * (2 * k) + k + k) := by
    unfold chunk
    rw [e2]
    conv => lhs; rw [← List.take_append_drop k (L.drop (q * (2 * k) + k)), List.drop_drop]
  rw [h3] at h1
  exact h1

set_option maxRecDepth 100000 in
set_option maxHeartbeats 16000000 in
theorem stable_any {g : Nat} {κ : Int × Int → Int} {cf : Int × Int → Int × Int → Int} (h : Ord g κ cf) (W : World) (G cap n : Nat) (L0 : List (Int × Int)) (hn : L0.length = n) (hsz : n < 2305843009213693952) (hI : InT W G L0) :
    Calls Try.prog 50 #[.slice (some ⟨G, 0, none⟩) n cap, .int .i64 (n : Int), .func (.func g) #[] #[]] W fun e w' => e = .returned (.tuple #[]) ∧ ∃ Z, RisK κ Z ∧ Eqv κ L0 Z ∧ Z.length = n ∧ InT w' G Z ∧ Turn (fun j => j = G) W w' := by
  have HX : Hid (Ord g κ cf ∧ InT W G L0 ∧ L0.length = n) := ⟨h, hI, hn⟩
  have hnI : (n : Int) < 2305843009213693952 := by omega
  clear h hI hn
  go_enter Try.func50, Try.ntmps50
  go_wp2
  go_loopw [7, 8] (fun va vb wr => ∃ (a b q : Nat) (L : List (Int × Int)), va = .int .i64 a ∧ vb = .int .i64 b ∧ b = a + 20 ∧ a ≤ n ∧ q * 20 = a ∧ Done κ 20 q L ∧ Like κ L0 n L ∧ InT wr G L ∧ Turn (fun j => j = G) W wr) (fun va _ _ => n - (intOf va).toNat)
  case atStart => exact ⟨0, 20, 0, L0, rfl, rfl, rfl, Nat.zero_le _, rfl, fun i hi => absurd hi (by omega), ⟨Eqv.refl _, HX.out.2.2⟩, HX.out.2.1, Turn.refl _ _⟩
  case round =>
    obtain ⟨a, b, q, L, rfl, rfl, hb, han, hq, hD, hLk, hI, hT⟩ := hrel
    have hsp := chunk_split 20 q L
    rw [hq] at hsp
    have hcl := chunk_len (k := 20) (i := q) (L := L)
    rw [hq, hLk.len] at hcl
    have hpl : (L.take a).length = a := by rw [List.length_take, hLk.len]; omega
    have hdl : (L.drop (a + 20)).length = n - (a + 20) := by rw [List.length_drop, hLk.len]
    generalize L.take a = P at hsp hpl
    generalize chunk 20 q L = S at hsp hcl
    generalize L.drop (a + 20) = Q at hsp hdl
    subst hsp
    have HS : Hid (Done κ 20 q (P ++ (S ++ Q)) ∧ Like κ L0 n (P ++ (S ++ Q)) ∧ Turn (fun j => j = G) W wr ∧ P.length = a ∧ S.length = min 20 (n - a) ∧ Q.length = n - (a + 20) ∧ q * 20 = a ∧ b = a + 20 ∧ a ≤ n) := ⟨hD, hLk, hT, hpl, hcl, hdl, hq, hb, han⟩
    by_cases hlt : b ≤ n
    · have hlt2 : (b : Int) ≤ (n : Int) := by omega
      have hc := insert_part HX.out.1 wr G cap P S Q n (by have := HS.out; omega) (by simpa using hI) (by omega)
      rw [show ((P.length + S.length : Nat) : Int) = (b : Int) by have := HS.out; omega, show (P.length : Int) = (a : Int) by rw [hpl]] at hc
      clear hD hLk hT hpl hcl hdl hq hI hb
      go_wp2_with fail
      refine hc.mono ?_
      rintro e w1 ⟨rfl, Z, hI1, hr, hq1, hz, hT1⟩
      have H1 : Hid (Done κ 20 (q + 1) (P ++ (Z ++ Q)) ∧ Like κ L0 n (P ++ (Z ++ Q)) ∧ InT w1 G (P ++ (Z ++ Q)) ∧ Turn (fun j => j = G) W w1) :=
        ⟨HS.out.1.next (by have := HS.out; omega) hr (.inl (by have := HS.out; omega)), HS.out.2.1.next hq1 hz, by simpa using hI1, HS.out.2.2.1.trans hT1⟩
      clear hI1 hr hq1 hz hT1 hc
      go_wp2
      exact ⟨⟨b, b + 20, q + 1, _, rfl, by go_num, rfl, hlt, by have := HS.out; omega, H1.out.1, H1.out.2.1, H1.out.2.2.1, H1.out.2.2.2⟩, by have := HS.out; simp [intOf]; omega⟩
    · have hlt2 : ¬ (b : Int) ≤ (n : Int) := by omega
      have hc := insert_part HX.out.1 wr G cap P S Q n (by have := HS.out; omega) (by simpa using hI) (by omega)
      rw [show ((P.length + S.length : Nat) : Int) = (n : Int) by have := HS.out; omega, show (P.length : Int) = (a : Int) by rw [hpl]] at hc
      clear hD hLk hT hpl hcl hdl hq hI hb
      go_wp2_with fail
      refine hc.mono ?_
      rintro e w1 ⟨rfl, Z, hI1, hr, hq1, hz, hT1⟩
      have H1 : Hid (Left2 κ 20 0 (P ++ (Z ++ Q)) ∧ Like κ L0 n (P ++ (Z ++ Q)) ∧ InT w1 G (P ++ (Z ++ Q)) ∧ Turn (fun j => j = G) W w1) := by
        have hQ : Q = [] := List.eq_nil_of_length_eq_zero (by have := HS.out; omega)
        have hk := HS.out.2.1.next hq1 hz
        have hd := HS.out.1.next (by have := HS.out; omega) hr (.inr ⟨by have := HS.out; omega, hQ⟩)
        exact ⟨hd.all (by rw [hk.len]; have := HS.out; omega), hk, by simpa using hI1, HS.out.2.2.1.trans hT1⟩
      clear hI1 hr hq1 hz hT1 hc HS
      generalize P ++ (Z ++ Q) = L1 at H1
      go_wp2
      go_loopw [6] (fun vk wr => ∃ (k : Nat) (L : List (Int × Int)), vk = .int .i64 k ∧ 0 < k ∧ k < 4611686018427387904 ∧ Left2 κ k 0 L ∧ Like κ L0 n L ∧ InT wr G L ∧ Turn (fun j => j = G) W wr) (fun vk _ => n - (intOf vk).toNat)
      case atStart => exact ⟨20, L1, rfl, by omega, by omega, H1.out⟩
      case round =>
        obtain ⟨k, L, rfl, hk0, hk62, hLf, hLk, hI, hT⟩ := hrel
        clear H1
        have HS : Hid (Left2 κ k 0 L ∧ Like κ L0 n L ∧ InT wr G L ∧ Turn (fun j => j = G) W wr) := ⟨hLf, hLk, hI, hT⟩
        clear hLf hLk hI hT
        by_cases hkn : k < n
        · have hkn2 : (k : Int) < (n : Int) := by omega
          obtain ⟨k2, hk2⟩ : ∃ k2, k2 = 2 * k := ⟨_, rfl⟩
          have w1 : IntKind.i64.wrap (2 * (k : Int)) = (k2 : Int) := by rw [IntKind.wrap_i64]; omega
          have w2 : IntKind.i64.wrap ((k : Int) * 2) = (k2 : Int) := by rw [IntKind.wrap_i64]; omega
          have hk2n : (k2 : Int) < 4611686018427387904 := by omega
          have hk2m : k2 < 4611686018427387904 := by omega
          have HK : Hid (k2 = 2 * k) := hk2
          clear hk2
          go_wp2
          go_loopw [7, 8] (fun va vb wr => ∃ (a b q : Nat) (L : List (Int × Int)), va = .int .i64 a ∧ vb = .int .i64 b ∧ b = a + k2 ∧ a ≤ n ∧ q * k2 = a ∧ Done κ k2 q L ∧ Left2 κ k (2 * q) L ∧ Like κ L0 n L ∧ InT wr G L ∧ Turn (fun j => j = G) W wr) (fun va _ _ => n - (intOf va).toNat)
          case atStart => exact ⟨0, k2, 0, L, rfl, rfl, by omega, Nat.zero_le _, by omega, fun i hi => absurd hi (by omega), by simpa using HS.out.1, HS.out.2.1, HS.out.2.2.1, HS.out.2.2.2⟩
          case round =>
            obtain ⟨a, b, q, L, rfl, rfl, hb, han, hq, hD, hLf, hLk, hI, hT⟩ := hrel
            clear HS
            have HS : Hid (Done κ k2 q L ∧ Left2 κ k (2 * q) L ∧ Like κ L0 n L ∧ InT wr G L ∧ Turn (fun j => j = G) W wr ∧ q * k2 = a ∧ b = a + k2 ∧ a ≤ n) := ⟨hD, hLf, hLk, hI, hT, hq, hb, han⟩
            have habI : (a : Int) ≤ (n : Int) := by omega
            have hbI : (b : Int) ≤ 6917529027641081856 := by omega
            obtain ⟨mm, hmm⟩ : ∃ mm, mm = a + k := ⟨_, rfl⟩
            have w3 : IntKind.i64.wrap ((a : Int) + (k : Int)) = (mm : Int) := by rw [IntKind.wrap_i64]; omega
            have HMM : Hid (mm = a + k) := hmm
            by_cases hlt : b ≤ n
            · have hlt2 : (b : Int) ≤ (n : Int) := by omega
              obtain ⟨P, X, Y, Q, hLe, hPl, hXe, hYe, hXl, hYl⟩ := two_chunks (k := k) (q := q) hLk.len (by have := HK.out; rw [← this, hq]; omega)
              have e2 : q * (2 * k) = a := by rw [← HK.out]; exact hq
              rw [e2] at hPl hYl
              have hlen := hLk.len
              rw [hLe] at hlen
              simp only [List.length_append] at hlen
              have hc := sym_all HX.out.1 (X.length + Y.length) wr G cap n a mm b P X Y Q (by omega) hPl.symm (by omega) (by have := HK.out; omega) (by omega) (by have := HK.out; omega) (Nat.le_refl _) (by omega) (by rw [hXe]; exact hLf _ (Nat.le_refl _)) (by rw [hYe]; exact hLf _ (by omega)) (by rw [← hLe]; exact hI)
              have HQ : Hid (L = P ++ ((X ++ Y) ++ Q) ∧ P.length = a ∧ X.length + Y.length = k2) := ⟨by rw [List.append_assoc]; exact hLe, hPl, by have := HK.out; omega⟩
              clear hD hLf hLk hI hT hq hb han hLe hPl hXe hYe hXl hYl e2 hlen hmm
              go_wp2_with fail
              refine hc.mono ?_
              rintro e w4 ⟨rfl, Z, hM, hI1, hT1⟩
              have H1 : Hid (Done κ k2 (q + 1) (P ++ (Z ++ Q)) ∧ Left2 κ k (2 * (q + 1)) (P ++ (Z ++ Q)) ∧ Like κ L0 n (P ++ (Z ++ Q)) ∧ InT w4 G (P ++ (Z ++ Q)) ∧ Turn (fun j => j = G) W w4) := by
                have h9 := HS.out
                rw [HQ.out.1] at h9
                have hq9 := HQ.out
                have hzl := hM.2.2
                have hkk := HK.out
                refine ⟨h9.1.next (by omega) hM.1 (.inl (by omega)), ?_, h9.2.2.1.next hM.2.1 (by rw [List.length_append]; omega), hI1, h9.2.2.2.2.1.trans hT1⟩
                exact h9.2.1.skip (by rw [← hkk]; omega) (by rw [List.length_append]; omega) (by rw [List.length_append]; omega)
              clear hM hI1 hT1 hc
              go_wp2
              exact ⟨⟨b, b + k2, q + 1, _, rfl, by go_num, rfl, hlt, by have := HS.out; rw [Nat.add_mul]; omega, H1.out.1, H1.out.2.1, H1.out.2.2.1, H1.out.2.2.2.1, H1.out.2.2.2.2⟩, by have := HS.out; have := HK.out; simp [intOf]; omega⟩
            · have hlt2 : ¬ (b : Int) ≤ (n : Int) := by omega
              by_cases hmn : mm < n
              · have hmn2 : (mm : Int) < (n : Int) := by omega
                obtain ⟨P, X, Y, Q, hLe, hPl, hXe, hYe, hXl, hYl⟩ := two_chunks (k := k) (q := q) hLk.len (by have := HK.out; rw [← this, hq]; omega)
                have e2 : q * (2 * k) = a := by rw [← HK.out]; exact hq
                rw [e2] at hPl hYl
                have hlen := hLk.len
                rw [hLe] at hlen
                simp only [List.length_append] at hlen
                have hc := sym_all HX.out.1 (X.length + Y.length) wr G cap n a mm n P X Y Q (by omega) hPl.symm (by omega) (by have := HK.out; omega) (by omega) (by have := HK.out; omega) (Nat.le_refl _) (by omega) (by rw [hXe]; exact hLf _ (Nat.le_refl _)) (by rw [hYe]; exact hLf _ (by omega)) (by rw [← hLe]; exact hI)
                have HQ : Hid (L = P ++ ((X ++ Y) ++ Q) ∧ P.length = a ∧ X.length + Y.length ≤ k2 ∧ Q = []) := ⟨by rw [List.append_assoc]; exact hLe, hPl, by have := HK.out; omega, List.eq_nil_of_length_eq_zero (by have := HK.out; omega)⟩
                clear hD hLf hLk hI hT hq hb han hLe hPl hXe hYe hXl hYl e2 hlen hmm
                go_wp2_with fail
                refine hc.mono ?_
                rintro e w4 ⟨rfl, Z, hM, hI1, hT1⟩
                have H1 : Hid (Left2 κ k2 0 (P ++ (Z ++ Q)) ∧ Like κ L0 n (P ++ (Z ++ Q)) ∧ InT w4 G (P ++ (Z ++ Q)) ∧ Turn (fun j => j = G) W w4) := by
                  have h9 := HS.out
                  rw [HQ.out.1] at h9
                  have hq9 := HQ.out
                  have hzl := hM.2.2
                  have hkk := HK.out
                  have hd := h9.1.next (by omega) hM.1 (.inr ⟨by omega, hq9.2.2.2⟩)
                  have hk9 := h9.2.2.1.next hM.2.1 (by rw [List.length_append]; omega)
                  exact ⟨hd.all (by rw [hk9.len, Nat.add_mul]; omega), hk9, hI1, h9.2.2.2.2.1.trans hT1⟩
                clear hM hI1 hT1 hc
                go_wp2
                exact ⟨⟨k2, _, rfl, by have := HK.out; omega, hk2m, H1.out⟩, by have := HK.out; simp [intOf]; omega⟩
              · have hmn2 : ¬ (mm : Int) < (n : Int) := by omega
                have H1 : Hid (Left2 κ k2 0 L ∧ Like κ L0 n L ∧ InT wr G L ∧ Turn (fun j => j = G) W wr) := by
                  have hkk := HK.out
                  have e1 : 2 * q * k = a := by rw [Nat.mul_comm 2 q, Nat.mul_assoc, ← hkk]; exact hq
                  have hch : chunk k2 q L = chunk k (2 * q) L := by
                    unfold chunk
                    rw [hq, e1, List.take_of_length_le (by rw [List.length_drop, hLk.len]; omega), List.take_of_length_le (by rw [List.length_drop, hLk.len]; omega)]
                  have hd : Done κ k2 (q + 1) L := fun i hi => by
                    by_cases e : i = q
                    · subst e; rw [hch]; exact hLf _ (Nat.le_refl _)
                    · exact hD i (by omega)
                  exact ⟨hd.all (by rw [hLk.len, Nat.add_mul]; omega), hLk, hI, hT⟩
                clear hD hLf hLk hI hT hq hb han hmm
                go_wp2
                exact ⟨⟨k2, _, rfl, by have := HK.out; omega, hk2m, H1.out⟩, by have := HK.out; simp [intOf]; omega⟩
        · have hkn2 : ¬ (k : Int) < (n : Int) := by omega
          go_wp2
          go_end0
          exact ⟨rfl, L, risk_whole HS.out.1 (by rw [HS.out.2.1.len]; omega), HS.out.2.1.eqv, HS.out.2.1.len, HS.out.2.2.1, HS.out.2.2.2⟩
end Go.Proofs.Ytnmaldgmlkcliaa
