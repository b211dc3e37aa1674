/- OrderFinds: its walk. -/
import Derived.Test.YtdbilngkokkggaaTF
import Derived.Test.YtdbilngkokkggaaTE
import Derived.Test.YtdbilngkokkggaaRFT
import Derived.Test.YtdbilngkokkggaaRW
namespace Go.Proofs.Ytdbilngkokkggaa
open Go.RowKit Go.Maps Go.Sort

theorem byC_lt (x y : Int × Int) : HT.byC x y < 0 ↔ x.1 < y.1 := by
  unfold HT.byC
  split
  · simp; assumption
  · split <;> simp <;> omega
theorem byC_zero (x y : Int × Int) : HT.byC x y = 0 ↔ x.1 = y.1 := by
  unfold HT.byC
  split
  · simp; omega
  · split <;> simp <;> omega
theorem count_pre {α : Type} (p : α → Bool) : ∀ (l : List α) (n : Nat), n ≤ l.length → (∀ k (h : k < l.length), k < n ↔ p l[k] = true) → l.countP p = n
  | [], n, hn, _ => by simp at hn; simp [hn]
  | a :: l, 0, _, h => by
    have h0 : p a = false := by
      have := h 0 (by simp)
      simpa using this
    have hall : ∀ x ∈ l, p x = false := by
      intro x hx
      obtain ⟨k, hk, rfl⟩ := List.mem_iff_getElem.1 hx
      have := h (k + 1) (by simpa using hk)
      simpa using this
    rw [List.countP_cons, h0, List.countP_eq_zero.2 (fun x hx => by simp [hall x hx])]
    rfl
  | a :: l, n + 1, hn, h => by
    have h0 : p a = true := (h 0 (by simp)).1 (by omega)
    rw [List.countP_cons, h0, count_pre p l n (by simpa using hn) (fun k hk => by
      have := h (k + 1) (by simpa using hk)
      simpa using this)]
    rfl
theorem find_eq {s : List (Int × Int)} (hr : Rises s) {t : Int × Int} {n : Nat} {q : Bool} (hn : n ≤ s.length) (hk : ∀ k (h : k < s.length), k < n ↔ HT.byC s[k] t < 0) (hq : q = true ↔ ∃ h : n < s.length, HT.byC s[n] t = 0) : n = cntR s t.1 ∧ q = hasR s t.1 := by
  refine ⟨?_, ?_⟩
  · symm
    exact count_pre _ s n hn (fun k h => by rw [hk k h, byC_lt]; simp)
  · rw [Bool.eq_iff_iff, hq]
    unfold hasR
    rw [List.any_eq_true]
    constructor
    · rintro ⟨h, e⟩
      rw [byC_zero] at e
      exact ⟨s[n], List.getElem_mem h, by simpa using e⟩
    · rintro ⟨x, hx, e⟩
      obtain ⟨j, hj, rfl⟩ := List.mem_iff_getElem.1 hx
      have ej : s[j].1 = t.1 := by simpa using e
      have hnj : ¬ j < n := fun h => by have := (hk j hj).1 h; rw [byC_lt] at this; omega
      have hns : n < s.length := by omega
      refine ⟨hns, ?_⟩
      rw [byC_zero]
      have h1 : ¬ s[n].1 < t.1 := fun h => by have := (hk n hns).2 ((byC_lt _ _).2 h); omega
      by_cases e2 : n = j
      · subst e2; exact ej
      · have := List.pairwise_iff_getElem.1 hr n j hns hj (by omega)
        omega

set_option maxRecDepth 100000 in
set_option maxHeartbeats 4000000 in
theorem finds_walk (w : World) (a : Option Addr) (b off c : Nat) (l : List (Int × Int)) (t1 t2 : Int) (hS : ThS w a b off l) (hb : (l.length + 9) * 16 ≤ 140737488355328) :
    Calls Try.prog 5 #[.slice a l.length c, .agg #[.int .i64 t1, .int .i64 t2]] w fun e w' => e = .returned (.bool true) ∧ Stay w w' := by
  obtain ⟨W0, hW0⟩ : ∃ W0, W0 = w.alloc (.cells #[.int .i64 t1, .int .i64 t2] 33) := ⟨_, rfl⟩
  obtain ⟨B, hB⟩ : ∃ B, B = w.heap.size := ⟨_, rfl⟩
  have HB : Hid (Stay w W0 ∧ W0.cell? ⟨B, 0, none⟩ = some (.int .i64 t1) ∧ W0.cell? ⟨B, 1, none⟩ = some (.int .i64 t2)) := by rw [hW0, hB]; exact ⟨Stay.new _ _, by simp, by simp⟩
  have hso := rsort_any W0 a b off c l (hS.stay HB.out.1) (by omega)
  obtain ⟨s, hs⟩ : ∃ s, s = sortR l := ⟨_, rfl⟩
  rw [← hs] at hso
  have HSR : Hid (Rises s ∧ s.length = l.length) := by rw [hs]; exact ⟨sortR_rises l, sortR_len l⟩
  have hl60 : (l.length : Int) ≤ 8796093022208 := by omega
  have HL : Hid ((l.length + 9) * 16 ≤ 140737488355328) := hb
  clear hs hS hb
  go_enter Try.func5, Try.ntmps5
  go_wp2_with fail
  rw [← hW0, ← hB]
  clear hW0 hB
  refine hso.mono ?_
  rintro e w1 ⟨v, rfl, hown, hst⟩
  obtain ⟨sa, sb, sc, rfl, hT, hn, _, _⟩ := hown.form
  have S1 : Hid (Stay w w1 ∧ ThS w1 sa sb 0 s ∧ w1.cell? ⟨B, 0, none⟩ = some (.int .i64 t1) ∧ w1.cell? ⟨B, 1, none⟩ = some (.int .i64 t2)) := ⟨HB.out.1.trans hst, hT, hst.cell HB.out.2.1, hst.cell HB.out.2.2⟩
  have hle := lend_any w1 sa sb 0 sc s hT hn (by rw [HSR.out.2]; exact HL.out)
  clear hown hst hT hn hso HB
  go_wp2_with fail
  refine hle.mono ?_
  rintro e w2 ⟨g, gc, rfl, hLe, hst⟩
  have S2 : Hid (Stay w w2 ∧ ThS w2 sa sb 0 s ∧ w2.cell? ⟨B, 0, none⟩ = some (.int .i64 t1) ∧ w2.cell? ⟨B, 1, none⟩ = some (.int .i64 t2) ∧ LentH w1.heap.size w2 g gc s) := ⟨S1.out.1.trans hst, S1.out.2.1.stay hst, hst.cell S1.out.2.2.1, hst.cell S1.out.2.2.2, hLe⟩
  have b0 := S2.out.2.2.1
  have b1 := S2.out.2.2.2.1
  clear hle hst hLe S1
  have hf1 := HT.findBy w2 (some ⟨g, 0, none⟩) g 0 gc s S2.out.2.2.2.2.things t1 t2 (by rw [HSR.out.2]; omega) (fun i j hij hj h => by
    rw [byC_lt] at h ⊢
    by_cases e : i = j
    · subst e; exact h
    · have := List.pairwise_iff_getElem.1 HSR.out.1 i j (by omega) hj (by omega)
      dsimp only at h ⊢
      omega)
  go_wp2_with fail
  refine hf1.mono ?_
  rintro e w3 ⟨n, q, rfl, hn, hk, hq, hst⟩
  have HNQ : Hid (n = cntR s t1 ∧ q = hasR s t1) := find_eq HSR.out.1 hn hk hq
  have hn60 : (n : Int) ≤ 8796093022208 := by have := HSR.out.2; omega
  have S3 : Hid (Stay w w3 ∧ ThS w3 sa sb 0 s ∧ w3.cell? ⟨B, 0, none⟩ = some (.int .i64 t1) ∧ w3.cell? ⟨B, 1, none⟩ = some (.int .i64 t2) ∧ LentH w1.heap.size w3 g gc s) := ⟨S2.out.1.trans hst, S2.out.2.1.stay hst, hst.cell S2.out.2.2.1, hst.cell S2.out.2.2.2.1, S2.out.2.2.2.2.stay hst⟩
  clear b0 b1 S2 hf1 hn hk hq hst
  have b0 := S3.out.2.2.1
  have b1 := S3.out.2.2.2.1
  have hf2 := rfind_any w3 sa sb 0 sc s S3.out.2.1 (by rw [HSR.out.2]; omega) t1 t2
  rw [← HNQ.out.1, ← HNQ.out.2] at hf2
  go_wp2_with fail
  refine hf2.mono ?_
  rintro e w4 ⟨rfl, hst⟩
  have S4 : Hid (Stay w w4 ∧ ThS w4 sa sb 0 s ∧ w4.cell? ⟨B, 0, none⟩ = some (.int .i64 t1) ∧ w4.cell? ⟨B, 1, none⟩ = some (.int .i64 t2) ∧ LentH w1.heap.size w4 g gc s) := ⟨S3.out.1.trans hst, S3.out.2.1.stay hst, hst.cell S3.out.2.2.1, hst.cell S3.out.2.2.2.1, S3.out.2.2.2.2.stay hst⟩
  clear b0 b1 S3 hf2 hst
  have b0 := S4.out.2.2.1
  have b1 := S4.out.2.2.2.1
  have hf3 := HT.findNo w4 (some ⟨g, 0, none⟩) g 0 gc s S4.out.2.2.2.2.things t1 t2 (by rw [HSR.out.2]; omega) (fun i j hij hj h => h)
  go_wp2_with fail
  refine hf3.mono ?_
  rintro e w5 ⟨n5, q5, rfl, hn, hk, hq, hst⟩
  have hn5 : n5 = 0 := by
    cases n5 with
    | zero => rfl
    | succ m => have := (hk 0 (by omega)).1 (by omega); simp [HT.noC] at this
  have hq5 : q5 = decide ((0 : Int) < (l.length : Int)) := by
    have := HSR.out.2
    subst hn5
    rw [Bool.eq_iff_iff, hq]
    simp [HT.noC]
    omega
  subst hn5
  have S5 : Hid (Stay w w5 ∧ ThS w5 sa sb 0 s ∧ LentH w1.heap.size w5 g gc s) := ⟨S4.out.1.trans hst, S4.out.2.1.stay hst, S4.out.2.2.2.2.stay hst⟩
  have hk := kept_any w5 g gc sa sb 0 sc _ s S5.out.2.2 S5.out.2.1
  clear b0 b1 S4 hf3 hn hq hst
  subst hq5
  have HW : Hid (∀ W, Calls Try.prog 15 #[] W fun e w' => e = .returned (.bool true) ∧ Stay W w') := works_any
  go_wp2_with fail
  refine hk.mono ?_
  rintro e w6 ⟨rfl, hst⟩
  have S6 : Hid (Stay w w6) := S5.out.1.trans hst
  clear hk hst S5
  go_wp2_with fail
  refine (HW.out w6).mono ?_
  rintro e w7 ⟨rfl, hst⟩
  have S7 : Hid (Stay w w7) := S6.out.trans hst
  clear hst S6
  go_wp2
  go_ret
  exact ⟨rfl, S7.out⟩
end Go.Proofs.Ytdbilngkokkggaa
