/- TupleKeys: its walk. -/
import Derived.Test.YtihkdaaghobckaaDoorS
import Derived.Deep.DeepCutAuto
namespace Go.Proofs.YtihkdaaghobckaaDoor
open Go.RowKit Go.Maps

/-- The array k lies in block kb, the list that is wanted is v. -/
def Kst (w W : World) (kb : Nat) (v : Value) (M : List Int) : Prop := Stay w W ∧ W.heap[kb]? = some (.cells (arrV M) 24 (0, 0)) ∧ OwnI w.heap.size W v M
theorem Kst.stay {w W W' : World} {kb : Nat} {v : Value} {M : List Int} (h : Kst w W kb v M) (hs : Stay W W') : Kst w W' kb v M := ⟨h.1.trans hs, hs.heap h.2.1, h.2.2.stay hs⟩

theorem ints_take {w : World} {a : Option Addr} {b o : Nat} {zs : List Int} (h : IntsS w a b o zs) (n : Nat) : IntsS w a b o (zs.take n) :=
  ⟨fun h0 => h.1 (by rw [List.length_take] at h0; omega), fun j hj => by
    rw [List.getElem_take]
    exact h.2 j (by rw [List.length_take] at hj; omega)⟩

/-- A list of its own, as the book has it. -/
def IsAns (base : Nat) (w : World) (A : Ans) : Prop :=
  (A.a = none → A.len = 0 ∧ A.cap = 0) ∧ (A.a ≠ none → A.a = some ⟨A.g, 0, none⟩ ∧ A.len ≤ A.cap ∧ A.cap ≤ maxLen ∧ base ≤ A.g ∧ A.g < w.heap.size ∧ Room w A.g A.cap)
theorem OwnI.ans {base : Nat} {w : World} {v : Value} {zs : List Int} (h : OwnI base w v zs) : ∃ A : Ans, v = .slice A.a zs.length A.cap ∧ A.len = zs.length ∧ IsAns base w A ∧ IntsS w A.a A.g 0 zs := by
  have h0 := h
  rcases h.2 with ⟨hx, h2⟩ | ⟨b, c, cur, hv, hb, hh, h1, h2, h3, h4⟩
  · have hz : zs = [] := by simpa using h2
    subst hz
    exact ⟨⟨none, 0, 0, 0⟩, hx, rfl, ⟨fun _ => ⟨rfl, rfl⟩, fun h => absurd rfl h⟩, fun h => by simp at h, fun j hj => by simp at hj⟩
  · refine ⟨⟨some ⟨b, 0, none⟩, b, zs.length, c⟩, hv, rfl, ⟨fun h => by simp at h, fun _ => ⟨rfl, h1, h2, hb, (Array.getElem?_eq_some_iff.1 hh).1, cur, hh, by rw [Nat.mul_one] at h3; exact h3⟩⟩, ?_⟩
    unfold OwnI at h0
    rw [hv] at h0
    exact ints_of_row (r := []) (by simpa using h0)
theorem IsAns.stay {base : Nat} {w w' : World} {A : Ans} (h : IsAns base w A) (hs : Stay w w') : IsAns base w' A :=
  ⟨h.1, fun hn => by
    obtain ⟨h1, h2, h3, h4, h5, cur, h6, h7⟩ := h.2 hn
    exact ⟨h1, h2, h3, h4, Nat.lt_of_lt_of_le h5 hs.size, cur, hs.heap h6, h7⟩⟩
theorem IsAns.mono {base base' : Nat} {w : World} {A : Ans} (h : IsAns base w A) (hb : base' ≤ base) : IsAns base' w A :=
  ⟨h.1, fun hn => by
    obtain ⟨h1, h2, h3, h4, h5⟩ := h.2 hn
    exact ⟨h1, h2, h3, by omega, h5⟩⟩

/-- Three lists, each made behind the one before, and a book behind them: Ints, and then Apart. -/
theorem fit3 {W : World} {A B C : Ans} {n1 n2 n3 : Nat} {bb bn : Nat} (h1 : IsAns n1 W A) (h2 : IsAns n2 W B) (h3 : IsAns n3 W C) (hA : A.a ≠ none → A.g < n2) (hB : B.a ≠ none → B.g < n3) (hC : C.a ≠ none → C.g < bb) (h23 : n2 ≤ n3) (h3b : n3 ≤ bb) (hbn : bb < bn)
    (hl : (A.len + 20) * 8 ≤ 140737488355328 ∧ (B.len + 20) * 8 ≤ 140737488355328 ∧ (C.len + 20) * 8 ≤ 140737488355328) : Fit W [A, B, C] bb bn := by
  refine ⟨?_, ?_, ?_, ?_, ?_⟩
  · intro X hX; simp at hX; rcases hX with rfl | rfl | rfl
    · exact h1.1
    · exact h2.1
    · exact h3.1
  · intro X hX; simp at hX; rcases hX with rfl | rfl | rfl
    · exact fun hn => ⟨(h1.2 hn).1, (h1.2 hn).2.1, (h1.2 hn).2.2.1, (h1.2 hn).2.2.2.2.1⟩
    · exact fun hn => ⟨(h2.2 hn).1, (h2.2 hn).2.1, (h2.2 hn).2.2.1, (h2.2 hn).2.2.2.2.1⟩
    · exact fun hn => ⟨(h3.2 hn).1, (h3.2 hn).2.1, (h3.2 hn).2.2.1, (h3.2 hn).2.2.2.2.1⟩
  · intro X hX; simp at hX; rcases hX with rfl | rfl | rfl
    · exact hl.1
    · exact hl.2.1
    · exact hl.2.2
  · intro i j hi hj hij hni hnj
    have e1 : A.a ≠ none → n1 ≤ A.g := fun h => (h1.2 h).2.2.2.1
    have e2 : B.a ≠ none → n2 ≤ B.g := fun h => (h2.2 h).2.2.2.1
    have e3 : C.a ≠ none → n3 ≤ C.g := fun h => (h3.2 h).2.2.2.1
    simp only [List.length_cons, List.length_nil] at hi hj
    match i, j, hi, hj with
    | 0, 0, _, _ => exact absurd rfl hij
    | 0, 1, _, _ => have a1 := hA hni; have a2 := e2 hnj; show A.g ≠ B.g; omega
    | 0, 2, _, _ => have a1 := hA hni; have a2 := e3 hnj; show A.g ≠ C.g; omega
    | 1, 0, _, _ => have a1 := hA hnj; have a2 := e2 hni; show B.g ≠ A.g; omega
    | 1, 1, _, _ => exact absurd rfl hij
    | 1, 2, _, _ => have a1 := hB hni; have a2 := e3 hnj; show B.g ≠ C.g; omega
    | 2, 0, _, _ => have a1 := hA hnj; have a2 := e3 hni; show C.g ≠ A.g; omega
    | 2, 1, _, _ => have a1 := hB hnj; have a2 := e3 hni; show C.g ≠ B.g; omega
    | 2, 2, _, _ => exact absurd rfl hij
  · intro X hX; simp at hX; rcases hX with rfl | rfl | rfl
    · intro hn; have := hA hn; constructor <;> omega
    · intro hn; have := hB hn; constructor <;> omega
    · intro hn; have := hC hn; constructor <;> omega

theorem room3 {W : World} {A B C : Ans} {n1 n2 n3 : Nat} (h1 : IsAns n1 W A) (h2 : IsAns n2 W B) (h3 : IsAns n3 W C) : ∀ X ∈ [A, B, C], X.a ≠ none → Room W X.g X.cap := by
  intro X hX; simp at hX; rcases hX with rfl | rfl | rfl
  · exact fun hn => (h1.2 hn).2.2.2.2.2
  · exact fun hn => (h2.2 hn).2.2.2.2.2
  · exact fun hn => (h3.2 hn).2.2.2.2.2

theorem IsAns.turn {S : Nat → Prop} {base : Nat} {w w' : World} {A : Ans} (h : IsAns base w A) (ht : Turn S w w') (hS : A.a ≠ none → ¬ S A.g) : IsAns base w' A :=
  ⟨h.1, fun hn => by
    obtain ⟨h1, h2, h3, h4, h5, h6⟩ := h.2 hn
    exact ⟨h1, h2, h3, h4, Nat.lt_of_lt_of_le h5 ht.size, h6.turn ht (hS hn)⟩⟩
theorem own3 {W : World} {A B C : Ans} {n1 n2 n3 n : Nat} (h1 : IsAns n1 W A) (h2 : IsAns n2 W B) (h3 : IsAns n3 W C) (e1 : n ≤ n1) (e2 : n ≤ n2) (e3 : n ≤ n3) : ∀ k, k < n → ¬ Own [A, B, C] k := by
  rintro k hk ⟨X, hX, hn, rfl⟩
  simp at hX
  rcases hX with rfl | rfl | rfl
  · have := (h1.2 hn).2.2.2.1; omega
  · have := (h2.2 hn).2.2.2.1; omega
  · have := (h3.2 hn).2.2.2.1; omega

theorem own_ints_at {base : Nat} {W : World} {g n c : Nat} {zs : List Int} (h : OwnI base W (.slice (some ⟨g, 0, none⟩) n c) zs) : IntsS W (some ⟨g, 0, none⟩) g 0 zs := by
  obtain ⟨a, b, c', e1, e2⟩ := h.ints
  simp only [Value.slice.injEq] at e1
  refine ⟨fun _ => rfl, fun j hj => ?_⟩
  have h1 := e2.1 (by omega)
  rw [← e1.1] at h1
  simp only [Option.some.injEq, Addr.mk.injEq] at h1
  rw [h1.1]
  exact e2.2 j hj

theorem sizeM {M : List Int} (h : M.length = 16) : (Tryd.prog.info? 24).map (·.size) = some (arrV M).size := by
  rw [arrV_size, h]; exact sizeArr

set_option maxRecDepth 100000 in
set_option maxHeartbeats 8000000 in
theorem keys_walk (w : World) (a1 : Option Addr) (b1 o1 c1 : Nat) (xs : List Int) (n : Int) (hx : IntsS w a1 b1 o1 xs) (ha1 : a1 = none → c1 = 0 ∧ xs = []) (hb1 : (xs.length + 9) * 8 ≤ 140737488355328) :
    Calls Tryd.prog 3 #[.slice a1 xs.length c1, .int .i64 n] w fun e w' => e = .returned (.bool true) ∧ Stay w w' := by
  obtain ⟨M, E, hM, hE, HK, HR⟩ : ∃ (M : List Int) (E : Int), M.length = 16 ∧ (E = 0 ∧ M.take xs.length = xs ∧ xs.length ≤ 16 ∨ E = 3 ∧ 16 < xs.length) ∧
      (∀ (W : World) (a : Option Addr) (b o c : Nat), IntsS W a b o xs → Calls Tryd.prog 8 #[.slice a xs.length c] W fun e w' => e = .returned (.tuple #[.agg (arrV M), .int .i64 E]) ∧ Stay W w') ∧
      (∀ (W : World) (a : Option Addr) (b o c : Nat), IntsS W a b o xs → Calls Tryd.prog 9 #[.slice a xs.length c] W fun e w' => ∃ v, e = .returned (.tuple #[v, .int .i64 E]) ∧ OwnI W.heap.size w' v M ∧ Stay W w') := by
    by_cases h : xs.length ≤ 16
    · exact ⟨padI xs, 0, padI_len h, .inl ⟨rfl, by unfold padI; simp, h⟩, fun W a b o c hI => key_any W a b o c xs hI h, fun W a b o c hI => rkey_any W a b o c xs hI h⟩
    · exact ⟨padI [], 3, rfl, .inr ⟨rfl, by omega⟩, fun W a b o c _ => key_long W a c _ (by omega), fun W a b o c _ => rkey_long W a c _ (by omega)⟩
  have HA : Hid (IntsS w a1 b1 o1 xs) := hx
  have HKR : Hid ((∀ (W : World) (a : Option Addr) (b o c : Nat), IntsS W a b o xs → Calls Tryd.prog 8 #[.slice a xs.length c] W fun e w' => e = .returned (.tuple #[.agg (arrV M), .int .i64 E]) ∧ Stay W w') ∧
      (∀ (W : World) (a : Option Addr) (b o c : Nat), IntsS W a b o xs → Calls Tryd.prog 9 #[.slice a xs.length c] W fun e w' => ∃ v, e = .returned (.tuple #[v, .int .i64 E]) ∧ OwnI W.heap.size w' v M ∧ Stay W w')) := ⟨HK, HR⟩
  have HME : Hid (M.length = 16 ∧ (E = 0 ∧ M.take xs.length = xs ∧ xs.length ≤ 16 ∨ E = 3 ∧ 16 < xs.length)) := ⟨hM, hE⟩
  have hz := (zero_of_info infoArr).1
  obtain ⟨Z, hZ⟩ : ∃ Z, Z = List.replicate 16 (Value.int .i64 0) := ⟨_, rfl⟩
  rw [← hZ] at hz
  have HZ : Hid (Z.toArray.size = 16) := by show _ = _; simp [hZ]
  obtain ⟨K, hK⟩ : ∃ K, K = arrV M := ⟨_, rfl⟩
  have HKK : Hid (K = arrV M ∧ K.size = 16 ∧ K.all (·.oneCell') = true) := ⟨hK, by rw [hK, arrV_size, hM], by rw [hK]; exact arrV_one _⟩
  clear hx hM hE HK HR hZ hK
  go_enter Tryd.func3, Tryd.ntmps3
  go_wp2_with fail
  refine (lend_any w a1 b1 o1 c1 xs HA.out ha1 hb1).mono ?_
  rintro e w1 ⟨g1, k1, rfl, hl1, hs1⟩
  have S1 : Hid (Lent w.heap.size w1 g1 k1 xs ∧ Stay w w1) := ⟨hl1, hs1⟩
  clear hl1 hs1 ha1
  go_wp2_with fail
  refine (HKR.out.1 w1 _ _ _ k1 S1.out.1.ints).mono ?_
  rintro e w2 ⟨rfl, hs⟩
  have S2 : Hid (Lent w.heap.size w2 g1 k1 xs ∧ Stay w w2) := ⟨S1.out.1.stay hs, S1.out.2.trans hs⟩
  clear hs S1
  rw [← HKK.out.1]
  go_wp2_with (refine wpList_store_fresh rfl 24 (.tmp 6) (.tmp 23) rfl K _ rfl rfl 24 (by rw [HKK.out.2.1]; exact sizeArr) (by rw [HZ.out, HKK.out.2.1]) HKK.out.2.2 ?_)
  refine (HKR.out.2 (w2.alloc (.cells K 24)) a1 b1 o1 c1 (HA.out.stay (S2.out.2.alloc _))).mono ?_
  rintro e w3 ⟨v, rfl, hown, hs⟩
  obtain ⟨g8, c8, rfl⟩ := own_form (n := 15) (by have h := hown; unfold OwnI at h; rw [HME.out.1] at h; exact h)
  have S3 : Hid (Kst w w3 w2.heap.size (.slice (some ⟨g8, 0, none⟩) 16 c8) M ∧ Lent w.heap.size w3 g1 k1 xs) :=
    ⟨⟨(S2.out.2.alloc _).trans hs, by rw [← HKK.out.1]; exact hs.heap (heap_alloc_new _ _), hown.mono (by rw [World.size_alloc]; have := S2.out.2.size; omega)⟩, (S2.out.1.stay (Stay.new _ _)).stay hs⟩
  generalize w2.heap.size = kb at S3 ⊢
  clear hs hown S2 hz HZ
  go_upto_region 4 with fail
  go_cut [39] (fun c wx => c = .bool false ∧ Kst w wx kb (.slice (some ⟨g8, 0, none⟩) 16 c8) M)
  case first =>
    go_wp2_with (go_at_call 10; refine Calls.mono (num_any _ _) ?_; rintro e w9 ⟨rfl, hw9⟩; subst w9)
    refine (kept_any w3 g1 k1 a1 b1 o1 c1 _ xs S3.out.2 (HA.out.stay S3.out.1.1)).mono ?_
    rintro e w4 ⟨rfl, m, hm⟩
    have S4 : Hid (Kst w w4 kb (.slice (some ⟨g8, 0, none⟩) 16 c8) M) := by rw [hm]; exact S3.out.1.stay (Stay.drewN _ _)
    clear hm
    go_wp2_with fail
    go_meet
    exact ⟨rfl, S4.out⟩
  case rest =>
    obtain ⟨rfl, hB⟩ := hcut
    have S5 : Hid (Kst w wc kb (.slice (some ⟨g8, 0, none⟩) 16 c8) M) := hB
    clear hB S3
    go_wp2_with fail
    go_loopw [10] (fun i wr => ∃ k : Nat, k ≤ 16 ∧ i = .int .i64 k ∧ Kst w wr kb (.slice (some ⟨g8, 0, none⟩) 16 c8) M) (fun i _ => 16 - (intOf i).toNat)
    case atStart => exact ⟨0, by omega, rfl, S5.out⟩
    case round =>
      obtain ⟨k, hk, rfl, hst⟩ := hrel
      by_cases hlt : k < 16
      · have hi1 : (k : Int) < 16 := by omega
        have hkM : k < M.length := by rw [HME.out.1]; exact hlt
        have hc1 : wr.cell? ⟨kb, k, none⟩ = some (.int .i64 M[k]) := (cell_of_row _ _ _ _ _ _ hst.2.1).trans (by simp [arrV, hkM])
        have hc2 : wr.cell? ⟨g8, k, none⟩ = some (.int .i64 M[k]) := by
          have h := hst.2.2
          unfold OwnI at h
          rw [HME.out.1] at h
          exact row_cell h k _ (by simp [hkM])
        have HS : Hid (Kst w wr kb (.slice (some ⟨g8, 0, none⟩) 16 c8) M) := hst
        clear hst S5
        generalize M[k] = z at hc1 hc2
        go_wp2
        go_quiet (fail)
        go_wp2
        go_roundw
        case rel => exact ⟨k + 1, by omega, by go_num, HS.out.stay (Stay.drewN _ _)⟩
        case measure => simp [intOf]; omega
      · have hi1 : ¬ (k : Int) < 16 := by omega
        have S6 : Hid (Kst w wr kb (.slice (some ⟨g8, 0, none⟩) 16 c8) M) := hst
        obtain ⟨w6, hw6⟩ : ∃ w6, w6 = wr := ⟨_, rfl⟩
        subst hw6
        clear hst S5
        by_cases hn : n < 0 ∨ 16 < n
        · go_wp2_with (first | (refine wpList_load_row rfl 24 (.tmp 6) rfl kb rfl 24 (arrV M) (0, 0) (.array 16 3) S6.out.2.1 Tryd.underlying24 rfl (sizeM HME.out.1) ?_))
          refine (from_out w6 _ n hn).mono ?_
          rintro e w7 ⟨rfl, hs⟩
          have S7 : Hid (Kst w w7 kb (.slice (some ⟨g8, 0, none⟩) 16 c8) M) := S6.out.stay hs
          clear hs S6
          go_wp2_with (first | (refine wpList_load_row rfl 24 (.tmp 6) rfl kb rfl 24 (arrV M) (0, 0) (.array 16 3) S7.out.2.1 Tryd.underlying24 rfl (sizeM HME.out.1) ?_))
          refine (from_out w7 _ n hn).mono ?_
          rintro e w8 ⟨rfl, hs⟩
          have S8 : Hid (Stay w w8) := S7.out.1.trans hs
          clear hs S7
          have HW := works_any w8
          rcases hn with hn | hn
          · go_wp2_with (first | (go_at_call 10; refine Calls.mono (num_any _ _) ?_; rintro e w9 ⟨rfl, hw9⟩; subst w9) | (go_at_call 13; refine Calls.mono HW ?_; rintro e w9 ⟨rfl, hs⟩; have S9 : Hid (Stay w w9) := S8.out.trans hs; clear hs HW))
            go_ret
            exact ⟨rfl, S9.out⟩
          · have hn2 : ¬ n < 0 := by omega
            go_wp2_with (first | (go_at_call 10; refine Calls.mono (num_any _ _) ?_; rintro e w9 ⟨rfl, hw9⟩; subst w9) | (go_at_call 13; refine Calls.mono HW ?_; rintro e w9 ⟨rfl, hs⟩; have S9 : Hid (Stay w w9) := S8.out.trans hs; clear hs HW))
            go_ret
            exact ⟨rfl, S9.out⟩
        · obtain ⟨m, rfl⟩ : ∃ m : Nat, n = m := ⟨n.toNat, by omega⟩
          have hm : m ≤ 16 := by omega
          have h1 : ¬ (m : Int) < 0 := by omega
          have h2 : (m : Int) ≤ 16 := by omega
          clear hn
          go_wp2_with (first | (refine wpList_load_row rfl 24 (.tmp 6) rfl kb rfl 24 (arrV M) (0, 0) (.array 16 3) S6.out.2.1 Tryd.underlying24 rfl (sizeM HME.out.1) ?_))
          refine (from_any w6 M HME.out.1 m hm).mono ?_
          rintro e w7 ⟨v1, rfl, hown, hs⟩
          obtain ⟨A1, rfl, hA1l, hA1, hI1⟩ := hown.ans
          have hlm : (M.take m).length = m := by rw [List.length_take, HME.out.1]; omega
          rw [hlm] at hA1l ⊢
          have S7 : Hid (Kst w w7 kb (.slice (some ⟨g8, 0, none⟩) 16 c8) M ∧ A1.len = m ∧ IsAns w6.heap.size w7 A1 ∧ IntsS w7 A1.a A1.g 0 (M.take m) ∧ (w.heap.size ≤ w6.heap.size ∧ w6.heap.size ≤ w7.heap.size) ∧ (M.take m).length = m) := ⟨S6.out.stay hs, hA1l, hA1, hI1, ⟨S6.out.1.size, hs.size⟩, hlm⟩
          clear hs hown hA1l hA1 hI1 S6 hlm
          go_wp2_with (first | (refine wpList_load_row rfl 24 (.tmp 6) rfl kb rfl 24 (arrV M) (0, 0) (.array 16 3) S7.out.1.2.1 Tryd.underlying24 rfl (sizeM HME.out.1) ?_))
          refine (from_any w7 M HME.out.1 m hm).mono ?_
          rintro e w8 ⟨v2, rfl, hown, hs⟩
          obtain ⟨A2, rfl, hA2l, hA2, hI2⟩ := hown.ans
          rw [S7.out.2.2.2.2.2] at hA2l ⊢
          have S8 : Hid (Kst w w8 kb (.slice (some ⟨g8, 0, none⟩) 16 c8) M ∧ (A1.len = m ∧ IsAns w6.heap.size w8 A1 ∧ IntsS w8 A1.a A1.g 0 (M.take m)) ∧ (A2.len = m ∧ IsAns w7.heap.size w8 A2 ∧ IntsS w8 A2.a A2.g 0 (M.take m)) ∧ w.heap.size ≤ w6.heap.size ∧ w6.heap.size ≤ w7.heap.size ∧ (A1.a ≠ none → A1.g < w7.heap.size) ∧ (A2.a ≠ none → A2.g < w8.heap.size) ∧ (M.take m).length = m ∧ w7.heap.size ≤ w8.heap.size) :=
            ⟨S7.out.1.stay hs, ⟨S7.out.2.1, S7.out.2.2.1.stay hs, S7.out.2.2.2.1.stay hs⟩, ⟨hA2l, hA2, hI2⟩, S7.out.2.2.2.2.1.1, S7.out.2.2.2.2.1.2, fun h => (S7.out.2.2.1.2 h).2.2.2.2.1, fun h => (hA2.2 h).2.2.2.2.1, S7.out.2.2.2.2.2, hs.size⟩
          clear hs hown hA2l hA2 hI2 S7
          have hc8 : (16 : Int) ≤ (c8 : Int) := by
            have h := S8.out.1.2.2
            unfold OwnI at h
            rw [HME.out.1] at h
            have := (rowBound h rfl).2.1
            omega
          have hmc : (m : Int) ≤ (c8 : Int) := by omega
          have HINT : Hid (∀ (W : World) (a : Option Addr) (b c : Nat) (a' : Option Addr) (b' c' : Nat), IntsS W a b 0 (M.take m) → IntsS W a' b' 0 (M.take m) → Calls Tryd.prog 14 #[.slice a m c, .slice a' m c'] W fun e w' => e = .returned (.bool true) ∧ Stay W w') := fun W a b c a' b' c' e1 e2 => by
            have h := ints_any W a a' b 0 b' 0 c c' (M.take m) (M.take m) e1 e2 (by rw [S8.out.2.2.2.2.2.2.2.1]; unfold maxLen; omega) (by rw [S8.out.2.2.2.2.2.2.2.1]; unfold maxLen; omega)
            rw [S8.out.2.2.2.2.2.2.2.1] at h
            refine h.mono ?_
            rintro e w' ⟨rfl, q, rfl⟩
            exact ⟨by simp, Stay.drewN _ _⟩
          go_upto_region 15 with fail
          go_cut [97] (fun c wx => c = .bool false ∧ Stay w8 wx)
          case first =>
            go_wp2_with (go_at_call 10; refine Calls.mono (num_any _ _) ?_; rintro e w9 ⟨rfl, hw9⟩; subst w9)
            refine (HINT.out w8 _ _ A1.cap _ _ c8 S8.out.2.1.2.2 (ints_take (own_ints_at S8.out.1.2.2) m)).mono ?_
            rintro e w9 ⟨rfl, hs⟩
            have S9 : Hid (Stay w8 w9) := hs
            clear hs
            go_wp2_with fail
            refine (HINT.out w9 _ _ A2.cap _ _ A1.cap (S8.out.2.2.1.2.2.stay S9.out) (S8.out.2.1.2.2.stay S9.out)).mono ?_
            rintro e w10 ⟨rfl, hs⟩
            have S10 : Hid (Stay w8 w10) := S9.out.trans hs
            clear hs
            go_wp2_with fail
            go_meet
            exact ⟨rfl, S10.out⟩
          case rest =>
            obtain ⟨rfl, hst⟩ := hcut
            have S9 : Hid (Stay w8 wc) := hst
            clear hst
            have S9k := (S8.out.1.stay S9.out).2.1
            have HKB : Hid (wc.heap[kb]? = some (.cells (arrV M) 24 (0, 0))) := S9k
            clear S9k
            rcases HME.out.2 with ⟨rfl, hxs, hlen⟩ | ⟨rfl, hlen⟩
            · have hli : (xs.length : Int) ≤ 16 := by omega
              go_wp2_with (first | (refine wpList_load_row rfl 24 (.tmp 6) rfl kb rfl 24 (arrV M) (0, 0) (.array 16 3) HKB.out Tryd.underlying24 rfl (sizeM HME.out.1) ?_))
              refine (from_any wc M HME.out.1 xs.length hlen).mono ?_
              rintro e w11 ⟨v3, rfl, hown, hs⟩
              obtain ⟨A3, rfl, hA3l, hA3, hI3⟩ := hown.ans
              have hlq : (M.take xs.length).length = xs.length := by rw [List.length_take, HME.out.1]; omega
              rw [hlq] at hA3l ⊢
              have S11 : Hid ((A1.len = m ∧ IsAns w6.heap.size w11 A1) ∧ (A2.len = m ∧ IsAns w7.heap.size w11 A2) ∧ (A3.len = xs.length ∧ IsAns w8.heap.size w11 A3 ∧ IntsS w11 A3.a A3.g 0 (M.take xs.length)) ∧ (A1.a ≠ none → A1.g < w7.heap.size) ∧ (A2.a ≠ none → A2.g < w8.heap.size) ∧ w7.heap.size ≤ w8.heap.size ∧ Stay w w11 ∧ w.heap.size ≤ w6.heap.size ∧ w6.heap.size ≤ w7.heap.size) :=
                ⟨⟨S8.out.2.1.1, S8.out.2.1.2.1.stay (S9.out.trans hs)⟩, ⟨S8.out.2.2.1.1, S8.out.2.2.1.2.1.stay (S9.out.trans hs)⟩, ⟨hA3l, hA3.mono S9.out.size, hI3⟩, S8.out.2.2.2.2.2.1, S8.out.2.2.2.2.2.2.1, S8.out.2.2.2.2.2.2.2.2, (S8.out.1.1.trans S9.out).trans hs, S8.out.2.2.2.1, S8.out.2.2.2.2.1⟩
              have hs11 := hs.size
              clear hs hown hA3l hA3 hI3
              have HI3 : Hid (IntsS w11 A3.a A3.g 0 xs) := by have h := S11.out.2.2.1.2.2; rw [hxs] at h; exact h
              go_wp2_with fail
              refine (ints_any w11 A3.a a1 A3.g 0 b1 o1 A3.cap c1 xs xs HI3.out (HA.out.stay S11.out.2.2.2.2.2.2.1) (by unfold maxLen; omega) (by unfold maxLen; omega)).mono ?_
              rw [show decide (xs = xs) = true by simp]
              rintro e w13 ⟨rfl, q, hq⟩
              have hs13 : Stay w11 w13 := by rw [hq]; exact Stay.drewN _ _
              clear hq HI3
              have S13 : Hid ((A1.len = m ∧ IsAns w6.heap.size w13 A1) ∧ (A2.len = m ∧ IsAns w7.heap.size w13 A2) ∧ (A3.len = xs.length ∧ IsAns w8.heap.size w13 A3) ∧ (A1.a ≠ none → A1.g < w7.heap.size) ∧ (A2.a ≠ none → A2.g < w8.heap.size) ∧ (A3.a ≠ none → A3.g < w13.heap.size) ∧ w7.heap.size ≤ w8.heap.size ∧ w8.heap.size ≤ w13.heap.size ∧ Stay w w13 ∧ w.heap.size ≤ w6.heap.size ∧ w6.heap.size ≤ w7.heap.size) :=
                ⟨⟨S11.out.1.1, S11.out.1.2.stay hs13⟩, ⟨S11.out.2.1.1, S11.out.2.1.2.stay hs13⟩, ⟨S11.out.2.2.1.1, S11.out.2.2.1.2.1.stay hs13⟩, S11.out.2.2.2.1, S11.out.2.2.2.2.1, fun h => ((S11.out.2.2.1.2.1.stay hs13).2 h).2.2.2.2.1, S11.out.2.2.2.2.2.1, Nat.le_trans (Nat.le_trans S9.out.size hs11) hs13.size, S11.out.2.2.2.2.2.2.1.trans hs13, S11.out.2.2.2.2.2.2.2.1, S11.out.2.2.2.2.2.2.2.2⟩
              clear hs13 hs11 S11 S9 S8
              go_wp2_with fail
              refine (bookInts_any _ w13.heap.size (w13.heap.size + 1) 3 3 [A1, A2, A3] (heap_alloc2_old _ _ _) rfl (by decide) (fun i h => ?_) (by simp)).mono ?_
              · have h4 := new_cells (w13.alloc (.cells #[.slice none 0 0, .slice none 0 0, .slice none 0 0] 39)) [.slice A1.a m A1.cap, .slice A2.a m A2.cap, .slice A3.a xs.length A3.cap] 22 i
                rw [add_at, World.size_alloc, Nat.zero_add] at h4
                simp only [List.length_cons, List.length_nil] at h
                match i, h with
                | 0, _ => exact h4 _ (by show _ = some (Value.slice A1.a A1.len A1.cap); rw [S13.out.1.1]; rfl)
                | 1, _ => exact h4 _ (by show _ = some (Value.slice A2.a A2.len A2.cap); rw [S13.out.2.1.1]; rfl)
                | 2, _ => exact h4 _ (by show _ = some (Value.slice A3.a A3.len A3.cap); rw [S13.out.2.2.1.1]; rfl)
              rintro e w15 ⟨rfl, bn, cN, hB, hbn, hbn2, ht⟩
              have hsz15 : w13.heap.size + 2 ≤ bn := by simp only [World.size_alloc] at hbn; omega
              have hst14 : Stay w13 ((w13.alloc (.cells #[.slice none 0 0, .slice none 0 0, .slice none 0 0] 39)).alloc (.cells #[.slice A1.a m A1.cap, .slice A2.a m A2.cap, .slice A3.a xs.length A3.cap] 22)) := (Stay.new _ _).alloc _
              have j1 := (S13.out.1.2.stay hst14).turn ht (fun h e => by have := (S13.out.1.2.2 h).2.2.2.2.1; omega)
              have j2 := (S13.out.2.1.2.stay hst14).turn ht (fun h e => by have := (S13.out.2.1.2.2 h).2.2.2.2.1; omega)
              have j3 := (S13.out.2.2.1.2.stay hst14).turn ht (fun h e => by have := (S13.out.2.2.1.2.2 h).2.2.2.2.1; omega)
              have hst15 : Stay w w15 := ht.stay (S13.out.2.2.2.2.2.2.2.2.1.trans hst14) (fun k hk e => by have := S13.out.2.2.2.2.2.2.2.2.1.size; omega)
              have hfit := fit3 (bb := w13.heap.size) (bn := bn) j1 j2 j3 S13.out.2.2.2.1 S13.out.2.2.2.2.1 S13.out.2.2.2.2.2.1 S13.out.2.2.2.2.2.2.1 S13.out.2.2.2.2.2.2.2.1 (by omega) (by rw [S13.out.1.1, S13.out.2.1.1, S13.out.2.2.1.1]; omega)
              have hown3 := own3 (n := w.heap.size) j1 j2 j3 S13.out.2.2.2.2.2.2.2.2.2.1 (by have h9 := S13.out.2.2.2.2.2.2.2.2.2; omega) (by have h9 := S13.out.2.2.2.2.2.2.2.2.2; have h10 := S13.out.2.2.2.2.2.2.1; omega)
              have HAP : Hid (Calls Tryd.prog 16 #[.pointer (some ⟨w13.heap.size, 0, none⟩)] w15 fun e w' => e = .returned (.bool true) ∧ Stay w w') := (apart_any w15 w13.heap.size bn cN [A1, A2, A3] hB hfit (room3 j1 j2 j3) (by simp)).mono (fun e w' h => ⟨h.1, h.2.stay hst15 hown3⟩)
              clear hB hbn hbn2 ht hsz15 hst14 j1 j2 j3 hst15 hfit hown3 S13
              go_wp2_with fail
              refine HAP.out.mono ?_
              rintro e w16 ⟨rfl, hs⟩
              have S16 : Hid (Stay w w16) := hs
              clear hs HAP
              go_wp2_with fail
              refine (works_any w16).mono ?_
              rintro e w17 ⟨rfl, hs⟩
              have S17 : Hid (Stay w w17) := S16.out.trans hs
              clear hs
              go_wp2_with fail
              go_ret
              exact ⟨rfl, S17.out⟩
            · have hli : (16 : Int) < (xs.length : Int) := by omega
              go_wp2_with (first | (refine wpList_load_row rfl 24 (.tmp 6) rfl kb rfl 24 (arrV M) (0, 0) (.array 16 3) HKB.out Tryd.underlying24 rfl (sizeM HME.out.1) ?_))
              refine (from_any wc M HME.out.1 16 (Nat.le_refl _)).mono ?_
              rintro e w11 ⟨v3, rfl, hown, hs⟩
              obtain ⟨A3, rfl, hA3l, hA3, hI3⟩ := hown.ans
              have hlq : (M.take 16).length = 16 := by rw [List.length_take, HME.out.1]; omega
              rw [hlq] at hA3l ⊢
              have S11 : Hid ((A1.len = m ∧ IsAns w6.heap.size w11 A1) ∧ (A2.len = m ∧ IsAns w7.heap.size w11 A2) ∧ (A3.len = 16 ∧ IsAns w8.heap.size w11 A3 ∧ IntsS w11 A3.a A3.g 0 (M.take 16)) ∧ (A1.a ≠ none → A1.g < w7.heap.size) ∧ (A2.a ≠ none → A2.g < w8.heap.size) ∧ w7.heap.size ≤ w8.heap.size ∧ Stay w w11 ∧ w.heap.size ≤ w6.heap.size ∧ w6.heap.size ≤ w7.heap.size) :=
                ⟨⟨S8.out.2.1.1, S8.out.2.1.2.1.stay (S9.out.trans hs)⟩, ⟨S8.out.2.2.1.1, S8.out.2.2.1.2.1.stay (S9.out.trans hs)⟩, ⟨hA3l, hA3.mono S9.out.size, hI3⟩, S8.out.2.2.2.2.2.1, S8.out.2.2.2.2.2.2.1, S8.out.2.2.2.2.2.2.2.2, (S8.out.1.1.trans S9.out).trans hs, S8.out.2.2.2.1, S8.out.2.2.2.2.1⟩
              have hs11 := hs.size
              clear hs hown hA3l hA3 hI3
              have hs13 : Stay w11 w11 := Stay.refl _
              have S13 : Hid ((A1.len = m ∧ IsAns w6.heap.size w11 A1) ∧ (A2.len = m ∧ IsAns w7.heap.size w11 A2) ∧ (A3.len = 16 ∧ IsAns w8.heap.size w11 A3) ∧ (A1.a ≠ none → A1.g < w7.heap.size) ∧ (A2.a ≠ none → A2.g < w8.heap.size) ∧ (A3.a ≠ none → A3.g < w11.heap.size) ∧ w7.heap.size ≤ w8.heap.size ∧ w8.heap.size ≤ w11.heap.size ∧ Stay w w11 ∧ w.heap.size ≤ w6.heap.size ∧ w6.heap.size ≤ w7.heap.size) :=
                ⟨⟨S11.out.1.1, S11.out.1.2.stay hs13⟩, ⟨S11.out.2.1.1, S11.out.2.1.2.stay hs13⟩, ⟨S11.out.2.2.1.1, S11.out.2.2.1.2.1.stay hs13⟩, S11.out.2.2.2.1, S11.out.2.2.2.2.1, fun h => ((S11.out.2.2.1.2.1.stay hs13).2 h).2.2.2.2.1, S11.out.2.2.2.2.2.1, Nat.le_trans (Nat.le_trans S9.out.size hs11) hs13.size, S11.out.2.2.2.2.2.2.1.trans hs13, S11.out.2.2.2.2.2.2.2.1, S11.out.2.2.2.2.2.2.2.2⟩
              clear hs13 hs11 S11 S9 S8
              go_wp2_with fail
              refine (bookInts_any _ w11.heap.size (w11.heap.size + 1) 3 3 [A1, A2, A3] (heap_alloc2_old _ _ _) rfl (by decide) (fun i h => ?_) (by simp)).mono ?_
              · have h4 := new_cells (w11.alloc (.cells #[.slice none 0 0, .slice none 0 0, .slice none 0 0] 39)) [.slice A1.a m A1.cap, .slice A2.a m A2.cap, .slice A3.a 16 A3.cap] 22 i
                rw [add_at, World.size_alloc, Nat.zero_add] at h4
                simp only [List.length_cons, List.length_nil] at h
                match i, h with
                | 0, _ => exact h4 _ (by show _ = some (Value.slice A1.a A1.len A1.cap); rw [S13.out.1.1]; rfl)
                | 1, _ => exact h4 _ (by show _ = some (Value.slice A2.a A2.len A2.cap); rw [S13.out.2.1.1]; rfl)
                | 2, _ => exact h4 _ (by show _ = some (Value.slice A3.a A3.len A3.cap); rw [S13.out.2.2.1.1]; rfl)
              rintro e w15 ⟨rfl, bn, cN, hB, hbn, hbn2, ht⟩
              have hsz15 : w11.heap.size + 2 ≤ bn := by simp only [World.size_alloc] at hbn; omega
              have hst14 : Stay w11 ((w11.alloc (.cells #[.slice none 0 0, .slice none 0 0, .slice none 0 0] 39)).alloc (.cells #[.slice A1.a m A1.cap, .slice A2.a m A2.cap, .slice A3.a 16 A3.cap] 22)) := (Stay.new _ _).alloc _
              have j1 := (S13.out.1.2.stay hst14).turn ht (fun h e => by have := (S13.out.1.2.2 h).2.2.2.2.1; omega)
              have j2 := (S13.out.2.1.2.stay hst14).turn ht (fun h e => by have := (S13.out.2.1.2.2 h).2.2.2.2.1; omega)
              have j3 := (S13.out.2.2.1.2.stay hst14).turn ht (fun h e => by have := (S13.out.2.2.1.2.2 h).2.2.2.2.1; omega)
              have hst15 : Stay w w15 := ht.stay (S13.out.2.2.2.2.2.2.2.2.1.trans hst14) (fun k hk e => by have := S13.out.2.2.2.2.2.2.2.2.1.size; omega)
              have hfit := fit3 (bb := w11.heap.size) (bn := bn) j1 j2 j3 S13.out.2.2.2.1 S13.out.2.2.2.2.1 S13.out.2.2.2.2.2.1 S13.out.2.2.2.2.2.2.1 S13.out.2.2.2.2.2.2.2.1 (by omega) (by rw [S13.out.1.1, S13.out.2.1.1, S13.out.2.2.1.1]; omega)
              have hown3 := own3 (n := w.heap.size) j1 j2 j3 S13.out.2.2.2.2.2.2.2.2.2.1 (by have h9 := S13.out.2.2.2.2.2.2.2.2.2; omega) (by have h9 := S13.out.2.2.2.2.2.2.2.2.2; have h10 := S13.out.2.2.2.2.2.2.1; omega)
              have HAP : Hid (Calls Tryd.prog 16 #[.pointer (some ⟨w11.heap.size, 0, none⟩)] w15 fun e w' => e = .returned (.bool true) ∧ Stay w w') := (apart_any w15 w11.heap.size bn cN [A1, A2, A3] hB hfit (room3 j1 j2 j3) (by simp)).mono (fun e w' h => ⟨h.1, h.2.stay hst15 hown3⟩)
              clear hB hbn hbn2 ht hsz15 hst14 j1 j2 j3 hst15 hfit hown3 S13
              go_wp2_with fail
              refine HAP.out.mono ?_
              rintro e w16 ⟨rfl, hs⟩
              have S16 : Hid (Stay w w16) := hs
              clear hs HAP
              go_wp2_with fail
              refine (works_any w16).mono ?_
              rintro e w17 ⟨rfl, hs⟩
              have S17 : Hid (Stay w w17) := S16.out.trans hs
              clear hs
              go_wp2_with fail
              go_ret
              exact ⟨rfl, S17.out⟩
end Go.Proofs.YtihkdaaghobckaaDoor
