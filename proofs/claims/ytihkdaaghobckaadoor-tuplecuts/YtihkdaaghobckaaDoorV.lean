/- TupleColumns: its walk. -/
import Derived.Test.YtihkdaaghobckaaDoorT
import Derived.Test.YtihkdaaghobckaaDoorU
namespace Go.Proofs.YtihkdaaghobckaaDoor
open Go.RowKit Go.Maps

theorem ofL_lt : ∀ (xs : List Int) (c d : Nat), c < 65536 → ofL xs c = some d → d < 65536
  | [], c, d, hc, h => by simp [ofL] at h; omega
  | x :: xs, c, d, hc, h => by
    unfold ofL at h
    split at h
    · rename_i hx
      exact ofL_lt xs _ d (Nat.or_lt_two_pow (n := 16) hc (pow16 (by omega))) h
    · simp at h

theorem ofV_form (xs : List Int) : ∃ (d : Nat) (E : Int), d < 65536 ∧ ofV (ofL xs 0) = #[.int .u16 d, .int .i64 E] := by
  cases h : ofL xs 0 with
  | none => exact ⟨0, 2, by omega, rfl⟩
  | some d => exact ⟨d, 0, ofL_lt xs 0 d (by omega) h, rfl⟩

/-- Three lists that were answered one behind the other: what the book needs of them at W. -/
def Three (w W : World) (A B C : Ans) (n1 n2 n3 : Nat) (xs ys zs : List Int) : Prop :=
  (A.len = xs.length ∧ IsAns n1 W A ∧ IntsS W A.a A.g 0 xs) ∧ (B.len = ys.length ∧ IsAns n2 W B ∧ IntsS W B.a B.g 0 ys) ∧ (C.len = zs.length ∧ IsAns n3 W C ∧ IntsS W C.a C.g 0 zs) ∧
  (A.a ≠ none → A.g < n2) ∧ (B.a ≠ none → B.g < n3) ∧ w.heap.size ≤ n1 ∧ n1 ≤ n2 ∧ n2 ≤ n3 ∧ n3 ≤ W.heap.size ∧ Stay w W
theorem Three.stay {w W W' : World} {A B C : Ans} {n1 n2 n3 : Nat} {xs ys zs : List Int} (h : Three w W A B C n1 n2 n3 xs ys zs) (hs : Stay W W') : Three w W' A B C n1 n2 n3 xs ys zs :=
  ⟨⟨h.1.1, h.1.2.1.stay hs, h.1.2.2.stay hs⟩, ⟨h.2.1.1, h.2.1.2.1.stay hs, h.2.1.2.2.stay hs⟩, ⟨h.2.2.1.1, h.2.2.1.2.1.stay hs, h.2.2.1.2.2.stay hs⟩, h.2.2.2.1, h.2.2.2.2.1, h.2.2.2.2.2.1, h.2.2.2.2.2.2.1, h.2.2.2.2.2.2.2.1, Nat.le_trans h.2.2.2.2.2.2.2.2.1 hs.size, h.2.2.2.2.2.2.2.2.2.trans hs⟩

/-- Three lists into a new book, and then Apart. -/
theorem three_book {w W : World} {A B C : Ans} {n1 n2 n3 : Nat} {xs ys zs : List Int} (h : Three w W A B C n1 n2 n3 xs ys zs) (hl : (xs.length + 20) * 8 ≤ 140737488355328 ∧ (ys.length + 20) * 8 ≤ 140737488355328 ∧ (zs.length + 20) * 8 ≤ 140737488355328) :
    Calls Tryd.prog 15 #[.pointer (some ⟨W.heap.size, 0, none⟩), .slice (some ⟨W.heap.size + 1, 0, none⟩) 3 3] ((W.alloc (.cells #[.slice none 0 0, .slice none 0 0, .slice none 0 0] 39)).alloc (.cells #[.slice A.a xs.length A.cap, .slice B.a ys.length B.cap, .slice C.a zs.length C.cap] 22)) fun e w' => e = .returned (.tuple #[]) ∧
      Calls Tryd.prog 16 #[.pointer (some ⟨W.heap.size, 0, none⟩)] w' fun e w'' => e = .returned (.bool true) ∧ Stay w w'' ∧ Turn (fun k => n1 ≤ k) W w'' := by
  obtain ⟨⟨l1, i1, _⟩, ⟨l2, i2, _⟩, ⟨l3, i3, _⟩, hA, hB, e1, e2, e3, e4, hst⟩ := h
  refine (bookInts_any _ W.heap.size (W.heap.size + 1) 3 3 [A, B, C] (heap_alloc2_old _ _ _) rfl (by decide) (fun i h => ?_) (by simp)).mono ?_
  · have h4 := new_cells (W.alloc (.cells #[.slice none 0 0, .slice none 0 0, .slice none 0 0] 39)) [.slice A.a xs.length A.cap, .slice B.a ys.length B.cap, .slice C.a zs.length C.cap] 22 i
    rw [add_at, World.size_alloc, Nat.zero_add] at h4
    simp only [List.length_cons, List.length_nil] at h
    match i, h with
    | 0, _ => exact h4 _ (by show _ = some (Value.slice A.a A.len A.cap); rw [l1]; rfl)
    | 1, _ => exact h4 _ (by show _ = some (Value.slice B.a B.len B.cap); rw [l2]; rfl)
    | 2, _ => exact h4 _ (by show _ = some (Value.slice C.a C.len C.cap); rw [l3]; rfl)
  · rintro e w15 ⟨rfl, bn, cN, hBk, hbn, hbn2, ht⟩
    refine ⟨rfl, ?_⟩
    have hsz15 : W.heap.size + 2 ≤ bn := by simp only [World.size_alloc] at hbn; omega
    have hst14 : Stay W ((W.alloc (.cells #[.slice none 0 0, .slice none 0 0, .slice none 0 0] 39)).alloc (.cells #[.slice A.a xs.length A.cap, .slice B.a ys.length B.cap, .slice C.a zs.length C.cap] 22)) := (Stay.new _ _).alloc _
    have j1 := (i1.stay hst14).turn ht (fun h e => by have := (i1.2 h).2.2.2.2.1; omega)
    have j2 := (i2.stay hst14).turn ht (fun h e => by have := (i2.2 h).2.2.2.2.1; omega)
    have j3 := (i3.stay hst14).turn ht (fun h e => by have := (i3.2 h).2.2.2.2.1; omega)
    have hst15 : Stay w w15 := ht.stay (hst.trans hst14) (fun k hk e => by have := hst.size; omega)
    have hfit := fit3 (bb := W.heap.size) (bn := bn) j1 j2 j3 hA hB (fun h => (i3.2 h).2.2.2.2.1) e3 e4 (by omega) (by rw [l1, l2, l3]; exact hl)
    have hown3 := own3 (n := n1) j1 j2 j3 (Nat.le_refl _) e2 (Nat.le_trans e2 e3)
    refine (apart_any w15 W.heap.size bn cN [A, B, C] hBk hfit (room3 j1 j2 j3) (by simp)).mono (fun e w' h => ⟨h.1, h.2.stay hst15 (fun k hk => hown3 k (Nat.lt_of_lt_of_le hk e1)), ?_⟩)
    have t1 : Turn (fun k => n1 ≤ k) W w15 := (Turn.of_stay (S := fun k => n1 ≤ k) hst14).then ht (fun i hi e => by subst e; omega)
    refine t1.then h.2 (fun i hi e => ?_)
    by_cases h5 : i < n1
    · exact absurd e (hown3 i h5)
    · show n1 ≤ i; omega

set_option maxRecDepth 100000 in
set_option maxHeartbeats 8000000 in
theorem columns_walk (w : World) (a1 : Option Addr) (b1 o1 c1 : Nat) (xs : List Int) (c : Nat) (hc : c < 65536) (hx : IntsS w a1 b1 o1 xs) (ha1 : a1 = none → c1 = 0 ∧ xs = []) (hb1 : (xs.length + 9) * 8 ≤ 140737488355328) :
    Calls Tryd.prog 4 #[.slice a1 xs.length c1, .int .u16 c] w fun e w' => e = .returned (.bool true) ∧ Stay w w' := by
  obtain ⟨d, E, hd, hof⟩ := ofV_form xs
  have HA : Hid (IntsS w a1 b1 o1 xs ∧ xs.length ≤ maxLen) := ⟨hx, by unfold maxLen; omega⟩
  have HO : Hid (∀ (W : World) (a : Option Addr) (b o c : Nat), IntsS W a b o xs → Calls Tryd.prog 17 #[.slice a xs.length c] W fun e w' => e = .returned (.tuple #[.int .u16 d, .int .i64 E]) ∧ w' = W) := fun W a b o c hI => by have h := of_any W a b o c xs hI HA.out.2; rw [hof] at h; exact h
  have HP : Hid (∀ (W : World) (a : Option Addr) (b o c : Nat), IntsS W a b o xs → Calls Tryd.prog 18 #[.slice a xs.length c] W fun e w' => e = .returned (.tuple #[.int .u16 d, .int .i64 E]) ∧ w' = W) := fun W a b o c hI => by have h := rof_any W a b o c xs hI HA.out.2; rw [hof] at h; exact h
  have HL : Hid ((cols c 16).length ≤ 16 ∧ (cols d 16).length ≤ 16) := ⟨cols_len c 16, cols_len d 16⟩
  clear hx hof
  go_enter Tryd.func4, Tryd.ntmps4
  go_wp2_with fail
  refine (lend_any w a1 b1 o1 c1 xs HA.out.1 ha1 hb1).mono ?_
  rintro e w1 ⟨g1, k1, rfl, hl1, hs1⟩
  have S1 : Hid (Lent w.heap.size w1 g1 k1 xs ∧ Stay w w1) := ⟨hl1, hs1⟩
  clear hl1 hs1 ha1
  go_wp2_with fail
  refine (HO.out w1 _ _ _ k1 S1.out.1.ints).mono ?_
  rintro e w9 ⟨rfl, hw9⟩
  subst w9
  go_wp2_with fail
  refine (HP.out w1 a1 b1 o1 c1 (HA.out.1.stay S1.out.2)).mono ?_
  rintro e w9 ⟨rfl, hw9⟩
  subst w9
  go_wp2_with fail
  refine (list_any w1 c hc).mono ?_
  rintro e w2 ⟨v1, rfl, hown, hs⟩
  obtain ⟨A1, rfl, hA1l, hA1, hI1⟩ := hown.ans
  have S2 : Hid (Lent w.heap.size w2 g1 k1 xs ∧ Stay w w2 ∧ w.heap.size ≤ w1.heap.size ∧ A1.len = (cols c 16).length ∧ IsAns w1.heap.size w2 A1 ∧ IntsS w2 A1.a A1.g 0 (cols c 16)) := ⟨S1.out.1.stay hs, S1.out.2.trans hs, S1.out.2.size, hA1l, hA1, hI1⟩
  have z2 : Hid (w1.heap.size ≤ w2.heap.size) := hs.size
  clear hs hown hA1l hA1 hI1 S1
  go_wp2_with fail
  refine (list_any w2 c hc).mono ?_
  rintro e w3 ⟨v2, rfl, hown, hs⟩
  obtain ⟨A2, rfl, hA2l, hA2, hI2⟩ := hown.ans
  have S3 : Hid ((Lent w.heap.size w3 g1 k1 xs ∧ Stay w w3 ∧ w.heap.size ≤ w1.heap.size ∧ A1.len = (cols c 16).length ∧ IsAns w1.heap.size w3 A1 ∧ IntsS w3 A1.a A1.g 0 (cols c 16)) ∧ (A1.a ≠ none → A1.g < w2.heap.size) ∧ A2.len = (cols c 16).length ∧ IsAns w2.heap.size w3 A2 ∧ IntsS w3 A2.a A2.g 0 (cols c 16)) :=
    ⟨⟨S2.out.1.stay hs, S2.out.2.1.trans hs, S2.out.2.2.1, S2.out.2.2.2.1, S2.out.2.2.2.2.1.stay hs, S2.out.2.2.2.2.2.stay hs⟩, fun h => (S2.out.2.2.2.2.1.2 h).2.2.2.2.1, hA2l, hA2, hI2⟩
  have z3 : Hid (w2.heap.size ≤ w3.heap.size) := hs.size
  clear hs hown hA2l hA2 hI2 S2
  go_wp2_with fail
  refine (list_any w3 d hd).mono ?_
  rintro e w4 ⟨v3, rfl, hown, hs⟩
  obtain ⟨A3, rfl, hA3l, hA3, hI3⟩ := hown.ans
  have S4 : Hid (Lent w.heap.size w4 g1 k1 xs ∧ Three w w4 A1 A2 A3 w1.heap.size w2.heap.size w3.heap.size (cols c 16) (cols c 16) (cols d 16)) :=
    ⟨S3.out.1.1.stay hs, ⟨S3.out.1.2.2.2.1, S3.out.1.2.2.2.2.1.stay hs, S3.out.1.2.2.2.2.2.stay hs⟩, ⟨S3.out.2.2.1, S3.out.2.2.2.1.stay hs, S3.out.2.2.2.2.stay hs⟩, ⟨hA3l, hA3, hI3⟩, S3.out.2.1, fun h => (S3.out.2.2.2.1.2 h).2.2.2.2.1, S3.out.1.2.2.1, z2.out, z3.out, hs.size, S3.out.1.2.1.trans hs⟩
  generalize w1.heap.size = n1 at S4 z2
  generalize w2.heap.size = n2 at S4 z2 z3
  generalize w3.heap.size = n3 at S4 z3
  clear hs hown hA3l hA3 hI3 S3 z2 z3
  go_upto_region 7 with fail
  go_cut [66] (fun b wx => b = .bool false ∧ Three w wx A1 A2 A3 n1 n2 n3 (cols c 16) (cols c 16) (cols d 16))
  case first =>
    go_wp2_with (go_at_call 10; refine Calls.mono (num_any _ _) ?_; rintro e w9 ⟨rfl, hw9⟩; subst w9)
    refine (kept_any w4 g1 k1 a1 b1 o1 c1 _ xs S4.out.1 (HA.out.1.stay S4.out.2.2.2.2.2.2.2.2.2.2)).mono ?_
    rintro e w5 ⟨rfl, m, hm⟩
    have S5 : Hid (Three w w5 A1 A2 A3 n1 n2 n3 (cols c 16) (cols c 16) (cols d 16)) := by rw [hm]; exact S4.out.2.stay (Stay.drewN _ _)
    clear hm S4
    go_wp2_with fail
    refine (rlist_any w5 c hc).mono ?_
    rintro e w6 ⟨v, rfl, hown, hs⟩
    obtain ⟨av, bv, cv, rfl, hIv⟩ := hown.ints
    have S6 : Hid (Three w w6 A1 A2 A3 n1 n2 n3 (cols c 16) (cols c 16) (cols d 16) ∧ IntsS w6 av bv 0 (cols c 16)) := ⟨S5.out.stay hs, hIv⟩
    clear hs hown hIv S5
    go_wp2_with fail
    refine (ints_any w6 A1.a av A1.g 0 bv 0 A1.cap cv (cols c 16) (cols c 16) S6.out.1.1.2.2 S6.out.2 (by unfold maxLen; have := HL.out.1; omega) (by unfold maxLen; have := HL.out.1; omega)).mono ?_
    rw [show decide (cols c 16 = cols c 16) = true by simp]
    rintro e w7 ⟨rfl, m, hm⟩
    have S7 : Hid (Three w w7 A1 A2 A3 n1 n2 n3 (cols c 16) (cols c 16) (cols d 16)) := by rw [hm]; exact S6.out.1.stay (Stay.drewN _ _)
    clear hm S6
    go_wp2_with fail
    refine (ints_any w7 A2.a A1.a A2.g 0 A1.g 0 A2.cap A1.cap (cols c 16) (cols c 16) S7.out.2.1.2.2 S7.out.1.2.2 (by unfold maxLen; have := HL.out.1; omega) (by unfold maxLen; have := HL.out.1; omega)).mono ?_
    rw [show decide (cols c 16 = cols c 16) = true by simp]
    rintro e w8 ⟨rfl, m, hm⟩
    have S8 : Hid (Three w w8 A1 A2 A3 n1 n2 n3 (cols c 16) (cols c 16) (cols d 16)) := by rw [hm]; exact S7.out.stay (Stay.drewN _ _)
    clear hm S7
    go_wp2_with fail
    refine (rlist_any w8 d hd).mono ?_
    rintro e w10 ⟨v', rfl, hown, hs⟩
    obtain ⟨av', bv', cv', rfl, hIv⟩ := hown.ints
    have S10 : Hid (Three w w10 A1 A2 A3 n1 n2 n3 (cols c 16) (cols c 16) (cols d 16) ∧ IntsS w10 av' bv' 0 (cols d 16)) := ⟨S8.out.stay hs, hIv⟩
    clear hs hown hIv S8
    go_wp2_with fail
    refine (ints_any w10 A3.a av' A3.g 0 bv' 0 A3.cap cv' (cols d 16) (cols d 16) S10.out.1.2.2.1.2.2 S10.out.2 (by unfold maxLen; have := HL.out.2; omega) (by unfold maxLen; have := HL.out.2; omega)).mono ?_
    rw [show decide (cols d 16 = cols d 16) = true by simp]
    rintro e w11 ⟨rfl, m, hm⟩
    have S11 : Hid (Three w w11 A1 A2 A3 n1 n2 n3 (cols c 16) (cols c 16) (cols d 16)) := by rw [hm]; exact S10.out.1.stay (Stay.drewN _ _)
    clear hm S10
    go_wp2_with fail
    go_meet
    exact ⟨rfl, S11.out⟩
  case rest =>
    obtain ⟨rfl, h3⟩ := hcut
    have S12 : Hid (Three w wc A1 A2 A3 n1 n2 n3 (cols c 16) (cols c 16) (cols d 16)) := h3
    clear h3 S4
    go_wp2_with fail
    refine (three_book S12.out (by have := HL.out; omega)).mono ?_
    rintro e w13 ⟨rfl, hap⟩
    have HAP : Hid (Calls Tryd.prog 16 #[.pointer (some ⟨wc.heap.size, 0, none⟩)] w13 fun e w'' => e = .returned (.bool true) ∧ Stay w w'' ∧ Turn (fun k => n1 ≤ k) wc w'') := hap
    clear hap
    go_wp2_with fail
    refine HAP.out.mono ?_
    rintro e w14 ⟨rfl, hs, _⟩
    have S14 : Hid (Stay w w14) := hs
    clear hs HAP
    go_wp2_with fail
    refine (works_any w14).mono ?_
    rintro e w15 ⟨rfl, hs⟩
    have S15 : Hid (Stay w w15) := S14.out.trans hs
    clear hs
    go_wp2_with fail
    go_ret
    exact ⟨rfl, S15.out⟩
end Go.Proofs.YtihkdaaghobckaaDoor
