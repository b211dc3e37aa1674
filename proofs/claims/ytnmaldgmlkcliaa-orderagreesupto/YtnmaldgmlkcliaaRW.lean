/- works: the chapter's examples come out. -/
import Derived.Test.YtnmaldgmlkcliaaHGI
import Derived.Test.YtnmaldgmlkcliaaRT
import Derived.Test.YtnmaldgmlkcliaaRFI
import Derived.Test.YtnmaldgmlkcliaaRB
namespace Go.Proofs.Ytnmaldgmlkcliaa
open Go.RowKit Go.Maps Go.Shelf Go.Sort

theorem things_new (w : World) (ts : List (Int × Int)) (t : TypeId) : ThS (w.alloc (.cells (cellsT ts).toArray t)) (some ⟨w.heap.size, 0, none⟩) w.heap.size 0 ts := by
  refine ⟨fun _ => rfl, fun j hj => ?_⟩
  have h := cellsT_at ts j hj
  have h0 := new_cells w (cellsT ts) t _ _ h.1
  have h1 := new_cells w (cellsT ts) t _ _ h.2
  rw [add_at] at h0 h1
  exact ⟨h0, h1⟩

def exT : List (Int × Int) := [(2, 1), (1, 1), (2, 2), (1, 2)]
theorem exT_sorted : (Sort.insertionSort (ltOf HT.byC) exT.toArray 0 exT.length).toList = [(1, 1), (1, 2), (2, 1), (2, 2)] := by decide +kernel

theorem w_sort (w : World) : Calls Try.prog 15 #[.slice (some ⟨w.heap.size, 0, none⟩) 4 4, .func (.func 9) #[] #[]] (w.alloc (.cells #[.int .i64 2, .int .i64 1, .int .i64 1, .int .i64 1, .int .i64 2, .int .i64 2, .int .i64 1, .int .i64 2] 26)) fun e w' => ∃ G, e = .returned (.slice (some ⟨G, 0, none⟩) 4 4) ∧ ThS w' (some ⟨G, 0, none⟩) G 0 [(1, 1), (1, 2), (2, 1), (2, 2)] ∧ Stay w w' := by
  refine (HT.sort_any HT.orderOf_yes (HT.sorts_small exT (by decide)) _ _ _ 0 4 (things_new w exT 26) (by simp) (by decide)).mono ?_
  rintro e w' ⟨G, rfl, _, hH, _, hs⟩
  have := HT.holds_things hH
  rw [exT_sorted] at this
  exact ⟨G, rfl, this, (Stay.new _ _).trans hs⟩

theorem w_find (w : World) : Calls Try.prog 28 #[.slice (some ⟨w.heap.size, 0, none⟩) 4 4, .int .i64 3, .func (.func 29) #[] #[]] (w.alloc (.cells #[.int .i64 1, .int .i64 3, .int .i64 3, .int .i64 5] 3)) fun e w' => e = .returned (.tuple #[.int .i64 1, .bool true]) ∧ Stay w w' := by
  refine (HI.find _ _ _ 0 4 [1, 3, 3, 5] (ints_new w [1, 3, 3, 5] 3) 3 (by decide) ?_).mono ?_
  · intro i j hij hj h
    match i, j, hj with
    | 0, _, _ => simp [HI.cfN]
    | 1, 1, _ => exact h
    | 1, 2, _ => simp [HI.cfN] at h
    | 1, 3, _ => simp [HI.cfN] at h
    | 2, 2, _ => exact h
    | 2, 3, _ => simp [HI.cfN] at h
    | 3, 3, _ => exact h
    | i + 4, j, hj => simp at hj; omega
  · rintro e w' ⟨n, q, rfl, hn, hk, hq, hs⟩
    have h0 := (hk 0 (by decide)).2 (by simp [HI.cfN])
    have h1 : ¬ 1 < n := fun h => by have := (hk 1 (by decide)).1 h; simp [HI.cfN] at this
    obtain rfl : n = 1 := by omega
    have : q = true := hq.2 ⟨by decide, by simp [HI.cfN]⟩
    subst this
    exact ⟨rfl, (Stay.new _ _).trans hs⟩

theorem fvN : HI.Fv (.func (.func 29) #[] #[]) HI.cfN := ⟨rfl, rfl⟩

/-- What comes out of two. -/
theorem two_first {came : List HI.E} (hp : came.Perm [(2, 0), (1, 1)]) (hh : IsHeap (HI.ahd HI.cfN) came) {e : HI.E} (he : came[0]? = some e) : e = (1, 1) := by
  have hm : e ∈ came := List.mem_of_getElem? he
  have hm2 : ((1, 1) : HI.E) ∈ came := hp.mem_iff.2 (by simp)
  obtain ⟨k, hk⟩ := List.mem_iff_getElem?.1 hm2
  have h := heap_least (HI.ahd_ok fvN) hh he k _ hk
  rw [hp.mem_iff] at hm
  simp at hm
  rcases hm with rfl | rfl
  · simp [HI.ahd, HI.cfN] at h
  · rfl

theorem w_same (w : World) (G c : Nat) (h : ThS w (some ⟨G, 0, none⟩) G 0 [(1, 1), (1, 2), (2, 1), (2, 2)]) : Calls Try.prog 10 #[.slice (some ⟨G, 0, none⟩) 4 c, .slice (some ⟨w.heap.size, 0, none⟩) 4 4] (w.alloc (.cells #[.int .i64 1, .int .i64 1, .int .i64 1, .int .i64 2, .int .i64 2, .int .i64 1, .int .i64 2, .int .i64 2] 26)) fun e w' => e = .returned (.bool true) ∧ Stay w w' := by
  refine (same_any _ _ _ G 0 w.heap.size 0 c 4 [(1, 1), (1, 2), (2, 1), (2, 2)] [(1, 1), (1, 2), (2, 1), (2, 2)] (h.stay (Stay.new _ _)) (things_new w _ 26) (by decide) (by decide)).mono ?_
  rintro e w' ⟨rfl, hs⟩
  exact ⟨by simp, (Stay.new _ _).trans hs⟩

theorem w_tuples (w : World) : Calls Try.prog 35 #[.slice (some ⟨w.heap.size, 0, none⟩) 1 1, .slice (some ⟨w.heap.size + 1, 0, none⟩) 2 2] ((w.alloc (.cells #[.string ⟨#[97]⟩] 9)).alloc (.cells #[.string ⟨#[97]⟩, .string ⟨#[]⟩] 9)) fun e w' => e = .returned (.int .i64 (-1)) ∧ Stay w w' := by
  have h := strs_new (w.alloc (.cells #[.string ⟨#[97]⟩] 9)) [⟨#[97]⟩, ⟨#[]⟩] 9
  rw [World.size_alloc] at h
  refine (oTuples_any _ _ _ _ _ _ _ 1 2 [⟨#[97]⟩] [⟨#[97]⟩, ⟨#[]⟩] ((strs_new w [⟨#[97]⟩] 9).stay (Stay.new _ _)) h (by decide) (by decide)).mono ?_
  rintro e w' ⟨rfl, rfl⟩
  exact ⟨by rw [show cmpS [⟨#[97]⟩] [⟨#[97]⟩, ⟨#[]⟩] = -1 by decide +kernel], (Stay.new _ _).alloc _⟩

set_option maxRecDepth 100000 in
set_option maxHeartbeats 4000000 in
theorem works_any (w : World) : Calls Try.prog 14 #[] w fun e w' => e = .returned (.bool true) ∧ Stay w w' := by
  go_enter Try.func14, Try.ntmps14
  go_wp2_with fail
  refine (thing_any 2 1 _).mono ?_
  rintro e w1 ⟨rfl, s1⟩
  have S1 : Hid (Stay w w1) := s1
  clear s1
  go_wp2_with fail
  refine (thing_any 1 1 _).mono ?_
  rintro e w2 ⟨rfl, s1⟩
  have S2 : Hid (Stay w w2) := S1.out.trans s1
  clear s1 S1
  go_wp2_with fail
  refine (thing_any 2 2 _).mono ?_
  rintro e w3 ⟨rfl, s1⟩
  have S3 : Hid (Stay w w3) := S2.out.trans s1
  clear s1 S2
  go_wp2_with fail
  refine (thing_any 1 2 _).mono ?_
  rintro e w4 ⟨rfl, s1⟩
  have S4 : Hid (Stay w w4) := S3.out.trans s1
  clear s1 S3
  go_wp2_with fail
  refine (w_sort w4).mono ?_
  rintro e w5 ⟨G, rfl, hT, s1⟩
  have S5 : Hid (Stay w w5 ∧ ThS w5 (some ⟨G, 0, none⟩) G 0 [(1, 1), (1, 2), (2, 1), (2, 2)]) := ⟨S4.out.trans s1, hT⟩
  clear s1 S4 hT
  go_wp2_with fail
  refine (w_find w5).mono ?_
  rintro e w6 ⟨rfl, s1⟩
  have S6 : Hid (Stay w w6 ∧ ThS w6 (some ⟨G, 0, none⟩) G 0 [(1, 1), (1, 2), (2, 1), (2, 2)]) := ⟨S5.out.1.trans s1, S5.out.2.stay s1⟩
  clear s1 S5
  go_wp2_with fail
  refine (HI.new_any _ w6).mono ?_
  rintro e w7 ⟨rfl, hw⟩
  have H7 : Hid (HI.Held HI.cfN w6 w7 w6.heap.size (.func (.func 29) #[] #[]) (.slice none 0 0) 0 []) := by rw [hw]; exact HI.held_new _ _
  clear hw
  obtain ⟨hb, hhb⟩ : ∃ hb, hb = w6.heap.size := ⟨_, rfl⟩
  rw [← hhb] at H7 ⊢
  clear hhb
  go_wp2_with fail
  refine (H7.out.push fvN 2 (by decide) (by decide)).mono ?_
  rintro e w8 ⟨rfl, v8, c8, hp, h8⟩
  have H8 : Hid (c8.Perm [(2, 0)] ∧ HI.Held HI.cfN w6 w8 hb (.func (.func 29) #[] #[]) v8 1 c8) := ⟨hp, h8⟩
  clear hp h8 H7
  go_wp2_with fail
  refine (H8.out.2.push fvN 1 (by rw [H8.out.1.length_eq]; decide) (by decide)).mono ?_
  rintro e w9 ⟨rfl, v9, c9, hp, h9⟩
  have H9 : Hid (c9.Perm [(2, 0), (1, 1)] ∧ HI.Held HI.cfN w6 w9 hb (.func (.func 29) #[] #[]) v9 2 c9) := ⟨hp.trans (H8.out.1.append (List.Perm.refl _)), h9⟩
  clear hp h9 H8
  obtain ⟨e9, he9⟩ : ∃ e9, c9[0]? = some e9 := ⟨_, List.getElem?_eq_getElem (by rw [H9.out.1.length_eq]; decide)⟩
  obtain rfl := two_first H9.out.1 H9.out.2.heap he9
  have hpop := H9.out.2.pop fvN _ he9 (by rw [H9.out.1.length_eq]; decide)
  clear he9
  go_wp2_with fail
  refine hpop.mono ?_
  rintro e w10 ⟨rfl, v10, c10, hp, h10⟩
  have H10 : Hid (c10.length = 1 ∧ HI.Held HI.cfN w6 w10 hb (.func (.func 29) #[] #[]) v10 2 c10) := ⟨by have := (hp.trans H9.out.1).length_eq; simpa using this, h10⟩
  clear hp h10 H9 hpop
  have S10 : Hid (Stay w w10 ∧ ThS w10 (some ⟨G, 0, none⟩) G 0 [(1, 1), (1, 2), (2, 1), (2, 2)]) := ⟨S6.out.1.trans H10.out.2.stay, S6.out.2.stay H10.out.2.stay⟩
  clear S6
  go_wp2_with fail
  refine (thing_any 1 1 _).mono ?_
  rintro e w11 ⟨rfl, s1⟩
  have S11 : Hid (Stay w w11 ∧ ThS w11 (some ⟨G, 0, none⟩) G 0 [(1, 1), (1, 2), (2, 1), (2, 2)]) := ⟨S10.out.1.trans s1, S10.out.2.stay s1⟩
  have H11 : Hid (c10.length = 1 ∧ HI.Held HI.cfN w6 w11 hb (.func (.func 29) #[] #[]) v10 2 c10) := ⟨H10.out.1, H10.out.2.go s1⟩
  clear s1 S10 H10
  go_wp2_with fail
  refine (thing_any 1 2 _).mono ?_
  rintro e w12 ⟨rfl, s1⟩
  have S12 : Hid (Stay w w12 ∧ ThS w12 (some ⟨G, 0, none⟩) G 0 [(1, 1), (1, 2), (2, 1), (2, 2)]) := ⟨S11.out.1.trans s1, S11.out.2.stay s1⟩
  have H12 : Hid (c10.length = 1 ∧ HI.Held HI.cfN w6 w12 hb (.func (.func 29) #[] #[]) v10 2 c10) := ⟨H11.out.1, H11.out.2.go s1⟩
  clear s1 S11 H11
  go_wp2_with fail
  refine (thing_any 2 1 _).mono ?_
  rintro e w13 ⟨rfl, s1⟩
  have S13 : Hid (Stay w w13 ∧ ThS w13 (some ⟨G, 0, none⟩) G 0 [(1, 1), (1, 2), (2, 1), (2, 2)]) := ⟨S12.out.1.trans s1, S12.out.2.stay s1⟩
  have H13 : Hid (c10.length = 1 ∧ HI.Held HI.cfN w6 w13 hb (.func (.func 29) #[] #[]) v10 2 c10) := ⟨H12.out.1, H12.out.2.go s1⟩
  clear s1 S12 H12
  go_wp2_with fail
  refine (thing_any 2 2 _).mono ?_
  rintro e w14 ⟨rfl, s1⟩
  have S14 : Hid (Stay w w14 ∧ ThS w14 (some ⟨G, 0, none⟩) G 0 [(1, 1), (1, 2), (2, 1), (2, 2)]) := ⟨S13.out.1.trans s1, S13.out.2.stay s1⟩
  have H14 : Hid (c10.length = 1 ∧ HI.Held HI.cfN w6 w14 hb (.func (.func 29) #[] #[]) v10 2 c10) := ⟨H13.out.1, H13.out.2.go s1⟩
  clear s1 S13 H13
  go_wp2_with fail
  refine (w_same w14 G 4 S14.out.2).mono ?_
  rintro e w15 ⟨rfl, s1⟩
  have S15 : Hid (Stay w w15) := S14.out.1.trans s1
  have H15 : Hid (c10.length = 1 ∧ HI.Held HI.cfN w6 w15 hb (.func (.func 29) #[] #[]) v10 2 c10) := ⟨H14.out.1, H14.out.2.go s1⟩
  clear s1 S14 H14
  have hlen := HI.len_any H15.out.2.hp
  rw [H15.out.1] at hlen
  clear H15
  go_wp2_with fail
  refine hlen.mono ?_
  rintro e w9 ⟨rfl, hw⟩
  have hw' := hw.symm; subst hw'
  clear hlen hw
  go_wp2_with fail
  refine (oTexts_any _ _ _).mono ?_
  rintro e w9 ⟨rfl, hw⟩
  have hw' := hw.symm; subst hw'
  clear hw
  rw [show cmpT ⟨#[97]⟩ ⟨#[97, 97]⟩ = -1 by decide +kernel]
  go_wp2_with fail
  refine (w_tuples w15).mono ?_
  rintro e w16 ⟨rfl, s1⟩
  have S16 : Hid (Stay w w16) := S15.out.trans s1
  clear s1 S15
  go_wp2
  go_ret
  exact ⟨rfl, S16.out⟩
end Go.Proofs.Ytnmaldgmlkcliaa
