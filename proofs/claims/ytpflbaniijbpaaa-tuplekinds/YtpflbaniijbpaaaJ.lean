/- works: the chapter's examples come out. -/
import Derived.Test.YtpflbaniijbpaaaI
namespace Go.Proofs.Ytpflbaniijbpaaa
open Go.RowKit Go.Maps

theorem ints_lit (w : World) (zs : List Int) : IntsS (w.alloc (.cells (zs.map (Value.int .i64)).toArray 3)) (some ⟨w.heap.size, 0, none⟩) w.heap.size 0 zs := ints_new w zs 3

theorem w_of (w : World) : Calls Try.prog 24 #[.slice (some ⟨w.heap.size, 0, none⟩) 2 2] (w.alloc (.cells #[.int .i64 0, .int .i64 2] 3)) fun e w' => e = .returned (.tuple #[.int .u16 5, .int .i64 0]) ∧ Stay w w' := by
  refine (of_any _ _ _ _ 2 [0, 2] (ints_lit w [0, 2]) (by decide)).mono ?_
  rintro e w' ⟨rfl, rfl⟩
  exact ⟨rfl, Stay.new _ _⟩

theorem w_cut (w : World) : Calls Try.prog 25 #[.slice (some ⟨w.heap.size, 0, none⟩) 3 3, .int .u16 5] (w.alloc (.cells #[.int .i64 5, .int .i64 6, .int .i64 7] 3)) fun e w' => ∃ a b c, e = .returned (.tuple #[.slice a 2 c, .int .i64 0]) ∧ IntsS w' a b 0 [5, 7] ∧ Stay w w' := by
  refine (cut_any _ _ _ _ 3 5 [5, 6, 7] (ints_lit w [5, 6, 7]) (by decide) (by decide) (by decide)).mono ?_
  rintro e w' ⟨v, rfl, hown, hst⟩
  obtain ⟨a, b, c, rfl, hI⟩ := hown.ints
  exact ⟨a, b, c, rfl, hI, (Stay.new _ _).trans hst⟩

theorem w_key (w : World) : Calls Try.prog 26 #[.slice (some ⟨w.heap.size, 0, none⟩) 2 2] (w.alloc (.cells #[.int .i64 7, .int .i64 8] 3)) fun e w' => e = .returned (.tuple #[.agg (arrV (padI [7, 8])), .int .i64 0]) ∧ Stay w w' := by
  refine (key_any _ _ _ _ 2 [7, 8] (ints_lit w [7, 8]) (by decide)).mono ?_
  rintro e w' ⟨rfl, hst⟩
  exact ⟨rfl, (Stay.new _ _).trans hst⟩

theorem w_ints (w : World) (a : Option Addr) (b c n : Nat) (zs : List Int) (vs : Array Value) (hn : n = zs.length) (hv : vs = (zs.map (Value.int .i64)).toArray) (hl : zs.length ≤ 16) (h : IntsS w a b 0 zs) :
    Calls Try.prog 10 #[.slice a n c, .slice (some ⟨w.heap.size, 0, none⟩) n n] (w.alloc (.cells vs 3)) fun e w' => e = .returned (.bool true) ∧ Stay w w' := by
  subst hn hv
  refine (ints_any _ a _ b 0 _ 0 c zs.length zs zs (h.stay (Stay.new _ _)) (ints_lit w zs) (by unfold maxLen; omega) (by unfold maxLen; omega)).mono ?_
  rintro e w' ⟨rfl, n, rfl⟩
  exact ⟨by simp, (Stay.new _ _).trans (Stay.drewN _ _)⟩

theorem w_hash (w : World) : Calls Try.prog 29 #[.slice (some ⟨w.heap.size, 0, none⟩) 1 1] (w.alloc (.cells #[.int .i64 0] 3)) fun e w' => e = .returned (.int .u64 12161962213042174405) ∧ Stay w w' := by
  refine (hash_any _ _ _ _ 1 [0] (ints_lit w [0]) (by decide)).mono ?_
  rintro e w' ⟨rfl, rfl⟩
  exact ⟨by rw [hash_zero], Stay.new _ _⟩

theorem w_compare (w : World) : Calls Try.prog 30 #[.slice (some ⟨w.heap.size, 0, none⟩) 2 2, .slice (some ⟨w.heap.size + 1, 0, none⟩) 2 2] ((w.alloc (.cells #[.int .i64 1, .int .i64 2] 3)).alloc (.cells #[.int .i64 1, .int .i64 3] 3)) fun e w' => e = .returned (.int .i64 (-1)) ∧ Stay w w' := by
  have h := ints_lit (w.alloc (.cells #[.int .i64 1, .int .i64 2] 3)) [1, 3]
  rw [World.size_alloc] at h
  refine (compare_any _ _ _ _ _ _ _ 2 2 [1, 2] [1, 3] ((ints_lit w [1, 2]).stay (Stay.new _ _)) h (by decide) (by decide)).mono ?_
  rintro e w' ⟨rfl, rfl⟩
  exact ⟨rfl, (Stay.new _ _).alloc _⟩

theorem w_equal (w : World) : Calls Try.prog 31 #[.slice (some ⟨w.heap.size, 0, none⟩) 1 1, .slice (some ⟨w.heap.size + 1, 0, none⟩) 1 1] ((w.alloc (.cells #[.int .i64 4] 3)).alloc (.cells #[.int .i64 4] 3)) fun e w' => e = .returned (.bool true) ∧ Stay w w' := by
  have h := ints_lit (w.alloc (.cells #[.int .i64 4] 3)) [4]
  rw [World.size_alloc] at h
  refine (equal_any _ _ _ _ _ _ _ 1 1 [4] [4] ((ints_lit w [4]).stay (Stay.new _ _)) h (by decide) (by decide)).mono ?_
  rintro e w' ⟨rfl, hst⟩
  exact ⟨rfl, ((Stay.new _ _).alloc _).trans hst⟩

theorem lit_at (w : World) (zs : List Int) (n : Nat) (hn : w.heap.size = n) : IntsS (w.alloc (.cells (zs.map (Value.int .i64)).toArray 3)) (some ⟨n, 0, none⟩) n 0 zs := hn ▸ ints_lit w zs

theorem w_least (w : World) (n : Nat) (hn : w.heap.size = n) : Calls Try.prog 27 #[.slice (some ⟨n + 1 + 1 + 1, 0, none⟩) 3 3] ((((w.alloc (.cells #[.int .i64 2, .int .i64 1] 3)).alloc (.cells #[.int .i64 1, .int .i64 5] 3)).alloc (.cells #[.int .i64 1] 3)).alloc
      (.cells #[.slice (some ⟨n, 0, none⟩) 2 2, .slice (some ⟨n + 1, 0, none⟩) 2 2, .slice (some ⟨n + 1 + 1, 0, none⟩) 1 1] 22)) fun e w' => ∃ a b c, e = .returned (.tuple #[.slice a 1 c, .bool true]) ∧ IntsS w' a b 0 [1] ∧ Stay w w' := by
  have i1 := lit_at w [2, 1] n hn
  have i2 := lit_at (w.alloc (.cells #[.int .i64 2, .int .i64 1] 3)) [1, 5] (n + 1) (by simp [hn])
  have i3 := lit_at ((w.alloc (.cells #[.int .i64 2, .int .i64 1] 3)).alloc (.cells #[.int .i64 1, .int .i64 5] 3)) [1] (n + 1 + 1) (by simp [hn])
  have c4 := new_cells (((w.alloc (.cells #[.int .i64 2, .int .i64 1] 3)).alloc (.cells #[.int .i64 1, .int .i64 5] 3)).alloc (.cells #[.int .i64 1] 3)) [.slice (some ⟨n, 0, none⟩) 2 2, .slice (some ⟨n + 1, 0, none⟩) 2 2, .slice (some ⟨n + 1 + 1, 0, none⟩) 1 1] 22
  rw [show (((w.alloc (.cells #[.int .i64 2, .int .i64 1] 3)).alloc (.cells #[.int .i64 1, .int .i64 5] 3)).alloc (.cells #[.int .i64 1] 3)).heap.size = n + 1 + 1 + 1 by simp [hn]] at c4
  have st : Stay w ((((w.alloc (.cells #[.int .i64 2, .int .i64 1] 3)).alloc (.cells #[.int .i64 1, .int .i64 5] 3)).alloc (.cells #[.int .i64 1] 3)).alloc
      (.cells #[.slice (some ⟨n, 0, none⟩) 2 2, .slice (some ⟨n + 1, 0, none⟩) 2 2, .slice (some ⟨n + 1 + 1, 0, none⟩) 1 1] 22)) := (((Stay.new _ _).alloc _).alloc _).alloc _
  have j1 := i1.stay (((Stay.new _ (.cells #[.int .i64 1, .int .i64 5] 3)).alloc (.cells #[.int .i64 1] 3)).alloc (.cells #[.slice (some ⟨n, 0, none⟩) 2 2, .slice (some ⟨n + 1, 0, none⟩) 2 2, .slice (some ⟨n + 1 + 1, 0, none⟩) 1 1] 22))
  have j2 := i2.stay ((Stay.new _ (.cells #[.int .i64 1] 3)).alloc (.cells #[.slice (some ⟨n, 0, none⟩) 2 2, .slice (some ⟨n + 1, 0, none⟩) 2 2, .slice (some ⟨n + 1 + 1, 0, none⟩) 1 1] 22))
  have j3 := i3.stay (Stay.new _ (.cells #[.slice (some ⟨n, 0, none⟩) 2 2, .slice (some ⟨n + 1, 0, none⟩) 2 2, .slice (some ⟨n + 1 + 1, 0, none⟩) 1 1] 22))
  have hT : TupsS ((((w.alloc (.cells #[.int .i64 2, .int .i64 1] 3)).alloc (.cells #[.int .i64 1, .int .i64 5] 3)).alloc (.cells #[.int .i64 1] 3)).alloc
      (.cells #[.slice (some ⟨n, 0, none⟩) 2 2, .slice (some ⟨n + 1, 0, none⟩) 2 2, .slice (some ⟨n + 1 + 1, 0, none⟩) 1 1] 22)) (some ⟨n + 1 + 1 + 1, 0, none⟩) (n + 1 + 1 + 1) 0
      (⟨some ⟨n, 0, none⟩, n, 0, 2, [2, 1]⟩ :: [⟨some ⟨n + 1, 0, none⟩, n + 1, 0, 2, [1, 5]⟩, ⟨some ⟨n + 1 + 1, 0, none⟩, n + 1 + 1, 0, 1, [1]⟩]) := by
    refine ⟨fun _ => rfl, fun j hj => ?_⟩
    have h := c4 j
    rw [add_at] at h
    simp only [List.length_cons, List.length_nil] at hj
    match j, hj with
    | 0, _ => exact ⟨h _ rfl, j1, by simp⟩
    | 1, _ => exact ⟨h _ rfl, j2, by simp⟩
    | 2, _ => exact ⟨h _ rfl, j3, by simp⟩
  refine (least_any _ _ _ _ 3 _ _ hT (by simp [maxLen]) (by simp) (by decide)).mono ?_
  rintro e w' ⟨v, rfl, hown, hst⟩
  obtain ⟨a, b, c, rfl, hI⟩ := hown.ints
  exact ⟨a, b, c, rfl, hI, st.trans hst⟩

set_option maxRecDepth 100000 in
set_option maxHeartbeats 4000000 in
theorem works_any (w : World) : Calls Try.prog 17 #[] w fun e w' => e = .returned (.bool true) ∧ Stay w w' := by
  have hz := (zero_of_info infoArr).1
  obtain ⟨Z, hZ⟩ : ∃ Z, Z = List.replicate 16 (Value.int .i64 0) := ⟨_, rfl⟩
  rw [← hZ] at hz
  have HZ : Hid (Z.toArray.size = 16) := by show _ = _; simp [hZ]
  clear hZ
  obtain ⟨K, hK⟩ : ∃ K, K = arrV (padI [7, 8]) := ⟨_, rfl⟩
  have HK : Hid (K.size = 16 ∧ K.all (·.oneCell') = true ∧ K[0]? = some (.int .i64 7) ∧ K[1]? = some (.int .i64 8) ∧ K[2]? = some (.int .i64 0)) := by subst hK; exact ⟨rfl, arrV_one _, rfl, rfl, rfl⟩
  have wk := w_key
  rw [← hK] at wk
  clear hK
  go_enter Try.func17, Try.ntmps17
  go_wp2_with (first | (go_at_call 24; refine Calls.mono (w_of _) ?_; rintro e w1 ⟨rfl, h1⟩; have S1 : Hid (Stay w w1) := h1; clear h1)
                     | (go_at_call 25; refine Calls.mono (w_cut _) ?_; rintro e w2 ⟨al, bl, cl, rfl, hl, h1⟩; have S2 : Hid (Stay w w2) := S1.out.trans h1; have L2 : Hid (IntsS w2 al bl 0 [5, 7]) := hl; clear h1 hl)
                     | (go_at_call 26; refine Calls.mono (wk _) ?_; rintro e w3 ⟨rfl, h1⟩; have S3 : Hid (Stay w w3) := S2.out.trans h1; have L3 : Hid (IntsS w3 al bl 0 [5, 7]) := L2.out.stay h1; clear h1)
                     | (refine wpList_store_fresh rfl 60 (.tmp 5) (.tmp 23) rfl K _ rfl rfl 60 (by rw [HK.out.1]; exact sizeArr) (by rw [HZ.out, HK.out.1]) HK.out.2.1 ?_; have C3 : Hid ((w3.alloc (.cells K 60)).heap[w3.heap.size]? = some (.cells K 60 (0, 0))) := heap_alloc_new _ _)
                     | (go_at_call 27; refine Calls.mono (w_least (w3.alloc (.cells K 60)) _ (by simp)) ?_; rintro e w4 ⟨am, bm, cm, rfl, hm, h1⟩; have S4 : Hid (Stay w w4) := (S3.out.alloc _).trans h1; have L4 : Hid (IntsS w4 al bl 0 [5, 7] ∧ IntsS w4 am bm 0 [1]) := ⟨(L3.out.stay (Stay.new _ _)).stay h1, hm⟩; have C4 : Hid (w4.heap[w3.heap.size]? = some (.cells K 60 (0, 0))) := h1.heap C3.out; clear h1 hm hz HZ wk))
  go_wp2_with (go_at_call 28; refine Calls.mono (num_any _ _) ?_; rintro e w' ⟨rfl, hw9⟩; subst w')
  refine Calls.mono (w_ints w4 al bl cl 2 [5, 7] _ rfl rfl (by decide) L4.out.1) ?_
  rintro e w5 ⟨rfl, h1⟩
  have S5 : Hid (Stay w w5) := S4.out.trans h1
  have L5 : Hid (IntsS w5 am bm 0 [1]) := L4.out.2.stay h1
  have C5 := h1.heap C4.out
  have k0 : w5.cell? ⟨w3.heap.size, 0, none⟩ = some (.int .i64 7) := (cell_of_row _ _ _ _ _ _ C5).trans HK.out.2.2.1
  have k1 : w5.cell? ⟨w3.heap.size, 1, none⟩ = some (.int .i64 8) := (cell_of_row _ _ _ _ _ _ C5).trans HK.out.2.2.2.1
  have k2 : w5.cell? ⟨w3.heap.size, 2, none⟩ = some (.int .i64 0) := (cell_of_row _ _ _ _ _ _ C5).trans HK.out.2.2.2.2
  clear h1 C5 L4 C4 HK
  go_wp2_with fail
  refine Calls.mono (w_ints w5 am bm cm 1 [1] _ rfl rfl (by decide) L5.out) ?_
  rintro e w6 ⟨rfl, h1⟩
  have S6 : Hid (Stay w w6) := S5.out.trans h1
  clear h1 L5 k0 k1 k2
  go_wp2_with fail
  refine Calls.mono (w_hash w6) ?_
  rintro e w7 ⟨rfl, h1⟩
  have S7 : Hid (Stay w w7) := S6.out.trans h1
  clear h1
  go_wp2_with fail
  refine Calls.mono (w_compare w7) ?_
  rintro e w8 ⟨rfl, h1⟩
  have S8 : Hid (Stay w w8) := S7.out.trans h1
  clear h1
  go_wp2_with fail
  refine Calls.mono (w_equal w8) ?_
  rintro e w9 ⟨rfl, h1⟩
  have S9 : Hid (Stay w w9) := S8.out.trans h1
  clear h1
  go_wp2_with fail
  go_ret
  exact ⟨rfl, S9.out⟩
end Go.Proofs.Ytpflbaniijbpaaa
