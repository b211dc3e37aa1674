/- TupleCompares: its walk. -/
import Derived.Test.YtgpgpmmkmididaaN
import Derived.Deep.DeepCutAuto
namespace Go.Proofs.Ytgpgpmmkmididaa
open Go.RowKit Go.Maps

/-- Two lists are lent, each in a block of its own; nothing that was there before has turned. -/
def Both (w W : World) (g1 k1 g2 k2 : Nat) (xs ys : List Int) : Prop := Stay w W ∧ Lent w.heap.size W g1 k1 xs ∧ Lent w.heap.size W g2 k2 ys ∧ g1 ≠ g2
theorem Both.stay {w W W' : World} {g1 k1 g2 k2 : Nat} {xs ys : List Int} (h : Both w W g1 k1 g2 k2 xs ys) (hs : Stay W W') : Both w W' g1 k1 g2 k2 xs ys :=
  ⟨h.1.trans hs, h.2.1.stay hs, h.2.2.1.stay hs, h.2.2.2⟩

/-- From w to w' nothing has turned but block g. -/
structure But (g : Nat) (w w' : World) : Prop where
  os : w'.os = w.os
  tape : w'.tape = w.tape
  output : w'.output = w.output
  size : w.heap.size ≤ w'.heap.size
  block : ∀ k, k < w.heap.size → k ≠ g → w'.heap[k]? = w.heap[k]?

theorem But.refl (g : Nat) (w : World) : But g w w := ⟨rfl, rfl, rfl, Nat.le_refl _, fun _ _ _ => rfl⟩
theorem But.set {g : Nat} {w w' : World} (h : But g w w') (k : Nat) (v : Value) : But g w (w'.setCell ⟨g, k, none⟩ v) :=
  ⟨h.os, h.tape, h.output, by simpa [World.setCell] using h.size, fun j hj hn => (Below.heap_setCell _ _ _ _ (by show j ≠ g; exact hn)).trans (h.block j hj hn)⟩
theorem But.stay {g : Nat} {w W W' : World} (h : But g W W') (hs : Stay w W) (hg : w.heap.size ≤ g) : Stay w W' :=
  ⟨h.os.trans hs.os, h.tape.trans hs.tape, h.output.trans hs.output, Nat.le_trans hs.size h.size, fun k hk => (h.block k (Nat.lt_of_lt_of_le hk hs.size) (by omega)).trans (hs.block k hk)⟩
theorem But.ints {g : Nat} {w w' : World} (h : But g w w') {a : Option Addr} {b o : Nat} {zs : List Int} (hI : IntsS w a b o zs) (hb : b ≠ g) : IntsS w' a b o zs :=
  ⟨hI.1, fun j hj => (World.cell?_of_block (h.block b (World.block_lt_of_cell? w _ (hI.2 j hj)) hb)).trans (hI.2 j hj)⟩

/-- Block g begins with the numbers zs. -/
def RowP (w : World) (g : Nat) (zs : List Int) : Prop := ∃ cur : Array Value, w.heap[g]? = some (.cells cur 3 (0, 0)) ∧ ∀ j (h : j < zs.length), cur[j]? = some (.int .i64 zs[j])

theorem RowP.ints {w : World} {g : Nat} {zs : List Int} (h : RowP w g zs) : IntsS w (some ⟨g, 0, none⟩) g 0 zs := by
  obtain ⟨cur, h1, h2⟩ := h
  exact ⟨fun _ => rfl, fun j hj => by simp [World.cell?, h1, h2 j hj]⟩
theorem RowP.cell {w : World} {g : Nat} {zs : List Int} (h : RowP w g zs) (j : Nat) (hj : j < zs.length) : w.cell? ⟨g, j, none⟩ = some (.int .i64 zs[j]) := by
  have := h.ints.2 j hj
  rwa [Nat.zero_add] at this
theorem RowP.free {w : World} {g : Nat} {zs : List Int} (h : RowP w g zs) (j : Nat) : w.frozen? ⟨g, j, none⟩ = false := by
  obtain ⟨cur, h1, h2⟩ := h
  simp [World.frozen?, h1]
theorem RowP.set {w : World} {g : Nat} {zs : List Int} (h : RowP w g zs) (k : Nat) (z : Int) : RowP (w.setCell ⟨g, k, none⟩ (.int .i64 z)) g (zs.set k z) := by
  obtain ⟨cur, h1, h2⟩ := h
  refine ⟨cur.setIfInBounds k (.int .i64 z), heap_setCell_same w g k cur _ _ h1, fun j hj => ?_⟩
  rw [List.length_set] at hj
  rw [Array.getElem?_setIfInBounds, List.getElem_set]
  have h3 := h2 j hj
  have h4 : j < cur.size := (Array.getElem?_eq_some_iff.1 h3).1
  by_cases e : k = j
  · subst e
    simp [h4]
  · simp [e, h3]
theorem RowP.stay {w w' : World} {g : Nat} {zs : List Int} (h : RowP w g zs) (hs : Stay w w') : RowP w' g zs := by
  obtain ⟨cur, h1, h2⟩ := h
  exact ⟨cur, hs.heap h1, h2⟩
theorem Lent.rowP {base : Nat} {w : World} {g cap : Nat} {xs : List Int} (h : Lent base w g cap xs) : RowP w g xs := by
  have hI := h.ints
  rcases h.2 with ⟨hx, _⟩ | ⟨b, c, cur, hv, hb, hh, h1, h2, h3, h4⟩
  · simp at hx
  · simp only [Value.slice.injEq, Option.some.injEq, Addr.mk.injEq, and_true] at hv
    obtain ⟨rfl, -⟩ := hv
    refine ⟨cur, hh, fun j hj => ?_⟩
    have h5 := hI.2 j hj
    simpa [World.cell?, hh] using h5

/-- One less the number, as an int. -/
def turn1 (z : Int) : Int := RowKit.wrap64 (1 - z)
def turnL (xs : List Int) (k : Nat) : List Int := (xs.take k).map turn1 ++ xs.drop k
theorem turnL_len (xs : List Int) (k : Nat) : (turnL xs k).length = xs.length := by simp [turnL]; omega
theorem turnL_at (xs : List Int) (k : Nat) (h : k < xs.length) : (turnL xs k)[k]'(by rw [turnL_len]; exact h) = xs[k] := by
  unfold turnL
  rw [List.getElem_append_right (by simp; omega)]
  simp [show min k xs.length = k by omega]
theorem turnL_set (xs : List Int) (k : Nat) (h : k < xs.length) : (turnL xs k).set k (turn1 xs[k]) = turnL xs (k + 1) := by
  unfold turnL
  rw [List.set_append_right _ _ (by simp; omega), List.take_succ_eq_append_getElem h, List.map_append, List.drop_eq_getElem_cons h]
  rw [show k - ((xs.take k).map turn1).length = 0 by simp; omega, List.set_cons_zero, List.append_assoc]
  rfl
theorem turnL_all (xs : List Int) : turnL xs xs.length = xs.map turn1 := by simp [turnL]

set_option maxRecDepth 100000 in
set_option maxHeartbeats 8000000 in
theorem compares_walk (w : World) (a1 a2 : Option Addr) (b1 o1 b2 o2 c1 c2 : Nat) (xs ys : List Int) (hx : IntsS w a1 b1 o1 xs) (hy : IntsS w a2 b2 o2 ys) (ha1 : a1 = none → c1 = 0 ∧ xs = []) (ha2 : a2 = none → c2 = 0 ∧ ys = [])
    (hb1 : (xs.length + 9) * 8 ≤ 140737488355328) (hb2 : (ys.length + 9) * 8 ≤ 140737488355328) :
    Calls Try.prog 5 #[.slice a1 xs.length c1, .slice a2 ys.length c2] w fun e w' => e = .returned (.bool true) ∧ Stay w w' := by
  obtain ⟨i0, hi, hz0, hz1, hz2⟩ := info_parts infoInt
  have HA : Hid (IntsS w a1 b1 o1 xs ∧ IntsS w a2 b2 o2 ys) := ⟨hx, hy⟩
  have hlx : xs.length ≤ maxLen := by unfold maxLen; omega
  have hly : ys.length ≤ maxLen := by unfold maxLen; omega
  have hd : ∀ us vs : List Int, decide (us = vs) = (cmpL us vs == 0) := fun us vs => by rw [Bool.eq_iff_iff, beq_iff_eq, decide_eq_true_iff, cmpL_iff]
  have HD : Hid (∀ us vs : List Int, decide (us = vs) = (cmpL us vs == 0)) := hd
  have HB : Hid ((xs.length ≤ maxLen ∧ ys.length ≤ maxLen) ∧ (a1 = none → c1 = 0 ∧ xs = []) ∧ (a2 = none → c2 = 0 ∧ ys = [])) := ⟨⟨hlx, hly⟩, ha1, ha2⟩
  clear hx hy hd hlx hly ha1 ha2
  go_enter Try.func5, Try.ntmps5
  go_wp2_with fail
  refine (lend_any w a1 b1 o1 c1 xs HA.out.1 HB.out.2.1 hb1).mono ?_
  rintro e w1 ⟨g1, k1, rfl, hl1, hs1⟩
  have S1 : Hid (Lent w.heap.size w1 g1 k1 xs ∧ Stay w w1) := ⟨hl1, hs1⟩
  clear hl1 hs1
  go_wp2_with fail
  refine (lend_any w1 a2 b2 o2 c2 ys (HA.out.2.stay S1.out.2) HB.out.2.2 hb2).mono ?_
  rintro e w2 ⟨g2, k2, rfl, hl2, hs2⟩
  have S2 : Hid (Both w w2 g1 k1 g2 k2 xs ys) := ⟨S1.out.2.trans hs2, S1.out.1.stay hs2, hl2.mono S1.out.2.size, by have h1 := S1.out.1.bound; have h2 := hl2.bound; omega⟩
  clear hl2 hs2 S1
  go_upto_region 3 with fail
  go_cut [48] (fun c wx => c = .bool false ∧ Both w wx g1 k1 g2 k2 xs ys)
  case first =>
    go_wp2_with fail
    refine (compare_any w2 _ _ _ _ _ _ k1 k2 xs ys S2.out.2.1.ints S2.out.2.2.1.ints HB.out.1.1 HB.out.1.2).mono ?_
    rintro e w9 ⟨rfl, hw9⟩
    subst w9
    go_wp2_with fail
    refine (rcompare_any w2 a1 a2 b1 o1 b2 o2 c1 c2 xs ys (HA.out.1.stay S2.out.1) (HA.out.2.stay S2.out.1) HB.out.1.1 HB.out.1.2).mono ?_
    rintro e w3 ⟨rfl, n, hn⟩
    have S3 : Hid (Both w w3 g1 k1 g2 k2 xs ys) := by rw [hn]; exact S2.out.stay (Stay.drewN _ _)
    clear hn S2
    go_wp2_with fail
    refine (equal_any w3 _ _ _ _ _ _ k1 k2 xs ys S3.out.2.1.ints S3.out.2.2.1.ints HB.out.1.1 HB.out.1.2).mono ?_
    rintro e w4 ⟨rfl, hs⟩
    have S4 : Hid (Both w w4 g1 k1 g2 k2 xs ys) := S3.out.stay hs
    clear hs S3
    rw [HD.out xs ys]
    go_wp2_with fail
    refine (rcompare_any w4 a1 a2 b1 o1 b2 o2 c1 c2 xs ys (HA.out.1.stay S4.out.1) (HA.out.2.stay S4.out.1) HB.out.1.1 HB.out.1.2).mono ?_
    rintro e w5 ⟨rfl, n, hn⟩
    have S5 : Hid (Both w w5 g1 k1 g2 k2 xs ys) := by rw [hn]; exact S4.out.stay (Stay.drewN _ _)
    clear hn S4
    go_wp2_with fail
    refine (hash_any w5 _ _ _ k1 xs S5.out.2.1.ints HB.out.1.1).mono ?_
    rintro e w9 ⟨rfl, hw9⟩
    subst w9
    go_wp2_with fail
    refine (rhash_any w5 a1 b1 o1 c1 xs (HA.out.1.stay S5.out.1) HB.out.1.1).mono ?_
    rintro e w9 ⟨rfl, hw9⟩
    subst w9
    go_wp2_with fail
    refine (kept_any w5 g1 k1 a1 b1 o1 c1 _ xs S5.out.2.1 (HA.out.1.stay S5.out.1)).mono ?_
    rintro e w6 ⟨rfl, n, hn⟩
    have S6 : Hid (Both w w6 g1 k1 g2 k2 xs ys) := by rw [hn]; exact S5.out.stay (Stay.drewN _ _)
    clear hn S5
    go_wp2_with fail
    refine (kept_any w6 g2 k2 a2 b2 o2 c2 _ ys S6.out.2.2.1 (HA.out.2.stay S6.out.1)).mono ?_
    rintro e w7 ⟨rfl, n, hn⟩
    have S7 : Hid (Both w w7 g1 k1 g2 k2 xs ys) := by rw [hn]; exact S6.out.stay (Stay.drewN _ _)
    clear hn S6
    go_wp2_with fail
    go_meet
    exact ⟨rfl, S7.out⟩
  case rest =>
    obtain ⟨rfl, hB⟩ := hcut
    have S8 : Hid (Both w wc g1 k1 g2 k2 xs ys) := hB
    clear hB S2
    go_wp2_with fail
    go_loopw [7] (fun i wr => ∃ k : Nat, k ≤ xs.length ∧ i = .int .i64 k ∧ RowP wr g1 (turnL xs k) ∧ But g1 wc wr) (fun i _ => xs.length - (intOf i).toNat)
    case atStart => exact ⟨0, Nat.zero_le _, rfl, S8.out.2.1.rowP, But.refl _ _⟩
    case round =>
      obtain ⟨k, hk, rfl, hrow, hbut⟩ := hrel
      by_cases hlt : k < xs.length
      · have hi1 : (k : Int) < (xs.length : Int) := by omega
        have hc := hrow.cell k (by rw [turnL_len]; exact hlt)
        rw [turnL_at xs k hlt] at hc
        have hf := hrow.free k
        have HN : Hid (RowP (wr.setCell ⟨g1, k, none⟩ (.int .i64 (turn1 xs[k]))) g1 (turnL xs (k + 1)) ∧ But g1 wc (wr.setCell ⟨g1, k, none⟩ (.int .i64 (turn1 xs[k])))) := by
          have h := hrow.set k (turn1 xs[k])
          rw [turnL_set xs k hlt] at h
          exact ⟨h, hbut.set k _⟩
        unfold turn1 at HN
        generalize xs[k] = x at hc HN
        clear hrow hbut
        go_wp2
        go_roundw
        case rel => exact ⟨k + 1, by omega, by go_num, HN.out.1, HN.out.2⟩
        case measure => simp [intOf]; omega
      · have hi1 : ¬ (k : Int) < (xs.length : Int) := by omega
        obtain rfl : k = xs.length := by omega
        rw [turnL_all] at hrow
        obtain ⟨us, hus⟩ : ∃ us, us = xs.map turn1 := ⟨_, rfl⟩
        rw [← hus] at hrow
        have hlen : us.length = xs.length := by rw [hus, List.length_map]
        obtain ⟨U, hU⟩ : ∃ U, U = us.map (Value.int .i64) := ⟨_, rfl⟩
        have HU : Hid (U = us.map (Value.int .i64) ∧ us.length = xs.length ∧ U.length = xs.length ∧ (∀ u ∈ U, u.oneCell' = true)) := ⟨hU, hlen, by rw [hU, List.length_map, hlen], by simp [hU, Value.oneCell']⟩
        have S9 : Hid (Stay w wr ∧ RowP wr g1 us ∧ IntsS wr (some ⟨g2, 0, none⟩) g2 0 ys) := ⟨hbut.stay S8.out.1 S8.out.2.1.bound.1, hrow, hbut.ints S8.out.2.2.1.ints (fun e => S8.out.2.2.2 e.symm)⟩
        have HO := own_lit0 wr
        clear hrow hbut hus hU hlen S8
        go_wp2_with (at_builtin; refine wpList_append_own _ rfl _ _ 23 rfl wr.heap.size 3 i0 _ 1 8 Try.underlying23 hi hz0 hz1 hz2 rfl (by decide) (.slice (some ⟨wr.heap.size, 0, none⟩) 0 0) 0 [] rfl HO ⟨g1, 0, none⟩ xs.length k1 U rfl (by rw [HU.out.2.2.1]; simp) (fun j u h => (by rw [HU.out.1] at h; obtain ⟨ad, e1, e2⟩ := src_of S9.out.2.1.ints (Nat.lt_of_le_of_lt (Nat.zero_le j) (List.getElem?_eq_some_iff.1 h).1); obtain rfl := Option.some.inj e1; exact (Stay.new wr _).cell (e2 j u h))) HU.out.2.2.2 (by unfold maxLen; omega) (by omega) (by rw [World.size_alloc]; omega) ?_; intro v1 w10 hown1 hg1 hn1; have HR : Hid (OwnI wr.heap.size w10 v1 us ∧ Stay wr w10) := ⟨by unfold OwnI; rw [Nat.zero_add, List.nil_append, HU.out.1, ← HU.out.2.1] at hown1; exact hown1, (Stay.new wr _).grown hg1 (by rw [World.size_alloc]; omega) (fun k e => by simp [Value.ownBlock] at e; omega)⟩; clear hown1 hg1 hn1 HO)
        obtain ⟨av, bv, cv, rfl, _⟩ := HR.out.1.ints
        have hel := HU.out.2.1
        have S10 : Hid (Stay w w10 ∧ IntsS w10 (some ⟨g1, 0, none⟩) g1 0 us ∧ IntsS w10 (some ⟨g2, 0, none⟩) g2 0 ys ∧ OwnI wr.heap.size w10 (.slice av us.length cv) us) :=
          ⟨S9.out.1.trans HR.out.2, S9.out.2.1.ints.stay HR.out.2, S9.out.2.2.stay HR.out.2, HR.out.1⟩
        have HUS : Hid (us.length ≤ maxLen ∧ ∀ W, Stay w10 W → ∃ b, IntsS W av b 0 us) := ⟨by rw [hel]; exact HB.out.1.1, fun W hW => by
          obtain ⟨a', b', c', e1, e2⟩ := (S10.out.2.2.2.stay hW).ints
          simp only [Value.slice.injEq, true_and] at e1
          rw [← e1.1] at e2
          exact ⟨b', e2⟩⟩
        clear HR S9 HU
        rw [← hel] at *
        refine (compare_any w10 _ _ _ _ _ _ k1 k2 us ys S10.out.2.1 S10.out.2.2.1 HUS.out.1 HB.out.1.2).mono ?_
        rintro e w9 ⟨rfl, hw9⟩
        subst w9
        go_wp2_with fail
        obtain ⟨bc, hIc⟩ := HUS.out.2 w10 (Stay.refl _)
        refine (rcompare_any w10 av a2 bc 0 b2 o2 cv c2 us ys hIc (HA.out.2.stay S10.out.1) HUS.out.1 HB.out.1.2).mono ?_
        clear hIc
        rintro e w11 ⟨rfl, n, hn⟩
        have S11 : Hid (Stay w10 w11) := by rw [hn]; exact Stay.drewN _ _
        clear hn
        go_wp2_with fail
        refine (equal_any w11 _ _ _ _ _ _ k2 k1 ys us (S10.out.2.2.1.stay S11.out) (S10.out.2.1.stay S11.out) HB.out.1.2 HUS.out.1).mono ?_
        rintro e w12 ⟨rfl, hs⟩
        have S12 : Hid (Stay w10 w12) := S11.out.trans hs
        clear hs S11
        rw [HD.out ys us]
        go_wp2_with fail
        obtain ⟨bc2, hIc⟩ := HUS.out.2 w12 S12.out
        refine (rcompare_any w12 a2 av b2 o2 bc2 0 c2 cv ys us (HA.out.2.stay (S10.out.1.trans S12.out)) hIc HB.out.1.2 HUS.out.1).mono ?_
        clear hIc
        rintro e w13 ⟨rfl, n, hn⟩
        have S13 : Hid (Stay w10 w13) := by rw [hn]; exact S12.out.trans (Stay.drewN _ _)
        clear hn S12
        go_wp2_with fail
        refine (hash_any w13 _ _ _ k1 us (S10.out.2.1.stay S13.out) HUS.out.1).mono ?_
        rintro e w9 ⟨rfl, hw9⟩
        subst w9
        go_wp2_with fail
        obtain ⟨bc3, hIc⟩ := HUS.out.2 w13 S13.out
        refine (rhash_any w13 av bc3 0 cv us hIc HUS.out.1).mono ?_
        clear hIc
        rintro e w9 ⟨rfl, hw9⟩
        subst w9
        go_wp2_with fail
        refine (works_any w13).mono ?_
        rintro e w14 ⟨rfl, hs⟩
        have S14 : Hid (Stay w w14) := (S10.out.1.trans S13.out).trans hs
        clear hs
        go_wp2_with fail
        go_ret
        exact ⟨rfl, S14.out⟩
end Go.Proofs.Ytgpgpmmkmididaa
