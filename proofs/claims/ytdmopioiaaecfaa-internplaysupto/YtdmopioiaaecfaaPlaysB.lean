/- InternPlays' walk. -/
import Derived.Test.YtdmopioiaaecfaaPlaysR
import Derived.Deep.Cut
namespace Go.Proofs.Ytdmopioiaaecfaa
open Go.RowKit Go.Maps Go.Shelf

/-- How many texts the first steps bring. -/
def totS (ss : List Stp) (k : Nat) : Nat := ((ss.take k).map fun s => s.ss.length).sum
theorem totS_succ (ss : List Stp) (k : Nat) (hk : k < ss.length) : totS ss (k + 1) = totS ss k + ss[k].ss.length := by
  unfold totS
  rw [List.take_succ_eq_append_getElem hk, List.map_append, List.sum_append]
  simp
theorem sum_take_le : ∀ (l : List Nat) (k : Nat), (l.take k).sum ≤ l.sum
  | [], k => by simp
  | x :: l, 0 => by simp
  | x :: l, k + 1 => by have := sum_take_le l k; simp; omega
theorem totS_le (ss : List Stp) (k : Nat) : totS ss k ≤ (ss.map fun s => s.ss.length).sum := by
  unfold totS
  rw [List.map_take]
  exact sum_take_le _ _

set_option maxRecDepth 100000 in
set_option maxHeartbeats 3000000 in
theorem plays_walk (w : World) (a : Option Addr) (b off c : Nat) (ss : List Stp) (hS : 0 < ss.length → a = some ⟨b, off, none⟩) (hC : ∀ j (h : j < ss.length) k v, ss[j].cells[k]? = some v → w.cell? ⟨b, off + j * 6 + k, none⟩ = some v)
    (hok : ∀ s ∈ ss, s.Ok w) (htot : (ss.map fun s => s.ss.length).sum ≤ 1048576) (hl : ss.length ≤ 1048576) :
    Calls Try.prog 3 #[.slice a ss.length c] w fun e w' => e = .returned (.bool true) ∧ Below w.heap.size w w' := by
  have HS : Hid ((0 < ss.length → a = some ⟨b, off, none⟩) ∧ (∀ j (h : j < ss.length) k v, ss[j].cells[k]? = some v → w.cell? ⟨b, off + j * 6 + k, none⟩ = some v) ∧ (∀ s ∈ ss, s.Ok w) ∧ (ss.map fun s => s.ss.length).sum ≤ 1048576) := ⟨hS, hC, hok, htot⟩
  clear hS hC hok htot
  go_enter Try.func3, Try.ntmps3
  go_wp2_with fail
  refine (new_any _).mono ?_
  rintro e w1 ⟨rfl, hF1⟩
  go_wp2_with fail
  refine (new_any _).mono ?_
  rintro e w2 ⟨rfl, hF2⟩
  have hI0 := pli_start hF1 hF2
  have HI0 : Hid _ := hI0
  clear hF1 hF2 hI0
  go_wp2_with fail
  obtain ⟨W0, hW0⟩ : ∃ W0, begW w w1 w2 = W0 := ⟨_, rfl⟩
  unfold begW at hW0
  have HI1 : Hid (∃ T, PlI w w2.heap.size (w2.heap.size + 1 + 1 + 1) (totS ss 0) T W0) := by
    have := HI0.out
    unfold begW at this
    rw [hW0] at this
    exact this
  rw [hW0]
  clear hW0 HI0
  generalize w2.heap.size = A at HI1 ⊢
  generalize A + 1 + 1 + 1 = B at HI1 ⊢
  go_loopw [5] (fun i wr => ∃ (k : Nat) (T : Tri), k ≤ ss.length ∧ i = .int .i64 k ∧ PlI w A B (totS ss k) T wr) (fun i _ => ss.length - (intOf i).toNat)
  case atStart =>
    obtain ⟨T, hT⟩ := HI1.out
    exact ⟨0, T, Nat.zero_le _, rfl, hT⟩
  case round =>
    clear HI1
    obtain ⟨k, T, hk, rfl, hI⟩ := hrel
    by_cases hlt : k < ss.length
    · have hkb : (k : Int) < (ss.length : Int) := by omega
      obtain rfl := HS.out.1 (by omega)
      have hcl := HS.out.2.1 k hlt
      have hsok := HS.out.2.2.1 _ (List.getElem_mem hlt)
      have hts := totS_succ ss k hlt
      have htl := totS_le ss (k + 1)
      have htb := HS.out.2.2.2
      generalize hsk : ss[k] = s at *
      have s0 := (hI.below.cell (World.block_lt_of_cell? w _ (hcl 0 _ rfl))).trans (hcl 0 _ rfl)
      have s1 := (hI.below.cell (World.block_lt_of_cell? w _ (hcl 1 _ rfl))).trans (hcl 1 _ rfl)
      have s2 := (hI.below.cell (World.block_lt_of_cell? w _ (hcl 2 _ rfl))).trans (hcl 2 _ rfl)
      have s3 := (hI.below.cell (World.block_lt_of_cell? w _ (hcl 3 _ rfl))).trans (hcl 3 _ rfl)
      have s4 := (hI.below.cell (World.block_lt_of_cell? w _ (hcl 4 _ rfl))).trans (hcl 4 _ rfl)
      have s5 := (hI.below.cell (World.block_lt_of_cell? w _ (hcl 5 _ rfl))).trans (hcl 5 _ rfl)
      rw [Nat.add_zero] at s0
      have HX : Hid (PlI w A B (totS ss k) T wr ∧ s.Ok w ∧ totS ss k + s.ss.length ≤ 1048576 ∧ totS ss (k + 1) = totS ss k + s.ss.length) := ⟨hI, hsok, by omega, hts⟩
      have hV := s.v
      obtain ⟨kind, who, n, m, ta, tb, to, tc, sx, na, nb, no, nc, zs⟩ := s
      dsimp only [Stp.cells] at s0 s1 s2 s3 s4 s5
      clear hcl hsok hts htl htb hsk hI hV
      go_upto_if 41 with (first
        | (go_at_call 9; refine (place_any _ _).mono ?_; rintro e w' ⟨⟨i, hi, rfl⟩, hw⟩; have hw' := hw.symm; subst hw'))
      have hb6 : Below wr.heap.size wr (wr.alloc (.cells #[.int .i64 kind, .int .i64 who, .int .i64 n, .int .i64 m, .slice ta sx.length tc, .slice na zs.length nc] 33)) := (Below.refl _ _).alloc (Nat.le_refl _) _
      have hr6 := heap_new wr (.cells #[.int .i64 kind, .int .i64 who, .int .i64 n, .int .i64 m, .slice ta sx.length tc, .slice na zs.length nc] 33)
      generalize wr.alloc (.cells #[.int .i64 kind, .int .i64 who, .int .i64 n, .int .i64 m, .slice ta sx.length tc, .slice na zs.length nc] 33) = W6 at hb6 hr6 ⊢
      obtain ⟨sb, hsb⟩ : ∃ sb, wr.heap.size = sb := ⟨_, rfl⟩
      have H6 : Hid (Below wr.heap.size wr W6 ∧ W6.heap[sb]? = some (.cells #[.int .i64 kind, .int .i64 who, .int .i64 n, .int .i64 m, .slice ta sx.length tc, .slice na zs.length nc] 33 (0, 0)) ∧ wr.heap.size = sb) := ⟨hb6, by rw [← hsb]; exact hr6, hsb⟩
      rw [hsb]
      clear hb6 hr6 hsb
      have c2 : W6.cell? ⟨sb, 2, none⟩ = some (.int .i64 n) := by simp [World.cell?, H6.out.2.1]
      have hii : (i : Int) < 3 := by omega
      by_cases h10 : kind = 10
      · have hk10 : (kind == 10) = true := by simpa using h10
        clear h10
        have HI6 : Hid (PlI w A B (totS ss k) T W6) := HX.out.1.stay H6.out.1
        have hp6 := HI6.out.pAt hi
        go_upto_region 14 with (first
          | (go_at_call 9; refine (place_any _ _).mono ?_; rintro e w' ⟨⟨t2, ht2, rfl⟩, hw⟩; have hw' := hw.symm; subst hw'; have hcp := copy_pair HI6.out hi ht2 (by have := HX.out; omega); have htt : (t2 : Int) < 3 := (by omega))
          | (go_at_call 10; refine hcp.mono ?_; rintro e w7 ⟨o1, x, rfl, hx, hf, hq, hr⟩; clear hcp)
          | (go_at_call 11; refine hr.mono ?_; rintro e w8 ⟨o2, y, rfl, hy, hf2, hal, hpa, hqa, htu, hT⟩; have HT8 : Hid _ := And.intro htu hT; clear hr hT htu))
        obtain ⟨W8, hW8⟩ : ∃ W8, w8.setCell ⟨B, t2, none⟩ (.pointer o2) = W8 := ⟨_, rfl⟩
        rw [hW8] at hpa hqa HT8 ⊢
        clear hW8
        rcases hal with ⟨e1, e2⟩ | ⟨x1, y1, e1, e2⟩
        all_goals
          simp only [Value.pointer.injEq] at e1 e2
          subst e1 e2
          have HQ0 : Hid (∃ T9, PlI w A B (totS ss k) T9 W8 ∧ W8.heap[sb]? = some (.cells #[.int .i64 kind, .int .i64 who, .int .i64 n, .int .i64 m, .slice ta sx.length tc, .slice na zs.length nc] 33 (0, 0)) ∧ ¬ T9.P i sb) := by
            obtain ⟨htu, T9, h1, h2⟩ := HT8.out
            have hl6 : sb < W6.heap.size := (Array.getElem?_eq_some_iff.1 H6.out.2.1).1
            have hab := HX.out.1.lt
            have hz := H6.out.2.2
            refine ⟨T9, h2, (htu.block sb hl6 (by omega)).trans H6.out.2.1, fun hp => ?_⟩
            rcases h1 i hi sb hp with h3 | h3
            · have := (HX.out.1.pr i hi).lt sb h3; omega
            · omega
          clear HT8 hx hf hq hy hf2 HI6 hp6 c2
          go_quiet (fail)
          clear hpa hqa
          go_upto_region 16 with fail
          obtain ⟨W7, hW7⟩ : ∃ W7, W8.drewN nq = W7 := ⟨_, rfl⟩
          rw [hW7]
          obtain ⟨T9, HQ⟩ : ∃ T9, Hid (PlI w A B (totS ss k) T9 W7 ∧ W7.heap[sb]? = some (.cells #[.int .i64 kind, .int .i64 who, .int .i64 n, .int .i64 m, .slice ta sx.length tc, .slice na zs.length nc] 33 (0, 0)) ∧ ¬ T9.P i sb) := by
            obtain ⟨T9, h1, h2, h3⟩ := HQ0.out
            exact ⟨T9, by rw [← hW7]; exact ⟨h1.stay (below_drewN' _ _), h2, h3⟩⟩
          clear hW7 HQ0 H6
          obtain ⟨P0, hP0⟩ : ∃ P0, T9.p i = P0 := ⟨_, rfl⟩
          obtain ⟨Q0, hQ0⟩ : ∃ Q0, T9.q i = Q0 := ⟨_, rfl⟩
          have hcall := pli_plays (HQ.out.1.stay (below_drewN' W7 1)) hi ⟨kind, who, n, m, ta, tb, to, tc, sx, na, nb, no, nc, zs⟩ HX.out.2.1 HX.out.2.2.1 HQ.out.2.2 (W1 := W7.drew) (cs := #[.int .i64 kind, .int .i64 who, .int .i64 n, .int .i64 m, .slice ta sx.length tc, .slice na zs.length nc]) (t := 33) HQ.out.2.1
          have hS9 : W7.drew.cell? ⟨A, i, none⟩ = some P0 ∧ W7.drew.cell? ⟨B, i, none⟩ = some Q0 ∧ W7.drew.heap[sb]? = some (.cells #[.int .i64 kind, .int .i64 who, .int .i64 n, .int .i64 m, .slice ta sx.length tc, .slice na zs.length nc] 33 (0, 0)) := ⟨by rw [← hP0]; exact HQ.out.1.pAt hi, by rw [← hQ0]; exact HQ.out.1.qAt hi, HQ.out.2.1⟩
          rw [hP0, hQ0] at hcall
          dsimp only [Stp.v, Stp.cells, List.toArray] at hcall
          clear hP0 hQ0 HQ
          refine reg16 hii hS9 hcall (fun z66 z67 z68 z69 z70 z71 z72 U hU => ?_)
          have HR9 : Hid (∃ T', PlI w A B (totS ss (k + 1)) T' U) := by rw [HX.out.2.2.2]; exact hU
          clear hU hS9 hcall
          go_wp2
          go_roundw
          case rel =>
            obtain ⟨T', hT'⟩ := HR9.out
            exact ⟨k + 1, T', by omega, by go_num, hT'⟩
          case measure => simp [intOf]; omega
      · have hk10 : (kind == 10) = false := by simpa using h10
        clear h10
        go_upto_region 16 with fail
        obtain ⟨T9, HQ⟩ : ∃ T9, Hid (PlI w A B (totS ss k) T9 W6 ∧ W6.heap[sb]? = some (.cells #[.int .i64 kind, .int .i64 who, .int .i64 n, .int .i64 m, .slice ta sx.length tc, .slice na zs.length nc] 33 (0, 0)) ∧ ¬ T9.P i sb) :=
          ⟨T, HX.out.1.stay H6.out.1, H6.out.2.1, fun hp => by have := (HX.out.1.pr i hi).lt sb hp; have := H6.out.2.2; omega⟩
        clear H6 c2
        obtain ⟨P0, hP0⟩ : ∃ P0, T9.p i = P0 := ⟨_, rfl⟩
        obtain ⟨Q0, hQ0⟩ : ∃ Q0, T9.q i = Q0 := ⟨_, rfl⟩
        have hcall := pli_plays (HQ.out.1.stay (below_drewN' W6 1)) hi ⟨kind, who, n, m, ta, tb, to, tc, sx, na, nb, no, nc, zs⟩ HX.out.2.1 HX.out.2.2.1 HQ.out.2.2 (W1 := W6.drew) (cs := #[.int .i64 kind, .int .i64 who, .int .i64 n, .int .i64 m, .slice ta sx.length tc, .slice na zs.length nc]) (t := 33) HQ.out.2.1
        have hS9 : W6.drew.cell? ⟨A, i, none⟩ = some P0 ∧ W6.drew.cell? ⟨B, i, none⟩ = some Q0 ∧ W6.drew.heap[sb]? = some (.cells #[.int .i64 kind, .int .i64 who, .int .i64 n, .int .i64 m, .slice ta sx.length tc, .slice na zs.length nc] 33 (0, 0)) := ⟨by rw [← hP0]; exact HQ.out.1.pAt hi, by rw [← hQ0]; exact HQ.out.1.qAt hi, HQ.out.2.1⟩
        rw [hP0, hQ0] at hcall
        dsimp only [Stp.v, Stp.cells, List.toArray] at hcall
        clear hP0 hQ0 HQ
        refine reg16 hii hS9 hcall (fun z66 z67 z68 z69 z70 z71 z72 U hU => ?_)
        have HR9 : Hid (∃ T', PlI w A B (totS ss (k + 1)) T' U) := by rw [HX.out.2.2.2]; exact hU
        clear hU hS9 hcall
        go_wp2
        go_roundw
        case rel =>
          obtain ⟨T', hT'⟩ := HR9.out
          exact ⟨k + 1, T', by omega, by go_num, hT'⟩
        case measure => simp [intOf]; omega
    · have hkb : ¬ (k : Int) < (ss.length : Int) := by omega
      have HI9 : Hid (∃ T, PlI w A B 1048576 T wr) := ⟨T, hI.more (Nat.le_trans (totS_le ss k) HS.out.2.2.2)⟩
      clear hI
      go_wp2
      go_loopw [9] (fun i wz => ∃ (j : Nat) (T : Tri), j ≤ 3 ∧ i = .int .i64 j ∧ PlI w A B 1048576 T wz) (fun i _ => 3 - (intOf i).toNat)
      case atStart =>
        obtain ⟨T', hT'⟩ := HI9.out
        exact ⟨0, T', Nat.zero_le _, rfl, hT'⟩
      case round =>
        clear HI9
        obtain ⟨j, T, hj, rfl, hI⟩ := hrel
        by_cases hlt2 : j < 3
        · have hjb : (j : Int) < 3 := by omega
          have HI : Hid (PlI w A B 1048576 T wr) := hI
          obtain ⟨P0, hP0⟩ : ∃ P0, T.p j = P0 := ⟨_, rfl⟩
          obtain ⟨Q0, hQ0⟩ : ∃ Q0, T.q j = Q0 := ⟨_, rfl⟩
          have hD := hI.stay (below_drewN' wr 1)
          obtain ⟨n6, k13, k14⟩ := len_pair (hD.pr j hlt2)
          have k15 : Calls Try.prog 15 #[T.p j, T.q j, .int .i64 0] wr.drew fun e U => e = .returned (.bool true) ∧ (U.cell? ⟨A, j, none⟩ = some P0 ∧ U.cell? ⟨B, j, none⟩ = some Q0) ∧ Calls Try.prog 16 #[T.p j, T.q j] U fun e V => e = .returned (.bool true) ∧ (V.cell? ⟨A, j, none⟩ = some P0 ∧ V.cell? ⟨B, j, none⟩ = some Q0) ∧ PlI w A B 1048576 T V := by
            refine (goes_pair (hD.pr j hlt2) 0 (by omega) (by omega)).mono ?_
            rintro e U ⟨rfl, hb⟩
            have hU := hD.stay hb
            refine ⟨rfl, ⟨by rw [← hP0]; exact hU.pAt hlt2, by rw [← hQ0]; exact hU.qAt hlt2⟩, (ranks_pair (hU.pr j hlt2) (by have := hU.few j hlt2; omega)).mono ?_⟩
            rintro e V ⟨rfl, hb2⟩
            have hV := hU.stay hb2
            exact ⟨rfl, ⟨by rw [← hP0]; exact hV.pAt hlt2, by rw [← hQ0]; exact hV.qAt hlt2⟩, hV⟩
          have hS9 : wr.drew.cell? ⟨A, j, none⟩ = some P0 ∧ wr.drew.cell? ⟨B, j, none⟩ = some Q0 := ⟨by rw [← hP0]; exact hD.pAt hlt2, by rw [← hQ0]; exact hD.qAt hlt2⟩
          rw [hP0] at k13
          rw [hQ0] at k14
          rw [hP0, hQ0] at k15
          clear hP0 hQ0 hI hD
          go_upto_region 21 with fail
          refine reg21 hjb hS9 k13 k14 k15 (fun z79 z80 z81 z82 z83 z84 z85 z86 z87 z88 z89 z90 z91 z92 z93 z94 z95 z96 z97 z98 z99 z100 z101 z102 z103 z104 z105 z106 U hU => ?_)
          have HU : Hid (PlI w A B 1048576 T U) := hU
          clear hU hS9 k13 k14 k15
          go_wp2
          go_roundw
          case rel => exact ⟨j + 1, T, by omega, by go_num, HU.out⟩
          case measure => simp [intOf]; omega
        · have hjb : ¬ (j : Int) < 3 := by omega
          have HB : Hid (Below w.heap.size w wr) := hI.below
          clear hI
          go_wp2_with (go_at_call 17; refine Calls.mono (known_any _) ?_; rintro e w11 ⟨rfl, hB11⟩; have HB2 : Hid (Below w.heap.size w w11) := HB.out.trans (hB11.mono HB.out.size); clear hB11)
          go_ret
          exact ⟨rfl, HB2.out⟩
end Go.Proofs.Ytdmopioiaaecfaa
