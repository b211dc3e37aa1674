/- PrintQuotes' walk. -/
import Derived.Test.YtckgmpifdkbeeaaDoorPP
import Derived.Deep.Cut
namespace Go.Proofs.YtckgmpifdkbeeaaDoor
open Go.RowKit Go.Maps

set_option maxRecDepth 100000 in
theorem digit_any (c d : Nat) (h : (48 ≤ c ∧ c ≤ 57 ∧ d + 48 = c) ∨ (97 ≤ c ∧ c ≤ 102 ∧ d + 87 = c)) (w : World) : Calls Tryd.prog 12 #[.int .u8 (c : Int)] w fun e w' => e = .returned (.int .u8 (d : Int)) ∧ w' = w := by
  rcases h with ⟨h1, h2, h3⟩ | ⟨h1, h2, h3⟩
  · have i1 : (48 : Int) ≤ (c : Int) := by omega
    have i2 : (c : Int) ≤ 57 := by omega
    have i3 : IntKind.u8.wrap ((c : Int) - 48) = (d : Int) := by rw [IntWalk.u8_in] <;> omega
    go_enter Tryd.func12, Tryd.ntmps12
    go_wp2
    go_ret
    exact ⟨rfl, rfl⟩
  · have i1 : (97 : Int) ≤ (c : Int) := by omega
    have i2 : (c : Int) ≤ 102 := by omega
    have i4 : ¬ (c : Int) ≤ 57 := by omega
    have i5 : (48 : Int) ≤ (c : Int) := by omega
    obtain ⟨m, hm⟩ : ∃ m : Nat, (c : Int) - 97 = (m : Int) := ⟨c - 97, by omega⟩
    have i3 : IntKind.u8.wrap ((c : Int) - 97) = (m : Int) := by rw [IntWalk.u8_in] <;> omega
    have i6 : IntKind.u8.wrap ((m : Int) + 10) = (d : Int) := by rw [IntWalk.u8_in] <;> omega
    clear hm
    go_enter Tryd.func12, Tryd.ntmps12
    go_wp2
    go_ret
    exact ⟨rfl, rfl⟩
theorem hex_is (d : Nat) (h : d < 16) : (48 ≤ (hexs.getD d 0).toNat ∧ (hexs.getD d 0).toNat ≤ 57 ∧ d + 48 = (hexs.getD d 0).toNat) ∨ (97 ≤ (hexs.getD d 0).toNat ∧ (hexs.getD d 0).toNat ≤ 102 ∧ d + 87 = (hexs.getD d 0).toNat) := by
  have go : ∀ d : Fin 16, (48 ≤ (hexs.getD d.val 0).toNat ∧ (hexs.getD d.val 0).toNat ≤ 57 ∧ d.val + 48 = (hexs.getD d.val 0).toNat) ∨ (97 ≤ (hexs.getD d.val 0).toNat ∧ (hexs.getD d.val 0).toNat ≤ 102 ∧ d.val + 87 = (hexs.getD d.val 0).toNat) := by decide
  exact go ⟨d, h⟩

theorem hex_places {I S : Nat} (h : I + 4 ≤ S) : ∃ J J1 J2 : Nat, J = I + 1 ∧ J1 = I + 1 + 1 ∧ J2 = I + 1 + 2 ∧ (I : Int) + 1 = (J : Int) ∧ (I : Int) < (S : Int) ∧ J < S ∧ (J : Int) < (S : Int) ∧ (J : Int) + 1 = (J1 : Int) ∧ (J : Int) + 2 = (J2 : Int) ∧ J1 < S ∧ J2 < S ∧ (J1 : Int) < (S : Int) ∧ (J2 : Int) < (S : Int) :=
  ⟨I + 1, I + 1 + 1, I + 1 + 2, rfl, rfl, rfl, by omega, by omega, by omega, by omega, by omega, by omega, by omega, by omega, by omega, by omega⟩
/-- The bytes of a piece stand where it stands. -/
theorem piece_at {L : List UInt8} {P : ByteArray} (hP : P.data.toList = L.flatMap pieceL) {k : Nat} (hk : k < L.length) :
    ((L.take k).flatMap pieceL).length + (pieceL L[k]).length ≤ P.size ∧ ((L.take (k + 1)).flatMap pieceL).length = ((L.take k).flatMap pieceL).length + (pieceL L[k]).length ∧
      ∀ j u, (pieceL L[k])[j]? = some u → ∀ h : ((L.take k).flatMap pieceL).length + j < P.size, P[((L.take k).flatMap pieceL).length + j] = u := by
  have e1 : L.flatMap pieceL = (L.take k).flatMap pieceL ++ (pieceL L[k] ++ (L.drop (k + 1)).flatMap pieceL) := by
    conv => lhs; rw [← List.take_append_drop k L]
    rw [List.flatMap_append, List.drop_eq_getElem_cons hk, List.flatMap_cons]
  have e2 : P.size = P.data.toList.length := by simp
  refine ⟨?_, ?_, fun j u hu h => ?_⟩
  · rw [e2, hP, e1, List.length_append, List.length_append]; omega
  · rw [List.take_succ_eq_append_getElem hk, List.flatMap_append]; simp
  · have hj : j < (pieceL L[k]).length := (List.getElem?_eq_some_iff.1 hu).1
    have h1 : P.data.toList[((L.take k).flatMap pieceL).length + j]? = some u := by
      rw [hP, e1, List.getElem?_append_right (by omega), Nat.add_sub_cancel_left, List.getElem?_append_left hj]
      exact hu
    have h2 : P.data.toList[((L.take k).flatMap pieceL).length + j]'(by rw [← e2]; exact h) = u := (List.getElem?_eq_some_iff.1 h1).2
    rw [← h2]
    rfl

set_option maxRecDepth 100000 in
set_option maxHeartbeats 4000000 in
theorem printQuotes_walk (s : ByteArray) (w : World) (hT : Tabs w) (hs : s.size ≤ 1048576) : Calls Tryd.prog 4 #[.string s] w fun e w' => e = .returned (.bool true) ∧ Stay w w' := by
  have a7 := pQuote_any s w (by omega)
  have a9 := fun W (hW : Stay w W) => known_any W (hT.stay hW)
  obtain ⟨q, hq⟩ : ∃ q : ByteArray, q = ⟨(quoteL s.data.toList).toArray⟩ := ⟨_, rfl⟩
  rw [← hq] at a7
  have hqs : q.size = (s.data.toList.flatMap pieceL).length + 2 := by
    rw [hq]
    show (quoteL s.data.toList).toArray.size = _
    simp [quoteL]
  have hq0 : ∀ h : 0 < q.size, q[0].toNat = 34 := fun h => by subst hq; rfl
  have hq1 : ∀ h : q.size - 1 < q.size, (q[q.size - 1]'h).toNat = 34 := fun h => by
    have e : q.data.toList[q.size - 1]'(by simpa using h) = 34 := by
      have e0 : q.data.toList = quoteL s.data.toList := by rw [hq]
      have e1 : q.data.toList[q.size - 1]? = some 34 := by
        rw [e0, hqs]
        simp [quoteL]
      exact (List.getElem?_eq_some_iff.1 e1).2
    show (q.data.toList[q.size - 1]'(by simpa using h)).toNat = 34
    rw [e]; rfl
  have hin := inner hq
  have hb := pieces_len s.data.toList
  rw [show s.data.toList.length = s.size by simp] at hb
  obtain ⟨P, hP⟩ : ∃ P, P = q.extract 1 (q.size - 1) := ⟨_, rfl⟩
  rw [← hP] at hin
  have hPs : P.size = q.size - 2 := by
    have : P.data.toList.length = P.size := by simp
    rw [← this, hin]; omega
  have hP' : q.extract 1 (q.size - 1) = P := hP.symm
  have hq2 : 2 ≤ q.size := by omega
  have hq3 : q.size ≤ 4194306 := by omega
  have hp0 : 0 < q.size := by omega
  have hp1 : q.size - 1 < q.size := by omega
  have g1 := hq0 hp0
  have g2 := hq1 hp1
  have gi1 : (1 : Int) ≤ (q.size : Int) - 1 := by omega
  have gi2 : ¬ (q.size : Int) < 2 := by omega
  have HIN : Hid (P.data.toList = s.data.toList.flatMap pieceL) := hin
  have hPb : P.size ≤ 4194304 := by omega
  have hl : s.data.toList.length = s.size := by simp
  obtain ⟨L, hL⟩ : ∃ L, s.data.toList = L := ⟨_, rfl⟩
  have HL : Hid (s.data.toList = L ∧ L.length = s.size) := ⟨hL, by rw [← hL]; exact hl⟩
  rw [hL] at HIN
  clear hq0 hq1 hin hb hP hqs hq hL hl
  go_enter Tryd.func4, Tryd.ntmps4
  go_wp2_with (first
    | (go_at_call 9; refine a7.mono ?_; rintro e W1 ⟨rfl, hs1⟩; have H1 : Hid (Stay w W1) := hs1; clear hs1 a7))
  clear g1 g2 hP' hq2 hq3 gi1 gi2 hPs
  go_loopw [6, 5] (fun vi vn wr => Stay w wr ∧ ∃ k I : Nat, k ≤ s.size ∧ vn = .int .i64 (k : Int) ∧ vi = .int .i64 (I : Int) ∧ I = ((L.take k).flatMap pieceL).length) (fun _ vn _ => s.size - (intOf vn).toNat)
  case atStart => exact ⟨H1.out, 0, 0, Nat.zero_le _, rfl, rfl, by simp⟩
  case round =>
    obtain ⟨hwr, k, I, hk, rfl, rfl, hI⟩ := hrel
    have HWR : Hid (Stay w wr) := hwr
    clear hwr
    by_cases hlt : k < s.size
    · have hkL : k < L.length := by rw [HL.out.2]; exact hlt
      obtain ⟨b1, b2, b3⟩ := piece_at HIN.out hkL
      rw [← hI] at b1 b2 b3
      have e1 : L[k] = s[k] := by
        have e0 : s.data.toList[k]'(by rw [HL.out.1]; exact hkL) = s[k] := rfl
        rw [← e0]
        congr 1
        exact HL.out.1.symm
      obtain ⟨c, hc⟩ : ∃ c, s[k] = c := ⟨_, rfl⟩
      rw [e1, hc] at b1 b2 b3
      have hct : s[k].toNat = c.toNat := by rw [hc]
      have HB2 : Hid (((L.take (k + 1)).flatMap pieceL).length = I + (pieceL c).length) := b2
      have hki : (k : Int) < (s.size : Int) := by omega
      have hcb : c.toNat < 256 := UInt8.toNat_lt c
      clear e1 hc b2
      have HI : Hid (I = ((L.take k).flatMap pieceL).length) := hI
      clear hI
      by_cases h34 : c = 34
      · subst h34
        rw [show pieceL 34 = [92, 34] from rfl] at b1 b3 HB2
        simp only [List.length_cons, List.length_nil] at b1
        have l0 : I < P.size := by omega
        have l1 : I + 1 < P.size := by omega
        have p0 := b3 0 92 rfl l0
        have p1 := b3 1 34 rfl l1
        have t0 : P[I].toNat = 92 := by rw [show P[I] = 92 from p0]; rfl
        have t1 : P[I + 1].toNat = 34 := by rw [p1]; rfl
        rw [show UInt8.toNat 34 = 34 from rfl] at hct
        clear b3 p0 p1 
        have j0 : (I : Int) < (P.size : Int) := by omega
        have j1 : (I : Int) + 1 < (P.size : Int) := by omega
        go_wp2_with fail
        go_roundw
        case rel => exact ⟨HWR.out, k + 1, I + 2, by omega, by simp, by simp only [Value.int.injEq, true_and]; omega, by rw [HB2.out]; rfl⟩
        case measure => simp [intOf]; omega
      by_cases h92 : c = 92
      · subst h92
        rw [show pieceL 92 = [92, 92] from rfl] at b1 b3 HB2
        simp only [List.length_cons, List.length_nil] at b1
        have l0 : I < P.size := by omega
        have l1 : I + 1 < P.size := by omega
        have p0 := b3 0 92 rfl l0
        have p1 := b3 1 92 rfl l1
        have t0 : P[I].toNat = 92 := by rw [show P[I] = 92 from p0]; rfl
        have t1 : P[I + 1].toNat = 92 := by rw [p1]; rfl
        rw [show UInt8.toNat 92 = 92 from rfl] at hct
        clear b3 p0 p1 h34
        have j0 : (I : Int) < (P.size : Int) := by omega
        have j1 : (I : Int) + 1 < (P.size : Int) := by omega
        go_wp2_with fail
        go_roundw
        case rel => exact ⟨HWR.out, k + 1, I + 2, by omega, by simp, by simp only [Value.int.injEq, true_and]; omega, by rw [HB2.out]; rfl⟩
        case measure => simp [intOf]; omega
      by_cases h10 : c = 10
      · subst h10
        rw [show pieceL 10 = [92, 110] from rfl] at b1 b3 HB2
        simp only [List.length_cons, List.length_nil] at b1
        have l0 : I < P.size := by omega
        have l1 : I + 1 < P.size := by omega
        have p0 := b3 0 92 rfl l0
        have p1 := b3 1 110 rfl l1
        have t0 : P[I].toNat = 92 := by rw [show P[I] = 92 from p0]; rfl
        have t1 : P[I + 1].toNat = 110 := by rw [p1]; rfl
        rw [show UInt8.toNat 10 = 10 from rfl] at hct
        clear b3 p0 p1 h34 h92
        have j0 : (I : Int) < (P.size : Int) := by omega
        have j1 : (I : Int) + 1 < (P.size : Int) := by omega
        go_wp2_with fail
        go_roundw
        case rel => exact ⟨HWR.out, k + 1, I + 2, by omega, by simp, by simp only [Value.int.injEq, true_and]; omega, by rw [HB2.out]; rfl⟩
        case measure => simp [intOf]; omega
      by_cases h9 : c = 9
      · subst h9
        rw [show pieceL 9 = [92, 116] from rfl] at b1 b3 HB2
        simp only [List.length_cons, List.length_nil] at b1
        have l0 : I < P.size := by omega
        have l1 : I + 1 < P.size := by omega
        have p0 := b3 0 92 rfl l0
        have p1 := b3 1 116 rfl l1
        have t0 : P[I].toNat = 92 := by rw [show P[I] = 92 from p0]; rfl
        have t1 : P[I + 1].toNat = 116 := by rw [p1]; rfl
        rw [show UInt8.toNat 9 = 9 from rfl] at hct
        clear b3 p0 p1 h34 h92 h10
        have j0 : (I : Int) < (P.size : Int) := by omega
        have j1 : (I : Int) + 1 < (P.size : Int) := by omega
        go_wp2_with fail
        go_roundw
        case rel => exact ⟨HWR.out, k + 1, I + 2, by omega, by simp, by simp only [Value.int.injEq, true_and]; omega, by rw [HB2.out]; rfl⟩
        case measure => simp [intOf]; omega
      have hpc : pieceL c = if plainZ (c.toNat : Int) then [c] else [92, 120, hexs.getD (c.toNat / 16) 0, hexs.getD (c.toNat % 16) 0] := by
        unfold pieceL
        rw [if_neg (not_or.2 ⟨h34, h92⟩), if_neg h10, if_neg h9]
      have q34 := byte_ne h34
      have q92 := byte_ne h92
      have q10 := byte_ne h10
      have q9 := byte_ne h9
      rw [show ((UInt8.toNat 34 : Nat) : Int) = 34 from rfl] at q34
      rw [show ((UInt8.toNat 92 : Nat) : Int) = 92 from rfl] at q92
      rw [show ((UInt8.toNat 10 : Nat) : Int) = 10 from rfl] at q10
      rw [show ((UInt8.toNat 9 : Nat) : Int) = 9 from rfl] at q9
      clear h34 h92 h10 h9
      by_cases hp : plainZ (c.toNat : Int) = true
      · rw [if_pos hp] at hpc
        rw [hpc] at b1 b3 HB2
        simp only [List.length_cons, List.length_nil] at b1
        have l0 : I < P.size := by omega
        have p0 := b3 0 c rfl l0
        have t0 : P[I].toNat = c.toNat := by rw [show P[I] = c from p0]
        unfold plainZ at hp
        rw [Bool.and_eq_true, decide_eq_true_eq, decide_eq_true_eq] at hp
        obtain ⟨hp1, hp2⟩ := hp
        have hp3 : ¬ (c.toNat : Int) < 32 := by omega
        have hp4 : ¬ (126 : Int) < (c.toNat : Int) := by omega
        clear b3 p0 hpc
        have j0 : (I : Int) < (P.size : Int) := by omega
        go_wp2_with fail
        go_roundw
        case rel => exact ⟨HWR.out, k + 1, I + 1, by omega, by simp, by simp only [Value.int.injEq, true_and]; omega, by rw [HB2.out]; rfl⟩
        case measure => simp [intOf]; omega
      · rw [if_neg hp] at hpc
        rw [hpc] at b1 b3 HB2
        simp only [List.length_cons, List.length_nil] at b1
        have l0 : I < P.size := by omega
        have l1 : I + 1 < P.size := by omega
        have l2 : I + 1 + 1 < P.size := by omega
        have l3 : I + 1 + 2 < P.size := by omega
        have p0 := b3 0 92 rfl l0
        have p1 := b3 1 120 rfl l1
        have p2 := b3 2 _ rfl l2
        have p3 := b3 3 _ rfl l3
        have t0 : P[I].toNat = 92 := by rw [show P[I] = 92 from p0]; rfl
        have t1 : P[I + 1].toNat = 120 := by rw [p1]; rfl
        obtain ⟨d1, hd1⟩ : ∃ d1, d1 = c.toNat / 16 := ⟨_, rfl⟩
        obtain ⟨d2, hd2⟩ : ∃ d2, d2 = c.toNat % 16 := ⟨_, rfl⟩
        rw [← hd1] at p2
        rw [← hd2] at p3
        have D1 := fun W => digit_any P[I + 1 + 1].toNat d1 (by rw [show P[I + 1 + 1] = _ from p2]; exact hex_is d1 (by omega)) W
        have D2 := fun W => digit_any P[I + 1 + 2].toNat d2 (by rw [show P[I + 1 + 2] = _ from p3]; exact hex_is d2 (by omega)) W
        have u1 : IntKind.u8.wrap (16 * (d1 : Int)) = ((16 * d1 : Nat) : Int) := by rw [IntWalk.u8_in] <;> omega
        have u2 : IntKind.u8.wrap (((16 * d1 : Nat) : Int) + (d2 : Int)) = (c.toNat : Int) := by rw [IntWalk.u8_in] <;> omega
        have hpn : ¬ (32 ≤ (c.toNat : Int) ∧ (c.toNat : Int) ≤ 126) := fun h => hp (by unfold plainZ; simp; omega)
        clear b3 p0 p1 p2 p3 hpc hd1 hd2 hp
        obtain ⟨J, J1, J2, hJN, hJ1, hJ2, hJ, j0, m0, m00, x3, x4, m1, m2, m3, m4⟩ := hex_places (show I + 4 ≤ P.size from b1)
        have t2 : P[J].toNat = 120 := by subst hJN; exact t1
        have D3 : ∀ W : World, Calls Tryd.prog 12 #[.int .u8 (P[J1].toNat : Int)] W fun e w' => e = .returned (.int .u8 (d1 : Int)) ∧ w' = W := by subst hJ1; exact D1
        have D4 : ∀ W : World, Calls Tryd.prog 12 #[.int .u8 (P[J2].toNat : Int)] W fun e w' => e = .returned (.int .u8 (d2 : Int)) ∧ w' = W := by subst hJ2; exact D2
        have HJ : Hid ((I : Int) + 1 = (J : Int)) := hJ
        generalize 16 * d1 = D at *
        clear hJ1 hJ2 hJN D1 D2 l1 l2 l3 t1
        go_upto_region 27 with fail
        have hq1 : ∀ n, Calls Tryd.prog 12 #[.int .u8 (P[J1].toNat : Int)] (wr.drewN n) fun e w' => e = .returned (.int .u8 (d1 : Int)) ∧ ∃ m, w' = wr.drewN m := fun n => (D3 _).mono fun e w' ⟨h1, h2⟩ => ⟨h1, n, h2⟩
        have hq2 : ∀ n, Calls Tryd.prog 12 #[.int .u8 (P[J2].toNat : Int)] (wr.drewN n) fun e w' => e = .returned (.int .u8 (d2 : Int)) ∧ ∃ m, w' = wr.drewN m := fun n => (D4 _).mono fun e w' ⟨h1, h2⟩ => ⟨h1, n, h2⟩
        refine wp_region_quiet_lit (by kernel_rfl) (by kernel_rfl) ?_
        repeat (go_big_quiet_step (first | (go_at_call 12; first | with_reducible exact hq1 _ | with_reducible exact hq2 _)))
        refine wpQuiet_nil ?_
        intro _ hw'
        obtain ⟨nq, hw''⟩ := hw'
        subst hw''
        clear hq1 hq2
        by_cases h32 : 32 ≤ (c.toNat : Int)
        · have h126 : ¬ (c.toNat : Int) ≤ 126 := fun h => hpn ⟨h32, h⟩
          clear D3 D4 hpn u1 u2
          have hJb : J ≤ 4194304 := by have := HJ.out; omega
          go_wp2_with fail
          go_roundw
          case rel => exact ⟨⟨HWR.out.os, HWR.out.tape, HWR.out.output, HWR.out.size, HWR.out.block⟩, k + 1, I + 4, by omega, by simp, by have := HJ.out; simp only [Value.int.injEq, true_and]; omega, by rw [HB2.out]; rfl⟩
          case measure => simp [intOf]; omega
        · clear D3 D4 hpn u1 u2
          have hJb : J ≤ 4194304 := by have := HJ.out; omega
          go_wp2_with fail
          go_roundw
          case rel => exact ⟨⟨HWR.out.os, HWR.out.tape, HWR.out.output, HWR.out.size, HWR.out.block⟩, k + 1, I + 4, by omega, by simp, by have := HJ.out; simp only [Value.int.injEq, true_and]; omega, by rw [HB2.out]; rfl⟩
          case measure => simp [intOf]; omega
    · obtain rfl : k = s.size := by omega
      have hIP : (I : Int) = (P.size : Int) := by
        have : P.size = P.data.toList.length := by simp
        rw [hI, ← HL.out.2, List.take_length, this, HIN.out]
      have hge : ¬ (I : Int) < (P.size : Int) := by omega
      have a10 := a9 _ HWR.out
      clear hI hIP
      go_wp2_with (first
        | (go_at_call 11; refine a10.mono ?_; rintro e W7 ⟨rfl, hs7⟩))
      go_ret
      exact ⟨rfl, HWR.out.trans hs7⟩
end Go.Proofs.YtckgmpifdkbeeaaDoor
