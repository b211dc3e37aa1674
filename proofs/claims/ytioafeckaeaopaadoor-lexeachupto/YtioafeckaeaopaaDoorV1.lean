/- The document's blanks, half, piece. The document's piece of a string. The document's string. The document's string: the walk. -/
import Derived.Test.YtioafeckaeaopaaDoorYE
import Derived.Test.YtioafeckaeaopaaDoorXPa
import Derived.Test.YtioafeckaeaopaaDoorYD
namespace Go.Proofs.YtioafeckaeaopaaDoor
open Go.RowKit Go.Maps

theorem remarkN_step (l : List UInt8) (k : Nat) (h : k < l.length) : remarkN (l.drop k) = if l[k] = 10 then 0 else remarkN (l.drop (k + 1)) + 1 := by
  rw [List.drop_eq_getElem_cons h]; rfl
theorem remarkN_end (l : List UInt8) (k : Nat) (h : l.length ≤ k) : remarkN (l.drop k) = 0 := by
  rw [List.drop_eq_nil_of_le h]; rfl

set_option maxRecDepth 100000 in
set_option maxHeartbeats 1000000 in
theorem y_blanks (s : ByteArray) (k0 : Nat) (h0 : k0 ≤ s.size) (w : World) (hs : s.size ≤ 140737488355328) :
    Calls Tryd.prog 30 #[.string s, .int .i64 (k0 : Int)] w fun e w' => e = .returned (.int .i64 (farB s.data.toList k0 : Nat)) ∧ w' = w := by
  obtain ⟨N, hN⟩ : ∃ N, farB s.data.toList k0 = N := ⟨_, rfl⟩
  have hsl : s.data.toList.length = s.size := by simp
  have hle := farB_le s.data.toList k0 (by omega)
  rw [hN, hsl] at hle
  have HN : Hid (N ≤ s.size ∧ k0 ≤ N ∧ N = k0 + blanksN (s.data.toList.drop k0) ∧ s.data.toList.length = s.size) := ⟨hle.2, hle.1, hN.symm, hsl⟩
  rw [hN]
  clear hN hsl hle h0
  go_enter Tryd.func30, Tryd.ntmps30
  go_wp2
  go_loopw [1, 5] (fun i _ wr => wr = w ∧ ∃ k : Nat, k ≤ N ∧ i = .int .i64 (k : Int) ∧ N = k + blanksN (s.data.toList.drop k)) (fun i _ _ => s.size - (intOf i).toNat)
  case atStart => exact ⟨rfl, k0, HN.out.2.1, rfl, HN.out.2.2.1⟩
  case round =>
    obtain ⟨rfl, k, hk, rfl, hr⟩ := hrel
    by_cases hlt : k < s.size
    · have h1 : k < s.data.toList.length := by rw [HN.out.2.2.2]; exact hlt
      rw [blanksN_step _ k h1] at hr
      have hki : (k : Int) < (s.size : Int) := by omega
      obtain ⟨c, hcc⟩ : ∃ c, s[k] = c := ⟨_, rfl⟩
      have e1 : s.data.toList[k]'h1 = c := hcc
      rw [e1] at hr
      have hct : s[k].toNat = c.toNat := by rw [hcc]
      clear hcc
      by_cases hb : blankB c = true
      · rw [if_pos hb] at hr
        have HR : Hid (N = k + (blanksN (s.data.toList.drop (k + 1)) + 1)) := hr
        unfold blankB at hb
        simp only [Bool.or_eq_true, beq_iff_eq] at hb
        clear hr e1
        rcases hb with ((hb | hb) | hb) | hb
        all_goals
          rw [hb] at hct
          first
            | rw [show UInt8.toNat 32 = 32 from rfl] at hct
            | rw [show UInt8.toNat 9 = 9 from rfl] at hct
            | rw [show UInt8.toNat 10 = 10 from rfl] at hct
            | rw [show UInt8.toNat 13 = 13 from rfl] at hct
          clear hb
          go_wp2
          go_roundw
          case rel => exact ⟨by trivial, k + 1, by have := HR.out; omega, by simp, by have := HR.out; omega⟩
          case measure => simp [intOf]; omega
      · rw [if_neg hb] at hr
        by_cases h37 : c = 37
        · rw [if_pos h37] at hr
          rw [h37, show UInt8.toNat 37 = 37 from rfl] at hct
          have hp : 0 < remarkN (s.data.toList.drop k) := by rw [List.drop_eq_getElem_cons h1]; exact remarkN_pos _ _ (e1.trans h37)
          have HR : Hid (N = k + (remarkN (s.data.toList.drop k) + blanksN (s.data.toList.drop (k + remarkN (s.data.toList.drop k)))) ∧ 0 < remarkN (s.data.toList.drop k)) := ⟨hr, hp⟩
          clear hr hb h37 e1 hp
          go_wp2
          go_loopw [1] (fun i wq => wq = wr ∧ ∃ j : Nat, j ≤ s.size ∧ i = .int .i64 (j : Int) ∧ j + remarkN (s.data.toList.drop j) = k + remarkN (s.data.toList.drop k)) (fun i _ => s.size - (intOf i).toNat)
          case atStart => exact ⟨rfl, k, by omega, rfl, rfl⟩
          case round =>
            obtain ⟨rfl, j, hj, rfl, hm⟩ := hrel
            by_cases hjl : j < s.size
            · have h2 : j < s.data.toList.length := by rw [HN.out.2.2.2]; exact hjl
              rw [remarkN_step _ j h2] at hm
              have hji : (j : Int) < (s.size : Int) := by omega
              obtain ⟨d, hdd⟩ : ∃ d, s[j] = d := ⟨_, rfl⟩
              have e2 : s.data.toList[j]'h2 = d := hdd
              rw [e2] at hm
              have hdt : s[j].toNat = d.toNat := by rw [hdd]
              clear hdd e2 hct
              by_cases h10 : d = 10
              · rw [if_pos h10] at hm
                rw [h10, show UInt8.toNat 10 = 10 from rfl] at hdt
                have HM : Hid (j = k + remarkN (s.data.toList.drop k)) := by show j = _; omega
                clear hm h10
                go_wp2
                go_roundw
                case rel => exact ⟨by trivial, j, by have := HR.out.1; have := HM.out; omega, rfl, by rw [HM.out, ← Nat.add_assoc] at *; exact (HR.out.1.trans (by rw [Nat.add_assoc]))⟩
                case measure => have := HR.out.2; have := HM.out; simp [intOf]; omega
              · rw [if_neg h10] at hm
                have q10 := byte_ne h10
                rw [show ((UInt8.toNat 10 : Nat) : Int) = 10 from rfl] at q10
                have HM : Hid (j + (remarkN (s.data.toList.drop (j + 1)) + 1) = k + remarkN (s.data.toList.drop k)) := hm
                clear hm h10
                go_wp2
                go_roundw
                case rel => exact ⟨by trivial, j + 1, by omega, by simp, by have := HM.out; omega⟩
                case measure => simp [intOf]; omega
            · rw [remarkN_end _ j (by rw [HN.out.2.2.2]; omega)] at hm
              have HM : Hid (j = k + remarkN (s.data.toList.drop k)) := by show j = _; omega
              clear hm
              go_wp2
              go_roundw
              case rel => exact ⟨by trivial, j, by have := HR.out.1; have := HM.out; omega, rfl, by have h := HR.out.1; rw [← HM.out] at h; have := HM.out; omega⟩
              case measure => have := HR.out.2; have := HM.out; simp [intOf]; omega
        · rw [if_neg h37] at hr
          have HQ : Hid (N = k) := hr
          unfold blankB at hb
          simp only [Bool.or_eq_true, beq_iff_eq, not_or] at hb
          have q1 := byte_ne hb.1.1.1
          have q2 := byte_ne hb.1.1.2
          have q3 := byte_ne hb.1.2
          have q4 := byte_ne hb.2
          have q5 := byte_ne h37
          rw [show ((UInt8.toNat 32 : Nat) : Int) = 32 from rfl] at q1
          rw [show ((UInt8.toNat 9 : Nat) : Int) = 9 from rfl] at q2
          rw [show ((UInt8.toNat 10 : Nat) : Int) = 10 from rfl] at q3
          rw [show ((UInt8.toNat 13 : Nat) : Int) = 13 from rfl] at q4
          rw [show ((UInt8.toNat 37 : Nat) : Int) = 37 from rfl] at q5
          have r1 : ((c.toNat : Int) != 32) = true := by rw [bne, q1]; rfl
          have r2 : ((c.toNat : Int) != 9) = true := by rw [bne, q2]; rfl
          have r3 : ((c.toNat : Int) != 10) = true := by rw [bne, q3]; rfl
          have r4 : ((c.toNat : Int) != 13) = true := by rw [bne, q4]; rfl
          clear hr hb h37 e1 q1 q2 q3 q4
          go_wp2
          go_ret
          exact ⟨by rw [HQ.out]; rfl, rfl⟩
    · rw [blanksN_end _ k (by rw [HN.out.2.2.2]; omega)] at hr
      have HQ : Hid (N = k) := hr
      clear hr
      go_wp2
      go_ret
      exact ⟨by rw [HQ.out]; rfl, rfl⟩

theorem y_half (c : UInt8) (w : World) : Calls Tryd.prog 71 #[.int .u8 (c.toNat : Int)] w fun e w' => e = .returned (.int .i64 (hexV (c.toNat : Int))) ∧ w' = w := by
  have kd := y_digit c
  have hc : (c.toNat : Int) < 256 := by have := UInt8.toNat_lt c; omega
  have hc0 : 0 ≤ (c.toNat : Int) := by omega
  unfold hexV
  unfold digitZ at kd
  generalize (c.toNat : Int) = r at *
  by_cases hd : 48 ≤ r ∧ r ≤ 57
  · rw [if_pos hd]
    rw [show (decide (48 ≤ r) && decide (r ≤ 57)) = true by simp [hd]] at kd
    have w1 : IntKind.i64.wrap (r - 48) = r - 48 := by rw [IntKind.wrap_i64]; omega
    clear hd
    go_enter Tryd.func71, Tryd.ntmps71
    go_wp2_with (go_at_call 39; refine (kd _).mono ?_; rintro e w' ⟨rfl, rfl⟩)
    go_ret
    exact ⟨by first | rfl | simp, rfl⟩
  · rw [if_neg hd]
    rw [show (decide (48 ≤ r) && decide (r ≤ 57)) = false by simp; omega] at kd
    clear hd
    by_cases ha : 97 ≤ r
    · by_cases hf : r ≤ 102
      · rw [if_pos ⟨ha, hf⟩]
        have w1 : IntKind.i64.wrap (r - 97) = r - 97 := by rw [IntKind.wrap_i64]; omega
        have w2 : IntKind.i64.wrap (r - 97 + 10) = r - 87 := by rw [IntKind.wrap_i64]; omega
        go_enter Tryd.func71, Tryd.ntmps71
        go_wp2_with (go_at_call 39; refine (kd _).mono ?_; rintro e w' ⟨rfl, rfl⟩)
        go_ret
        exact ⟨by first | rfl | simp, rfl⟩
      · rw [if_neg (by omega)]
        go_enter Tryd.func71, Tryd.ntmps71
        go_wp2_with (go_at_call 39; refine (kd _).mono ?_; rintro e w' ⟨rfl, rfl⟩)
        go_ret
        exact ⟨rfl, rfl⟩
    · rw [if_neg (by omega)]
      go_enter Tryd.func71, Tryd.ntmps71
      go_wp2_with (go_at_call 39; refine (kd _).mono ?_; rintro e w' ⟨rfl, rfl⟩)
      go_ret
      exact ⟨rfl, rfl⟩

/-- Behind a backslash and an x: the byte, and how many bytes the piece has; a negative number where there is none. -/
def pieceX : List UInt8 → UInt8 × Int
  | [] => (0, -3)
  | [h] => if hexV (h.toNat : Int) < 0 then (0, -3) else (0, -4)
  | h :: g :: _ => if hexV (h.toNat : Int) < 0 then (0, -3) else if hexV (g.toNat : Int) < 0 then (0, -4) else ((16 * hexV (h.toNat : Int) + hexV (g.toNat : Int)).toNat.toUInt8, 4)
/-- Behind a backslash. -/
def pieceE : List UInt8 → UInt8 × Int
  | [] => (0, -2)
  | e :: r => if e = 34 ∨ e = 92 then (e, 2) else if e = 110 then (10, 2) else if e = 116 then (9, 2) else if e = 120 then pieceX r else (0, -2)
/-- The piece that a text begins with. -/
def pieceT : List UInt8 → UInt8 × Int
  | [] => (0, -1)
  | c :: r => if plainZ (c.toNat : Int) then (if c = 92 then pieceE r else (c, 1)) else (0, -1)
theorem pieceT_cons (c : UInt8) (r : List UInt8) : pieceT (c :: r) = if plainZ (c.toNat : Int) then (if c = 92 then pieceE r else (c, 1)) else (0, -1) := rfl
theorem pieceE_cons (e : UInt8) (r : List UInt8) : pieceE (e :: r) = if e = 34 ∨ e = 92 then (e, 2) else if e = 110 then (10, 2) else if e = 116 then (9, 2) else if e = 120 then pieceX r else (0, -2) := rfl
theorem pieceX_two (h g : UInt8) (r : List UInt8) : pieceX (h :: g :: r) = if hexV (h.toNat : Int) < 0 then (0, -3) else if hexV (g.toNat : Int) < 0 then (0, -4) else ((16 * hexV (h.toNat : Int) + hexV (g.toNat : Int)).toNat.toUInt8, 4) := rfl
theorem pieceX_one (h : UInt8) : pieceX [h] = if hexV (h.toNat : Int) < 0 then (0, -3) else (0, -4) := rfl
theorem hexV_in (r : Int) : hexV r < 0 ∨ (0 ≤ hexV r ∧ hexV r ≤ 15) := by
  unfold hexV
  split
  · omega
  · split <;> omega
theorem byte_at (s : ByteArray) (k : Nat) (h : k < s.size) : ∃ c : UInt8, s[k].toNat = c.toNat ∧ s.data.toList.drop k = c :: s.data.toList.drop (k + 1) := by
  have h1 : k < s.data.toList.length := by simpa using h
  exact ⟨s[k], rfl, List.drop_eq_getElem_cons h1⟩

set_option maxRecDepth 100000 in
set_option maxHeartbeats 1000000 in
theorem y_piece (s : ByteArray) (k : Nat) (hk : k < s.size) (w : World) (hs : s.size ≤ 140737488355328) :
    Calls Tryd.prog 59 #[.string s, .int .i64 (k : Int)] w fun e w' => e = .returned (.tuple #[.int .u8 ((pieceT (s.data.toList.drop k)).1.toNat : Int), .int .i64 (pieceT (s.data.toList.drop k)).2]) ∧ ∃ m, w' = w.drewN m := by
  obtain ⟨c, hct, hd⟩ := byte_at s k hk
  have hki : (k : Int) < (s.size : Int) := by omega
  have hc : c.toNat < 256 := UInt8.toNat_lt c
  rw [hd, pieceT_cons]
  clear hd
  by_cases hp : plainZ (c.toNat : Int) = true
  · rw [if_pos hp]
    unfold plainZ at hp
    rw [Bool.and_eq_true, decide_eq_true_eq, decide_eq_true_eq] at hp
    obtain ⟨hp1, hp2⟩ := hp
    by_cases h92 : c = 92
    · rw [if_pos h92]
      rw [h92, show UInt8.toNat 92 = 92 from rfl] at hct
      clear hp1 hp2 hc h92
      obtain ⟨k1, hk1⟩ : ∃ k1 : Nat, k1 = k + 1 := ⟨_, rfl⟩
      have w1 : IntKind.i64.wrap ((k : Int) + 1) = (k1 : Int) := by rw [IntKind.wrap_i64]; omega
      rw [← hk1]
      by_cases h1 : k1 < s.size
      · obtain ⟨e, het, hd⟩ := byte_at s k1 h1
        have hk1i : (k1 : Int) < (s.size : Int) := by omega
        rw [hd, pieceE_cons]
        clear hd
        by_cases h34 : e = 34
        · rw [if_pos (.inl h34), h34]
          rw [h34, show UInt8.toNat 34 = 34 from rfl] at het
          clear h34 hk1
          go_enter Tryd.func59, Tryd.ntmps59
          go_wp2
          go_ret2
          exact ⟨rfl, 0, rfl⟩
        have q34 := byte_ne h34
        rw [show ((UInt8.toNat 34 : Nat) : Int) = 34 from rfl] at q34
        by_cases e92 : e = 92
        · rw [if_pos (.inr e92), e92]
          rw [e92, show UInt8.toNat 92 = 92 from rfl] at het
          clear e92 hk1 q34 h34
          go_enter Tryd.func59, Tryd.ntmps59
          go_wp2
          go_ret2
          exact ⟨rfl, 0, rfl⟩
        have q92 := byte_ne e92
        rw [show ((UInt8.toNat 92 : Nat) : Int) = 92 from rfl] at q92
        rw [if_neg (not_or.2 ⟨h34, e92⟩)]
        by_cases e110 : e = 110
        · rw [if_pos e110]
          rw [e110, show UInt8.toNat 110 = 110 from rfl] at het
          clear e92 hk1 q34 h34 q92 e110
          go_enter Tryd.func59, Tryd.ntmps59
          go_wp2
          go_ret2
          exact ⟨rfl, 0, rfl⟩
        have q110 := byte_ne e110
        rw [show ((UInt8.toNat 110 : Nat) : Int) = 110 from rfl] at q110
        rw [if_neg e110]
        by_cases e116 : e = 116
        · rw [if_pos e116]
          rw [e116, show UInt8.toNat 116 = 116 from rfl] at het
          clear e92 hk1 q34 h34 q92 e110 q110 e116
          go_enter Tryd.func59, Tryd.ntmps59
          go_wp2
          go_ret2
          exact ⟨rfl, 0, rfl⟩
        have q116 := byte_ne e116
        rw [show ((UInt8.toNat 116 : Nat) : Int) = 116 from rfl] at q116
        rw [if_neg e116]
        by_cases e120 : e = 120
        · rw [if_pos e120]
          rw [e120, show UInt8.toNat 120 = 120 from rfl] at het
          clear e92 q34 h34 q92 e110 q110 e116 q116 e120
          obtain ⟨k2, hk2⟩ : ∃ k2 : Nat, k2 = k + 2 := ⟨_, rfl⟩
          obtain ⟨k3, hk3⟩ : ∃ k3 : Nat, k3 = k + 3 := ⟨_, rfl⟩
          have w2 : IntKind.i64.wrap ((k : Int) + 2) = (k2 : Int) := by rw [IntKind.wrap_i64]; omega
          have w3 : IntKind.i64.wrap ((k : Int) + 3) = (k3 : Int) := by rw [IntKind.wrap_i64]; omega
          rw [show k1 + 1 = k2 by omega]
          by_cases h2 : k2 < s.size
          · obtain ⟨h, hht, hd⟩ := byte_at s k2 h2
            have hk2i : (k2 : Int) < (s.size : Int) := by omega
            have hh := y_half h
            rw [hd, show k2 + 1 = k3 by omega]
            clear hd
            rcases hexV_in (h.toNat : Int) with hx | hx
            · have hE : ∀ X, pieceX (h :: X) = (0, -3) := fun X => by cases X <;> simp [pieceX, hx]
              rw [hE]
              generalize hexV (h.toNat : Int) = x at *
              clear hk1 hk2 hk3 hE
              go_enter Tryd.func59, Tryd.ntmps59
              go_wp2_with (go_at_call 71; refine (hh _).mono ?_; rintro e w' ⟨rfl, rfl⟩)
              go_ret2
              exact ⟨rfl, 0, rfl⟩
            · by_cases h3 : k3 < s.size
              · obtain ⟨g, hgt, hd⟩ := byte_at s k3 h3
                have hk3i : (k3 : Int) < (s.size : Int) := by omega
                have hg := y_half g
                rw [hd, pieceX_two]
                clear hd
                rw [if_neg (by omega)]
                rcases hexV_in (g.toNat : Int) with hy | hy
                · rw [if_pos hy]
                  generalize hexV (h.toNat : Int) = x at *
                  generalize hexV (g.toNat : Int) = y at *
                  have nx : ¬ x < 0 := by omega
                  clear hk1 hk2 hk3
                  go_enter Tryd.func59, Tryd.ntmps59
                  go_wp2_with (go_at_call 71; (first | with_reducible refine (hh _).mono ?_ | with_reducible refine (hg _).mono ?_); rintro e w' ⟨rfl, rfl⟩)
                  go_ret2
                  exact ⟨rfl, 0, rfl⟩
                · rw [if_neg (by omega)]
                  generalize hexV (h.toNat : Int) = x at *
                  generalize hexV (g.toNat : Int) = y at *
                  have nx : ¬ x < 0 := by omega
                  have ny : ¬ y < 0 := by omega
                  have m1 : IntKind.i64.wrap (16 * x) = 16 * x := by rw [IntKind.wrap_i64]; omega
                  have m2 : IntKind.i64.wrap (16 * x + y) = 16 * x + y := by rw [IntKind.wrap_i64]; omega
                  obtain ⟨v, hv⟩ : ∃ v : UInt8, v = (16 * x + y).toNat.toUInt8 := ⟨_, rfl⟩
                  have hvt : (v.toNat : Int) = 16 * x + y := by
                    rw [hv]
                    have : (16 * x + y).toNat < 256 := by omega
                    simp [Nat.toUInt8]
                    omega
                  have m3 : IntKind.u8.wrap (16 * x + y) = (v.toNat : Int) := by rw [IntWalk.u8_in] <;> omega
                  rw [← hv]
                  clear hk1 hk2 hk3 hv hvt
                  go_enter Tryd.func59, Tryd.ntmps59
                  go_wp2_with (go_at_call 71; (first | with_reducible refine (hh _).mono ?_ | with_reducible refine (hg _).mono ?_); rintro e w' ⟨rfl, rfl⟩)
                  refine wp_region_quiet_lit (by kernel_rfl) (by kernel_rfl) ?_
                  repeat (go_big_quiet_step (first | (go_at_call 71; with_reducible exact Calls.quiet_of_same (hh _)) | (go_at_call 71; with_reducible exact Calls.quiet_of_same (hg _))))
                  refine wpQuiet_nil ?_
                  intro _ hw'
                  obtain ⟨nq, hw''⟩ := hw'
                  subst hw''
                  go_wp2
                  go_ret2
                  exact ⟨rfl, nq, rfl⟩
              · rw [List.drop_eq_nil_of_le (by simpa using h3), pieceX_one]
                rw [if_neg (by omega)]
                generalize hexV (h.toNat : Int) = x at *
                have nx : ¬ x < 0 := by omega
                have nk : (s.size : Int) ≤ (k3 : Int) := by omega
                clear hk1 hk2 hk3
                go_enter Tryd.func59, Tryd.ntmps59
                go_wp2_with (go_at_call 71; refine (hh _).mono ?_; rintro e w' ⟨rfl, rfl⟩)
                go_ret2
                exact ⟨rfl, 0, rfl⟩
          · rw [List.drop_eq_nil_of_le (by simpa using h2)]
            have nk : (s.size : Int) ≤ (k2 : Int) := by omega
            clear hk1 hk2 hk3
            go_enter Tryd.func59, Tryd.ntmps59
            go_wp2
            go_ret2
            exact ⟨rfl, 0, rfl⟩
        · rw [if_neg e120]
          have q120 := byte_ne e120
          rw [show ((UInt8.toNat 120 : Nat) : Int) = 120 from rfl] at q120
          clear e92 hk1 h34 e110 e116 e120
          go_enter Tryd.func59, Tryd.ntmps59
          go_wp2
          go_ret2
          exact ⟨rfl, 0, rfl⟩
      · rw [List.drop_eq_nil_of_le (by simpa using h1)]
        have nk : (s.size : Int) ≤ (k1 : Int) := by omega
        clear hk1
        go_enter Tryd.func59, Tryd.ntmps59
        go_wp2
        go_ret2
        exact ⟨rfl, 0, rfl⟩
    · rw [if_neg h92]
      have q92 := byte_ne h92
      rw [show ((UInt8.toNat 92 : Nat) : Int) = 92 from rfl] at q92
      have r92 : ((c.toNat : Int) != 92) = true := by rw [bne, q92]; rfl
      have n1 : ¬ (c.toNat : Int) < 32 := by omega
      have n2 : ¬ 126 < (c.toNat : Int) := by omega
      clear h92 hp1 hp2
      go_enter Tryd.func59, Tryd.ntmps59
      go_wp2
      go_ret2
      exact ⟨rfl, 0, rfl⟩
  · rw [if_neg hp]
    have hpn : ¬ (32 ≤ (c.toNat : Int) ∧ (c.toNat : Int) ≤ 126) := fun h => hp (by unfold plainZ; simp; omega)
    clear hp
    by_cases h32 : (c.toNat : Int) < 32
    · clear hpn
      go_enter Tryd.func59, Tryd.ntmps59
      go_wp2
      go_ret2
      exact ⟨rfl, 0, rfl⟩
    · have h126 : 126 < (c.toNat : Int) := by omega
      clear hpn
      go_enter Tryd.func59, Tryd.ntmps59
      go_wp2
      go_ret2
      exact ⟨rfl, 0, rfl⟩

/-- What a piece leaves to be read. -/
def ofP (c : Nat) (l : List UInt8) (p : UInt8 × Int) : R := if p.2 < 0 then no (-p.2 - 1).toNat else put p.1 p.2.toNat (unqP (c + 1) (l.drop p.2.toNat))
theorem ofP_no (c : Nat) (l : List UInt8) (x : UInt8) (n : Nat) : ofP c l (x, -((n : Int) + 1)) = no n := by
  unfold ofP
  rw [if_pos (by simp)]
  simp
theorem ofP_put (c : Nat) (l : List UInt8) (x : UInt8) (n : Nat) : ofP c l (x, (n : Int)) = put x n (unqP (c + 1) (l.drop n)) := by
  unfold ofP
  rw [if_neg (by simp)]
  simp
theorem skip_put2 (b : UInt8) (n m : Nat) (r : R) : skip n (put b m r) = put b (n + m) r := by simp [skip, put, Nat.add_assoc]
theorem skip_no (n m : Nat) : skip n (no m) = no (n + m) := by simp [skip, no]
theorem plain92 : plainZ ((92 : UInt8).toNat : Int) = true := by decide
/-- A piece of a string, as the machine of four labels reads it. -/
theorem unq_one (c : Nat) (b : UInt8) (r : List UInt8) (hb : b ≠ 34) (hc : c ≠ 1024) : unqP c (b :: r) = ofP c (b :: r) (pieceT (b :: r)) := by
  by_cases h92 : b = 92
  · have h1 : pieceT (b :: r) = pieceE r := by rw [pieceT_cons, if_pos (by rw [h92]; exact plain92), if_pos h92]
    have h2 : unqP c (b :: r) = skip 1 (unqE c r) := by rw [unqP, if_neg hb, if_neg hc, if_pos h92]
    rw [h1, h2]
    clear h1 h2
    cases r with
    | nil => rw [unqE, show pieceE [] = (0, -(((1 : Nat) : Int) + 1)) from rfl, ofP_no, skip_no]
    | cons e r =>
      rw [pieceE_cons]
      by_cases h1 : e = 34 ∨ e = 92
      · rw [if_pos h1, unqE, if_pos h1, skip_put2]; exact (ofP_put c (b :: e :: r) e 2).symm
      rw [if_neg h1]
      by_cases h2 : e = 110
      · rw [if_pos h2, unqE, if_neg h1, if_pos h2, skip_put2]; exact (ofP_put c (b :: e :: r) 10 2).symm
      rw [if_neg h2]
      by_cases h3 : e = 116
      · rw [if_pos h3, unqE, if_neg h1, if_neg h2, if_pos h3, skip_put2]; exact (ofP_put c (b :: e :: r) 9 2).symm
      rw [if_neg h3]
      by_cases h4 : e = 120
      · rw [if_pos h4, unqE, if_neg h1, if_neg h2, if_neg h3, if_pos h4]
        cases r with
        | nil => rw [unqD, show pieceX [] = (0, -(((2 : Nat) : Int) + 1)) from rfl, ofP_no, skip_no, skip_no]
        | cons h r =>
          cases r with
          | nil =>
            rw [pieceX_one, unqD]
            by_cases hh : hexV (h.toNat : Int) < 0
            · rw [if_pos hh, if_pos hh, skip_no, skip_no]; exact (ofP_no c _ 0 2).symm
            · rw [if_neg hh, if_neg hh, skip_no, skip_no]; exact (ofP_no c _ 0 3).symm
          | cons g r =>
            rw [pieceX_two, unqD]
            by_cases hh : hexV (h.toNat : Int) < 0
            · rw [if_pos hh, if_pos hh, skip_no, skip_no]; exact (ofP_no c _ 0 2).symm
            rw [if_neg hh, if_neg hh]
            by_cases hg : hexV (g.toNat : Int) < 0
            · rw [if_pos hg, if_pos hg, skip_no, skip_no]; exact (ofP_no c _ 0 3).symm
            rw [if_neg hg, if_neg hg, skip_put2, skip_put2]
            exact (ofP_put c (b :: e :: h :: g :: r) _ 4).symm
      · rw [if_neg h4, unqE, if_neg h1, if_neg h2, if_neg h3, if_neg h4, skip_no]; exact (ofP_no c _ 0 1).symm
  · by_cases hp : plainZ (b.toNat : Int) = true
    · rw [pieceT_cons, if_pos hp, if_neg h92, unqP, if_neg hb, if_neg hc, if_neg h92, if_pos hp]
      exact (ofP_put c (b :: r) b 1).symm
    · rw [pieceT_cons, if_neg hp, unqP, if_neg hb, if_neg hc, if_neg h92, if_neg hp]
      exact (ofP_no c (b :: r) 0 0).symm
theorem pieceX_n (l : List UInt8) : ((pieceX l).2 < 0 ∧ -4 ≤ (pieceX l).2 ∧ (-(pieceX l).2 - 1).toNat ≤ l.length + 2) ∨ ((pieceX l).2 = 4 ∧ 2 ≤ l.length) := by
  cases l with
  | nil => left; simp [pieceX]
  | cons h r => cases r with
    | nil => left; rw [pieceX_one]; split <;> simp
    | cons g r =>
      rw [pieceX_two]
      split
      · left; simp
      · split
        · left; simp
        · right; simp
theorem pieceT_n (b : UInt8) (r : List UInt8) : ((pieceT (b :: r)).2 < 0 ∧ -4 ≤ (pieceT (b :: r)).2 ∧ (-(pieceT (b :: r)).2 - 1).toNat ≤ (b :: r).length) ∨ (1 ≤ (pieceT (b :: r)).2 ∧ (pieceT (b :: r)).2 ≤ 4 ∧ (pieceT (b :: r)).2.toNat ≤ (b :: r).length) := by
  rw [pieceT_cons]
  split
  · split
    · cases r with
      | nil => left; simp [pieceE]
      | cons e r =>
        rw [pieceE_cons]
        have h := pieceX_n r
        repeat' split
        · right; simp
        · right; simp
        · right; simp
        · rcases h with h | h
          · left; simp at *; omega
          · right; simp at *; omega
        · left; simp
    · right; simp
  · left; simp

/-- The document's string at a place: the token, if it is whole. -/
def strT (l : List UInt8) (k0 : Nat) : Tok := if (unquoteT l).2.2 then ⟨4, (unquoteT l).1, k0, k0 + (unquoteT l).2.1⟩ else tok0
theorem BR.drawN {w W : World} {v : Value} {bs : List UInt8} (h : BR w W v bs) (m : Nat) : BR w (W.drewN m) v bs := ⟨Below.trans h.1 ⟨rfl, rfl, rfl, Nat.le_refl _, fun _ _ => rfl⟩, h.2⟩
theorem br_nil {w W : World} (h : Below w.heap.size w W) : BR w W (.slice none 0 0) [] := ⟨h, World.ownsRow_nil _ _ _ _⟩
theorem BR.cases {w W : World} {v : Value} {bs : List UInt8} (h : BR w W v bs) : (v = .slice none 0 0 ∧ bs = []) ∨ ∃ g cap, v = .slice (some ⟨g, 0, none⟩) bs.length cap := by
  rcases h.2.2 with ⟨hv, hn⟩ | ⟨b, c, cur, hv, _⟩
  · exact .inl ⟨hv, List.eq_nil_of_length_eq_zero hn⟩
  · exact .inr ⟨b, c, hv⟩
theorem BR.form {w W : World} {v : Value} {bs : List UInt8} (h : BR w W v bs) : ∃ a cap, v = .slice a bs.length cap := by
  rcases h.cases with ⟨hv, hb⟩ | ⟨g, cap, hv⟩
  · exact ⟨none, 0, by rw [hv, hb]; rfl⟩
  · exact ⟨_, cap, hv⟩
theorem br_string' {w W : World} {a : Option Addr} {cap : Nat} {bs : List UInt8} (h : BR w W (.slice a bs.length cap) bs) : (convert 43 9 (.slice a bs.length cap)).run Tryd.prog W = .ok (.string ⟨bs.toArray⟩) W := by
  rcases h.cases with ⟨hv, hb⟩ | ⟨g, cap', hv⟩
  · subst hb
    rw [hv]
    have u1 := Tryd.underlying43
    have u2 := Tryd.underlying5
    have u3 := Tryd.underlying9
    rw [run_convert_bytes_string W 43 9 5 none 0 0 u1 u2 u3]
    rfl
  · rw [hv] at h ⊢
    exact br_string h
theorem fin_end (bs : List UInt8) (k : Nat) (l : List UInt8) : fin bs k (unqP bs.length (34 :: l)) = (bs, k + 1, true) := by
  rw [unqP, if_pos rfl]; simp [fin]

set_option maxRecDepth 100000 in
set_option maxHeartbeats 4000000 in
theorem y_str (s : ByteArray) (k0 : Nat) (hk0 : k0 < s.size) (w : World) (hs : s.size ≤ 16777216) :
    Calls Tryd.prog 46 #[.string s, .int .i64 (k0 : Int)] w fun e w' => e = .returned (.tuple #[(strT (s.data.toList.drop k0) k0).val, .int .i64 ((k0 + (unquoteT (s.data.toList.drop k0)).2.1 : Nat) : Int), .bool (unquoteT (s.data.toList.drop k0)).2.2]) ∧ Stay w w' := by
  obtain ⟨i0, hi, hz0, hz1, hz2⟩ := info_parts infoU8
  have hp := fun (k : Nat) (hk : k < s.size) W => y_piece s k hk W (by omega)
  have hsl : s.data.toList.length = s.size := by simp
  obtain ⟨U, hU⟩ : ∃ U, unquoteT (s.data.toList.drop k0) = U := ⟨_, rfl⟩
  have HU : Hid (fin [] 1 (unqP 0 (s.data.toList.drop (k0 + 1))) = U ∧ s.data.toList.length = s.size) := by
    refine ⟨?_, hsl⟩
    rw [← hU]; unfold unquoteT; rw [List.drop_drop]
  unfold strT
  rw [hU]
  clear hU hsl
  obtain ⟨u1, u2, u3⟩ := U
  dsimp only
  have wk : IntKind.i64.wrap ((k0 : Int) + 1) = ((k0 + 1 : Nat) : Int) := by rw [IntKind.wrap_i64]; omega
  obtain ⟨k1, hk1⟩ : ∃ k1 : Nat, k1 = k0 + 1 := ⟨_, rfl⟩
  rw [← hk1] at wk HU
  obtain ⟨W0, hW0⟩ : ∃ W0, W0 = w.alloc (.cells #[.int .i64 0, .string ⟨#[]⟩, .int .i64 0, .int .i64 0] 25) := ⟨_, rfl⟩
  have HW0 : Hid (W0 = w.alloc (.cells #[.int .i64 0, .string ⟨#[]⟩, .int .i64 0, .int .i64 0] 25) ∧ k1 = k0 + 1 ∧ k0 < s.size ∧ s.size ≤ 16777216) := ⟨hW0, hk1, hk0, hs⟩
  have HP : Hid (∀ W1, Below W0.heap.size W0 W1 → W1.heap[w.heap.size]? = some (.cells #[.int .i64 0, .string ⟨#[]⟩, .int .i64 0, .int .i64 0] 25 (0, 0)) ∧ Stay w W1) := fun W1 h => by
    have h2 : Stay w W1 := by rw [hW0] at h; exact (Stay.new _ _).trans h
    refine ⟨(h.block w.heap.size (by rw [hW0]; simp)).trans ?_, h2⟩
    rw [hW0]; exact heap_new _ _
  clear hW0 hk1 hk0
  go_enter Tryd.func46, Tryd.ntmps46
  go_wp2_with fail
  rw [← HW0.out.1]
  go_loopw [7, 8, 9, 10] (fun v i _ _ wr => ∃ (k : Nat) (bs : List UInt8), k1 ≤ k ∧ k ≤ s.size ∧ i = .int .i64 (k : Int) ∧ bs.length ≤ 1024 ∧ BR W0 wr v bs ∧ fin bs (k - k0) (unqP bs.length (s.data.toList.drop k)) = (u1, u2, u3)) (fun _ i _ _ _ => s.size - (intOf i).toNat)
  case atStart => exact ⟨k1, [], Nat.le_refl _, by have := HW0.out; omega, rfl, by simp, br_nil (Below.refl _ _), by rw [show k1 - k0 = 1 by have := HW0.out; omega]; exact HU.out.1⟩
  case round =>
    obtain ⟨k, bs, hk1, hk, rfl, hb, hBR, hf⟩ := hrel
    have HF : Hid (k1 ≤ k ∧ k1 = k0 + 1) := ⟨hk1, HW0.out.2.1⟩
    obtain ⟨hq, hst⟩ := HP.out wr hBR.1
    by_cases hlt : k < s.size
    · obtain ⟨c, hct, hd⟩ := byte_at s k hlt
      have hki : (k : Int) < (s.size : Int) := by omega
      have hpk := hp k hlt
      rw [hd] at hf hpk
      obtain ⟨a, cap, rfl⟩ := hBR.form
      by_cases h34 : c = 34
      · rw [h34, show UInt8.toNat 34 = 34 from rfl] at hct
        rw [h34, fin_end] at hf
        obtain ⟨rfl, hf2⟩ := Prod.mk.inj hf
        obtain ⟨rfl, rfl⟩ := Prod.mk.inj hf2
        obtain ⟨kk, hkk⟩ : ∃ kk : Nat, kk = k + 1 := ⟨_, rfl⟩
        have wkk : IntKind.i64.wrap ((k : Int) + 1) = (kk : Int) := by rw [IntKind.wrap_i64]; omega
        have hcv := br_string' hBR
        have HQ : Hid (wr.heap[w.heap.size]? = some (.cells #[.int .i64 0, .string ⟨#[]⟩, .int .i64 0, .int .i64 0] 25 (0, 0)) ∧ Stay w wr ∧ kk = k0 + (k - k0 + 1)) := ⟨hq, hst, by have := HF.out; omega⟩
        obtain ⟨a0, a1, a2, a3, a4, a5, a6, a7⟩ := four hq
        clear hf hf2 hkk hq hst hBR hd hp hpk h34
        go_wp2_with fail
        obtain ⟨q0, q1, q2, q3, -⟩ := four (set4 HQ.out.1 (.int .i64 4) (.string ⟨bs.toArray⟩) (.int .i64 (k0 : Int)) (.int .i64 (kk : Int)))
        refine bodyPost_ret (v := .tuple #[.agg #[.int .i64 4, .string ⟨bs.toArray⟩, .int .i64 (k0 : Int), .int .i64 (kk : Int)], .int .i64 (kk : Int), .bool true]) (by simp [results, Tryd.results46, go_sem, q0, q1, q2, q3]) rfl ⟨?_, ?_⟩
        · have h1 := HF.out; have h2 := HQ.out.2.2; simp [Tok.val, Tok.cells]; omega
        · repeat (refine stay_set ?_ (by simp) _)
          exact HQ.out.2.1
      · obtain ⟨hpn, hup⟩ : _ ∧ _ := ⟨pieceT_n c (s.data.toList.drop (k + 1)), unq_one bs.length c (s.data.toList.drop (k + 1)) h34⟩
        have hlr : (c :: s.data.toList.drop (k + 1)).length = s.size - k := by rw [← hd, List.length_drop, HU.out.2]
        have h1024 : unqP 1024 (c :: s.data.toList.drop (k + 1)) = no 0 := by rw [unqP, if_neg h34, if_pos rfl]
        have hdr : ∀ n, (c :: s.data.toList.drop (k + 1)).drop n = s.data.toList.drop (k + n) := fun n => by rw [← hd, List.drop_drop]
        rw [hlr] at hpn
        have q34 := byte_ne h34
        rw [show ((UInt8.toNat 34 : Nat) : Int) = 34 from rfl] at q34
        have HROW : Hid (BR W0 wr (.slice a bs.length cap) bs) := hBR
        by_cases hb1 : bs.length = 1024
        · rw [hb1, h1024, fin_no] at hf
          unfold no at hf
          obtain ⟨rfl, hf2⟩ := Prod.mk.inj hf
          obtain ⟨rfl, rfl⟩ := Prod.mk.inj hf2
          have hl1 : ((bs.length : Int) == 1024) = true := by rw [hb1]; rfl
          have HK : Hid (k = k0 + (k - k0 + 0)) := by show k = _; have := HF.out; omega
          generalize pieceT (c :: s.data.toList.drop (k + 1)) = P at *
          obtain ⟨pb, pn⟩ := P
          dsimp only at hpk hpn
          have HPN : Hid (pn < 0 ∨ 1 ≤ pn) := by show pn < 0 ∨ 1 ≤ pn; omega
          clear hf hf2 hq hst hBR hd hp h34 hup h1024 hdr hlr hpn hb1
          go_wp2_with (first | (go_at_call 59; refine (hpk _).mono ?_; rintro e w2 ⟨rfl, m, hm⟩; have HB2 : Hid (BR W0 w2 (.slice a bs.length cap) bs) := (by rw [hm]; exact HROW.out.drawN m); obtain ⟨hq2, hst2⟩ := HP.out w2 HB2.out.1; have HQ : Hid (w2.heap[w.heap.size]? = some (.cells #[.int .i64 0, .string ⟨#[]⟩, .int .i64 0, .int .i64 0] 25 (0, 0)) ∧ Stay w w2) := ⟨hq2, hst2⟩; obtain ⟨a0, a1, a2, a3, a4, a5, a6, a7⟩ := four hq2; clear hm hq2 hst2))
          obtain ⟨q0, q1, q2, q3, -⟩ := four (set4 HQ.out.1 (.int .i64 0) (.string ⟨#[]⟩) (.int .i64 0) (.int .i64 0))
          refine bodyPost_ret (v := .tuple #[.agg #[.int .i64 0, .string ⟨#[]⟩, .int .i64 0, .int .i64 0], .int .i64 (k : Int), .bool false]) (by simp [results, Tryd.results46, go_sem, q0, q1, q2, q3]) rfl ⟨?_, ?_⟩
          · have h1 := HF.out; have h2 := HK.out; simp [Tok.val, Tok.cells, tok0]; omega
          · repeat (refine stay_set ?_ (by simp) _)
            exact HQ.out.2
        · rw [hup hb1] at hf
          have hl1 : ((bs.length : Int) == 1024) = false := by simp; omega
          generalize pieceT (c :: s.data.toList.drop (k + 1)) = P at *
          obtain ⟨pb, pn⟩ := P
          unfold ofP at hf
          dsimp only at hpk hpn hf
          by_cases hpneg : pn < 0
          · rw [if_pos hpneg, fin_no] at hf
            unfold no at hf
            obtain ⟨rfl, hf2⟩ := Prod.mk.inj hf
            obtain ⟨rfl, rfl⟩ := Prod.mk.inj hf2
            obtain ⟨kk, hkk⟩ : ∃ kk : Nat, kk = k0 + (k - k0 + (-pn - 1).toNat) := ⟨_, rfl⟩
            have hkk2 : (kk : Int) = (k : Int) - pn - 1 := by have := HF.out; omega
            have wa : IntKind.i64.wrap ((k : Int) - pn) = (k : Int) - pn := by rw [IntKind.wrap_i64]; omega
            have wb : IntKind.i64.wrap ((k : Int) - pn - 1) = (kk : Int) := by rw [IntKind.wrap_i64]; omega
            have HK : Hid (kk = k0 + (k - k0 + (-pn - 1).toNat)) := hkk
            clear hf hf2 hq hst hBR hd hp h34 hup h1024 hdr hlr hpn hb1 hkk hkk2
            go_wp2_with (first | (go_at_call 59; refine (hpk _).mono ?_; rintro e w2 ⟨rfl, m, hm⟩; have HB2 : Hid (BR W0 w2 (.slice a bs.length cap) bs) := (by rw [hm]; exact HROW.out.drawN m); obtain ⟨hq2, hst2⟩ := HP.out w2 HB2.out.1; have HQ : Hid (w2.heap[w.heap.size]? = some (.cells #[.int .i64 0, .string ⟨#[]⟩, .int .i64 0, .int .i64 0] 25 (0, 0)) ∧ Stay w w2) := ⟨hq2, hst2⟩; obtain ⟨a0, a1, a2, a3, a4, a5, a6, a7⟩ := four hq2; clear hm hq2 hst2))
            obtain ⟨q0, q1, q2, q3, -⟩ := four (set4 HQ.out.1 (.int .i64 0) (.string ⟨#[]⟩) (.int .i64 0) (.int .i64 0))
            refine bodyPost_ret (v := .tuple #[.agg #[.int .i64 0, .string ⟨#[]⟩, .int .i64 0, .int .i64 0], .int .i64 (kk : Int), .bool false]) (by simp [results, Tryd.results46, go_sem, q0, q1, q2, q3]) rfl ⟨?_, ?_⟩
            · have h1 := HF.out; have h2 := HK.out; simp [Tok.val, Tok.cells, tok0]; omega
            · repeat (refine stay_set ?_ (by simp) _)
              exact HQ.out.2
          · rw [if_neg hpneg, fin_put, hdr] at hf
            obtain ⟨kk, hkk⟩ : ∃ kk : Nat, kk = k + pn.toNat := ⟨_, rfl⟩
            have wa : IntKind.i64.wrap ((k : Int) + pn) = (kk : Int) := by rw [IntKind.wrap_i64]; omega
            have HK : Hid (kk = k + pn.toNat ∧ k < kk ∧ kk ≤ s.size ∧ k1 ≤ kk ∧ fin (bs ++ [pb]) (kk - k0) (unqP (bs ++ [pb]).length (s.data.toList.drop kk)) = (u1, u2, u3) ∧ (bs ++ [pb]).length ≤ 1024) := by
              refine ⟨hkk, by omega, by omega, by omega, ?_, by simp; omega⟩
              rw [hkk, show k + pn.toNat - k0 = k - k0 + pn.toNat by have := HF.out; omega]
              simpa using hf
            have npn : ¬ pn < 0 := hpneg
            clear hf hq hst hBR hd hp h34 hup h1024 hdr hlr hpn hb1 hkk hpneg
            go_wp2_with (first
              | (go_at_call 59; refine (hpk _).mono ?_; rintro e w2 ⟨rfl, m, hm⟩; have HB2 : Hid (BR W0 w2 (.slice a bs.length cap) bs) := (by rw [hm]; exact HROW.out.drawN m); have hsz := HB2.out.1.size; clear hm)
              | (at_builtin; refine wpList_append_own _ rfl _ _ 43 rfl W0.heap.size 5 i0 (.int .u8 0) 1 1 Tryd.underlying43 hi hz0 hz1 hz2 rfl (by decide) _ _ _ rfl (World.ownsRow.alloc HB2.out.2 _) ⟨w2.heap.size, 0, none⟩ 1 1 (Lib.byteCells [pb]) rfl rfl (new_cells w2 (Lib.byteCells [pb]) _) (byteCells_one _) (by unfold maxLen; omega) (by omega) (by simp; omega) ?_; intro v' w1 hown' hgrow _; have HN : Hid (BR W0 w1 v' (bs ++ [pb])) := br_step HB2.out hown' hgrow; clear hown' hgrow))
            go_roundw
            case rel => exact ⟨kk, bs ++ [pb], HK.out.2.2.2.1, HK.out.2.2.1, rfl, HK.out.2.2.2.2.2, HN.out, HK.out.2.2.2.2.1⟩
            case measure => have := HK.out.2; simp [intOf]; omega
    · obtain rfl : k = s.size := by omega
      rw [List.drop_eq_nil_of_le (by rw [HU.out.2]; exact Nat.le_refl _), unqP, fin_no] at hf
      unfold no at hf
      obtain ⟨rfl, hf2⟩ := Prod.mk.inj hf
      obtain ⟨rfl, rfl⟩ := Prod.mk.inj hf2
      have HK : Hid (s.size = k0 + (s.size - k0 + 0) ∧ wr.heap[w.heap.size]? = some (.cells #[.int .i64 0, .string ⟨#[]⟩, .int .i64 0, .int .i64 0] 25 (0, 0)) ∧ Stay w wr) := ⟨by have := HF.out; omega, hq, hst⟩
      obtain ⟨a0, a1, a2, a3, a4, a5, a6, a7⟩ := four hq
      clear hf hf2 hq hst hBR hp
      go_wp2_with fail
      obtain ⟨q0, q1, q2, q3, -⟩ := four (set4 HK.out.2.1 (.int .i64 0) (.string ⟨#[]⟩) (.int .i64 0) (.int .i64 0))
      refine bodyPost_ret (v := .tuple #[.agg #[.int .i64 0, .string ⟨#[]⟩, .int .i64 0, .int .i64 0], .int .i64 (s.size : Int), .bool false]) (by simp [results, Tryd.results46, go_sem, q0, q1, q2, q3]) rfl ⟨?_, ?_⟩
      · have h1 := HF.out; have h2 := HK.out.1; simp [Tok.val, Tok.cells, tok0]; omega
      · repeat (refine stay_set ?_ (by simp) _)
        exact HK.out.2.2
end Go.Proofs.YtioafeckaeaopaaDoor
