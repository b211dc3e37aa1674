/- blanks. -/
import Derived.Test.YtioafeckaeaopaaDoorXF
namespace Go.Proofs.YtioafeckaeaopaaDoor
open Go.RowKit Go.Maps

def blankB (b : UInt8) : Bool := b == 32 || b == 9 || b == 10 || b == 13
/-- How many bytes at a text's beginning are blank: blanks, and remarks. The number n is fuel: as many bytes as there are serve. -/
def blanksF : Nat → List UInt8 → Nat
  | 0, _ => 0
  | _ + 1, [] => 0
  | n + 1, b :: l => if blankB b then blanksF n l + 1 else if b = 37 then remarkN (b :: l) + blanksF n ((b :: l).drop (remarkN (b :: l))) else 0
def blanksN (l : List UInt8) : Nat := blanksF (l.length + 1) l
theorem blanksF_cons (n : Nat) (b : UInt8) (l : List UInt8) : blanksF (n + 1) (b :: l) = if blankB b then blanksF n l + 1 else if b = 37 then remarkN (b :: l) + blanksF n ((b :: l).drop (remarkN (b :: l))) else 0 := rfl
theorem remarkN_pos (l : List UInt8) (b : UInt8) (h : b = 37) : 0 < remarkN (b :: l) := by
  unfold remarkN; rw [if_neg (by rw [h]; decide)]; omega
theorem blanksF_le : ∀ (n : Nat) (l : List UInt8), blanksF n l ≤ l.length
  | 0, _ => by simp [blanksF]
  | _ + 1, [] => by simp [blanksF]
  | n + 1, b :: l => by
    unfold blanksF
    split
    · have := blanksF_le n l; simp; omega
    · split
      · have h1 := blanksF_le n ((b :: l).drop (remarkN (b :: l)))
        have h2 := remarkN_le (b :: l)
        rw [List.length_drop] at h1
        omega
      · simp
/-- Fuel that is enough is enough. -/
theorem blanksF_fuel : ∀ (n m : Nat) (l : List UInt8), l.length < n → l.length < m → blanksF n l = blanksF m l
  | 0, _, _, h, _ => by omega
  | _, 0, _, _, h => by omega
  | _ + 1, _ + 1, [], _, _ => by simp [blanksF]
  | n + 1, m + 1, b :: l, h1, h2 => by
    simp at h1 h2
    unfold blanksF
    by_cases hb : blankB b = true
    · rw [if_pos hb, if_pos hb, blanksF_fuel n m l h1 h2]
    · rw [if_neg hb, if_neg hb]
      by_cases h37 : b = 37
      · rw [if_pos h37, if_pos h37]
        have hp := remarkN_pos l b h37
        rw [blanksF_fuel n m _ (by rw [List.length_drop]; simp; omega) (by rw [List.length_drop]; simp; omega)]
      · rw [if_neg h37, if_neg h37]
theorem blanksN_le (l : List UInt8) : blanksN l ≤ l.length := blanksF_le _ _
theorem blanksN_step (l : List UInt8) (k : Nat) (h : k < l.length) : blanksN (l.drop k) = if blankB l[k] then blanksN (l.drop (k + 1)) + 1 else if l[k] = 37 then remarkN (l.drop k) + blanksN (l.drop (k + remarkN (l.drop k))) else 0 := by
  unfold blanksN
  have e := List.drop_eq_getElem_cons h
  have e0 : blanksF ((l.drop k).length + 1) (l.drop k) = if blankB l[k] then blanksF (l.drop k).length (l.drop (k + 1)) + 1 else if l[k] = 37 then remarkN (l.drop k) + blanksF (l.drop k).length ((l.drop k).drop (remarkN (l.drop k))) else 0 := by
    generalize (l.drop k).length = n
    rw [e]
    exact blanksF_cons n _ _
  rw [e0]
  by_cases hb : blankB l[k] = true
  · rw [if_pos hb, if_pos hb, blanksF_fuel _ ((l.drop (k + 1)).length + 1) _ (by simp only [List.length_drop]; omega) (by simp)]
  · rw [if_neg hb, if_neg hb]
    by_cases h37 : l[k] = 37
    · have hp : 0 < remarkN (l.drop k) := by rw [e]; exact remarkN_pos _ _ h37
      rw [if_pos h37, if_pos h37, List.drop_drop, blanksF_fuel _ ((l.drop (k + remarkN (l.drop k))).length + 1) _ (by simp only [List.length_drop]; omega) (by simp)]
    · rw [if_neg h37, if_neg h37]
theorem blanksN_end (l : List UInt8) (k : Nat) (h : l.length ≤ k) : blanksN (l.drop k) = 0 := by
  rw [List.drop_eq_nil_of_le h]; rfl

set_option maxRecDepth 100000 in
set_option maxHeartbeats 1000000 in
theorem blanks_any (s : ByteArray) (w : World) (hs : s.size ≤ 140737488355328) :
    Calls Tryd.prog 56 #[.string s] w fun e w' => e = .returned (.int .i64 (blanksN s.data.toList : Nat)) ∧ w' = w := by
  have hle := blanksN_le s.data.toList
  rw [show s.data.toList.length = s.size by simp] at hle
  obtain ⟨N, hN⟩ : ∃ N, blanksN s.data.toList = N := ⟨_, rfl⟩
  rw [hN] at hle ⊢
  have HN : Hid (blanksN s.data.toList = N) := hN
  clear hN
  go_enter Tryd.func56, Tryd.ntmps56
  go_wp2
  go_loopw [3] (fun i wr => wr = w ∧ ∃ k : Nat, k ≤ N ∧ i = .int .i64 (k : Int) ∧ N = k + blanksN (s.data.toList.drop k)) (fun i _ => N - (intOf i).toNat)
  case atStart => exact ⟨rfl, 0, Nat.zero_le _, rfl, by simpa using HN.out.symm⟩
  case round =>
    obtain ⟨rfl, k, hk, rfl, hr⟩ := hrel
    have hru := runeAt_any s (k : Int) wr (by omega) (by omega)
    have hsl : s.data.toList.length = s.size := by simp
    by_cases hlt : k < s.size
    · have h1 : k < s.data.toList.length := by omega
      rw [runeZ_in h1] at hru
      rw [blanksN_step _ k h1] at hr
      have hu : (s.data.toList[k]'h1).toNat < 256 := UInt8.toNat_lt _
      by_cases hb : blankB (s.data.toList[k]'h1) = true
      · rw [if_pos hb] at hr
        have HR : Hid (N = k + (blanksN (s.data.toList.drop (k + 1)) + 1)) := hr
        unfold blankB at hb
        simp only [Bool.or_eq_true, beq_iff_eq] at hb
        clear hr hsl
        rcases hb with ((hb | hb) | hb) | hb
        all_goals
          rw [hb] at hru
          first
            | rw [show ((UInt8.toNat 32 : Nat) : Int) = 32 from rfl] at hru
            | rw [show ((UInt8.toNat 9 : Nat) : Int) = 9 from rfl] at hru
            | rw [show ((UInt8.toNat 10 : Nat) : Int) = 10 from rfl] at hru
            | rw [show ((UInt8.toNat 13 : Nat) : Int) = 13 from rfl] at hru
          clear hb hu
          go_wp2_with (go_at_call 60; refine hru.mono ?_; rintro e w' ⟨rfl, rfl⟩)
          go_roundw
          case rel => exact ⟨by trivial, k + 1, by have := HR.out; omega, by simp, by have := HR.out; omega⟩
          case measure => have := HR.out; simp [intOf]; omega
      · rw [if_neg hb] at hr
        by_cases h37 : s.data.toList[k]'h1 = 37
        · rw [if_pos h37] at hr
          rw [h37] at hru
          rw [show ((UInt8.toNat 37 : Nat) : Int) = 37 from rfl] at hru
          have hrm := remark_any (s.extract k s.size)
          rw [Lib.extract_data, List.take_of_length_le (by simp)] at hrm
          have hp : 0 < remarkN (s.data.toList.drop k) := by rw [List.drop_eq_getElem_cons h1]; exact remarkN_pos _ _ h37
          have HR : Hid (N = k + (remarkN (s.data.toList.drop k) + blanksN (s.data.toList.drop (k + remarkN (s.data.toList.drop k))))) := hr
          generalize hm : remarkN (s.data.toList.drop k) = m at *
          have hmN : k + m ≤ N := by have := HR.out; omega
          have hi : (k : Int) ≤ (s.size : Int) := by omega
          clear hr hsl hb hu h37 hm
          go_wp2_with (first
            | (go_at_call 60; refine hru.mono ?_; rintro e w' ⟨rfl, rfl⟩)
            | (go_at_call 67; refine (hrm _).mono ?_; rintro e w' ⟨rfl, rfl⟩))
          go_roundw
          case rel => exact ⟨by trivial, k + m, hmN, by simp, by have := HR.out; omega⟩
          case measure => simp [intOf]; omega
        · rw [if_neg h37] at hr
          obtain ⟨r, hr0⟩ : ∃ r : Int, ((s.data.toList[k]'h1).toNat : Int) = r := ⟨_, rfl⟩
          have HQ : Hid (N = k) := hr
          have hne : r ≠ 32 ∧ r ≠ 9 ∧ r ≠ 10 ∧ r ≠ 13 ∧ r ≠ 37 := by
            unfold blankB at hb
            simp only [Bool.or_eq_true, beq_iff_eq, not_or] at hb
            have hx : ∀ c : UInt8, s.data.toList[k]'h1 ≠ c → r ≠ (c.toNat : Int) := fun c hc e => hc (UInt8.toNat_inj.1 (by omega))
            exact ⟨hx 32 hb.1.1.1, hx 9 hb.1.1.2, hx 10 hb.1.2, hx 13 hb.2, hx 37 h37⟩
          rw [hr0] at hru
          obtain ⟨n1, n2, n3, n4, n5⟩ := hne
          have q1 : (r == 32) = false := by simpa using n1
          have q2 : (r == 9) = false := by simpa using n2
          have q3 : (r == 10) = false := by simpa using n3
          have q4 : (r == 13) = false := by simpa using n4
          have q5 : (r == 37) = false := by simpa using n5
          clear hr hsl hb hu h37 hr0 n1 n2 n3 n4 n5
          go_wp2_with (go_at_call 60; refine hru.mono ?_; rintro e w' ⟨rfl, rfl⟩)
          go_ret
          exact ⟨by rw [HQ.out]; rfl, rfl⟩
    · rw [runeZ_out (by omega)] at hru
      rw [blanksN_end _ k (by omega)] at hr
      have HQ : Hid (N = k) := hr
      clear hr hsl
      go_wp2_with (go_at_call 60; refine hru.mono ?_; rintro e w' ⟨rfl, rfl⟩)
      go_ret
      exact ⟨by rw [HQ.out]; rfl, rfl⟩
end Go.Proofs.YtioafeckaeaopaaDoor
