/- common. -/
import Derived.Test.YtioafeckaeaopaaDoorXB
namespace Go.Proofs.YtioafeckaeaopaaDoor
open Go.RowKit Go.Maps

/-- How many bytes two texts have in common from their beginnings on. -/
def commonN : List UInt8 → List UInt8 → Nat
  | a :: l, b :: m => if a = b then commonN l m + 1 else 0
  | _, _ => 0
theorem commonN_le : ∀ l m, commonN l m ≤ l.length ∧ commonN l m ≤ m.length
  | [], _ => by simp [commonN]
  | _ :: _, [] => by simp [commonN]
  | a :: l, b :: m => by
    unfold commonN
    have := commonN_le l m
    split
    · simp; omega
    · simp
theorem commonN_step (l m : List UInt8) (k : Nat) (h1 : k < l.length) (h2 : k < m.length) : commonN (l.drop k) (m.drop k) = if l[k] = m[k] then commonN (l.drop (k + 1)) (m.drop (k + 1)) + 1 else 0 := by
  rw [List.drop_eq_getElem_cons h1, List.drop_eq_getElem_cons h2]; rfl
theorem commonN_end (l m : List UInt8) (k : Nat) (h : l.length ≤ k ∨ m.length ≤ k) : commonN (l.drop k) (m.drop k) = 0 := by
  rcases h with h | h
  · rw [List.drop_eq_nil_of_le h]; simp [commonN]
  · rw [List.drop_eq_nil_of_le h]; cases l.drop k <;> simp [commonN]

set_option maxRecDepth 100000 in
set_option maxHeartbeats 1000000 in
theorem common_any (s t : ByteArray) (w : World) (hs : s.size ≤ 140737488355328) :
    Calls Tryd.prog 74 #[.string s, .string t] w fun e w' => e = .returned (.int .i64 (commonN s.data.toList t.data.toList : Nat)) ∧ Stay w w' := by
  have HS : Hid (s.data.toList.length = s.size ∧ t.data.toList.length = t.size) := ⟨by simp, by simp⟩
  have hle := commonN_le s.data.toList t.data.toList
  rw [HS.out.1, HS.out.2] at hle
  obtain ⟨N, hN⟩ : ∃ N, commonN s.data.toList t.data.toList = N := ⟨_, rfl⟩
  rw [hN] at hle ⊢
  have HN : Hid (commonN s.data.toList t.data.toList = N) := hN
  clear hN
  go_enter Tryd.func74, Tryd.ntmps74
  go_wp2
  go_loopw [5] (fun i wr => Stay w wr ∧ ∃ k : Nat, k ≤ N ∧ i = .int .i64 (k : Int) ∧ N = k + commonN (s.data.toList.drop k) (t.data.toList.drop k)) (fun i _ => N - (intOf i).toNat)
  case atStart => exact ⟨Stay.refl _, 0, Nat.zero_le _, rfl, by simpa using HN.out.symm⟩
  case round =>
    obtain ⟨hst, k, hk, rfl, hr⟩ := hrel
    have HW : Hid (Stay w wr) := hst
    clear hst
    by_cases hlt : k < s.size ∧ k < t.size
    · obtain ⟨hlt1, hlt2⟩ := hlt
      have hi1 : (k : Int) < (s.size : Int) := by omega
      have hi2 : (k : Int) < (t.size : Int) := by omega
      have hi3 : decide ((k : Int) < if t.size < s.size then (t.size : Int) else (s.size : Int)) = true := by
        rw [decide_eq_true_eq]; split <;> omega
      have h1 : k < s.data.toList.length := by rw [HS.out.1]; exact hlt1
      have h2 : k < t.data.toList.length := by rw [HS.out.2]; exact hlt2
      have hst := commonN_step s.data.toList t.data.toList k h1 h2
      have e1 : s.data.toList[k]'h1 = s[k]'hlt1 := rfl
      have e2 : t.data.toList[k]'h2 = t[k]'hlt2 := rfl
      rw [e1, e2] at hst
      rw [hst] at hr
      have HR : Hid (N = k + if s[k]'hlt1 = t[k]'hlt2 then commonN (s.data.toList.drop (k + 1)) (t.data.toList.drop (k + 1)) + 1 else 0) := hr
      clear hst hr h1 h2 e1 e2
      by_cases he : s[k]'hlt1 = t[k]'hlt2
      · have hb : ((s[k].toNat : Int) == (t[k].toNat : Int)) = true := by rw [he]; simp
        have HE : Hid (s[k] = t[k]) := he
        clear he
        go_wp2_with fail
        refine wp_region_quiet_lit (by kernel_rfl) (by kernel_rfl) ?_
        repeat (go_big_quiet_step (fail))
        refine wpQuiet_nil ?_
        intro _ hw'
        obtain ⟨nq, hw''⟩ := hw'
        subst hw''
        clear hi3
        go_wp2
        go_roundw
        case rel => exact ⟨HW.out.trans (Stay.drewN _ _), k + 1, by have h := HR.out; rw [if_pos HE.out] at h; omega, by simp, by have h := HR.out; rw [if_pos HE.out] at h; omega⟩
        case measure => have h := HR.out; rw [if_pos HE.out] at h; simp [intOf]; omega
      · have hb : ((s[k].toNat : Int) == (t[k].toNat : Int)) = false := by
          simp only [beq_eq_false_iff_ne, ne_eq]
          intro e
          exact he (UInt8.toNat_inj.1 (by omega))
        have HE : Hid (¬ s[k]'hlt1 = t[k]'hlt2) := he
        clear he
        go_wp2_with fail
        refine wp_region_quiet_lit (by kernel_rfl) (by kernel_rfl) ?_
        repeat (go_big_quiet_step (fail))
        refine wpQuiet_nil ?_
        intro _ hw'
        obtain ⟨nq, hw''⟩ := hw'
        subst hw''
        clear hi3
        go_wp2
        all_goals
          go_ret
          exact ⟨by have h := HR.out; rw [if_neg HE.out] at h; rw [h]; simp, HW.out.trans (Stay.drewN _ _)⟩
    · have hi3 : decide ((k : Int) < if t.size < s.size then (t.size : Int) else (s.size : Int)) = false := by
        rw [decide_eq_false_iff_not]; split <;> omega
      have hd := commonN_end s.data.toList t.data.toList k (by rw [HS.out.1, HS.out.2]; omega)
      rw [hd] at hr
      have HR : Hid (N = k) := by show N = k; omega
      clear hd hr hlt
      go_wp2_with fail
      refine wp_region_quiet_lit (by kernel_rfl) (by kernel_rfl) ?_
      repeat (go_big_quiet_step (fail))
      refine wpQuiet_nil ?_
      intro _ hw'
      obtain ⟨nq, hw''⟩ := hw'
      subst hw''
      clear hi3
      go_wp2
      all_goals
        go_ret
        exact ⟨by rw [HR.out]; rfl, HW.out.trans (Stay.drewN _ _)⟩
end Go.Proofs.YtioafeckaeaopaaDoor
