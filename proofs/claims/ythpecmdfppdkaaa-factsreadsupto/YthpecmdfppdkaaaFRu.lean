/- The document's Unescape. -/
import Derived.Test.YthpecmdfppdkaaaFRs
namespace Go.Proofs.Ythpecmdfppdkaaa
open Go.RowKit Go.Maps

theorem headB_at (c : UInt8) : ∀ (l : List UInt8) (k : Nat) (h : k < l.length), k < (headB c l).length → l[k] ≠ c
  | [], k, h, _ => by simp at h
  | b :: l, k, h, hk => by
    unfold headB at hk
    split at hk
    · simp at hk
    · rename_i hn
      cases k with
      | zero => exact hn
      | succ k => exact headB_at c l k (by simpa using h) (by simpa using hk)
theorem headB_stop (c : UInt8) : ∀ (l : List UInt8) (h : (headB c l).length < l.length), l[(headB c l).length] = c ∧ hasB c l = true
  | [], h => by simp [headB] at h
  | b :: l, h => by
    by_cases hb : b = c
    · have e : headB c (b :: l) = [] := by unfold headB; rw [if_pos hb]
      simp only [e]
      exact ⟨hb, by unfold hasB; rw [if_pos hb]⟩
    · have e : headB c (b :: l) = b :: headB c l := by rw [headB]; rw [if_neg hb]
      simp only [e] at h ⊢
      obtain ⟨h1, h2⟩ := headB_stop c l (by simpa using h)
      exact ⟨by simpa using h1, by unfold hasB; rw [if_neg hb]; exact h2⟩
theorem hasB_end (c : UInt8) (l : List UInt8) (h : ¬ (headB c l).length < l.length) : hasB c l = false := by
  cases hh : hasB c l with
  | false => rfl
  | true => exact absurd (headB_lt c l hh) h

set_option maxRecDepth 100000 in
set_option maxHeartbeats 4000000 in
theorem rUnescape_any (s : ByteArray) (w : World) (hs : s.size ≤ 4398046511104) : Calls Try.prog 12 #[.string s] w fun e w' => e = .returned (.tuple #[.string (toB (unT s.data.toList).1), .int .i64 (plcZ (unT s.data.toList).2), .int .i64 (errZ (unT s.data.toList).2)]) ∧ Stay w w' := by
  obtain ⟨h, hh⟩ : ∃ h, h = (headB 9 s.data.toList).length := ⟨_, rfl⟩
  have hle : h ≤ s.size := by rw [hh, ← data_len]; exact headB_len 9 _
  have hat : ∀ (k : Nat) (hk : k < s.size), k < h → s[k] ≠ 9 := fun k hk hkh => by
    have := headB_at 9 s.data.toList k (by rw [data_len]; exact hk) (by rw [← hh]; exact hkh)
    rwa [data_at _ _ hk] at this
  have hstop : ∀ (hk : h < s.size), s[h] = 9 ∧ hasB 9 s.data.toList = true := fun hk => by
    have e := headB_stop 9 s.data.toList (by rw [← hh, data_len]; exact hk)
    refine ⟨?_, e.2⟩
    have := e.1
    simp only [← hh] at this
    rwa [data_at _ _ hk] at this
  have hend : ¬ h < s.size → hasB 9 s.data.toList = false := fun hk => hasB_end 9 _ (by rw [← hh, data_len]; exact hk)
  have hex : (s.extract 0 h).data.toList = headB 9 s.data.toList := by rw [extract_to, data_toB, hh, headB_take]
  have hsz : (s.extract 0 h).size = h := by rw [← data_len, hex, ← hh]
  have hsp := fun W => rSplit_any (s.extract 0 h) W (by omega)
  clear hsz
  simp only [hex] at hsp
  obtain ⟨R, hR⟩ : ∃ R, R = unT s.data.toList := ⟨_, rfl⟩
  rw [← hR]
  unfold unT at hR
  have hf := @split_count (headB 9 s.data.toList)
  rw [← hh] at hR
  generalize headB 9 s.data.toList = x at *
  generalize splitT x = T at *
  obtain ⟨T1, T2⟩ := T
  dsimp only at *
  have HR : Hid (R = _) := hR
  clear hex hh hR
  go_enter Try.func12, Try.ntmps12
  go_wp2
  go_loopw [5] (fun i wr => ∃ k : Nat, k ≤ h ∧ i = .int .i64 (k : Int) ∧ wr = w) (fun i _ => h - (intOf i).toNat)
  case atStart => exact ⟨0, Nat.zero_le _, rfl, rfl⟩
  case round =>
    obtain ⟨k, hk, rfl, rfl⟩ := hrel
    by_cases hlt : k < h
    · have hks : k < s.size := by omega
      have hki : (k : Int) < (s.size : Int) := by omega
      obtain ⟨b, hb⟩ : ∃ b, s[k] = b := ⟨_, rfl⟩
      have h9 : b ≠ 9 := by rw [← hb]; exact hat k hks hlt
      have hct : s[k].toNat = b.toNat := by rw [hb]
      have hb2 : b.toNat < 256 := UInt8.toNat_lt b
      have q9 := byte_ne h9
      rw [show ((UInt8.toNat 9 : Nat) : Int) = 9 from rfl] at q9
      clear hb h9 hat hstop hend hsp hf
      go_wp2
      exact ⟨⟨k + 1, by omega, by first | rfl | go_num | simp, by first | rfl | trivial⟩, by simp [intOf]; omega⟩
    · obtain rfl : k = h := by omega
      clear hat
      have hcut : (k : Int) ≤ (s.size : Int) := by omega
      cases T2 with
      | some j =>
        simp only [plcZ, errZ, okL, List.map_nil] at hsp
        have HQ : Hid (R = ([], some j)) := HR.out
        clear HR
        by_cases hks : k < s.size
        · have hki : (k : Int) < (s.size : Int) := by omega
          have hct : s[k].toNat = 9 := by rw [(hstop hks).1]; rfl
          clear hstop hend hf
          go_wp2_with (go_at_call 14; refine (hsp _).mono ?_; rintro e W1 ⟨v, rfl, ho, hs1⟩; clear ho hsp)
          go_ret3
          rw [HQ.out]
          exact ⟨rfl, hs1⟩
        · have hki : ¬ (k : Int) < (s.size : Int) := by omega
          clear hstop hend hf
          go_wp2_with (go_at_call 14; refine (hsp _).mono ?_; rintro e W1 ⟨v, rfl, ho, hs1⟩; clear ho hsp)
          go_ret3
          rw [HQ.out]
          exact ⟨rfl, hs1⟩
      | none =>
        simp only [plcZ, errZ, okL] at hsp
        have hT1 := hf rfl
        clear hf
        by_cases hks : k < s.size
        · have hki : (k : Int) < (s.size : Int) := by omega
          have hct : s[k].toNat = 9 := by rw [(hstop hks).1]; rfl
          have HQ : Hid (R = ([], some k)) := by show R = _; have := HR.out; rw [(hstop hks).2] at this; exact this
          clear HR
          clear hstop hend hT1
          go_wp2_with (go_at_call 14; refine (hsp _).mono ?_; rintro e W1 ⟨v, rfl, ho, hs1⟩; clear ho hsp)
          go_ret3
          rw [HQ.out]
          exact ⟨rfl, hs1⟩
        · have hki : ¬ (k : Int) < (s.size : Int) := by omega
          have HB := HR.out
          rw [hend hks] at HB
          clear HR
          obtain ⟨y, T1, rfl⟩ : ∃ y r, T1 = y :: r := by cases T1 with
            | nil => simp at hT1
            | cons y r => exact ⟨y, r, rfl⟩
          have HQ : Hid (R = (y, none)) := HB
          clear HB
          clear hstop hend hT1
          go_wp2_with (go_at_call 14; refine (hsp _).mono ?_; rintro e W1 ⟨v, rfl, ho, hs1⟩; obtain ⟨⟨a, b, o, c, xs⟩, rfl, hxs2, hS, _, _, _⟩ := ho.tx; dsimp only at hxs2; subst hxs2; unfold Tx.S at hS; dsimp only at hS; obtain rfl := hS.1 (by simp); have hcell := hS.2 0 (by simp); simp only [List.map_cons, List.getElem_cons_zero, Nat.add_zero] at hcell; unfold Tx.v; dsimp only; have hl : ((y :: T1).map toB).length = T1.length + 1 := (by simp); rw [hl]; clear ho hS hl hsp)
          go_ret3
          rw [HQ.out]
          exact ⟨rfl, hs1⟩
end Go.Proofs.Ythpecmdfppdkaaa
