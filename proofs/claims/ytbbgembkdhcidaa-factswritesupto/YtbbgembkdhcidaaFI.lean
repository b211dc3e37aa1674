/- A text up to a byte; strings.Cut, strings.Count of one byte; a text's lines, plainly. -/
import Derived.Test.YtbbgembkdhcidaaFH
import Derived.Lib.IndexLaws
namespace Go.Proofs.Ytbbgembkdhcidaa
open Go.RowKit Go.Maps

/-- What is ahead of the first byte c. -/
def headB (c : UInt8) : List UInt8 → List UInt8
  | [] => []
  | b :: l => if b = c then [] else b :: headB c l
def hasB (c : UInt8) : List UInt8 → Bool
  | [] => false
  | b :: l => if b = c then true else hasB c l
theorem headB_len (c : UInt8) : ∀ l, (headB c l).length ≤ l.length
  | [] => Nat.le_refl _
  | b :: l => by
    have := headB_len c l
    unfold headB
    split
    · simp
    · simp; omega
theorem headB_lt (c : UInt8) : ∀ l, hasB c l = true → (headB c l).length < l.length
  | [], h => by simp [hasB] at h
  | b :: l, h => by
    unfold headB
    unfold hasB at h
    split
    · simp
    · rename_i hn
      rw [if_neg hn] at h
      have := headB_lt c l h
      simp; omega
theorem headB_all (c : UInt8) : ∀ l, hasB c l = false → headB c l = l
  | [], _ => rfl
  | b :: l, h => by
    unfold headB
    unfold hasB at h
    split
    · rename_i e; rw [if_pos e] at h; simp at h
    · rename_i hn
      rw [if_neg hn] at h
      rw [headB_all c l h]
theorem headB_take (c : UInt8) : ∀ l, l.take (headB c l).length = headB c l
  | [] => rfl
  | b :: l => by
    unfold headB
    split
    · rfl
    · simp [headB_take c l]
theorem headB_no (c : UInt8) : ∀ l, ∀ b ∈ headB c l, b ≠ c
  | [], b, h => by simp [headB] at h
  | x :: l, b, h => by
    unfold headB at h
    split at h
    · simp at h
    · rename_i hn
      rcases List.mem_cons.1 h with e | e
      · rw [e]; exact hn
      · exact headB_no c l b e
theorem index_head (c : UInt8) : ∀ l, Lib.indexByte l c = if hasB c l then ((headB c l).length : Int) else -1
  | [] => rfl
  | b :: l => by
    unfold Lib.indexByte headB hasB
    rw [index_head c l]
    by_cases h : b = c
    · simp [h]
    · have : (b == c) = false := by simp [h]
      rw [this, if_neg h, if_neg h]
      cases hh : hasB c l
      · simp
      · simp
/-- What Cut answers. -/
def cutB (c : UInt8) (l : List UInt8) : List UInt8 × List UInt8 × Bool := (headB c l, if hasB c l then l.drop ((headB c l).length + 1) else [], hasB c l)

set_option maxRecDepth 100000 in
theorem slIndex_any (s : ByteArray) (c : UInt8) (w : World) : Calls Try.prog 82 #[.string s, .string ⟨#[c]⟩] w fun e w' => e = .returned (.int .i64 (Lib.indexByte s.data.toList c)) ∧ w' = w := by
  have hc : c.toNat < 256 := UInt8.toNat_lt c
  by_cases h : s.data.toList = [c]
  · have hq : ([c] == s.toList) = true := by rw [ByteArray.toList_eq, h]; simp
    have hz : Lib.indexByte s.data.toList c = 0 := by rw [h]; simp [Lib.indexByte]
    rw [hz]
    clear hz h
    go_enter Try.func82, Try.ntmps82
    go_wp2
    go_ret
    exact ⟨rfl, rfl⟩
  · have hq : ([c] == s.toList) = false := by rw [ByteArray.toList_eq]; simp; exact fun e => h e.symm
    have hx := Try.stringslite_IndexByte s (c.toNat : Int) w
    rw [show ((c.toNat : Int)).toNat.toUInt8 = c by simp] at hx
    generalize Lib.indexByte s.data.toList c = z at *
    clear h
    go_enter Try.func82, Try.ntmps82
    go_wp2_with (go_at_call 88; refine hx.mono ?_; rintro e w' ⟨rfl, hw'⟩; have hw2 := hw'.symm; subst hw2)
    go_ret
    exact ⟨rfl, rfl⟩
theorem extract_to (s : ByteArray) (n : Nat) : s.extract 0 n = toB (s.data.toList.take n) := by
  rw [← toB_data (s.extract 0 n), Lib.extract_data]; simp
theorem extract_from (s : ByteArray) (n : Nat) : s.extract n s.size = toB (s.data.toList.drop n) := by
  rw [← toB_data (s.extract n s.size), Lib.extract_data]
  congr 1
  rw [List.take_of_length_le (by rw [List.length_drop, data_len]; omega)]

set_option maxRecDepth 100000 in
set_option maxHeartbeats 2000000 in
theorem slCut_any (s : ByteArray) (c : UInt8) (w : World) (hs : s.size ≤ 140737488355328) : Calls Try.prog 68 #[.string s, .string ⟨#[c]⟩] w fun e w' => e = .returned (.tuple #[.string (toB (cutB c s.data.toList).1), .string (toB (cutB c s.data.toList).2.1), .bool (cutB c s.data.toList).2.2]) ∧ Stay w w' := by
  have hx := slIndex_any s c w
  rw [index_head] at hx
  have h1 := headB_take c s.data.toList
  have h2 := headB_lt c s.data.toList
  have h3 := headB_all c s.data.toList
  rw [data_len] at h2
  unfold cutB
  obtain ⟨n, hn⟩ : ∃ n, n = (headB c s.data.toList).length := ⟨_, rfl⟩
  cases hh : hasB c s.data.toList
  · rw [hh] at hx
    rw [h3 hh]
    simp only [Bool.false_eq_true, if_false] at hx ⊢
    rw [toB_data, show toB [] = ⟨#[]⟩ from rfl]
    clear h1 h2 h3 hn hh
    go_enter Try.func68, Try.ntmps68
    go_wp2_with (go_at_call 82; refine hx.mono ?_; rintro e w' ⟨rfl, hw'⟩; have hw2 := hw'.symm; subst hw2)
    go_ret3
    exact ⟨rfl, Stay.refl _⟩
  · rw [hh] at hx
    simp only [if_true] at hx ⊢
    have hlt := h2 hh
    rw [← hn] at hx hlt h1 ⊢
    rw [← h1, ← extract_to, ← extract_from]
    have k1 : (n : Int) + 1 ≤ (s.size : Int) := by omega
    have k2 : (n : Int) ≤ (s.size : Int) := by omega
    have k3 : ((n : Int) + 1).toNat = n + 1 := by omega
    have k4 : (0 : Int) ≤ (n : Int) + 1 := by omega
    clear h1 h2 h3 hn hh
    go_enter Try.func68, Try.ntmps68
    go_wp2_with (go_at_call 82; refine hx.mono ?_; rintro e w' ⟨rfl, hw'⟩; have hw2 := hw'.symm; subst hw2)
    go_quiet (fail)
    go_wp2
    go_ret3
    exact ⟨rfl, Stay.drewN _ _⟩

theorem stCut_any (s : ByteArray) (c : UInt8) (w : World) (hs : s.size ≤ 140737488355328) : Calls Try.prog 60 #[.string s, .string ⟨#[c]⟩] w fun e w' => e = .returned (.tuple #[.string (toB (cutB c s.data.toList).1), .string (toB (cutB c s.data.toList).2.1), .bool (cutB c s.data.toList).2.2]) ∧ Stay w w' := by
  have hx := slCut_any s c w hs
  generalize cutB c s.data.toList = r at *
  obtain ⟨r1, r2, r3⟩ := r
  dsimp only at *
  generalize toB r1 = r1 at *
  generalize toB r2 = r2 at *
  go_enter Try.func60, Try.ntmps60
  go_wp2_with (go_at_call 68; refine hx.mono ?_; rintro e w' ⟨rfl, hs'⟩)
  go_ret3
  exact ⟨rfl, hs'⟩
set_option maxRecDepth 100000 in
theorem stCount_any (s : ByteArray) (c : UInt8) (w : World) : Calls Try.prog 61 #[.string s, .string ⟨#[c]⟩] w fun e w' => e = .returned (.int .i64 (s.data.toList.count c : Nat)) ∧ w' = w := by
  have hc : c.toNat < 256 := UInt8.toNat_lt c
  have hq : (callFunc 70 #[.string s, .int .u8 (c.toNat : Int)]).run Try.prog w = .ok (.value (.int .i64 (s.data.toList.count c : Nat))) w := by
    rw [run_callFunc_extern Try.func70 (by kernel_rfl) (by kernel_rfl) (by kernel_rfl) (e := Extern.BytealgCount.count) (by kernel_rfl), Lib.run_countString]
    simp [Result.andThen, Lib.countByte]
  have hq' : (callFunc 70 #[.string s, .int .u8 (((⟨#[c]⟩ : ByteArray)[0]'(Nat.zero_lt_one)).toNat : Int)]).run Try.prog w = .ok (.value (.int .i64 (s.data.toList.count c : Nat))) w := hq
  generalize s.data.toList.count c = n at *
  clear hq
  go_enter Try.func61, Try.ntmps61
  go_wp2
  go_ret
  exact ⟨rfl, rfl⟩

/-- A text's lines, and where each begins: c of a line has come that begins at s. -/
def lns (s : Nat) (c : List UInt8) : List UInt8 → List (Nat × List UInt8)
  | [] => if c = [] then [] else [(s, c)]
  | b :: l => if b = 10 then (s, c) :: lns (s + c.length + 1) [] l else lns s (c ++ [b]) l
theorem lns_head : ∀ (l c : List UInt8) (s : Nat), (c ≠ [] ∨ l ≠ []) → lns s c l = (s, c ++ headB 10 l) :: lns (s + (c ++ headB 10 l).length + 1) [] (l.drop ((headB 10 l).length + 1))
  | [], c, s, h => by
    have hc : c ≠ [] := by rcases h with h | h; exact h; exact absurd rfl h
    rw [lns, if_neg hc]
    simp [headB, lns]
  | b :: l, c, s, _ => by
    rw [lns, headB]
    by_cases hb : b = 10
    · rw [if_pos hb, if_pos hb]
      simp
    · rw [if_neg hb, if_neg hb, lns_head l (c ++ [b]) s (.inl (by simp))]
      simp
theorem lns_nil (s : Nat) : lns s [] [] = [] := by simp [lns]
theorem lns_in : ∀ (l c : List UInt8) (s : Nat) (x : Nat × List UInt8), x ∈ lns s c l → s ≤ x.1 ∧ x.1 + x.2.length ≤ s + c.length + l.length
  | [], c, s, x, h => by
    unfold lns at h
    split at h
    · simp at h
    · simp at h; subst h; simp
  | b :: l, c, s, x, h => by
    unfold lns at h
    split at h
    · rcases List.mem_cons.1 h with e | e
      · subst e; simp
      · have := lns_in l [] _ x e; simp at this ⊢; omega
    · have := lns_in l (c ++ [b]) s x h; simp at this ⊢; omega
/-- What is wrong first. -/
def eachT (f : List UInt8 → Option Nat) : List (Nat × List UInt8) → Option Nat
  | [] => none
  | x :: r => match f x.2 with
    | some k => some (x.1 + k)
    | none => eachT f r
theorem eachT_app {f : List UInt8 → Option Nat} : ∀ {p r : List (Nat × List UInt8)}, (∀ x ∈ p, f x.2 = none) → eachT f (p ++ r) = eachT f r
  | [], _, _ => rfl
  | x :: p, r, h => by
    rw [List.cons_append, eachT, h x (List.mem_cons_self ..)]
    exact eachT_app (fun y hy => h y (List.mem_cons_of_mem _ hy))
theorem eachT_none {f : List UInt8 → Option Nat} : ∀ {p : List (Nat × List UInt8)}, eachT f p = none ↔ ∀ x ∈ p, f x.2 = none
  | [] => by simp [eachT]
  | x :: p => by
    rw [eachT]
    cases h : f x.2 with
    | none => simp [h, eachT_none (p := p)]
    | some k => simp [h]
end Go.Proofs.Ytbbgembkdhcidaa
