/- The letters of a text, plainly: what a rune at a place is, which ones are which, how far a run goes. runeAt, isSmall, isGreat, isDigit, inWord, isPlain. run: how far a word's bytes, or digits, go. -/
import Derived.Test.YtiobhadchakoiaaGreatDoorA
import Derived.Lib.Strings
import Derived.Shelf.Abstract
namespace Go.Proofs.YtiobhadchakoiaaGreatDoor
open Go.RowKit Go.Maps

/-- The byte at a place; -1 outside the text. -/
def runeZ (l : List UInt8) (i : Int) : Int := if i < 0 then -1 else match l[i.toNat]? with
  | some b => (b.toNat : Int)
  | none => -1
def smallZ (r : Int) : Bool := decide (97 ≤ r) && decide (r ≤ 122)
def greatZ (r : Int) : Bool := decide (65 ≤ r) && decide (r ≤ 90)
def digitZ (r : Int) : Bool := decide (48 ≤ r) && decide (r ≤ 57)
def wordZ (r : Int) : Bool := smallZ r || greatZ r || digitZ r || decide (r = 95)
def plainZ (r : Int) : Bool := decide (32 ≤ r) && decide (r ≤ 126)
/-- How far bytes of a kind go, at most n. -/
def runF (p : Int → Bool) : Nat → List UInt8 → Nat
  | 0, _ => 0
  | _ + 1, [] => 0
  | n + 1, b :: l => if p (b.toNat : Int) then runF p n l + 1 else 0
def runN (p : Int → Bool) (l : List UInt8) : Nat := runF p 64 l

theorem runeZ_lt (l : List UInt8) (i : Int) : -1 ≤ runeZ l i ∧ runeZ l i ≤ 255 := by
  unfold runeZ
  split
  · omega
  · split
    · rename_i b _; have : b.toNat < 256 := UInt8.toNat_lt b; omega
    · omega
theorem runeZ_nat (l : List UInt8) (k : Nat) : runeZ l (k : Int) = match l[k]? with
  | some b => (b.toNat : Int)
  | none => -1 := by
  unfold runeZ
  rw [if_neg (by omega)]
  simp
theorem runeZ_in {l : List UInt8} {k : Nat} (h : k < l.length) : runeZ l (k : Int) = (l[k].toNat : Int) := by
  rw [runeZ_nat, List.getElem?_eq_getElem h]
theorem runeZ_out {l : List UInt8} {k : Nat} (h : l.length ≤ k) : runeZ l (k : Int) = -1 := by
  rw [runeZ_nat, List.getElem?_eq_none h]
theorem runeZ_neg (l : List UInt8) {i : Int} (h : i < 0) : runeZ l i = -1 := by unfold runeZ; rw [if_pos h]

theorem runF_le (p : Int → Bool) : ∀ (n : Nat) (l : List UInt8), runF p n l ≤ n ∧ runF p n l ≤ l.length
  | 0, _ => by simp [runF]
  | n + 1, [] => by simp [runF]
  | n + 1, b :: l => by
    unfold runF
    have := runF_le p n l
    split
    · simp; omega
    · simp
theorem runN_le (p : Int → Bool) (l : List UInt8) : runN p l ≤ 64 ∧ runN p l ≤ l.length := runF_le p 64 l
theorem runF_step (p : Int → Bool) (hp : p (-1) = false) (l : List UInt8) (n k : Nat) :
    runF p (n + 1) (l.drop k) = if p (runeZ l (k : Int)) then runF p n (l.drop (k + 1)) + 1 else 0 := by
  by_cases hk : k < l.length
  · rw [List.drop_eq_getElem_cons hk, runeZ_in hk]
    rfl
  · rw [List.drop_eq_nil_of_le (by omega), runeZ_out (by omega), hp]
    rfl
theorem wordZ_neg : wordZ (-1) = false := by decide
theorem digitZ_neg : digitZ (-1) = false := by decide
end Go.Proofs.YtiobhadchakoiaaGreatDoor
namespace Go.Proofs.YtiobhadchakoiaaGreatDoor
open Go.RowKit Go.Maps

set_option maxRecDepth 100000 in
theorem runeAt_any (s : ByteArray) (i : Int) (w : World) (h1 : -1 ≤ i) (h2 : i ≤ 140737488355329) :
    Calls Tryz.prog 85 #[.string s, .int .i64 i] w fun e w' => e = .returned (.int .i32 (runeZ s.data.toList i)) ∧ w' = w := by
  by_cases h0 : i < 0
  · rw [runeZ_neg _ h0]
    go_enter Tryz.func85, Tryz.ntmps85
    go_wp2
    go_ret
    exact ⟨rfl, rfl⟩
  · obtain ⟨k, rfl⟩ : ∃ k : Nat, i = (k : Int) := ⟨i.toNat, by omega⟩
    by_cases hk : k < s.size
    · have hv : runeZ s.data.toList (k : Int) = (s[k].toNat : Int) := by
        rw [runeZ_in (by simpa using hk)]; rfl
      have hu : s[k].toNat < 256 := UInt8.toNat_lt _
      rw [hv]
      have HW : Hid (wrap32 (s[k].toNat : Int) = (s[k].toNat : Int)) := by
        show wrap32 (s[k].toNat : Int) = (s[k].toNat : Int)
        unfold wrap32; omega
      have hi : (k : Int) < (s.size : Int) := by omega
      clear hv hu
      go_enter Tryz.func85, Tryz.ntmps85
      go_wp2
      go_ret
      exact ⟨congrArg (fun z => Ending.returned (Value.int .i32 z)) HW.out, rfl⟩
    · rw [runeZ_out (by simp; omega)]
      have hi : (s.size : Int) ≤ (k : Int) := by omega
      go_enter Tryz.func85, Tryz.ntmps85
      go_wp2
      go_ret
      exact ⟨rfl, rfl⟩

theorem isSmall_any (r : Int) (w : World) : Calls Tryz.prog 86 #[.int .i32 r] w fun e w' => e = .returned (.bool (smallZ r)) ∧ w' = w := by
  unfold smallZ
  by_cases h : 97 ≤ r
  · go_enter Tryz.func86, Tryz.ntmps86
    go_wp2
    go_ret
    exact ⟨by simp [h], rfl⟩
  · go_enter Tryz.func86, Tryz.ntmps86
    go_wp2
    go_ret
    exact ⟨by simp; omega, rfl⟩
theorem isGreat_any (r : Int) (w : World) : Calls Tryz.prog 90 #[.int .i32 r] w fun e w' => e = .returned (.bool (greatZ r)) ∧ w' = w := by
  unfold greatZ
  by_cases h : 65 ≤ r
  · go_enter Tryz.func90, Tryz.ntmps90
    go_wp2
    go_ret
    exact ⟨by simp [h], rfl⟩
  · go_enter Tryz.func90, Tryz.ntmps90
    go_wp2
    go_ret
    exact ⟨by simp; omega, rfl⟩
theorem isDigit_any (r : Int) (w : World) : Calls Tryz.prog 91 #[.int .i32 r] w fun e w' => e = .returned (.bool (digitZ r)) ∧ w' = w := by
  unfold digitZ
  by_cases h : 48 ≤ r
  · go_enter Tryz.func91, Tryz.ntmps91
    go_wp2
    go_ret
    exact ⟨by simp [h], rfl⟩
  · go_enter Tryz.func91, Tryz.ntmps91
    go_wp2
    go_ret
    exact ⟨by simp; omega, rfl⟩
theorem isPlain_any (r : Int) (w : World) : Calls Tryz.prog 82 #[.int .i32 r] w fun e w' => e = .returned (.bool (plainZ r)) ∧ w' = w := by
  unfold plainZ
  by_cases h : 32 ≤ r
  · go_enter Tryz.func82, Tryz.ntmps82
    go_wp2
    go_ret
    exact ⟨by simp [h], rfl⟩
  · go_enter Tryz.func82, Tryz.ntmps82
    go_wp2
    go_ret
    exact ⟨by simp; omega, rfl⟩
set_option maxRecDepth 100000 in
theorem inWord_any (r : Int) (w : World) : Calls Tryz.prog 88 #[.int .i32 r] w fun e w' => e = .returned (.bool (wordZ r)) ∧ w' = w := by
  unfold wordZ
  have k1 := isSmall_any r
  have k2 := isGreat_any r
  have k3 := isDigit_any r
  generalize smallZ r = x1 at *
  generalize greatZ r = x2 at *
  generalize digitZ r = x3 at *
  cases x1 <;> cases x2 <;> cases x3
  all_goals
    go_enter Tryz.func88, Tryz.ntmps88
    go_wp2_with (first
      | (go_at_call 86; refine (k1 _).mono ?_; rintro e w' ⟨rfl, rfl⟩)
      | (go_at_call 90; refine (k2 _).mono ?_; rintro e w' ⟨rfl, rfl⟩)
      | (go_at_call 91; refine (k3 _).mono ?_; rintro e w' ⟨rfl, rfl⟩))
    go_ret
    exact ⟨by first | rfl | (simp; done), rfl⟩
end Go.Proofs.YtiobhadchakoiaaGreatDoor
namespace Go.Proofs.YtiobhadchakoiaaGreatDoor
open Go.RowKit Go.Maps

set_option maxRecDepth 100000 in
set_option maxHeartbeats 1000000 in
theorem run_word (s : ByteArray) (w : World) :
    Calls Tryz.prog 87 #[.string s, .func (.func 88) #[] #[]] w fun e w' => e = .returned (.int .i64 (runN wordZ s.data.toList : Nat)) ∧ w' = w := by
  have e63 : ∀ args w, (callFunc 88 args).run Tryz.prog w = .ok (.enter 88 args) w := enters_of Tryz.func88 (by kernel_rfl) rfl
  obtain ⟨l, hl⟩ : ∃ l, l = s.data.toList := ⟨_, rfl⟩
  rw [← hl]
  have HR := fun i h1 h2 W => runeAt_any s i W h1 h2
  rw [← hl] at HR
  clear hl
  go_enter Tryz.func87, Tryz.ntmps87
  go_wp2
  go_loopw [5] (fun i wr => wr = w ∧ ∃ k : Nat, k ≤ 64 ∧ i = .int .i64 (k : Int) ∧ runN wordZ l = k + runF wordZ (64 - k) (l.drop k)) (fun i _ => 64 - (intOf i).toNat)
  case atStart => exact ⟨rfl, 0, by omega, rfl, by simp [runN]⟩
  case round =>
    obtain ⟨rfl, k, hk, rfl, hr⟩ := hrel
    by_cases hlt : k < 64
    · have hs := runF_step wordZ wordZ_neg l (63 - k) k
      rw [show 63 - k + 1 = 64 - k by omega] at hs
      rw [hs] at hr
      have hki : (k : Int) < 64 := by omega
      have hka := HR (k : Int) (by omega) (by omega)
      have hkb := inWord_any (runeZ l (k : Int))
      generalize hb : wordZ (runeZ l (k : Int)) = b at *
      have HB : Hid (runN wordZ l = k + if b then runF wordZ (63 - k) (l.drop (k + 1)) + 1 else 0) := hr
      clear hr hs hb HR
      cases b
      · go_wp2_with (first
          | (go_at_call 85; refine (hka _).mono ?_; rintro e w' ⟨rfl, rfl⟩)
          | (go_at_fn 88; refine (hkb _).mono ?_; rintro e w' ⟨rfl, rfl⟩))
        go_ret
        have hh := HB.out
        simp at hh
        exact ⟨by rw [hh]; rfl, rfl⟩
      · go_wp2_with (first
          | (go_at_call 85; refine (hka _).mono ?_; rintro e w' ⟨rfl, rfl⟩)
          | (go_at_fn 88; refine (hkb _).mono ?_; rintro e w' ⟨rfl, rfl⟩))
        go_roundw
        case rel => exact ⟨by trivial, k + 1, by omega, by simp, by have hh := HB.out; simp at hh; rw [hh, show 63 - k = 64 - (k + 1) by omega]; omega⟩
        case measure => simp [intOf]; omega
    · obtain rfl : k = 64 := by omega
      have HB : Hid (runN wordZ l = 64) := by
        show runN wordZ l = 64
        rw [hr]; simp [runF]
      clear hr HR
      go_wp2
      go_ret
      exact ⟨by rw [HB.out]; rfl, rfl⟩
set_option maxRecDepth 100000 in
set_option maxHeartbeats 1000000 in
theorem run_digit (s : ByteArray) (w : World) :
    Calls Tryz.prog 87 #[.string s, .func (.func 91) #[] #[]] w fun e w' => e = .returned (.int .i64 (runN digitZ s.data.toList : Nat)) ∧ w' = w := by
  have e63 : ∀ args w, (callFunc 91 args).run Tryz.prog w = .ok (.enter 91 args) w := enters_of Tryz.func91 (by kernel_rfl) rfl
  obtain ⟨l, hl⟩ : ∃ l, l = s.data.toList := ⟨_, rfl⟩
  rw [← hl]
  have HR := fun i h1 h2 W => runeAt_any s i W h1 h2
  rw [← hl] at HR
  clear hl
  go_enter Tryz.func87, Tryz.ntmps87
  go_wp2
  go_loopw [5] (fun i wr => wr = w ∧ ∃ k : Nat, k ≤ 64 ∧ i = .int .i64 (k : Int) ∧ runN digitZ l = k + runF digitZ (64 - k) (l.drop k)) (fun i _ => 64 - (intOf i).toNat)
  case atStart => exact ⟨rfl, 0, by omega, rfl, by simp [runN]⟩
  case round =>
    obtain ⟨rfl, k, hk, rfl, hr⟩ := hrel
    by_cases hlt : k < 64
    · have hs := runF_step digitZ digitZ_neg l (63 - k) k
      rw [show 63 - k + 1 = 64 - k by omega] at hs
      rw [hs] at hr
      have hki : (k : Int) < 64 := by omega
      have hka := HR (k : Int) (by omega) (by omega)
      have hkb := isDigit_any (runeZ l (k : Int))
      generalize hb : digitZ (runeZ l (k : Int)) = b at *
      have HB : Hid (runN digitZ l = k + if b then runF digitZ (63 - k) (l.drop (k + 1)) + 1 else 0) := hr
      clear hr hs hb HR
      cases b
      · go_wp2_with (first
          | (go_at_call 85; refine (hka _).mono ?_; rintro e w' ⟨rfl, rfl⟩)
          | (go_at_fn 91; refine (hkb _).mono ?_; rintro e w' ⟨rfl, rfl⟩))
        go_ret
        have hh := HB.out
        simp at hh
        exact ⟨by rw [hh]; rfl, rfl⟩
      · go_wp2_with (first
          | (go_at_call 85; refine (hka _).mono ?_; rintro e w' ⟨rfl, rfl⟩)
          | (go_at_fn 91; refine (hkb _).mono ?_; rintro e w' ⟨rfl, rfl⟩))
        go_roundw
        case rel => exact ⟨by trivial, k + 1, by omega, by simp, by have hh := HB.out; simp at hh; rw [hh, show 63 - k = 64 - (k + 1) by omega]; omega⟩
        case measure => simp [intOf]; omega
    · obtain rfl : k = 64 := by omega
      have HB : Hid (runN digitZ l = 64) := by
        show runN digitZ l = 64
        rw [hr]; simp [runF]
      clear hr HR
      go_wp2
      go_ret
      exact ⟨by rw [HB.out]; rfl, rfl⟩
end Go.Proofs.YtiobhadchakoiaaGreatDoor
