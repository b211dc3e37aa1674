/- The calls of a table that read, and Put: what each answers, and what turns in memory. -/
import Derived.Test.YtdmopioiaaecfaaBase
import Derived.Test.YtdmopioiaaecfaaShelfA
namespace Go.Proofs.Ytdmopioiaaecfaa
open Go.RowKit Go.Maps

/-- 'made' of a pointer that leads nowhere. -/
theorem made_nil (w : World) : Calls Try.prog 34 #[.pointer none] w fun e w' => e = .returned (.bool false) ∧ w' = w := by
  go_enter Try.func34, Try.ntmps34
  go_wp2
  go_ret
  exact ⟨rfl, rfl⟩

set_option maxRecDepth 100000 in
/-- 'made' of a table with no map. -/
theorem made_zero (w : World) (bt : Nat) (h1 : w.cell? ⟨bt, 1, none⟩ = some (.map none)) :
    Calls Try.prog 34 #[.pointer (some ⟨bt, 0, none⟩)] w fun e w' => e = .returned (.bool false) ∧ w' = w := by
  have hn := neq_map0
  go_enter Try.func34, Try.ntmps34
  go_wp2
  go_ret
  exact ⟨rfl, rfl⟩

set_option maxRecDepth 100000 in
/-- 'made' of a table. -/
theorem made_yes (w : World) (bt bm : Nat) (h1 : w.cell? ⟨bt, 1, none⟩ = some (.map (some bm))) :
    Calls Try.prog 34 #[.pointer (some ⟨bt, 0, none⟩)] w fun e w' => e = .returned (.bool true) ∧ w' = w := by
  have hn := neq_map
  go_enter Try.func34, Try.ntmps34
  go_wp2
  go_ret
  exact ⟨rfl, rfl⟩

/-- A table that is not there: a nil pointer, or one to a zero table. -/
def NoTab (p : Value) (w : World) : Prop := Calls Try.prog 34 #[p] w fun e w' => e = .returned (.bool false) ∧ w' = w

theorem len_no (w : World) (p : Value) (h : NoTab p w) : Calls Try.prog 13 #[p] w fun e w' => e = .returned (.int .i64 0) ∧ w' = w := by
  go_enter Try.func13, Try.ntmps13
  go_wp2_with (go_at_call 34; refine Calls.mono h ?_; rintro e w' ⟨rfl, rfl⟩)
  go_ret
  exact ⟨rfl, rfl⟩

theorem put_no (w : World) (p : Value) (s : ByteArray) (h : NoTab p w) : Calls Try.prog 22 #[p, .string s] w fun e w' => e = .returned (.tuple #[.int .i64 0, .int .i64 1]) ∧ w' = w := by
  go_enter Try.func22, Try.ntmps22
  go_wp2_with (go_at_call 34; refine Calls.mono h ?_; rintro e w' ⟨rfl, rfl⟩)
  go_ret2
  exact ⟨rfl, rfl⟩

theorem putAll_no (w : World) (p l : Value) (h : NoTab p w) : Calls Try.prog 18 #[p, l] w fun e w' => e = .returned (.tuple #[.slice none 0 0, .int .i64 1]) ∧ w' = w := by
  go_enter Try.func18, Try.ntmps18
  go_wp2_with (go_at_call 34; refine Calls.mono h ?_; rintro e w' ⟨rfl, rfl⟩)
  go_ret2
  exact ⟨rfl, rfl⟩

theorem find_no (w : World) (p : Value) (s : ByteArray) (h : NoTab p w) : Calls Try.prog 31 #[p, .string s] w fun e w' => e = .returned (.tuple #[.int .i64 0, .bool false]) ∧ w' = w := by
  go_enter Try.func31, Try.ntmps31
  go_wp2_with (go_at_call 34; refine Calls.mono h ?_; rintro e w' ⟨rfl, rfl⟩)
  go_ret2
  exact ⟨rfl, rfl⟩

theorem has_no (w : World) (p : Value) (n : Int) (h : NoTab p w) : Calls Try.prog 51 #[p, .int .i64 n] w fun e w' => e = .returned (.bool false) ∧ w' = w := by
  have hl := len_no w p h
  by_cases hn : 0 ≤ n
  · go_enter Try.func51, Try.ntmps51
    go_wp2_with (go_at_call 13; refine Calls.mono hl ?_; rintro e w' ⟨rfl, rfl⟩)
    go_ret
    exact ⟨by simp; omega, rfl⟩
  · have hd : decide (0 ≤ n) = false := by simpa using hn
    go_enter Try.func51, Try.ntmps51
    go_wp2_with (go_at_call 13; refine Calls.mono hl ?_; rintro e w' ⟨rfl, rfl⟩)
    go_ret
    exact ⟨by simp, rfl⟩

theorem text_no (w : World) (p : Value) (n : Int) (h : NoTab p w) : Calls Try.prog 30 #[p, .int .i64 n] w fun e w' => e = .returned (.tuple #[.string ⟨#[]⟩, .bool false]) ∧ w' = w := by
  have hh := has_no w p n h
  go_enter Try.func30, Try.ntmps30
  go_wp2_with (go_at_call 51; refine Calls.mono hh ?_; rintro e w' ⟨rfl, rfl⟩)
  go_ret2
  exact ⟨rfl, rfl⟩

theorem texts_no (w : World) (p l : Value) (h : NoTab p w) : Calls Try.prog 25 #[p, l] w fun e w' => e = .returned (.tuple #[.slice none 0 0, .int .i64 1]) ∧ w' = w := by
  go_enter Try.func25, Try.ntmps25
  go_wp2_with (go_at_call 34; refine Calls.mono h ?_; rintro e w' ⟨rfl, rfl⟩)
  go_ret2
  exact ⟨rfl, rfl⟩

theorem compare_no (w : World) (p a b : Value) (h : NoTab p w) : Calls Try.prog 40 #[p, a, b] w fun e w' => e = .returned (.tuple #[.int .i64 0, .int .i64 1]) ∧ w' = w := by
  go_enter Try.func40, Try.ntmps40
  go_wp2_with (go_at_call 34; refine Calls.mono h ?_; rintro e w' ⟨rfl, rfl⟩)
  go_ret2
  exact ⟨rfl, rfl⟩

theorem ranks_no (w : World) (p : Value) (h : NoTab p w) : Calls Try.prog 29 #[p] w fun e w' => e = .returned (.slice none 0 0) ∧ w' = w := by
  go_enter Try.func29, Try.ntmps29
  go_wp2_with (go_at_call 34; refine Calls.mono h ?_; rintro e w' ⟨rfl, rfl⟩)
  go_ret
  exact ⟨rfl, rfl⟩

theorem rising_no (w : World) (p : Option Addr) (h : ∀ W, Below w.heap.size w W → NoTab (.pointer p) W) : Calls Try.prog 28 #[.pointer p] w fun e w' => e = .returned (.slice none 0 0) ∧ Below w.heap.size w w' := by
  have hb : Below w.heap.size w (w.alloc (.cells #[.pointer p] 23)) := (Below.refl _ _).alloc (Nat.le_refl _) _
  have h1 := h _ hb
  clear h
  have H : Hid (Below w.heap.size w (w.alloc (.cells #[.pointer p] 23))) := hb
  clear hb
  go_enter Try.func28, Try.ntmps28
  go_wp2_with (go_at_call 34; refine Calls.mono h1 ?_; rintro e w' ⟨rfl, rfl⟩)
  go_ret
  exact ⟨rfl, H.out⟩

theorem copy_no (w : World) (p : Value) (h : NoTab p w) : Calls Try.prog 10 #[p] w fun e w' => e = .returned (.pointer none) ∧ w' = w := by
  go_enter Try.func10, Try.ntmps10
  go_wp2_with (go_at_call 34; refine Calls.mono h ?_; rintro e w' ⟨rfl, rfl⟩)
  go_ret
  exact ⟨rfl, rfl⟩

section
variable {w : World} {bt bm g cap : Nat} {ts : List ByteArray}

theorem len_yes (h : Tab w bt bm g cap ts) : Calls Try.prog 13 #[.pointer (some ⟨bt, 0, none⟩)] w fun e w' => e = .returned (.int .i64 ts.length) ∧ w' = w := by
  have hm := made_yes w bt bm h.c1
  have c0 := h.c0
  clear h
  go_enter Try.func13, Try.ntmps13
  go_wp2_with (go_at_call 34; refine Calls.mono hm ?_; rintro e w' ⟨rfl, rfl⟩)
  go_ret
  exact ⟨rfl, rfl⟩

set_option maxRecDepth 100000 in
theorem find_yes (h : Tab w bt bm g cap ts) (s : ByteArray) (hs : s.size ≤ maxLen) :
    Calls Try.prog 31 #[.pointer (some ⟨bt, 0, none⟩), .string s] w fun e w' => e = .returned (.tuple #[.int .i64 (found ts s), .bool (ts.contains s)]) ∧ w' = w := by
  have hm := made_yes w bt bm h.c1
  have c1 := h.c1
  have hmap := h.map
  have hnd := h.nodup
  have hkey : keyOf Try.prog 9 (.string s) = some (key s) := WideMaps.keyOf_string_mk Try.underlying9 hs
  clear h
  have Hnd : Hid ts.Nodup := hnd
  clear hnd
  go_enter Try.func31, Try.ntmps31
  go_wp2_with (first | (go_at_call 34; refine Calls.mono hm ?_; rintro e w' ⟨rfl, rfl⟩) | (at_lookup; refine wpList_lookup_own_ok_int _ rfl _ _ 69 rfl 9 3 .i64 law9 Try.underlying69 Try.underlying3 (zero3 _) bm _ _ rfl hmap _ _ rfl hkey ?_; intro c hat hwc))
  go_ret2
  rw [has_dat ts s, found_at Hnd.out hat]
  exact ⟨rfl, rfl⟩

theorem has_yes (h : Tab w bt bm g cap ts) (n : Int) :
    Calls Try.prog 51 #[.pointer (some ⟨bt, 0, none⟩), .int .i64 n] w fun e w' => e = .returned (.bool (decide (0 ≤ n) && decide (n < ts.length))) ∧ w' = w := by
  have hl := len_yes h
  clear h
  by_cases hn : 0 ≤ n
  · go_enter Try.func51, Try.ntmps51
    go_wp2_with (go_at_call 13; refine Calls.mono hl ?_; rintro e w' ⟨rfl, rfl⟩)
    go_ret
    exact ⟨by simp [hn], rfl⟩
  · have hd : decide (0 ≤ n) = false := by simpa using hn
    go_enter Try.func51, Try.ntmps51
    go_wp2_with (go_at_call 13; refine Calls.mono hl ?_; rintro e w' ⟨rfl, rfl⟩)
    go_ret
    exact ⟨by simp, rfl⟩

set_option maxRecDepth 100000 in
theorem text_yes (h : Tab w bt bm g cap ts) (k : Nat) (hk : k < ts.length) :
    Calls Try.prog 30 #[.pointer (some ⟨bt, 0, none⟩), .int .i64 k] w fun e w' => e = .returned (.tuple #[.string ts[k], .bool true]) ∧ w' = w := by
  have hh := has_yes h k
  rw [show (decide (0 ≤ (k : Int)) && decide ((k : Int) < ts.length)) = true by simp; omega] at hh
  have c0 := h.c0
  have ck := h.text hk
  generalize ts[k] = s at ck ⊢
  obtain ⟨_, _, hcap, hmax, _⟩ := h.rowBlock
  unfold maxLen at hmax
  clear h
  go_enter Try.func30, Try.ntmps30
  go_wp2_with (go_at_call 51; refine Calls.mono hh ?_; rintro e w' ⟨rfl, rfl⟩)
  go_ret2
  exact ⟨rfl, rfl⟩

set_option maxRecDepth 100000 in
theorem text_out (h : Tab w bt bm g cap ts) (n : Int) (hn : n < 0 ∨ (ts.length : Int) ≤ n) :
    Calls Try.prog 30 #[.pointer (some ⟨bt, 0, none⟩), .int .i64 n] w fun e w' => e = .returned (.tuple #[.string ⟨#[]⟩, .bool false]) ∧ w' = w := by
  have hh := has_yes h n
  rw [show (decide (0 ≤ n) && decide (n < ts.length)) = false by simp; omega] at hh
  clear h
  go_enter Try.func30, Try.ntmps30
  go_wp2_with (go_at_call 51; refine Calls.mono hh ?_; rintro e w' ⟨rfl, rfl⟩)
  go_ret2
  exact ⟨rfl, rfl⟩
end
end Go.Proofs.Ytdmopioiaaecfaa
