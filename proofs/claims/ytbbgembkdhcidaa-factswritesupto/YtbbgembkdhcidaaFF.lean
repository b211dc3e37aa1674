/- Line, Escape, Write. -/
import Derived.Test.YtbbgembkdhcidaaFE
namespace Go.Proofs.Ytbbgembkdhcidaa
open Go.RowKit Go.Maps

/-- A tuple's line, or what is wrong. -/
def lineT (ss : List ByteArray) : List UInt8 × Int := if refZ [ss] ss.length = 0 then (lineL (dat ss), 0) else ([], refZ [ss] ss.length)
theorem refZ_range (ts : List (List ByteArray)) (n : Int) : refZ ts n = 0 ∨ refZ ts n = 2 ∨ refZ ts n = 3 := by
  unfold refZ
  split
  · split <;> simp
  · simp
theorem refZ_zero {ts : List (List ByteArray)} {n : Int} (h : refZ ts n = 0) : 0 ≤ n ∧ n ≤ 16 ∧ ∀ t ∈ ts, (t.length : Int) = n ∧ ∀ s ∈ t, s.size ≤ 1024 := by
  unfold refZ at h
  split at h
  · rename_i hc
    split at h
    · omega
    · rename_i hl
      simp only [Bool.and_eq_true, decide_eq_true_eq, Bool.not_eq_true', List.any_eq_false] at hc
      simp only [Bool.not_eq_true, List.any_eq_false] at hl
      refine ⟨hc.1.1, hc.1.2, fun t ht => ⟨by simpa [misB] using hc.2 t ht, fun s hs => ?_⟩⟩
      have := hl t ht
      simp only [longB, List.any_eq_false, decide_eq_true_eq] at this
      have := this s hs
      omega
  · omega
theorem sumL_small : ∀ (ss : List ByteArray), (∀ s ∈ ss, s.size ≤ 1024) → sumL (dat ss) ≤ ss.length * 1025
  | [], _ => by simp [dat, sumL]
  | s :: ss, h => by
    have h1 := sumL_small ss (fun x hx => h x (List.mem_cons_of_mem _ hx))
    have h2 := h s (List.mem_cons_self ..)
    have h3 : s.data.toList.length = s.size := data_len s
    show sumL (s.data.toList :: dat ss) ≤ _
    rw [sumL, List.length_cons]; omega
theorem tx_new (w : World) (a : Option Addr) (b off c : Nat) (ss : List ByteArray) (h : StrsS w a b off ss) : TxsS (w.alloc (.cells #[.slice a ss.length c] 39)) (some ⟨w.heap.size, 0, none⟩) w.heap.size 0 [⟨a, b, off, c, ss⟩] := by
  refine ⟨fun _ => rfl, fun j hj => ?_⟩
  have hj0 : j = 0 := by simpa using hj
  subst hj0
  exact ⟨box_new _ _ _, StrsS.stay h (Stay.new _ _)⟩

/-- A constant's field, or that it is none. -/
def escT (l : List UInt8) : List UInt8 × Int := if l.length ≤ 1024 then (escL l, 0) else ([], 3)
theorem lineT_one (s : ByteArray) : lineT [s] = escT s.data.toList := by
  have hl : s.data.toList.length = s.size := data_len s
  unfold lineT escT refZ
  rw [hl]
  by_cases h : s.size ≤ 1024
  · rw [if_pos h]
    have : longB [s] = false := by simp [longB]; omega
    simp [misB, this, dat, lineL]
  · rw [if_neg h]
    have : longB [s] = true := by simp [longB]; omega
    simp [misB, this]

/-- Tuples' lines. -/
def linesL : List (List ByteArray) → List UInt8
  | [] => []
  | t :: r => lineL (dat t) ++ 10 :: linesL r
theorem linesL_snoc : ∀ (l : List (List ByteArray)) (t : List ByteArray), linesL (l ++ [t]) = linesL l ++ (lineL (dat t) ++ [10])
  | [], t => rfl
  | x :: l, t => by rw [List.cons_append, linesL, linesL_snoc l t, linesL]; simp
def sumG : List (List ByteArray) → Nat
  | [] => 0
  | t :: r => sumL (dat t) + 1 + sumG r
theorem sumG_app : ∀ (l m : List (List ByteArray)), sumG (l ++ m) = sumG l + sumG m
  | [], m => by simp [sumG]
  | x :: l, m => by rw [List.cons_append, sumG, sumG, sumG_app l m]; omega
theorem linesL_len : ∀ l : List (List ByteArray), (linesL l).length ≤ sumG l * 2
  | [] => by simp [linesL, sumG]
  | t :: r => by
    have h1 := lineL_len (dat t)
    have h2 := linesL_len r
    rw [linesL, List.length_append, List.length_cons, sumG]; omega
theorem sumG_at (l : List (List ByteArray)) (k : Nat) (h : k < l.length) : sumG (l.take k) + (sumL (dat l[k]) + 1) ≤ sumG l := by
  have h1 := sumG_app (l.take (k + 1)) (l.drop (k + 1))
  rw [List.take_append_drop, List.take_succ_eq_append_getElem h, sumG_app] at h1
  simp only [sumG] at h1
  omega
def writeT (ts : List (List ByteArray)) (n : Int) : List UInt8 × Int := if refZ ts n = 0 then (linesL ts, 0) else ([], refZ ts n)

set_option maxRecDepth 100000 in
set_option maxHeartbeats 4000000 in
theorem Write_any {w : World} {a : Option Addr} {b off c : Nat} {ts : List Tx} (h : TxsS w a b off ts) (hl : ts.length ≤ 140737488355328) (hl2 : ∀ t ∈ ts, t.xs.length ≤ 140737488355328) (hlen : sumG (ts.map Tx.xs) * 2 + 8 ≤ 140737488355328) (z : Int) :
    Calls Try.prog 5 #[.slice a ts.length c, .int .i64 z] w fun e w' => e = .returned (.tuple #[.string ⟨(writeT (ts.map Tx.xs) z).1.toArray⟩, .int .i64 (writeT (ts.map Tx.xs) z).2]) ∧ Stay w w' := by
  have hr := refusal_any h (c := c) (by omega) (fun t ht => by have := hl2 t ht; omega) z
  unfold writeT
  obtain ⟨r, hrz⟩ : ∃ r, r = refZ (ts.map Tx.xs) z := ⟨_, rfl⟩
  rw [← hrz] at hr ⊢
  by_cases h0 : r = 0
  · rw [if_pos h0]
    have hz0 : (r == 0) = true := by simp [h0]
    subst h0
    obtain ⟨n, hn⟩ : ∃ n, n = ts.length := ⟨_, rfl⟩
    have HS : Hid (TxsS w a b off ts ∧ n = ts.length ∧ sumG (ts.map Tx.xs) * 2 + 8 ≤ 140737488355328 ∧ ∀ t ∈ ts, t.xs.length ≤ 140737488355328) := ⟨h, hn, hlen, hl2⟩
    rw [← hn] at hr hl ⊢
    clear h hl2 hlen hn hrz
    by_cases hn0 : 0 < n
    · obtain rfl := HS.out.1.1 (by rw [← HS.out.2.1]; exact hn0)
      go_enter Try.func5, Try.ntmps5
      go_wp2_with (first
        | (go_at_call 14; refine hr.mono ?_; rintro e W1 ⟨rfl, hs1⟩; have H1 : Hid (Stay w W1) := hs1; clear hr hs1))
      go_loopw [18, 9] (fun i _ wr => ∃ k : Nat, k ≤ n ∧ i = .int .i64 (k : Int) ∧ Bld W1.heap.size W1.heap.size wr (linesL ((ts.map Tx.xs).take k)) ∧ Stay w wr ∧ Stay W1 wr) (fun i _ _ => n - (intOf i).toNat)
      case atStart => exact ⟨0, Nat.zero_le _, rfl, fresh_bld0 W1, H1.out.trans (Stay.new _ _), Stay.new _ _⟩
      case round =>
        obtain ⟨k, hk, rfl, hBk, hwk, hwk1⟩ := hrel
        have hBr : W1.heap.size ≤ wr.heap.size := hwk1.size
        by_cases hlt : k < n
        · have hki : (k : Int) < (n : Int) := by omega
          have hks : k < ts.length := by rw [← HS.out.2.1]; exact hlt
          have hkm : k < (ts.map Tx.xs).length := by simpa using hks
          obtain ⟨hc0, hc1⟩ := (HS.out.1.stay hwk).2 k hks
          have h3 := sumG_at (ts.map Tx.xs) k hkm
          have h4 := linesL_len ((ts.map Tx.xs).take k)
          have h5 := HS.out.2.2.1
          have h6 := HS.out.2.2.2 _ (List.getElem_mem hks)
          have hE0 : linesL ((ts.map Tx.xs).take (k + 1)) = linesL ((ts.map Tx.xs).take k) ++ (lineL (dat (ts[k].xs)) ++ [10]) := by
            rw [List.take_succ_eq_append_getElem hkm, linesL_snoc, List.getElem_map]
          rw [List.getElem_map] at h3
          have HC1 : Hid (Tx.S wr ts[k] ∧ w.heap.size ≤ W1.heap.size ∧ (TxsS w (some ⟨b, off, none⟩) b off ts)) := ⟨hc1, H1.out.size, HS.out.1⟩
          have hcs : ∀ V, Below W1.heap.size wr V → Tx.S V ts[k] := fun V hV => ((HS.out.1.stay H1.out).stay (Below.trans hwk1 hV)).2 k hks |>.2
          clear hc1 HC1
          generalize ts[k] = t at *
          obtain ⟨ta, tb, to, tc, tx⟩ := t
          unfold Tx.v at hc0
          unfold Tx.S at hcs
          dsimp only at *
          have HW : Hid (Stay w wr ∧ Stay W1 wr ∧ linesL ((ts.map Tx.xs).take (k + 1)) = (linesL ((ts.map Tx.xs).take k) ++ lineL (dat tx)) ++ [10]) := ⟨hwk, hwk1, by rw [hE0]; simp⟩
          have hl9 := lineL_len (dat tx)
          have hlk : (linesL ((ts.map Tx.xs).take k)).length + sumL (dat tx) * 2 + 8 ≤ 140737488355328 := by omega
          generalize linesL ((ts.map Tx.xs).take k) = cs at hBk HW hlk
          have w1 := writeLine_any hBk hcs h6 (c := tc) (by omega) hBr
          generalize tx.length = m at *
          clear hBk hE0 hcs h3 h4 h5 hwk hwk1 h6
          go_wp2_with fail
          refine w1.mono ?_
          rintro e W2 ⟨rfl, hB2, hb2⟩
          have w2 := writeByteK hB2 10 (by rw [List.length_append]; omega) (Nat.le_trans hBr hb2.size)
          rw [show ((UInt8.toNat 10 : Nat) : Int) = 10 from rfl] at w2
          clear w1 hB2
          go_wp2_with (go_at_call 16; refine w2.mono ?_; rintro e W3 ⟨rfl, hB3, hb3⟩)
          go_roundw
          case rel => exact ⟨k + 1, by omega, by simp, by rw [HW.out.2.2]; exact hB3, Below.trans HW.out.1 ((hb2.trans hb3).1.mono H1.out.size), Below.trans HW.out.2.1 (hb2.trans hb3).1⟩
          case measure => simp [intOf]; omega
        · have hki : ¬ (k : Int) < (n : Int) := by omega
          have hE : (ts.map Tx.xs).take k = ts.map Tx.xs := List.take_of_length_le (by rw [List.length_map, ← HS.out.2.1]; omega)
          rw [hE] at hBk
          have hst := Bld.strOk hBk hBr
          clear hE hBk
          go_wp2_with (go_at_call 17; refine hst.mono ?_; rintro e W3 ⟨rfl, hb3⟩)
          go_ret2
          exact ⟨rfl, Below.trans hwk (hb3.mono H1.out.size)⟩
    · have e : ts = [] := List.eq_nil_of_length_eq_zero (by have := HS.out.2.1; omega)
      subst e
      obtain rfl : n = 0 := by omega
      go_enter Try.func5, Try.ntmps5
      go_wp2_with (first
        | (go_at_call 14; refine hr.mono ?_; rintro e W1 ⟨rfl, hs1⟩; have H1 : Hid (Stay w W1) := hs1; clear hr hs1))
      go_loopw [18, 9] (fun i _ wr => i = .int .i64 0 ∧ wr = W1.alloc (.cells #[.pointer none, .slice none 0 0] 44)) (fun _ _ _ => 0)
      case atStart => exact ⟨rfl, rfl⟩
      case round =>
        obtain ⟨rfl, rfl⟩ := hrel
        have hst := Bld.strOk (fresh_bld0 W1) (by simp)
        go_wp2_with (go_at_call 17; refine hst.mono ?_; rintro e W3 ⟨rfl, hb3⟩)
        go_ret2
        exact ⟨rfl, Below.trans (H1.out.trans (Stay.new _ _)) (hb3.mono H1.out.size)⟩
  · rw [if_neg h0]
    have hz0 : (r == 0) = false := by simp [h0]
    clear h hl hl2 hlen hrz
    generalize ts.length = n at *
    go_enter Try.func5, Try.ntmps5
    go_wp2_with (first
      | (go_at_call 14; refine hr.mono ?_; rintro e W1 ⟨rfl, hs1⟩))
    go_ret2
    exact ⟨rfl, hs1⟩
end Go.Proofs.Ytbbgembkdhcidaa
