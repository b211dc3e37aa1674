/- The document's SameTexts, Same; an error's number. -/
import Derived.Test.YtbbgembkdhcidaaFV
namespace Go.Proofs.Ytbbgembkdhcidaa
open Go.RowKit Go.Maps

theorem lnum_any (z : Int) (w : World) : Calls Try.prog 9 #[.int .i64 z] w fun e w' => e = .returned (.int .i64 z) ∧ w' = w := by
  go_enter Try.func9, Try.ntmps9
  go_wp2
  go_ret
  exact ⟨rfl, rfl⟩
theorem tl_eq (a b : ByteArray) : (a.toList == b.toList) = decide (a = b) := by
  by_cases h : a = b
  · subst h; simp
  · rw [tl_ne h, decide_eq_false h]
theorem drew_on {w V : World} (h : ∃ d, V = w.drewN d) (n : Nat) : ∃ q, V.drewN n = w.drewN q := by
  obtain ⟨d, rfl⟩ := h
  exact ⟨d + n, by rw [World.drewN_drewN]⟩
theorem take_ext {α : Type} {xs ys : List α} {k : Nat} (h1 : k < xs.length) (h2 : k < ys.length) (h : xs.take k = ys.take k) (he : xs[k] = ys[k]) : xs.take (k + 1) = ys.take (k + 1) := by
  rw [List.take_succ_eq_append_getElem h1, List.take_succ_eq_append_getElem h2, h, he]

set_option maxRecDepth 100000 in
set_option maxHeartbeats 1000000 in
theorem sameTexts_any (w : World) (a1 a2 : Option Addr) (b1 o1 b2 o2 c1 c2 : Nat) (xs ys : List ByteArray) (hx : StrsS w a1 b1 o1 xs) (hy : StrsS w a2 b2 o2 ys) (hlx : xs.length ≤ maxLen) (_hly : ys.length ≤ maxLen) :
    Calls Try.prog 24 #[.slice a1 xs.length c1, .slice a2 ys.length c2] w fun e w' => e = .returned (.bool (decide (xs = ys))) ∧ ∃ q, w' = w.drewN q := by
  unfold maxLen at hlx
  obtain ⟨n, hn⟩ : ∃ n, n = xs.length := ⟨_, rfl⟩
  by_cases hl : xs.length = ys.length
  · obtain ⟨q, hq⟩ : ∃ q, q = decide (xs = ys) := ⟨_, rfl⟩
    have HX : Hid (StrsS w a1 b1 o1 xs ∧ StrsS w a2 b2 o2 ys ∧ n = xs.length ∧ n = ys.length ∧ q = decide (xs = ys)) := ⟨hx, hy, hn, hn.trans hl, hq⟩
    rw [← hq, ← hl, ← hn]
    rw [← hn] at hlx
    clear hx hy hl hn hq
    go_enter Try.func24, Try.ntmps24
    go_wp2
    go_loopw [5] (fun i wr => ∃ k : Nat, k ≤ n ∧ i = .int .i64 (k : Int) ∧ xs.take k = ys.take k ∧ ∃ q, wr = w.drewN q) (fun i _ => n - (intOf i).toNat)
    case atStart => exact ⟨0, Nat.zero_le _, rfl, rfl, 0, rfl⟩
    case round =>
      obtain ⟨k, hk, rfl, htk, hdr⟩ := hrel
      have HD : Hid (∃ d, wr = w.drewN d) := hdr
      have hsw : Stay w wr := by obtain ⟨d, rfl⟩ := hdr; exact Stay.drewN _ _
      clear hdr
      by_cases hlt : k < n
      · have h1 : k < xs.length := by rw [← HX.out.2.2.1]; exact hlt
        have h2 : k < ys.length := by rw [← HX.out.2.2.2.1]; exact hlt
        obtain rfl := HX.out.1.1 (by omega)
        obtain rfl := HX.out.2.1.1 (by omega)
        have hc1 := (HX.out.1.stay hsw).2 k h1
        have hc2 := (HX.out.2.1.stay hsw).2 k h2
        have hi1 : (k : Int) < (n : Int) := by omega
        have he := tl_eq xs[k] ys[k]
        have HE : Hid (xs.take k = ys.take k ∧ (xs[k] = ys[k] → xs.take (k + 1) = ys.take (k + 1)) ∧ (¬ xs[k] = ys[k] → ¬ xs = ys)) := ⟨htk, take_ext h1 h2 htk, fun hn e => hn (by simp only [e])⟩
        generalize xs[k] = x at *
        generalize ys[k] = y at *
        clear htk
        by_cases hxy : x = y
        · rw [decide_eq_true hxy] at he
          have HN : Hid (x = y) := hxy
          clear hxy
          go_wp2_with fail
          go_quiet (fail)
          go_wp2
          exact ⟨⟨k + 1, by omega, by first | rfl | go_num | simp, HE.out.2.1 HN.out, drew_on HD.out nq⟩, by simp [intOf]; omega⟩
        · rw [decide_eq_false hxy] at he
          have HN : Hid (¬ x = y) := hxy
          clear hxy
          go_wp2_with fail
          go_quiet (fail)
          go_wp2
          go_ret
          exact ⟨by rw [HX.out.2.2.2.2, decide_eq_false (HE.out.2.2 HN.out)]; rfl, drew_on HD.out nq⟩
      · have hi1 : ¬ (k : Int) < (n : Int) := by omega
        have hall : xs = ys := by
          rw [List.take_of_length_le (by rw [← HX.out.2.2.1]; omega), List.take_of_length_le (by rw [← HX.out.2.2.2.1]; omega)] at htk
          exact htk
        have HQ : Hid (q = true) := by show q = true; rw [HX.out.2.2.2.2]; exact decide_eq_true hall
        clear htk hall
        go_wp2
        go_ret
        exact ⟨by rw [HQ.out]; rfl, HD.out⟩
  · rw [decide_eq_false (fun e => hl (by rw [e]))]
    have hb : ((xs.length : Int) == (ys.length : Int)) = false := by simp; omega
    generalize xs.length = m at *
    generalize ys.length = m' at *
    clear hx hy hl
    go_enter Try.func24, Try.ntmps24
    go_wp2
    go_ret
    exact ⟨rfl, 0, rfl⟩

set_option maxRecDepth 100000 in
set_option maxHeartbeats 1000000 in
theorem same_any (w : World) (a1 a2 : Option Addr) (b1 o1 b2 o2 c1 c2 : Nat) (xs ys : List Tx) (hx : TxsS w a1 b1 o1 xs) (hy : TxsS w a2 b2 o2 ys) (_hlx : xs.length ≤ 140737488355328) (_hly : ys.length ≤ 140737488355328) (hmx : ∀ t ∈ xs, t.xs.length ≤ maxLen) (hmy : ∀ t ∈ ys, t.xs.length ≤ maxLen) :
    Calls Try.prog 11 #[.slice a1 xs.length c1, .slice a2 ys.length c2] w fun e w' => e = .returned (.bool (decide (xs.map Tx.xs = ys.map Tx.xs))) ∧ ∃ q, w' = w.drewN q := by
  obtain ⟨n, hn⟩ : ∃ n, n = xs.length := ⟨_, rfl⟩
  by_cases hl : xs.length = ys.length
  · obtain ⟨q, hq⟩ : ∃ q, q = decide (xs.map Tx.xs = ys.map Tx.xs) := ⟨_, rfl⟩
    have HX : Hid (TxsS w a1 b1 o1 xs ∧ TxsS w a2 b2 o2 ys ∧ n = xs.length ∧ n = ys.length ∧ q = decide (xs.map Tx.xs = ys.map Tx.xs) ∧ (∀ t ∈ xs, t.xs.length ≤ maxLen) ∧ (∀ t ∈ ys, t.xs.length ≤ maxLen)) := ⟨hx, hy, hn, hn.trans hl, hq, hmx, hmy⟩
    rw [← hq, ← hl, ← hn]
    rw [← hn] at _hlx
    clear hx hy hl hn hq hmx hmy
    go_enter Try.func11, Try.ntmps11
    go_wp2
    go_loopw [5] (fun i wr => ∃ k : Nat, k ≤ n ∧ i = .int .i64 (k : Int) ∧ (xs.map Tx.xs).take k = (ys.map Tx.xs).take k ∧ ∃ q, wr = w.drewN q) (fun i _ => n - (intOf i).toNat)
    case atStart => exact ⟨0, Nat.zero_le _, rfl, rfl, 0, rfl⟩
    case round =>
      obtain ⟨k, hk, rfl, htk, hdr⟩ := hrel
      have HD : Hid (∃ d, wr = w.drewN d) := hdr
      have hsw : Stay w wr := by obtain ⟨d, rfl⟩ := hdr; exact Stay.drewN _ _
      clear hdr
      by_cases hlt : k < n
      · have h1 : k < xs.length := by rw [← HX.out.2.2.1]; exact hlt
        have h2 : k < ys.length := by rw [← HX.out.2.2.2.1]; exact hlt
        obtain rfl := HX.out.1.1 (by omega)
        obtain rfl := HX.out.2.1.1 (by omega)
        obtain ⟨hc1, hd1⟩ := (HX.out.1.stay hsw).2 k h1
        obtain ⟨hc2, hd2⟩ := (HX.out.2.1.stay hsw).2 k h2
        have hi1 : (k : Int) < (n : Int) := by omega
        have hst := fun V (hV : Stay wr V) => sameTexts_any V xs[k].a ys[k].a xs[k].b xs[k].o ys[k].b ys[k].o xs[k].c ys[k].c xs[k].xs ys[k].xs (StrsS.stay hd1 hV) (StrsS.stay hd2 hV) (HX.out.2.2.2.2.2.1 _ (List.getElem_mem h1)) (HX.out.2.2.2.2.2.2 _ (List.getElem_mem h2))
        have HE : Hid ((xs[k].xs = ys[k].xs → (xs.map Tx.xs).take (k + 1) = (ys.map Tx.xs).take (k + 1)) ∧ (¬ xs[k].xs = ys[k].xs → ¬ xs.map Tx.xs = ys.map Tx.xs)) := ⟨fun e => take_ext (by simpa using h1) (by simpa using h2) htk (by rw [List.getElem_map, List.getElem_map]; exact e), fun hn e => hn (by
          have : (xs.map Tx.xs)[k]'(by simpa using h1) = (ys.map Tx.xs)[k]'(by simpa using h2) := by simp only [e]
          simpa using this)⟩
        unfold Tx.v at hc1 hc2
        generalize xs[k] = x at *
        generalize ys[k] = y at *
        clear htk hd1 hd2
        by_cases hxy : x.xs = y.xs
        · rw [decide_eq_true hxy] at hst
          have HN : Hid (x.xs = y.xs) := hxy
          generalize x.xs.length = nx at *
          generalize y.xs.length = ny at *
          clear hxy
          go_wp2_with fail
          go_quiet ((first | (go_at_call 24; exact Calls.quiet_of (hst _ (Stay.drewN _ _)))))
          go_wp2
          exact ⟨⟨k + 1, by omega, by first | rfl | go_num | simp, HE.out.1 HN.out, drew_on HD.out nq⟩, by simp [intOf]; omega⟩
        · rw [decide_eq_false hxy] at hst
          have HN : Hid (¬ x.xs = y.xs) := hxy
          generalize x.xs.length = nx at *
          generalize y.xs.length = ny at *
          clear hxy
          go_wp2_with fail
          go_quiet ((first | (go_at_call 24; exact Calls.quiet_of (hst _ (Stay.drewN _ _)))))
          go_wp2
          go_ret
          exact ⟨by rw [HX.out.2.2.2.2.1, decide_eq_false (HE.out.2 HN.out)]; rfl, drew_on HD.out nq⟩
      · have hi1 : ¬ (k : Int) < (n : Int) := by omega
        have hall : xs.map Tx.xs = ys.map Tx.xs := by
          rw [List.take_of_length_le (by rw [List.length_map, ← HX.out.2.2.1]; omega), List.take_of_length_le (by rw [List.length_map, ← HX.out.2.2.2.1]; omega)] at htk
          exact htk
        have HQ : Hid (q = true) := by show q = true; rw [HX.out.2.2.2.2.1]; exact decide_eq_true hall
        clear htk hall
        go_wp2
        go_ret
        exact ⟨by rw [HQ.out]; rfl, HD.out⟩
  · rw [decide_eq_false (fun e => hl (by have := congrArg List.length e; simpa using this))]
    have hb : ((xs.length : Int) == (ys.length : Int)) = false := by simp; omega
    generalize xs.length = m at *
    generalize ys.length = m' at *
    clear hx hy hl hmx hmy
    go_enter Try.func11, Try.ntmps11
    go_wp2
    go_ret
    exact ⟨rfl, 0, rfl⟩
end Go.Proofs.Ytbbgembkdhcidaa
