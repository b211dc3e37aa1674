/- Lists of inputs, outputs, rules written. Written by tools/dc.py. -/
import Derived.Test.YtiobhadchakoiaaGreatDoorDC
namespace Go.Proofs.YtiobhadchakoiaaGreatDoor
open Go.RowKit Go.Maps

/-- Between two rounds of a list's writing. -/
def WlI (B b : Nat) (w : World) (bs sep : List UInt8) (ts : List Inp) (v : Value) (W : World) : Prop :=
  ∃ k : Nat, v = .int .i64 (k : Int) ∧ k ≤ ts.length ∧ (ts.take k).all Inp.ok = true ∧ Bld B b W (bs ++ catL sep ((ts.take k).map Inp.line)) ∧ (catL sep ((ts.take k).map Inp.line)).length ≤ k * (4301 + sep.length) ∧ Wk B b w W
theorem all_failsI {ts : List Inp} {k : Nat} (h : k < ts.length) (hk : ts[k].ok = false) : ts.all Inp.ok = false := by
  rw [List.all_eq_false]
  exact ⟨ts[k], List.getElem_mem h, by rw [hk]; decide⟩
theorem all_nextI {ts : List Inp} {k : Nat} (h : k < ts.length) (h1 : (ts.take k).all Inp.ok = true) (hk : ts[k].ok = true) : (ts.take (k + 1)).all Inp.ok = true := by
  rw [List.take_succ_eq_append_getElem h, List.all_append, h1]
  simp [hk]

set_option maxRecDepth 100000 in
set_option maxHeartbeats 4000000 in
theorem writeListI_any {B b : Nat} {w : World} {bs : List UInt8} (h : Bld B b w bs) (a : Option Addr) (bk off c : Nat) (ts : List Inp) (hM : Sure B b w (fun W => LsI W a bk off ts)) (sep : ByteArray) (bx : Nat) (hX : Sure B b w (fun W => W.cell? ⟨bx, 0, none⟩ = some (.func (.func 27) #[] #[]))) (hT : Sure B b w Tabs)
    (hlen : bs.length + ts.length * (4301 + sep.size) ≤ 140737488355328) (hBw : B ≤ w.heap.size) :
    Calls Tryz.prog 25 #[.pointer (some ⟨b, 0, none⟩), .slice a ts.length c, .string sep, .func (.func 43) #[] #[.pointer (some ⟨bx, 0, none⟩)]] w (Wrote B b w bs (ts.all Inp.ok) (catL sep.data.toList (ts.map Inp.line)) (ts.length * (4301 + sep.size))) := by
  have HM : Hid (Sure B b w (fun W => LsI W a bk off ts)) := hM
  have HT : Hid (Sure B b w Tabs) := hT
  have HXB : Hid (Sure B b w (fun W => W.cell? ⟨bx, 0, none⟩ = some (.func (.func 27) #[] #[]))) := hX
  have H0 : Hid (WlI B b w bs sep.data.toList ts (.int .i64 0) w) := ⟨0, rfl, Nat.zero_le _, by simp, by simpa [catL] using h, by simp [catL], Wk.refl _ _ _⟩
  have HA : Hid (0 < ts.length → a = some ⟨bk, off, none⟩) := hM.now.1
  have HL : Hid (bs.length + ts.length * (4301 + sep.size) ≤ 140737488355328) := hlen
  have hsep : sep.data.toList.length = sep.size := by simp
  clear hM hT h hlen hX
  obtain ⟨n, hn⟩ : ∃ n, n = ts.length := ⟨_, rfl⟩
  have HN : Hid (n = ts.length) := hn
  rw [← hn]
  have hnb : n ≤ 140737488355328 := by
    have h1 := HL.out
    have h2 := Nat.mul_le_mul_left n (show 1 ≤ 4301 + sep.size by omega)
    rw [← hn] at h1
    omega
  clear hn
  go_enter Tryz.func25, Tryz.ntmps25
  go_wp2_with fail
  go_loopw [13] (fun v wr => WlI B b w bs sep.data.toList ts v wr) (fun v _ => n - (intOf v).toNat)
  case atStart => exact H0.out
  case round =>
    obtain ⟨k, rfl, hk, hall, hB, hcl, hW⟩ := hrel
    clear H0
    rw [← HN.out] at hk
    by_cases hlt : k < n
    · have hkt : k < ts.length := by rw [← HN.out]; exact hlt
      have hki : (k : Int) < (n : Int) := by omega
      obtain rfl := HA.out (by omega)
      have c0 : wr.cell? ⟨bk, off + k * 3, none⟩ = some (.string ts[k].pred) := (HM.out wr hW).2 k hkt 0 _ rfl
      have c1 : wr.cell? ⟨bk, off + k * 3 + 1, none⟩ = some (.int .i64 ts[k].ar) := (HM.out wr hW).2 k hkt 1 _ rfl
      have c2 : wr.cell? ⟨bk, off + k * 3 + 2, none⟩ = some (.string ts[k].file) := (HM.out wr hW).2 k hkt 2 _ rfl
      obtain ⟨t, ht⟩ : ∃ t, ts[k] = t := ⟨_, rfl⟩
      rw [ht] at c0 c1 c2
      obtain ⟨p, ar, f⟩ := t
      dsimp only at c0 c1 c2
      have hbl := hB.lt
      have hcat := catL_take Inp.line sep.data.toList ts k hkt
      rw [ht] at hcat
      have HY : Hid (ts[k] = ⟨p, ar, f⟩ ∧ (ts.take k).all Inp.ok = true ∧ (catL sep.data.toList ((ts.take k).map Inp.line)).length ≤ k * (4301 + sep.size) ∧ bs.length + n * (4301 + sep.size) ≤ 140737488355328 ∧ k * (4301 + sep.size) + (4301 + sep.size) ≤ n * (4301 + sep.size)) := by
        refine ⟨ht, hall, by rw [← hsep]; exact hcl, by rw [HN.out]; exact HL.out, ?_⟩
        have := Nat.mul_le_mul_right (4301 + sep.size) (show k + 1 ≤ n by omega)
        rw [Nat.add_mul, Nat.one_mul] at this
        exact this
      obtain ⟨pre, hpre⟩ : ∃ pre, pre = catL sep.data.toList ((ts.take k).map Inp.line) := ⟨_, rfl⟩
      rw [← hpre] at hB hcat HY
      have HW : Hid (Wk B b w (wr.alloc (.cells #[.string p, .int .i64 ar, .string f] 37))) := hW.trans (Wk.new (Nat.le_trans hBw hW.size) _)
      have hB0 := hB.stay (Stay.new wr (.cells #[.string p, .int .i64 ar, .string f] 37))
      have hBw2 : B ≤ (wr.alloc (.cells #[.string p, .int .i64 ar, .string f] 37)).heap.size := Nat.le_trans hBw HW.out.size
      clear hall hcl hW ht hpre hB
      by_cases hk0 : k = 0
      · rw [if_pos hk0] at hcat
        have hk0i : (k : Int) ≤ 0 := by omega
        have HK : Hid (k = 0) := hk0
        clear hk0
        have HC : Hid (catL sep.data.toList ((ts.take (k + 1)).map Inp.line) = pre ++ Inp.line ⟨p, ar, f⟩) := hcat
        clear hcat
        have hw := lineI1_any hB0 ⟨p, ar, f⟩ bx (HXB.out.next HW.out) (HT.out.next HW.out) (by
          have := HY.out.2.2.1; have := HY.out.2.2.2.1; have := HY.out.2.2.2.2
          rw [List.length_append]; omega) hBw2
        unfold Inp.v at hw
        dsimp only at hw
        cases hok : Inp.ok ⟨p, ar, f⟩
        · rw [hok] at hw
          have HO : Hid (Inp.ok ⟨p, ar, f⟩ = false) := hok
          clear hok
          go_wp2_with (first
            | (go_at_call 43; refine hw.mono ?_; rintro e W1 ⟨rfl, cs, hB1, hcs, hcl, hb1⟩))
          go_ret
          exact ⟨by rw [all_failsI hkt (by rw [HY.out.1]; exact HO.out)]; rfl, pre ++ cs, by simpa using hB1, (fun h => by rw [all_failsI hkt (by rw [HY.out.1]; exact HO.out)] at h; cases h), by
            have := HY.out.2.2.1; have := HY.out.2.2.2.2
            rw [List.length_append]; omega, HW.out.trans hb1⟩
        · rw [hok] at hw
          have HO : Hid (Inp.ok ⟨p, ar, f⟩ = true) := hok
          clear hok
          go_wp2_with (first
            | (go_at_call 43; refine hw.mono ?_; rintro e W1 ⟨rfl, cs, hB1, hcs, hcl, hb1⟩; obtain rfl := hcs rfl))
          go_roundw
          case rel => exact ⟨k + 1, by simp, hkt, all_nextI hkt HY.out.2.1 (by rw [HY.out.1]; exact HO.out), by rw [HC.out]; simpa using hB1, by
            rw [HC.out, List.length_append, hsep, Nat.add_mul]
            have := HY.out.2.2.1
            omega, HW.out.trans hb1⟩
          case measure => simp [intOf]; omega
      · have hk0i : (0 : Int) < (k : Int) := by omega
        rw [if_neg hk0] at hcat
        have HC : Hid (catL sep.data.toList ((ts.take (k + 1)).map Inp.line) = pre ++ (sep.data.toList ++ Inp.line ⟨p, ar, f⟩)) := hcat
        clear hcat hk0
        have hws := writeStringK hB0 sep (by
          have := HY.out.2.2.1; have := HY.out.2.2.2.1; have := HY.out.2.2.2.2
          rw [List.length_append]; omega) hBw2
        have hw := fun (W : World) (hBW : Bld B b W (bs ++ pre ++ sep.data.toList)) (hWW : Wk B b w W) => lineI1_any hBW ⟨p, ar, f⟩ bx (HXB.out.next hWW) (HT.out.next hWW) (by
          have := HY.out.2.2.1; have := HY.out.2.2.2.1; have := HY.out.2.2.2.2
          rw [List.length_append, List.length_append, hsep]; omega) (Nat.le_trans hBw hWW.size)
        unfold Inp.v at hw
        dsimp only at hw
        cases hok : Inp.ok ⟨p, ar, f⟩
        · rw [hok] at hw
          have HO : Hid (Inp.ok ⟨p, ar, f⟩ = false) := hok
          clear hok
          go_wp2_with (first
            | (go_at_call 42; refine hws.mono ?_; rintro e W1 ⟨rfl, hB1, hb1⟩; have d0 : W1.cell? ⟨wr.heap.size, 0, none⟩ = some (.string p) := n_cells (by decide) hbl hb1 0 _ rfl; have d1 : W1.cell? ⟨wr.heap.size, 1, none⟩ = some (.int .i64 ar) := n_cells (by decide) hbl hb1 1 _ rfl; have d2 : W1.cell? ⟨wr.heap.size, 2, none⟩ = some (.string f) := n_cells (by decide) hbl hb1 2 _ rfl; have hw1 := hw W1 hB1 (HW.out.trans hb1); have HW1 : Hid (Wk B b w W1) := HW.out.trans hb1; clear hw hB1 hb1)
            | (go_at_call 43; refine hw1.mono ?_; rintro e W2 ⟨rfl, cs, hB2, hcs, hcl, hb2⟩))
          go_ret
          exact ⟨by rw [all_failsI hkt (by rw [HY.out.1]; exact HO.out)]; rfl, pre ++ (sep.data.toList ++ cs), by simpa using hB2, (fun h => by rw [all_failsI hkt (by rw [HY.out.1]; exact HO.out)] at h; cases h), by
            have := HY.out.2.2.1; have := HY.out.2.2.2.2
            rw [List.length_append, List.length_append, hsep]; omega, HW1.out.trans hb2⟩
        · rw [hok] at hw
          have HO : Hid (Inp.ok ⟨p, ar, f⟩ = true) := hok
          clear hok
          go_wp2_with (first
            | (go_at_call 42; refine hws.mono ?_; rintro e W1 ⟨rfl, hB1, hb1⟩; have d0 : W1.cell? ⟨wr.heap.size, 0, none⟩ = some (.string p) := n_cells (by decide) hbl hb1 0 _ rfl; have d1 : W1.cell? ⟨wr.heap.size, 1, none⟩ = some (.int .i64 ar) := n_cells (by decide) hbl hb1 1 _ rfl; have d2 : W1.cell? ⟨wr.heap.size, 2, none⟩ = some (.string f) := n_cells (by decide) hbl hb1 2 _ rfl; have hw1 := hw W1 hB1 (HW.out.trans hb1); have HW1 : Hid (Wk B b w W1) := HW.out.trans hb1; clear hw hB1 hb1)
            | (go_at_call 43; refine hw1.mono ?_; rintro e W2 ⟨rfl, cs, hB2, hcs, hcl, hb2⟩; obtain rfl := hcs rfl))
          go_roundw
          case rel => exact ⟨k + 1, by simp, hkt, all_nextI hkt HY.out.2.1 (by rw [HY.out.1]; exact HO.out), by rw [HC.out]; simpa using hB2, by
            rw [HC.out, List.length_append, List.length_append, hsep, Nat.add_mul]
            have := HY.out.2.2.1
            omega, HW1.out.trans hb2⟩
          case measure => simp [intOf]; omega
    · obtain rfl : k = n := by omega
      have HX : Hid (Wrote B b w bs (ts.all Inp.ok) (catL sep.data.toList (ts.map Inp.line)) (k * (4301 + sep.size)) (.returned (.bool true)) wr) := by
        rw [HN.out, List.take_length] at hall
        rw [HN.out, List.take_length] at hB hcl
        refine ⟨by rw [hall], _, hB, fun _ => rfl, ?_, hW⟩
        rw [hsep] at hcl
        rw [HN.out]; exact hcl
      clear hall hB hcl hW
      have hge : ¬ (k : Int) < (k : Int) := by omega
      go_wp2
      go_ret
      exact HX.out

/-- Between two rounds of a list's writing. -/
def WlO (B b : Nat) (w : World) (bs sep : List UInt8) (ts : List Oup) (v : Value) (W : World) : Prop :=
  ∃ k : Nat, v = .int .i64 (k : Int) ∧ k ≤ ts.length ∧ (ts.take k).all Oup.ok = true ∧ Bld B b W (bs ++ catL sep ((ts.take k).map Oup.line)) ∧ (catL sep ((ts.take k).map Oup.line)).length ≤ k * (4301 + sep.length) ∧ Wk B b w W
theorem all_failsO {ts : List Oup} {k : Nat} (h : k < ts.length) (hk : ts[k].ok = false) : ts.all Oup.ok = false := by
  rw [List.all_eq_false]
  exact ⟨ts[k], List.getElem_mem h, by rw [hk]; decide⟩
theorem all_nextO {ts : List Oup} {k : Nat} (h : k < ts.length) (h1 : (ts.take k).all Oup.ok = true) (hk : ts[k].ok = true) : (ts.take (k + 1)).all Oup.ok = true := by
  rw [List.take_succ_eq_append_getElem h, List.all_append, h1]
  simp [hk]

set_option maxRecDepth 100000 in
set_option maxHeartbeats 4000000 in
theorem writeListO_any {B b : Nat} {w : World} {bs : List UInt8} (h : Bld B b w bs) (a : Option Addr) (bk off c : Nat) (ts : List Oup) (hM : Sure B b w (fun W => LsO W a bk off ts)) (sep : ByteArray) (bx : Nat) (hX : Sure B b w (fun W => W.cell? ⟨bx, 0, none⟩ = some (.func (.func 30) #[] #[]))) (hT : Sure B b w Tabs)
    (hlen : bs.length + ts.length * (4301 + sep.size) ≤ 140737488355328) (hBw : B ≤ w.heap.size) :
    Calls Tryz.prog 28 #[.pointer (some ⟨b, 0, none⟩), .slice a ts.length c, .string sep, .func (.func 48) #[] #[.pointer (some ⟨bx, 0, none⟩)]] w (Wrote B b w bs (ts.all Oup.ok) (catL sep.data.toList (ts.map Oup.line)) (ts.length * (4301 + sep.size))) := by
  have HM : Hid (Sure B b w (fun W => LsO W a bk off ts)) := hM
  have HT : Hid (Sure B b w Tabs) := hT
  have HXB : Hid (Sure B b w (fun W => W.cell? ⟨bx, 0, none⟩ = some (.func (.func 30) #[] #[]))) := hX
  have H0 : Hid (WlO B b w bs sep.data.toList ts (.int .i64 0) w) := ⟨0, rfl, Nat.zero_le _, by simp, by simpa [catL] using h, by simp [catL], Wk.refl _ _ _⟩
  have HA : Hid (0 < ts.length → a = some ⟨bk, off, none⟩) := hM.now.1
  have HL : Hid (bs.length + ts.length * (4301 + sep.size) ≤ 140737488355328) := hlen
  have hsep : sep.data.toList.length = sep.size := by simp
  clear hM hT h hlen hX
  obtain ⟨n, hn⟩ : ∃ n, n = ts.length := ⟨_, rfl⟩
  have HN : Hid (n = ts.length) := hn
  rw [← hn]
  have hnb : n ≤ 140737488355328 := by
    have h1 := HL.out
    have h2 := Nat.mul_le_mul_left n (show 1 ≤ 4301 + sep.size by omega)
    rw [← hn] at h1
    omega
  clear hn
  go_enter Tryz.func28, Tryz.ntmps28
  go_wp2_with fail
  go_loopw [13] (fun v wr => WlO B b w bs sep.data.toList ts v wr) (fun v _ => n - (intOf v).toNat)
  case atStart => exact H0.out
  case round =>
    obtain ⟨k, rfl, hk, hall, hB, hcl, hW⟩ := hrel
    clear H0
    rw [← HN.out] at hk
    by_cases hlt : k < n
    · have hkt : k < ts.length := by rw [← HN.out]; exact hlt
      have hki : (k : Int) < (n : Int) := by omega
      obtain rfl := HA.out (by omega)
      have c0 : wr.cell? ⟨bk, off + k * 2, none⟩ = some (.string ts[k].pred) := (HM.out wr hW).2 k hkt 0 _ rfl
      have c1 : wr.cell? ⟨bk, off + k * 2 + 1, none⟩ = some (.int .i64 ts[k].ar) := (HM.out wr hW).2 k hkt 1 _ rfl
      obtain ⟨t, ht⟩ : ∃ t, ts[k] = t := ⟨_, rfl⟩
      rw [ht] at c0 c1
      obtain ⟨p, ar⟩ := t
      dsimp only at c0 c1
      have hbl := hB.lt
      have hcat := catL_take Oup.line sep.data.toList ts k hkt
      rw [ht] at hcat
      have HY : Hid (ts[k] = ⟨p, ar⟩ ∧ (ts.take k).all Oup.ok = true ∧ (catL sep.data.toList ((ts.take k).map Oup.line)).length ≤ k * (4301 + sep.size) ∧ bs.length + n * (4301 + sep.size) ≤ 140737488355328 ∧ k * (4301 + sep.size) + (4301 + sep.size) ≤ n * (4301 + sep.size)) := by
        refine ⟨ht, hall, by rw [← hsep]; exact hcl, by rw [HN.out]; exact HL.out, ?_⟩
        have := Nat.mul_le_mul_right (4301 + sep.size) (show k + 1 ≤ n by omega)
        rw [Nat.add_mul, Nat.one_mul] at this
        exact this
      obtain ⟨pre, hpre⟩ : ∃ pre, pre = catL sep.data.toList ((ts.take k).map Oup.line) := ⟨_, rfl⟩
      rw [← hpre] at hB hcat HY
      have HW : Hid (Wk B b w (wr.alloc (.cells #[.string p, .int .i64 ar] 41))) := hW.trans (Wk.new (Nat.le_trans hBw hW.size) _)
      have hB0 := hB.stay (Stay.new wr (.cells #[.string p, .int .i64 ar] 41))
      have hBw2 : B ≤ (wr.alloc (.cells #[.string p, .int .i64 ar] 41)).heap.size := Nat.le_trans hBw HW.out.size
      clear hall hcl hW ht hpre hB
      by_cases hk0 : k = 0
      · rw [if_pos hk0] at hcat
        have hk0i : (k : Int) ≤ 0 := by omega
        have HK : Hid (k = 0) := hk0
        clear hk0
        have HC : Hid (catL sep.data.toList ((ts.take (k + 1)).map Oup.line) = pre ++ Oup.line ⟨p, ar⟩) := hcat
        clear hcat
        have hw := lineO1_any hB0 ⟨p, ar⟩ bx (HXB.out.next HW.out) (HT.out.next HW.out) (by
          have := HY.out.2.2.1; have := HY.out.2.2.2.1; have := HY.out.2.2.2.2
          rw [List.length_append]; omega) hBw2
        unfold Oup.v at hw
        dsimp only at hw
        cases hok : Oup.ok ⟨p, ar⟩
        · rw [hok] at hw
          have HO : Hid (Oup.ok ⟨p, ar⟩ = false) := hok
          clear hok
          go_wp2_with (first
            | (go_at_call 48; refine hw.mono ?_; rintro e W1 ⟨rfl, cs, hB1, hcs, hcl, hb1⟩))
          go_ret
          exact ⟨by rw [all_failsO hkt (by rw [HY.out.1]; exact HO.out)]; rfl, pre ++ cs, by simpa using hB1, (fun h => by rw [all_failsO hkt (by rw [HY.out.1]; exact HO.out)] at h; cases h), by
            have := HY.out.2.2.1; have := HY.out.2.2.2.2
            rw [List.length_append]; omega, HW.out.trans hb1⟩
        · rw [hok] at hw
          have HO : Hid (Oup.ok ⟨p, ar⟩ = true) := hok
          clear hok
          go_wp2_with (first
            | (go_at_call 48; refine hw.mono ?_; rintro e W1 ⟨rfl, cs, hB1, hcs, hcl, hb1⟩; obtain rfl := hcs rfl))
          go_roundw
          case rel => exact ⟨k + 1, by simp, hkt, all_nextO hkt HY.out.2.1 (by rw [HY.out.1]; exact HO.out), by rw [HC.out]; simpa using hB1, by
            rw [HC.out, List.length_append, hsep, Nat.add_mul]
            have := HY.out.2.2.1
            omega, HW.out.trans hb1⟩
          case measure => simp [intOf]; omega
      · have hk0i : (0 : Int) < (k : Int) := by omega
        rw [if_neg hk0] at hcat
        have HC : Hid (catL sep.data.toList ((ts.take (k + 1)).map Oup.line) = pre ++ (sep.data.toList ++ Oup.line ⟨p, ar⟩)) := hcat
        clear hcat hk0
        have hws := writeStringK hB0 sep (by
          have := HY.out.2.2.1; have := HY.out.2.2.2.1; have := HY.out.2.2.2.2
          rw [List.length_append]; omega) hBw2
        have hw := fun (W : World) (hBW : Bld B b W (bs ++ pre ++ sep.data.toList)) (hWW : Wk B b w W) => lineO1_any hBW ⟨p, ar⟩ bx (HXB.out.next hWW) (HT.out.next hWW) (by
          have := HY.out.2.2.1; have := HY.out.2.2.2.1; have := HY.out.2.2.2.2
          rw [List.length_append, List.length_append, hsep]; omega) (Nat.le_trans hBw hWW.size)
        unfold Oup.v at hw
        dsimp only at hw
        cases hok : Oup.ok ⟨p, ar⟩
        · rw [hok] at hw
          have HO : Hid (Oup.ok ⟨p, ar⟩ = false) := hok
          clear hok
          go_wp2_with (first
            | (go_at_call 42; refine hws.mono ?_; rintro e W1 ⟨rfl, hB1, hb1⟩; have d0 : W1.cell? ⟨wr.heap.size, 0, none⟩ = some (.string p) := n_cells (by decide) hbl hb1 0 _ rfl; have d1 : W1.cell? ⟨wr.heap.size, 1, none⟩ = some (.int .i64 ar) := n_cells (by decide) hbl hb1 1 _ rfl; have hw1 := hw W1 hB1 (HW.out.trans hb1); have HW1 : Hid (Wk B b w W1) := HW.out.trans hb1; clear hw hB1 hb1)
            | (go_at_call 48; refine hw1.mono ?_; rintro e W2 ⟨rfl, cs, hB2, hcs, hcl, hb2⟩))
          go_ret
          exact ⟨by rw [all_failsO hkt (by rw [HY.out.1]; exact HO.out)]; rfl, pre ++ (sep.data.toList ++ cs), by simpa using hB2, (fun h => by rw [all_failsO hkt (by rw [HY.out.1]; exact HO.out)] at h; cases h), by
            have := HY.out.2.2.1; have := HY.out.2.2.2.2
            rw [List.length_append, List.length_append, hsep]; omega, HW1.out.trans hb2⟩
        · rw [hok] at hw
          have HO : Hid (Oup.ok ⟨p, ar⟩ = true) := hok
          clear hok
          go_wp2_with (first
            | (go_at_call 42; refine hws.mono ?_; rintro e W1 ⟨rfl, hB1, hb1⟩; have d0 : W1.cell? ⟨wr.heap.size, 0, none⟩ = some (.string p) := n_cells (by decide) hbl hb1 0 _ rfl; have d1 : W1.cell? ⟨wr.heap.size, 1, none⟩ = some (.int .i64 ar) := n_cells (by decide) hbl hb1 1 _ rfl; have hw1 := hw W1 hB1 (HW.out.trans hb1); have HW1 : Hid (Wk B b w W1) := HW.out.trans hb1; clear hw hB1 hb1)
            | (go_at_call 48; refine hw1.mono ?_; rintro e W2 ⟨rfl, cs, hB2, hcs, hcl, hb2⟩; obtain rfl := hcs rfl))
          go_roundw
          case rel => exact ⟨k + 1, by simp, hkt, all_nextO hkt HY.out.2.1 (by rw [HY.out.1]; exact HO.out), by rw [HC.out]; simpa using hB2, by
            rw [HC.out, List.length_append, List.length_append, hsep, Nat.add_mul]
            have := HY.out.2.2.1
            omega, HW1.out.trans hb2⟩
          case measure => simp [intOf]; omega
    · obtain rfl : k = n := by omega
      have HX : Hid (Wrote B b w bs (ts.all Oup.ok) (catL sep.data.toList (ts.map Oup.line)) (k * (4301 + sep.size)) (.returned (.bool true)) wr) := by
        rw [HN.out, List.take_length] at hall
        rw [HN.out, List.take_length] at hB hcl
        refine ⟨by rw [hall], _, hB, fun _ => rfl, ?_, hW⟩
        rw [hsep] at hcl
        rw [HN.out]; exact hcl
      clear hall hB hcl hW
      have hge : ¬ (k : Int) < (k : Int) := by omega
      go_wp2
      go_ret
      exact HX.out

/-- Between two rounds of a list's writing. -/
def WlR (B b : Nat) (w : World) (bs sep : List UInt8) (ts : List Ru) (v : Value) (W : World) : Prop :=
  ∃ k : Nat, v = .int .i64 (k : Int) ∧ k ≤ ts.length ∧ (ts.take k).all Ru.ok = true ∧ Bld B b W (bs ++ catL sep ((ts.take k).map Ru.line)) ∧ (catL sep ((ts.take k).map Ru.line)).length ≤ k * (17000001 + sep.length) ∧ Wk B b w W
theorem all_failsR {ts : List Ru} {k : Nat} (h : k < ts.length) (hk : ts[k].ok = false) : ts.all Ru.ok = false := by
  rw [List.all_eq_false]
  exact ⟨ts[k], List.getElem_mem h, by rw [hk]; decide⟩
theorem all_nextR {ts : List Ru} {k : Nat} (h : k < ts.length) (h1 : (ts.take k).all Ru.ok = true) (hk : ts[k].ok = true) : (ts.take (k + 1)).all Ru.ok = true := by
  rw [List.take_succ_eq_append_getElem h, List.all_append, h1]
  simp [hk]

set_option maxRecDepth 100000 in
set_option maxHeartbeats 4000000 in
theorem writeListR_any {B b : Nat} {w : World} {bs : List UInt8} (h : Bld B b w bs) (a : Option Addr) (bk off c : Nat) (ts : List Ru) (hM : Sure B b w (fun W => LsR W a bk off ts)) (sep : ByteArray) (bx : Nat) (hX : Sure B b w (fun W => W.cell? ⟨bx, 0, none⟩ = some (.func (.func 33) #[] #[]))) (hT : Sure B b w Tabs)
    (hlen : bs.length + ts.length * (17000001 + sep.size) ≤ 140737488355328) (hBw : B ≤ w.heap.size) :
    Calls Tryz.prog 31 #[.pointer (some ⟨b, 0, none⟩), .slice a ts.length c, .string sep, .func (.func 49) #[] #[.pointer (some ⟨bx, 0, none⟩)]] w (Wrote B b w bs (ts.all Ru.ok) (catL sep.data.toList (ts.map Ru.line)) (ts.length * (17000001 + sep.size))) := by
  have HM : Hid (Sure B b w (fun W => LsR W a bk off ts)) := hM
  have HT : Hid (Sure B b w Tabs) := hT
  have HXB : Hid (Sure B b w (fun W => W.cell? ⟨bx, 0, none⟩ = some (.func (.func 33) #[] #[]))) := hX
  have H0 : Hid (WlR B b w bs sep.data.toList ts (.int .i64 0) w) := ⟨0, rfl, Nat.zero_le _, by simp, by simpa [catL] using h, by simp [catL], Wk.refl _ _ _⟩
  have HA : Hid (0 < ts.length → a = some ⟨bk, off, none⟩) := hM.now.1.1
  have HL : Hid (bs.length + ts.length * (17000001 + sep.size) ≤ 140737488355328) := hlen
  have hsep : sep.data.toList.length = sep.size := by simp
  clear hM hT h hlen hX
  obtain ⟨n, hn⟩ : ∃ n, n = ts.length := ⟨_, rfl⟩
  have HN : Hid (n = ts.length) := hn
  rw [← hn]
  have hnb : n ≤ 140737488355328 := by
    have h1 := HL.out
    have h2 := Nat.mul_le_mul_left n (show 1 ≤ 17000001 + sep.size by omega)
    rw [← hn] at h1
    omega
  clear hn
  go_enter Tryz.func31, Tryz.ntmps31
  go_wp2_with fail
  go_loopw [13] (fun v wr => WlR B b w bs sep.data.toList ts v wr) (fun v _ => n - (intOf v).toNat)
  case atStart => exact H0.out
  case round =>
    obtain ⟨k, rfl, hk, hall, hB, hcl, hW⟩ := hrel
    clear H0
    rw [← HN.out] at hk
    by_cases hlt : k < n
    · have hkt : k < ts.length := by rw [← HN.out]; exact hlt
      have hki : (k : Int) < (n : Int) := by omega
      obtain rfl := HA.out (by omega)
      have c0 : wr.cell? ⟨bk, off + k * 3, none⟩ = some (.string ts[k].head.pred) := (HM.out wr hW).1.2 k hkt 0 _ rfl
      have c1 : wr.cell? ⟨bk, off + k * 3 + 1, none⟩ = some (ts[k].head.sl) := (HM.out wr hW).1.2 k hkt 1 _ rfl
      have c2 : wr.cell? ⟨bk, off + k * 3 + 2, none⟩ = some (.slice ts[k].a ts[k].body.length ts[k].cap) := (HM.out wr hW).1.2 k hkt 2 _ rfl
      have hsu : Sure B b w (fun W => ts[k].In W) := fun W hWW => (HM.out W hWW).2 _ (List.getElem_mem hkt)
      obtain ⟨t, ht⟩ : ∃ t, ts[k] = t := ⟨_, rfl⟩
      rw [ht] at c0 c1 c2 hsu
      obtain ⟨⟨p, ha, hb2, ho2, hcap, hts⟩, xa, xb, xo, xcap, xls⟩ := t
      unfold At.sl at c1
      dsimp only at c0 c1 c2
      have HSU : Hid (Sure B b w (fun W => Ru.In ⟨⟨p, ha, hb2, ho2, hcap, hts⟩, xa, xb, xo, xcap, xls⟩ W)) := hsu
      clear hsu
      have hbl := hB.lt
      have hcat := catL_take Ru.line sep.data.toList ts k hkt
      rw [ht] at hcat
      have HY : Hid (ts[k] = ⟨⟨p, ha, hb2, ho2, hcap, hts⟩, xa, xb, xo, xcap, xls⟩ ∧ (ts.take k).all Ru.ok = true ∧ (catL sep.data.toList ((ts.take k).map Ru.line)).length ≤ k * (17000001 + sep.size) ∧ bs.length + n * (17000001 + sep.size) ≤ 140737488355328 ∧ k * (17000001 + sep.size) + (17000001 + sep.size) ≤ n * (17000001 + sep.size)) := by
        refine ⟨ht, hall, by rw [← hsep]; exact hcl, by rw [HN.out]; exact HL.out, ?_⟩
        have := Nat.mul_le_mul_right (17000001 + sep.size) (show k + 1 ≤ n by omega)
        rw [Nat.add_mul, Nat.one_mul] at this
        exact this
      obtain ⟨pre, hpre⟩ : ∃ pre, pre = catL sep.data.toList ((ts.take k).map Ru.line) := ⟨_, rfl⟩
      rw [← hpre] at hB hcat HY
      have HW : Hid (Wk B b w (wr.alloc (.cells #[.string p, .slice ha hts.length hcap, .slice xa xls.length xcap] 48))) := hW.trans (Wk.new (Nat.le_trans hBw hW.size) _)
      have hB0 := hB.stay (Stay.new wr (.cells #[.string p, .slice ha hts.length hcap, .slice xa xls.length xcap] 48))
      have hBw2 : B ≤ (wr.alloc (.cells #[.string p, .slice ha hts.length hcap, .slice xa xls.length xcap] 48)).heap.size := Nat.le_trans hBw HW.out.size
      clear hall hcl hW ht hpre hB
      by_cases hk0 : k = 0
      · rw [if_pos hk0] at hcat
        have hk0i : (k : Int) ≤ 0 := by omega
        have HK : Hid (k = 0) := hk0
        clear hk0
        have HC : Hid (catL sep.data.toList ((ts.take (k + 1)).map Ru.line) = pre ++ Ru.line ⟨⟨p, ha, hb2, ho2, hcap, hts⟩, xa, xb, xo, xcap, xls⟩) := hcat
        clear hcat
        have hw := lineR1_any hB0 ⟨⟨p, ha, hb2, ho2, hcap, hts⟩, xa, xb, xo, xcap, xls⟩ bx (HXB.out.next HW.out) (HSU.out.next HW.out) (HT.out.next HW.out) (by
          have := HY.out.2.2.1; have := HY.out.2.2.2.1; have := HY.out.2.2.2.2
          rw [List.length_append]; omega) hBw2
        unfold Ru.v At.sl at hw
        dsimp only at hw
        cases hok : Ru.ok ⟨⟨p, ha, hb2, ho2, hcap, hts⟩, xa, xb, xo, xcap, xls⟩
        · rw [hok] at hw
          have HO : Hid (Ru.ok ⟨⟨p, ha, hb2, ho2, hcap, hts⟩, xa, xb, xo, xcap, xls⟩ = false) := hok
          clear hok
          go_wp2_with (first
            | (go_at_call 49; refine hw.mono ?_; rintro e W1 ⟨rfl, cs, hB1, hcs, hcl, hb1⟩))
          go_ret
          exact ⟨by rw [all_failsR hkt (by rw [HY.out.1]; exact HO.out)]; rfl, pre ++ cs, by simpa using hB1, (fun h => by rw [all_failsR hkt (by rw [HY.out.1]; exact HO.out)] at h; cases h), by
            have := HY.out.2.2.1; have := HY.out.2.2.2.2
            rw [List.length_append]; omega, HW.out.trans hb1⟩
        · rw [hok] at hw
          have HO : Hid (Ru.ok ⟨⟨p, ha, hb2, ho2, hcap, hts⟩, xa, xb, xo, xcap, xls⟩ = true) := hok
          clear hok
          go_wp2_with (first
            | (go_at_call 49; refine hw.mono ?_; rintro e W1 ⟨rfl, cs, hB1, hcs, hcl, hb1⟩; obtain rfl := hcs rfl))
          go_roundw
          case rel => exact ⟨k + 1, by simp, hkt, all_nextR hkt HY.out.2.1 (by rw [HY.out.1]; exact HO.out), by rw [HC.out]; simpa using hB1, by
            rw [HC.out, List.length_append, hsep, Nat.add_mul]
            have := HY.out.2.2.1
            omega, HW.out.trans hb1⟩
          case measure => simp [intOf]; omega
      · have hk0i : (0 : Int) < (k : Int) := by omega
        rw [if_neg hk0] at hcat
        have HC : Hid (catL sep.data.toList ((ts.take (k + 1)).map Ru.line) = pre ++ (sep.data.toList ++ Ru.line ⟨⟨p, ha, hb2, ho2, hcap, hts⟩, xa, xb, xo, xcap, xls⟩)) := hcat
        clear hcat hk0
        have hws := writeStringK hB0 sep (by
          have := HY.out.2.2.1; have := HY.out.2.2.2.1; have := HY.out.2.2.2.2
          rw [List.length_append]; omega) hBw2
        have hw := fun (W : World) (hBW : Bld B b W (bs ++ pre ++ sep.data.toList)) (hWW : Wk B b w W) => lineR1_any hBW ⟨⟨p, ha, hb2, ho2, hcap, hts⟩, xa, xb, xo, xcap, xls⟩ bx (HXB.out.next hWW) (HSU.out.next hWW) (HT.out.next hWW) (by
          have := HY.out.2.2.1; have := HY.out.2.2.2.1; have := HY.out.2.2.2.2
          rw [List.length_append, List.length_append, hsep]; omega) (Nat.le_trans hBw hWW.size)
        unfold Ru.v At.sl at hw
        dsimp only at hw
        cases hok : Ru.ok ⟨⟨p, ha, hb2, ho2, hcap, hts⟩, xa, xb, xo, xcap, xls⟩
        · rw [hok] at hw
          have HO : Hid (Ru.ok ⟨⟨p, ha, hb2, ho2, hcap, hts⟩, xa, xb, xo, xcap, xls⟩ = false) := hok
          clear hok
          go_wp2_with (first
            | (go_at_call 42; refine hws.mono ?_; rintro e W1 ⟨rfl, hB1, hb1⟩; have d0 : W1.cell? ⟨wr.heap.size, 0, none⟩ = some (.string p) := n_cells (by decide) hbl hb1 0 _ rfl; have d1 : W1.cell? ⟨wr.heap.size, 1, none⟩ = some (.slice ha hts.length hcap) := n_cells (by decide) hbl hb1 1 _ rfl; have d2 : W1.cell? ⟨wr.heap.size, 2, none⟩ = some (.slice xa xls.length xcap) := n_cells (by decide) hbl hb1 2 _ rfl; have hw1 := hw W1 hB1 (HW.out.trans hb1); have HW1 : Hid (Wk B b w W1) := HW.out.trans hb1; clear hw hB1 hb1)
            | (go_at_call 49; refine hw1.mono ?_; rintro e W2 ⟨rfl, cs, hB2, hcs, hcl, hb2⟩))
          go_ret
          exact ⟨by rw [all_failsR hkt (by rw [HY.out.1]; exact HO.out)]; rfl, pre ++ (sep.data.toList ++ cs), by simpa using hB2, (fun h => by rw [all_failsR hkt (by rw [HY.out.1]; exact HO.out)] at h; cases h), by
            have := HY.out.2.2.1; have := HY.out.2.2.2.2
            rw [List.length_append, List.length_append, hsep]; omega, HW1.out.trans hb2⟩
        · rw [hok] at hw
          have HO : Hid (Ru.ok ⟨⟨p, ha, hb2, ho2, hcap, hts⟩, xa, xb, xo, xcap, xls⟩ = true) := hok
          clear hok
          go_wp2_with (first
            | (go_at_call 42; refine hws.mono ?_; rintro e W1 ⟨rfl, hB1, hb1⟩; have d0 : W1.cell? ⟨wr.heap.size, 0, none⟩ = some (.string p) := n_cells (by decide) hbl hb1 0 _ rfl; have d1 : W1.cell? ⟨wr.heap.size, 1, none⟩ = some (.slice ha hts.length hcap) := n_cells (by decide) hbl hb1 1 _ rfl; have d2 : W1.cell? ⟨wr.heap.size, 2, none⟩ = some (.slice xa xls.length xcap) := n_cells (by decide) hbl hb1 2 _ rfl; have hw1 := hw W1 hB1 (HW.out.trans hb1); have HW1 : Hid (Wk B b w W1) := HW.out.trans hb1; clear hw hB1 hb1)
            | (go_at_call 49; refine hw1.mono ?_; rintro e W2 ⟨rfl, cs, hB2, hcs, hcl, hb2⟩; obtain rfl := hcs rfl))
          go_roundw
          case rel => exact ⟨k + 1, by simp, hkt, all_nextR hkt HY.out.2.1 (by rw [HY.out.1]; exact HO.out), by rw [HC.out]; simpa using hB2, by
            rw [HC.out, List.length_append, List.length_append, hsep, Nat.add_mul]
            have := HY.out.2.2.1
            omega, HW1.out.trans hb2⟩
          case measure => simp [intOf]; omega
    · obtain rfl : k = n := by omega
      have HX : Hid (Wrote B b w bs (ts.all Ru.ok) (catL sep.data.toList (ts.map Ru.line)) (k * (17000001 + sep.size)) (.returned (.bool true)) wr) := by
        rw [HN.out, List.take_length] at hall
        rw [HN.out, List.take_length] at hB hcl
        refine ⟨by rw [hall], _, hB, fun _ => rfl, ?_, hW⟩
        rw [hsep] at hcl
        rw [HN.out]; exact hcl
      clear hall hB hcl hW
      have hge : ¬ (k : Int) < (k : Int) := by omega
      go_wp2
      go_ret
      exact HX.out
end Go.Proofs.YtiobhadchakoiaaGreatDoor
