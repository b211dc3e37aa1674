/- Lists of literals in memory; writeList of literals. -/
import Derived.Test.YtiobhadchakoiaaGreatDoorPN
namespace Go.Proofs.YtiobhadchakoiaaGreatDoor
open Go.RowKit Go.Maps

/-- Between two rounds of a list's writing. -/
def WlL (B b : Nat) (w : World) (bs sep : List UInt8) (ts : List Li) (v : Value) (W : World) : Prop :=
  ∃ k : Nat, v = .int .i64 (k : Int) ∧ k ≤ ts.length ∧ (ts.take k).all Li.ok = true ∧ Bld B b W (bs ++ catL sep ((ts.take k).map Li.txt)) ∧ (catL sep ((ts.take k).map Li.txt)).length ≤ k * (66010 + sep.length) ∧ Wk B b w W
theorem all_failsL {ts : List Li} {k : Nat} (h : k < ts.length) (hk : ts[k].ok = false) : ts.all Li.ok = false := by
  rw [List.all_eq_false]
  exact ⟨ts[k], List.getElem_mem h, by rw [hk]; decide⟩
theorem all_nextL {ts : List Li} {k : Nat} (h : k < ts.length) (h1 : (ts.take k).all Li.ok = true) (hk : ts[k].ok = true) : (ts.take (k + 1)).all Li.ok = true := by
  rw [List.take_succ_eq_append_getElem h, List.all_append, h1]
  simp [hk]

set_option maxRecDepth 100000 in
set_option maxHeartbeats 4000000 in
theorem writeListL_any {B b : Nat} {w : World} {bs : List UInt8} (h : Bld B b w bs) (a : Option Addr) (bk off c : Nat) (ts : List Li) (hM : Sure B b w (fun W => LisS W a bk off ts)) (sep : ByteArray) (hT : Sure B b w Tabs)
    (hlen : bs.length + ts.length * (66010 + sep.size) ≤ 140737488355328) (hBw : B ≤ w.heap.size) :
    Calls Tryz.prog 51 #[.pointer (some ⟨b, 0, none⟩), .slice a ts.length c, .string sep, .func (.func 52) #[] #[]] w (Wrote B b w bs (ts.all Li.ok) (catL sep.data.toList (ts.map Li.txt)) (ts.length * (66010 + sep.size))) := by
  have HM : Hid (Sure B b w (fun W => LisS W a bk off ts)) := hM
  have HT : Hid (Sure B b w Tabs) := hT
  have H0 : Hid (WlL B b w bs sep.data.toList ts (.int .i64 0) w) := ⟨0, rfl, Nat.zero_le _, by simp, by simpa [catL] using h, by simp [catL], Wk.refl _ _ _⟩
  have HA : Hid (0 < ts.length → a = some ⟨bk, off, none⟩) := hM.now.1
  have HL : Hid (bs.length + ts.length * (66010 + sep.size) ≤ 140737488355328) := hlen
  have hsep : sep.data.toList.length = sep.size := by simp
  clear hM hT h hlen
  obtain ⟨n, hn⟩ : ∃ n, n = ts.length := ⟨_, rfl⟩
  have HN : Hid (n = ts.length) := hn
  rw [← hn]
  have hnb : n ≤ 140737488355328 := by
    have h1 := HL.out
    have h2 := Nat.mul_le_mul_left n (show 1 ≤ 66010 + sep.size by omega)
    rw [← hn] at h1
    omega
  clear hn
  go_enter Tryz.func51, Tryz.ntmps51
  go_wp2_with fail
  go_loopw [13] (fun v wr => WlL B b w bs sep.data.toList ts v wr) (fun v _ => n - (intOf v).toNat)
  case atStart => exact H0.out
  case round =>
    obtain ⟨k, rfl, hk, hall, hB, hcl, hW⟩ := hrel
    clear H0
    rw [← HN.out] at hk
    by_cases hlt : k < n
    · have hkt : k < ts.length := by rw [← HN.out]; exact hlt
      have hki : (k : Int) < (n : Int) := by omega
      obtain rfl := HA.out (by omega)
      obtain ⟨c0, c1, c2, c3, c4, c5, c6, _⟩ := (HM.out wr hW).2 k hkt
      have hsu : Sure B b w (fun W => ts[k].atom.In W) := fun W hWW => ((HM.out W hWW).2 k hkt).2.2.2.2.2.2.2
      obtain ⟨t, ht⟩ : ∃ t, ts[k] = t := ⟨_, rfl⟩
      rw [ht] at c0 c1 c2 c3 c4 c5 c6 hsu
      obtain ⟨kd, ⟨p, xa, xb, xo, xc, xs⟩, ⟨va1, s1⟩, ⟨va2, s2⟩⟩ := t
      unfold At.sl at c2
      dsimp only at c0 c1 c2 c3 c4 c5 c6 hsu
      have HSU : Hid (Sure B b w (fun W => At.In ⟨p, xa, xb, xo, xc, xs⟩ W)) := hsu
      clear hsu
      have hbl := hB.lt
      have hcat := catL_take Li.txt sep.data.toList ts k hkt
      rw [ht] at hcat
      have HY : Hid (ts[k] = ⟨kd, ⟨p, xa, xb, xo, xc, xs⟩, ⟨va1, s1⟩, ⟨va2, s2⟩⟩ ∧ (ts.take k).all Li.ok = true ∧ (catL sep.data.toList ((ts.take k).map Li.txt)).length ≤ k * (66010 + sep.size) ∧ bs.length + n * (66010 + sep.size) ≤ 140737488355328 ∧ k * (66010 + sep.size) + (66010 + sep.size) ≤ n * (66010 + sep.size)) := by
        refine ⟨ht, hall, by rw [← hsep]; exact hcl, by rw [HN.out]; exact HL.out, ?_⟩
        have := Nat.mul_le_mul_right (66010 + sep.size) (show k + 1 ≤ n by omega)
        rw [Nat.add_mul, Nat.one_mul] at this
        exact this
      obtain ⟨pre, hpre⟩ : ∃ pre, pre = catL sep.data.toList ((ts.take k).map Li.txt) := ⟨_, rfl⟩
      rw [← hpre] at hB hcat HY
      have HW : Hid (Wk B b w (wr.alloc (.cells #[.int .i64 kd, .string p, .slice xa xs.length xc, .bool va1, .string s1, .bool va2, .string s2] 57))) := hW.trans (Wk.new (Nat.le_trans hBw hW.size) _)
      have hB0 := hB.stay (Stay.new wr (.cells #[.int .i64 kd, .string p, .slice xa xs.length xc, .bool va1, .string s1, .bool va2, .string s2] 57))
      have hBw2 : B ≤ (wr.alloc (.cells #[.int .i64 kd, .string p, .slice xa xs.length xc, .bool va1, .string s1, .bool va2, .string s2] 57)).heap.size := Nat.le_trans hBw HW.out.size
      clear hall hcl hW ht hpre hB
      by_cases hk0 : k = 0
      · rw [if_pos hk0] at hcat
        have hk0i : (k : Int) ≤ 0 := by omega
        have HK : Hid (k = 0) := hk0
        clear hk0
        have HC : Hid (catL sep.data.toList ((ts.take (k + 1)).map Li.txt) = pre ++ Li.txt ⟨kd, ⟨p, xa, xb, xo, xc, xs⟩, ⟨va1, s1⟩, ⟨va2, s2⟩⟩) := hcat
        clear hcat
        have hw := writeLiteral_any hB0 ⟨kd, ⟨p, xa, xb, xo, xc, xs⟩, ⟨va1, s1⟩, ⟨va2, s2⟩⟩ (HSU.out.next HW.out) (HT.out.next HW.out) (by
          have := HY.out.2.2.1; have := HY.out.2.2.2.1; have := HY.out.2.2.2.2
          rw [List.length_append]; omega) hBw2
        unfold Li.v At.sl at hw
        dsimp only at hw
        cases hok : Li.ok ⟨kd, ⟨p, xa, xb, xo, xc, xs⟩, ⟨va1, s1⟩, ⟨va2, s2⟩⟩
        · rw [hok] at hw
          have HO : Hid (Li.ok ⟨kd, ⟨p, xa, xb, xo, xc, xs⟩, ⟨va1, s1⟩, ⟨va2, s2⟩⟩ = false) := hok
          clear hok
          go_wp2_with (first
            | (go_at_call 52; refine hw.mono ?_; rintro e W1 ⟨rfl, cs, hB1, hcs, hcl, hb1⟩))
          go_ret
          exact ⟨by rw [all_failsL hkt (by rw [HY.out.1]; exact HO.out)]; rfl, pre ++ cs, by simpa using hB1, (fun h => by rw [all_failsL hkt (by rw [HY.out.1]; exact HO.out)] at h; cases h), by
            have := HY.out.2.2.1; have := HY.out.2.2.2.2
            rw [List.length_append]; omega, HW.out.trans hb1⟩
        · rw [hok] at hw
          have HO : Hid (Li.ok ⟨kd, ⟨p, xa, xb, xo, xc, xs⟩, ⟨va1, s1⟩, ⟨va2, s2⟩⟩ = true) := hok
          clear hok
          go_wp2_with (first
            | (go_at_call 52; refine hw.mono ?_; rintro e W1 ⟨rfl, cs, hB1, hcs, hcl, hb1⟩; obtain rfl := hcs rfl))
          go_roundw
          case rel => exact ⟨k + 1, by simp, hkt, all_nextL hkt HY.out.2.1 (by rw [HY.out.1]; exact HO.out), by rw [HC.out]; simpa using hB1, by
            rw [HC.out, List.length_append, hsep, Nat.add_mul]
            have := HY.out.2.2.1
            omega, HW.out.trans hb1⟩
          case measure => simp [intOf]; omega
      · have hk0i : (0 : Int) < (k : Int) := by omega
        rw [if_neg hk0] at hcat
        have HC : Hid (catL sep.data.toList ((ts.take (k + 1)).map Li.txt) = pre ++ (sep.data.toList ++ Li.txt ⟨kd, ⟨p, xa, xb, xo, xc, xs⟩, ⟨va1, s1⟩, ⟨va2, s2⟩⟩)) := hcat
        clear hcat hk0
        have hws := writeStringK hB0 sep (by
          have := HY.out.2.2.1; have := HY.out.2.2.2.1; have := HY.out.2.2.2.2
          rw [List.length_append]; omega) hBw2
        have hw := fun (W : World) (hBW : Bld B b W (bs ++ pre ++ sep.data.toList)) (hWW : Wk B b w W) => writeLiteral_any hBW ⟨kd, ⟨p, xa, xb, xo, xc, xs⟩, ⟨va1, s1⟩, ⟨va2, s2⟩⟩ (HSU.out.next hWW) (HT.out.next hWW) (by
          have := HY.out.2.2.1; have := HY.out.2.2.2.1; have := HY.out.2.2.2.2
          rw [List.length_append, List.length_append, hsep]; omega) (Nat.le_trans hBw hWW.size)
        unfold Li.v At.sl at hw
        dsimp only at hw
        cases hok : Li.ok ⟨kd, ⟨p, xa, xb, xo, xc, xs⟩, ⟨va1, s1⟩, ⟨va2, s2⟩⟩
        · rw [hok] at hw
          have HO : Hid (Li.ok ⟨kd, ⟨p, xa, xb, xo, xc, xs⟩, ⟨va1, s1⟩, ⟨va2, s2⟩⟩ = false) := hok
          clear hok
          go_wp2_with (first
            | (go_at_call 42; refine hws.mono ?_; rintro e W1 ⟨rfl, hB1, hb1⟩; obtain ⟨d0, d1, d2, d3, d4, d5, d6⟩ := lit_cells hbl hb1; have hw1 := hw W1 hB1 (HW.out.trans hb1); have HW1 : Hid (Wk B b w W1) := HW.out.trans hb1; clear hw hB1 hb1)
            | (go_at_call 52; refine hw1.mono ?_; rintro e W2 ⟨rfl, cs, hB2, hcs, hcl, hb2⟩))
          go_ret
          exact ⟨by rw [all_failsL hkt (by rw [HY.out.1]; exact HO.out)]; rfl, pre ++ (sep.data.toList ++ cs), by simpa using hB2, (fun h => by rw [all_failsL hkt (by rw [HY.out.1]; exact HO.out)] at h; cases h), by
            have := HY.out.2.2.1; have := HY.out.2.2.2.2
            rw [List.length_append, List.length_append, hsep]; omega, HW1.out.trans hb2⟩
        · rw [hok] at hw
          have HO : Hid (Li.ok ⟨kd, ⟨p, xa, xb, xo, xc, xs⟩, ⟨va1, s1⟩, ⟨va2, s2⟩⟩ = true) := hok
          clear hok
          go_wp2_with (first
            | (go_at_call 42; refine hws.mono ?_; rintro e W1 ⟨rfl, hB1, hb1⟩; obtain ⟨d0, d1, d2, d3, d4, d5, d6⟩ := lit_cells hbl hb1; have hw1 := hw W1 hB1 (HW.out.trans hb1); have HW1 : Hid (Wk B b w W1) := HW.out.trans hb1; clear hw hB1 hb1)
            | (go_at_call 52; refine hw1.mono ?_; rintro e W2 ⟨rfl, cs, hB2, hcs, hcl, hb2⟩; obtain rfl := hcs rfl))
          go_roundw
          case rel => exact ⟨k + 1, by simp, hkt, all_nextL hkt HY.out.2.1 (by rw [HY.out.1]; exact HO.out), by rw [HC.out]; simpa using hB2, by
            rw [HC.out, List.length_append, List.length_append, hsep, Nat.add_mul]
            have := HY.out.2.2.1
            omega, HW1.out.trans hb2⟩
          case measure => simp [intOf]; omega
    · obtain rfl : k = n := by omega
      have HX : Hid (Wrote B b w bs (ts.all Li.ok) (catL sep.data.toList (ts.map Li.txt)) (k * (66010 + sep.size)) (.returned (.bool true)) wr) := by
        rw [HN.out, List.take_length] at hall
        rw [HN.out, List.take_length] at hB hcl
        refine ⟨by rw [hall], _, hB, fun _ => rfl, ?_, hW⟩
        rw [hsep] at hcl
        rw [HN.out]; exact hcl
      clear hall hB hcl hW
      have hge : ¬ (k : Int) < (k : Int) := by omega
      go_wp2
      go_ret
      exact HX.out
end Go.Proofs.YtiobhadchakoiaaGreatDoor
