/- Lists of terms in memory; writeList of terms. -/
import Derived.Test.YtiobhadchakoiaaGreatDoorPK
namespace Go.Proofs.YtiobhadchakoiaaGreatDoor
open Go.RowKit Go.Maps

/-- Texts with another between each two. -/
def catL (sep : List UInt8) : List (List UInt8) → List UInt8
  | [] => []
  | x :: l => x ++ l.flatMap (fun y => sep ++ y)
theorem catL_snoc (sep : List UInt8) (l : List (List UInt8)) (x : List UInt8) : catL sep (l ++ [x]) = catL sep l ++ (if l.length = 0 then x else sep ++ x) := by
  cases l with
  | nil => simp [catL]
  | cons y l => simp [catL]
theorem catL_take {α : Type} (f : α → List UInt8) (sep : List UInt8) (l : List α) (k : Nat) (h : k < l.length) : catL sep ((l.take (k + 1)).map f) = catL sep ((l.take k).map f) ++ (if k = 0 then f l[k] else sep ++ f l[k]) := by
  rw [List.take_succ_eq_append_getElem h, List.map_append, List.map_cons, List.map_nil, catL_snoc]
  congr 1
  rw [List.length_map, List.length_take]
  by_cases hk : k = 0
  · subst hk; simp
  · rw [if_neg (by omega), if_neg hk]

/-- What a builder's writers cannot take away. -/
def Sure (B b : Nat) (w : World) (P : World → Prop) : Prop := ∀ w', Wk B b w w' → P w'
theorem Sure.now {B b : Nat} {w : World} {P : World → Prop} (h : Sure B b w P) : P w := h w (Wk.refl _ _ _)
theorem Sure.next {B b : Nat} {w w' : World} {P : World → Prop} (h : Sure B b w P) (hw : Wk B b w w') : Sure B b w' P := fun w2 h2 => h w2 (hw.trans h2)
theorem Tabs.sure {B b : Nat} {w : World} (h : Tabs w) (hB : 1 ≤ B) : Sure B b w Tabs := fun _ hw => h.keep (fun _ hp _ hv => below_cell hw.1 (Nat.lt_of_lt_of_le hp hB) hv)

theorem Bld.lt {B b : Nat} {w : World} {bs : List UInt8} (h : Bld B b w bs) : b < w.heap.size := by
  rcases h with h | h
  · exact h.lt
  · exact h.lt
theorem box_kept {B b : Nat} {w W : World} {t : TypeId} {cs : Array Value} (hb : b < w.heap.size) (ht : t ≠ 5) (h : Wk B b (w.alloc (.cells cs t)) W) : W.heap[w.heap.size]? = some (.cells cs t (0, 0)) :=
  h.2 w.heap.size _ (heap_new w _) (fun e => by injection e with e; omega) (fun c fz e => by injection e with _ e; exact ht e)
/-- Between two rounds of a list's writing. -/
def Wl (B b : Nat) (w : World) (bs sep : List UInt8) (ts : List Tm) (v : Value) (W : World) : Prop :=
  ∃ k : Nat, v = .int .i64 (k : Int) ∧ k ≤ ts.length ∧ (ts.take k).all Tm.ok = true ∧ Bld B b W (bs ++ catL sep ((ts.take k).map Tm.txt)) ∧ (catL sep ((ts.take k).map Tm.txt)).length ≤ k * (4098 + sep.length) ∧ Wk B b w W
theorem all_fails {ts : List Tm} {k : Nat} (h : k < ts.length) (hk : ts[k].ok = false) : ts.all Tm.ok = false := by
  rw [List.all_eq_false]
  exact ⟨ts[k], List.getElem_mem h, by rw [hk]; decide⟩
theorem all_next {ts : List Tm} {k : Nat} (h : k < ts.length) (h1 : (ts.take k).all Tm.ok = true) (hk : ts[k].ok = true) : (ts.take (k + 1)).all Tm.ok = true := by
  rw [List.take_succ_eq_append_getElem h, List.all_append, h1]
  simp [hk]

set_option maxRecDepth 100000 in
set_option maxHeartbeats 4000000 in
theorem writeListT_any {B b : Nat} {w : World} {bs : List UInt8} (h : Bld B b w bs) (a : Option Addr) (bk off c : Nat) (ts : List Tm) (hM : Sure B b w (fun W => TmsS W a bk off ts)) (sep : ByteArray) (hT : Sure B b w Tabs)
    (hlen : bs.length + ts.length * (4098 + sep.size) ≤ 140737488355328) (hBw : B ≤ w.heap.size) :
    Calls Tryz.prog 63 #[.pointer (some ⟨b, 0, none⟩), .slice a ts.length c, .string sep, .func (.func 64) #[] #[]] w (Wrote B b w bs (ts.all Tm.ok) (catL sep.data.toList (ts.map Tm.txt)) (ts.length * (4098 + sep.size))) := by
  have HM : Hid (Sure B b w (fun W => TmsS W a bk off ts)) := hM
  have HT : Hid (Sure B b w Tabs) := hT
  have H0 : Hid (Wl B b w bs sep.data.toList ts (.int .i64 0) w) := ⟨0, rfl, Nat.zero_le _, by simp, by simpa [catL] using h, by simp [catL], Wk.refl _ _ _⟩
  have HA : Hid (0 < ts.length → a = some ⟨bk, off, none⟩) := hM.now.1
  have HL : Hid (bs.length + ts.length * (4098 + sep.size) ≤ 140737488355328) := hlen
  have hsep : sep.data.toList.length = sep.size := by simp
  clear hM hT h hlen
  obtain ⟨n, hn⟩ : ∃ n, n = ts.length := ⟨_, rfl⟩
  have HN : Hid (n = ts.length) := hn
  rw [← hn]
  have hnb : n ≤ 140737488355328 := by
    have h1 := HL.out
    have h2 := Nat.mul_le_mul_left n (show 1 ≤ 4098 + sep.size by omega)
    rw [← hn] at h1
    omega
  clear hn
  go_enter Tryz.func63, Tryz.ntmps63
  go_wp2_with fail
  go_loopw [13] (fun v wr => Wl B b w bs sep.data.toList ts v wr) (fun v _ => n - (intOf v).toNat)
  case atStart => exact H0.out
  case round =>
    obtain ⟨k, rfl, hk, hall, hB, hcl, hW⟩ := hrel
    clear H0
    rw [← HN.out] at hk
    by_cases hlt : k < n
    · have hkt : k < ts.length := by rw [← HN.out]; exact hlt
      have hki : (k : Int) < (n : Int) := by omega
      obtain rfl := HA.out (by omega)
      obtain ⟨c0, c1⟩ := (HM.out wr hW).2 k hkt
      obtain ⟨t, ht⟩ : ∃ t, ts[k] = t := ⟨_, rfl⟩
      rw [ht] at c0 c1
      obtain ⟨va, s⟩ := t
      dsimp only at c0 c1
      have hbl := hB.lt
      have hcat := catL_take Tm.txt sep.data.toList ts k hkt
      rw [ht] at hcat
      have HY : Hid (ts[k] = ⟨va, s⟩ ∧ (ts.take k).all Tm.ok = true ∧ (catL sep.data.toList ((ts.take k).map Tm.txt)).length ≤ k * (4098 + sep.size) ∧ bs.length + n * (4098 + sep.size) ≤ 140737488355328 ∧ k * (4098 + sep.size) + (4098 + sep.size) ≤ n * (4098 + sep.size)) := by
        refine ⟨ht, hall, by rw [← hsep]; exact hcl, by rw [HN.out]; exact HL.out, ?_⟩
        have := Nat.mul_le_mul_right (4098 + sep.size) (show k + 1 ≤ n by omega)
        rw [Nat.add_mul, Nat.one_mul] at this
        exact this
      obtain ⟨pre, hpre⟩ : ∃ pre, pre = catL sep.data.toList ((ts.take k).map Tm.txt) := ⟨_, rfl⟩
      rw [← hpre] at hB hcat HY
      have HW : Hid (Wk B b w (wr.alloc (.cells #[.bool va, .string s] 54))) := hW.trans (Wk.new (Nat.le_trans hBw hW.size) _)
      have hB0 := hB.stay (Stay.new wr (.cells #[.bool va, .string s] 54))
      have hBw2 : B ≤ (wr.alloc (.cells #[.bool va, .string s] 54)).heap.size := Nat.le_trans hBw HW.out.size
      clear hall hcl hW ht hpre hB
      by_cases hk0 : k = 0
      · rw [if_pos hk0] at hcat
        have hk0i : (k : Int) ≤ 0 := by omega
        have HK : Hid (k = 0) := hk0
        clear hk0
        have HC : Hid (catL sep.data.toList ((ts.take (k + 1)).map Tm.txt) = pre ++ Tm.txt ⟨va, s⟩) := hcat
        clear hcat
        have hw := writeTerm_any hB0 ⟨va, s⟩ (HT.out _ HW.out) (by
          have := HY.out.2.2.1; have := HY.out.2.2.2.1; have := HY.out.2.2.2.2
          rw [List.length_append]; omega) hBw2
        unfold Tm.v at hw
        dsimp only at hw
        cases hok : Tm.ok ⟨va, s⟩
        · rw [hok] at hw
          have HO : Hid (Tm.ok ⟨va, s⟩ = false) := hok
          clear hok
          go_wp2_with (first
            | (go_at_call 64; refine hw.mono ?_; rintro e W1 ⟨rfl, cs, hB1, hcs, hcl, hb1⟩))
          go_ret
          exact ⟨by rw [all_fails hkt (by rw [HY.out.1]; exact HO.out)]; rfl, pre ++ cs, by simpa using hB1, (fun h => by rw [all_fails hkt (by rw [HY.out.1]; exact HO.out)] at h; cases h), by
            have := HY.out.2.2.1; have := HY.out.2.2.2.2
            rw [List.length_append]; omega, HW.out.trans hb1⟩
        · rw [hok] at hw
          have HO : Hid (Tm.ok ⟨va, s⟩ = true) := hok
          clear hok
          go_wp2_with (first
            | (go_at_call 64; refine hw.mono ?_; rintro e W1 ⟨rfl, cs, hB1, hcs, hcl, hb1⟩; obtain rfl := hcs rfl))
          go_roundw
          case rel => exact ⟨k + 1, by simp, hkt, all_next hkt HY.out.2.1 (by rw [HY.out.1]; exact HO.out), by rw [HC.out]; simpa using hB1, by
            rw [HC.out, List.length_append, hsep, Nat.add_mul]
            have := HY.out.2.2.1
            omega, HW.out.trans hb1⟩
          case measure => simp [intOf]; omega
      · have hk0i : (0 : Int) < (k : Int) := by omega
        rw [if_neg hk0] at hcat
        have HC : Hid (catL sep.data.toList ((ts.take (k + 1)).map Tm.txt) = pre ++ (sep.data.toList ++ Tm.txt ⟨va, s⟩)) := hcat
        clear hcat hk0
        have hws := writeStringK hB0 sep (by
          have := HY.out.2.2.1; have := HY.out.2.2.2.1; have := HY.out.2.2.2.2
          rw [List.length_append]; omega) hBw2
        have hw := fun (W : World) (hBW : Bld B b W (bs ++ pre ++ sep.data.toList)) (hWW : Wk B b w W) => writeTerm_any hBW ⟨va, s⟩ (HT.out _ hWW) (by
          have := HY.out.2.2.1; have := HY.out.2.2.2.1; have := HY.out.2.2.2.2
          rw [List.length_append, List.length_append, hsep]; omega) (Nat.le_trans hBw hWW.size)
        unfold Tm.v at hw
        dsimp only at hw
        cases hok : Tm.ok ⟨va, s⟩
        · rw [hok] at hw
          have HO : Hid (Tm.ok ⟨va, s⟩ = false) := hok
          clear hok
          go_wp2_with (first
            | (go_at_call 42; refine hws.mono ?_; rintro e W1 ⟨rfl, hB1, hb1⟩; have hbx := box_kept hbl (by decide) hb1; have d0 : W1.cell? ⟨wr.heap.size, 0, none⟩ = some (.bool va) := (by rw [Lib.cell_of_heap hbx]; rfl); have d1 : W1.cell? ⟨wr.heap.size, 1, none⟩ = some (.string s) := (by rw [Lib.cell_of_heap hbx]; rfl); have hw1 := hw W1 hB1 (HW.out.trans hb1); have HW1 : Hid (Wk B b w W1) := HW.out.trans hb1; clear hw hbx hB1 hb1)
            | (go_at_call 64; refine hw1.mono ?_; rintro e W2 ⟨rfl, cs, hB2, hcs, hcl, hb2⟩))
          go_ret
          exact ⟨by rw [all_fails hkt (by rw [HY.out.1]; exact HO.out)]; rfl, pre ++ (sep.data.toList ++ cs), by simpa using hB2, (fun h => by rw [all_fails hkt (by rw [HY.out.1]; exact HO.out)] at h; cases h), by
            have := HY.out.2.2.1; have := HY.out.2.2.2.2
            rw [List.length_append, List.length_append, hsep]; omega, HW1.out.trans hb2⟩
        · rw [hok] at hw
          have HO : Hid (Tm.ok ⟨va, s⟩ = true) := hok
          clear hok
          go_wp2_with (first
            | (go_at_call 42; refine hws.mono ?_; rintro e W1 ⟨rfl, hB1, hb1⟩; have hbx := box_kept hbl (by decide) hb1; have d0 : W1.cell? ⟨wr.heap.size, 0, none⟩ = some (.bool va) := (by rw [Lib.cell_of_heap hbx]; rfl); have d1 : W1.cell? ⟨wr.heap.size, 1, none⟩ = some (.string s) := (by rw [Lib.cell_of_heap hbx]; rfl); have hw1 := hw W1 hB1 (HW.out.trans hb1); have HW1 : Hid (Wk B b w W1) := HW.out.trans hb1; clear hw hbx hB1 hb1)
            | (go_at_call 64; refine hw1.mono ?_; rintro e W2 ⟨rfl, cs, hB2, hcs, hcl, hb2⟩; obtain rfl := hcs rfl))
          go_roundw
          case rel => exact ⟨k + 1, by simp, hkt, all_next hkt HY.out.2.1 (by rw [HY.out.1]; exact HO.out), by rw [HC.out]; simpa using hB2, by
            rw [HC.out, List.length_append, List.length_append, hsep, Nat.add_mul]
            have := HY.out.2.2.1
            omega, HW1.out.trans hb2⟩
          case measure => simp [intOf]; omega
    · obtain rfl : k = n := by omega
      have HX : Hid (Wrote B b w bs (ts.all Tm.ok) (catL sep.data.toList (ts.map Tm.txt)) (k * (4098 + sep.size)) (.returned (.bool true)) wr) := by
        rw [HN.out, List.take_length] at hall
        rw [HN.out, List.take_length] at hB hcl
        refine ⟨by rw [hall], _, hB, fun _ => rfl, ?_, hW⟩
        rw [hsep] at hcl
        rw [HN.out]; exact hcl
      clear hall hB hcl hW
      have hge : ¬ (k : Int) < (k : Int) := by omega
      go_wp2
      go_ret
      exact HX.out
end Go.Proofs.YtiobhadchakoiaaGreatDoor
