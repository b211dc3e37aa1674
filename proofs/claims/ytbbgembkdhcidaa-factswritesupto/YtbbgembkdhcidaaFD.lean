/- refusal. -/
import Derived.Test.YtbbgembkdhcidaaFB
import Derived.Test.YtbbgembkdhcidaaFC
namespace Go.Proofs.Ytbbgembkdhcidaa
open Go.RowKit Go.Maps Go.Lib Go.Shelf

def longB (t : List ByteArray) : Bool := t.any fun s => decide (1024 < s.size)
def misB (n : Int) (t : List ByteArray) : Bool := !decide ((t.length : Int) = n)
/-- What is wrong with tuples of an arity. -/
def refZ (ts : List (List ByteArray)) (n : Int) : Int := if (decide (0 ≤ n) && decide (n ≤ 16)) && !ts.any (misB n) then (if ts.any longB then 3 else 0) else 2
/-- A list of texts that can be read at w. -/
abbrev TxAt (w : World) := { t : Tx // t.S w ∧ t.xs.length ≤ 9223372036854775807 }
instance (w : World) : Inhabited (TxAt w) := ⟨⟨⟨none, 0, 0, 0, []⟩, StrsS.nil _ _ _ _, by decide⟩⟩

theorem long1_any (s : ByteArray) (W : World) : Calls Try.prog 50 #[.string s] W fun e w' => e = .returned (.bool (decide (1024 < s.size))) ∧ w' = W := by
  go_enter Try.func50, Try.ntmps50
  go_wp2
  go_ret
  refine ⟨?_, rfl⟩
  show Ending.returned (Value.bool (decide ((1024 : Int) < (s.size : Int)))) = _
  congr 2
  rw [Bool.eq_iff_iff, decide_eq_true_iff, decide_eq_true_iff]; omega

theorem hasLong_any (t : Tx) (W : World) (h : t.S W) (hl : t.xs.length ≤ 9223372036854775807) : Calls Try.prog 31 #[t.v] W fun e w' => e = .returned (.bool (longB t.xs)) ∧ ∃ q, w' = W.drewN q := by
  have eg : ∀ args w, (callFunc 50 args).run Try.prog w = .ok (.enter 50 args) w := enters_of Try.func50 (by kernel_rfl) rfl
  obtain ⟨a, b, o, c, xs⟩ := t
  unfold Tx.S at h
  unfold Tx.v
  dsimp only at h hl ⊢
  have hcon : Calls Try.prog 49 #[.slice a xs.length c, .func (.func 50) #[] #[]] W fun e w' => e = .returned (.bool (longB xs)) ∧ ∃ q, w' = W.drewN q := by
    by_cases h0 : 0 < xs.length
    · rw [h.1 h0]
      have := Try.slices_ContainsFunc_f49 (α := ByteArray) Value.string (fun s => decide (1024 < s.size)) 50 #[] eg b o xs.length c xs W (fun V x _ => (long1_any x V).mono fun e w' h => ⟨h.1, 0, by rw [h.2]; rfl⟩) (Nat.le_refl _) hl (fun j hj => by rw [getElem!_pos xs j hj]; exact h.2 j hj)
      rw [List.take_length] at this
      exact this
    · have e : xs = [] := List.eq_nil_of_length_eq_zero (by omega)
      subst e
      exact (Try.slices_ContainsFunc_empty_f49 (α := ByteArray) a c _ W).mono fun e w' h => ⟨h.1, 0, by rw [h.2]; rfl⟩
  generalize xs.length = n at *
  generalize longB xs = q at *
  clear h
  go_enter Try.func31, Try.ntmps31
  go_wp2_with (go_at_call 49; refine hcon.mono ?_; rintro e w' ⟨rfl, n', rfl⟩)
  go_ret
  exact ⟨rfl, n', rfl⟩

theorem isArity_any (n : Int) (W : World) : Calls Try.prog 29 #[.int .i64 n] W fun e w' => e = .returned (.bool (decide (0 ≤ n) && decide (n ≤ 16))) ∧ w' = W := by
  go_enter Try.func29, Try.ntmps29
  by_cases h : 0 ≤ n
  · go_wp2
    go_ret
    refine ⟨?_, rfl⟩
    rw [decide_eq_true h]; rfl
  · go_wp2
    go_ret
    refine ⟨?_, rfl⟩
    rw [decide_eq_false (show ¬ 0 ≤ n by omega)]; rfl
theorem box_new (w : World) (v : Value) (t : TypeId) : (w.alloc (.cells #[v] t)).cell? ⟨w.heap.size, 0, none⟩ = some v := by
  have := new_cells w [v] t 0 v rfl
  rwa [add_at] at this
theorem mis1_any (a : Option Addr) (m c : Nat) (n : Int) (box : Nat) (W : World) (hb : W.cell? ⟨box, 0, none⟩ = some (.int .i64 n)) : Calls Try.prog 28 #[.slice a m c, .pointer (some ⟨box, 0, none⟩)] W fun e w' => e = .returned (.bool (!decide ((m : Int) = n))) ∧ w' = W := by
  go_enter Try.func28, Try.ntmps28
  go_wp2
  go_ret
  refine ⟨?_, rfl⟩
  show Ending.returned (Value.bool _) = _
  congr 2
/-- slices.ContainsFunc of tuples, whatever is asked of them. -/
theorem containsT {W : World} {a : Option Addr} {b off c : Nat} {ts : List Tx} (h : TxsS W a b off ts) (hl : ts.length ≤ 9223372036854775807) (hl2 : ∀ t ∈ ts, t.xs.length ≤ 9223372036854775807) (g : Nat) (lb : Array Value) (p : List ByteArray → Bool) (eg : ∀ args w, (callFunc g args).run Try.prog w = .ok (.enter g args) w)
    (hp : ∀ (V : World) (t : Tx), Stay W V → t.S V → t.xs.length ≤ 9223372036854775807 → Calls Try.prog g (#[t.v] ++ lb) V fun e w' => e = .returned (.bool (p t.xs)) ∧ ∃ q, w' = V.drewN q) :
    Calls Try.prog 30 #[.slice a ts.length c, .func (.func g) #[] lb] W fun e w' => e = .returned (.bool ((ts.map Tx.xs).any p)) ∧ ∃ q, w' = W.drewN q := by
  by_cases h0 : 0 < ts.length
  · rw [h.1 h0]
    obtain ⟨zs, hz⟩ : ∃ zs : List (TxAt W), zs.map (·.1) = ts := ⟨ts.pmap (fun t ht => (⟨t, ht⟩ : TxAt W)) (fun t ht => by
      obtain ⟨i, hi, rfl⟩ := List.mem_iff_getElem.1 ht
      exact ⟨(h.2 i hi).2, hl2 _ ht⟩), by simp [List.map_pmap]⟩
    have hzl : zs.length = ts.length := by rw [← hz]; simp
    have := Try.slices_ContainsFunc_f30 (α := TxAt W) (fun t => t.1.v) (fun t => p t.1.xs) g lb eg b off ts.length c zs W (fun V x hb => hp V x.1 hb (StrsS.stay x.2.1 hb) x.2.2) (by omega) hl (fun j hj => by
      rw [getElem!_pos zs j hj]
      have := (h.2 j (by omega)).1
      rw [this]
      congr 2
      simp only [← hz, List.getElem_map])
    rw [List.take_of_length_le (by omega)] at this
    rw [← hz, List.map_map, List.any_map]
    rw [List.length_map, hzl]
    exact this
  · have e : ts = [] := List.eq_nil_of_length_eq_zero (by omega)
    subst e
    exact (Try.slices_ContainsFunc_empty_f30 (α := ByteArray) a c _ W).mono fun e w' h => ⟨h.1, 0, by rw [h.2]; rfl⟩

set_option maxRecDepth 100000 in
set_option maxHeartbeats 2000000 in
theorem refusal_any {w : World} {a : Option Addr} {b off c : Nat} {ts : List Tx} (h : TxsS w a b off ts) (hl : ts.length ≤ 9223372036854775807) (hl2 : ∀ t ∈ ts, t.xs.length ≤ 9223372036854775807) (n : Int) :
    Calls Try.prog 14 #[.slice a ts.length c, .int .i64 n] w fun e w' => e = .returned (.int .i64 (refZ (ts.map Tx.xs) n)) ∧ Stay w w' := by
  have eg1 : ∀ args w, (callFunc 28 args).run Try.prog w = .ok (.enter 28 args) w := enters_of Try.func28 (by kernel_rfl) rfl
  have eg2 : ∀ args w, (callFunc 31 args).run Try.prog w = .ok (.enter 31 args) w := enters_of Try.func31 (by kernel_rfl) rfl
  have c1 : ∀ (W : World), Stay w W → W.cell? ⟨w.heap.size, 0, none⟩ = some (.int .i64 n) → Calls Try.prog 30 #[.slice a ts.length c, .func (.func 28) #[] #[.pointer (some ⟨w.heap.size, 0, none⟩)]] W fun e w' => e = .returned (.bool ((ts.map Tx.xs).any (misB n))) ∧ ∃ q, w' = W.drewN q := fun W hW hb =>
    containsT (h.stay hW) hl hl2 _ _ _ eg1 (fun V t hV ht htl => (mis1_any t.a t.xs.length t.c n w.heap.size V (hV.cell hb)).mono fun e w' h => ⟨h.1, 0, by rw [h.2]; rfl⟩)
  have c2 : ∀ (W : World), Stay w W → Calls Try.prog 30 #[.slice a ts.length c, .func (.func 31) #[] #[]] W fun e w' => e = .returned (.bool ((ts.map Tx.xs).any longB)) ∧ ∃ q, w' = W.drewN q := fun W hW =>
    containsT (h.stay hW) hl hl2 _ _ _ eg2 (fun V t hV ht htl => hasLong_any t V ht htl)
  have ia := isArity_any n
  unfold refZ
  generalize ts.length = m at *
  generalize (ts.map Tx.xs).any (misB n) = q1 at *
  generalize (ts.map Tx.xs).any longB = q2 at *
  generalize (decide (0 ≤ n) && decide (n ≤ 16)) = q0 at *
  have hst : ∀ o, Stay w (w.alloc o) := fun o => Stay.new w o
  have hcl : ∀ W, Stay (w.alloc (.cells #[.int .i64 n] 3)) W → W.cell? ⟨w.heap.size, 0, none⟩ = some (.int .i64 n) := fun W hW => hW.cell (box_new _ _ _)
  clear h hl hl2 eg1 eg2
  cases q0
  · clear c1 c2 hcl
    go_enter Try.func14, Try.ntmps14
    go_wp2_with (first
      | (go_at_call 29; refine (ia _).mono ?_; rintro e w' ⟨rfl, hw'⟩; have hw2 := hw'.symm; subst hw2))
    go_ret
    exact ⟨rfl, hst _⟩
  · cases q1
    · cases q2
      · go_enter Try.func14, Try.ntmps14
        go_wp2_with (first
          | (go_at_call 29; refine (ia _).mono ?_; rintro e w' ⟨rfl, hw'⟩; have hw2 := hw'.symm; subst hw2)
          | (go_at_call 30; refine (c1 _ (hst _) (hcl _ (Stay.refl _))).mono ?_; rintro e w1 ⟨rfl, k1, rfl⟩; clear c1)
          | (go_at_call 30; refine (c2 _ ((hst _).trans (Stay.drewN _ _))).mono ?_; rintro e w2 ⟨rfl, k2, rfl⟩))
        go_ret
        exact ⟨rfl, (hst _).trans (Stay.drewN _ _)⟩
      · go_enter Try.func14, Try.ntmps14
        go_wp2_with (first
          | (go_at_call 29; refine (ia _).mono ?_; rintro e w' ⟨rfl, hw'⟩; have hw2 := hw'.symm; subst hw2)
          | (go_at_call 30; refine (c1 _ (hst _) (hcl _ (Stay.refl _))).mono ?_; rintro e w1 ⟨rfl, k1, rfl⟩; clear c1)
          | (go_at_call 30; refine (c2 _ ((hst _).trans (Stay.drewN _ _))).mono ?_; rintro e w2 ⟨rfl, k2, rfl⟩))
        go_ret
        exact ⟨rfl, (hst _).trans (Stay.drewN _ _)⟩
    · clear c2
      go_enter Try.func14, Try.ntmps14
      go_wp2_with (first
        | (go_at_call 29; refine (ia _).mono ?_; rintro e w' ⟨rfl, hw'⟩; have hw2 := hw'.symm; subst hw2)
        | (go_at_call 30; refine (c1 _ (hst _) (hcl _ (Stay.refl _))).mono ?_; rintro e w1 ⟨rfl, k1, rfl⟩; clear c1))
      go_ret
      exact ⟨rfl, (hst _).trans (Stay.drewN _ _)⟩
end Go.Proofs.Ytbbgembkdhcidaa
