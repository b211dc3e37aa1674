/- Scan, fieldsOf, tupleOf. -/
import Derived.Test.YtbbgembkdhcidaaFL
namespace Go.Proofs.Ytbbgembkdhcidaa
open Go.RowKit Go.Maps

/-- What is wrong in the first line that is not written. -/
def scanT (l : List UInt8) : Option Nat := eachT (fun x => (splitT x).2) (lns 0 [] l)

theorem scan11_any (v : Value) (W : World) : Calls Try.prog 59 #[v] W fun e w' => e = .returned (.tuple #[]) ∧ w' = W := by
  go_enter Try.func59, Try.ntmps59
  go_wp2
  go_end0
  exact ⟨rfl, rfl⟩

set_option maxRecDepth 100000 in
theorem scan1_any (x : List UInt8) (A : World) {rb cap bx : Nat} (hx : x.length ≤ 4398046511104) (hcap : min x.length 1024 ≤ cap) (hb : Boxed A bx 42 (.slice (some ⟨rb, 0, none⟩) 0 cap)) (hR : Rm A rb cap []) :
    Calls Try.prog 57 #[.string (toB x), .pointer (some ⟨bx, 0, none⟩)] A fun e A' => e = .returned (.int .i64 (plcZ (splitT x).2)) ∧ Turn (fun k => k = rb) A A' ∧ Rm A' rb cap [] := by
  have eg : ∀ args w, (callFunc 59 args).run Try.prog w = .ok (.enter 59 args) w := enters_of Try.func59 (by kernel_rfl) rfl
  have hcell := hb.cell
  have hw := walk_any (gf := 59) (lb := #[]) (rb := rb) (cap := cap) (J := fun _ W => Turn (fun k => k = rb) A W) eg (toB x) A (by rw [toB_size]; omega) (by rw [toB_size]; exact hcap)
    (fun cs W W' hj ht => hj.trans ht)
    (fun cs c W _ hj hR => (scan11_any _ W).mono fun e w' h => ⟨h.1, by rw [h.2]; exact hj, by rw [h.2]; exact hR⟩)
    (Turn.refl _ _) hR
  rw [data_toB] at hw
  generalize splitT x = T at *
  obtain ⟨T1, T2⟩ := T
  dsimp only at *
  generalize plcZ T2 = z at *
  generalize toB x = xb at *
  clear hR hx hcap eg hb
  go_enter Try.func57, Try.ntmps57
  go_wp2_with (go_at_call 58; refine hw.mono ?_; rintro e W1 ⟨rfl, ht, hR1⟩)
  go_ret
  exact ⟨rfl, ht, hR1⟩

theorem lns_short {s : ByteArray} {x : List UInt8} (h : ∃ st, (st, x) ∈ lns 0 [] s.data.toList) : x.length ≤ s.size := by
  obtain ⟨st, h⟩ := h
  have := lns_in _ _ _ _ h
  simp only [List.length_nil, data_len] at this
  omega

set_option maxRecDepth 100000 in
set_option maxHeartbeats 2000000 in
theorem Scan_any (s : ByteArray) (w : World) (hs : s.size ≤ 4398046511104) : Calls Try.prog 42 #[.string s] w fun e w' => e = .returned (.tuple #[.int .i64 (plcZ (scanT s.data.toList)), .int .i64 (errZ (scanT s.data.toList))]) ∧ Stay w w' := by
  have eg : ∀ args w, (callFunc 57 args).run Try.prog w = .ok (.enter 57 args) w := enters_of Try.func57 (by kernel_rfl) rfl
  have hr := roomFor_any s w
  obtain ⟨cap, hcap⟩ : ∃ cap, cap = min s.size 1024 := ⟨_, rfl⟩
  rw [← hcap] at hr
  have he : ∀ (W1 : World) (bx : Nat), Stay w W1 → Boxed W1 bx 42 (.slice (some ⟨w.heap.size, 0, none⟩) 0 cap) → Rm W1 w.heap.size cap [] → bx ≠ w.heap.size → Calls Try.prog 44 #[.string s, .func (.func 57) #[] #[.pointer (some ⟨bx, 0, none⟩)]] W1 fun e w' => e = .returned (.int .i64 (plcZ (scanT s.data.toList))) ∧ Turn (fun k => k = w.heap.size) W1 w' := fun W1 bx hs1 hb hR hne => by
    have := eachLine_any eg (lb := #[.pointer (some ⟨bx, 0, none⟩)]) s W1 hs (fun x => (splitT x).2) (fun x k h => split_le h) (fun _ A => Turn (fun k => k = w.heap.size) W1 A ∧ Rm A w.heap.size cap []) (fun A => Turn (fun k => k = w.heap.size) W1 A)
      (fun pre A A' hj hst => ⟨hj.1.trans (Turn.of_stay hst), hj.2.stay hst⟩)
      (fun pre x A hx _ hj => (scan1_any x A (by have := lns_short hx; omega) (by have := lns_short hx; omega) (hj.1.heap hb (by omega)) hj.2).mono fun e A' h => ⟨h.1, fun _ => ⟨hj.1.trans h.2.1, h.2.2⟩, fun _ => hj.1.trans h.2.1⟩)
      ⟨Turn.refl _ _, hR⟩
    refine this.mono fun e w' h => ⟨h.1, ?_⟩
    by_cases hn : eachT (fun x => (splitT x).2) (lns 0 [] s.data.toList) = none
    · exact (h.2.1 hn).1
    · exact h.2.2 hn
  generalize scanT s.data.toList = T at *
  clear eg hcap
  cases T with
  | none =>
    simp only [plcZ, errZ] at *
    go_enter Try.func42, Try.ntmps42
    go_wp2_with (first
      | (go_at_call 43; refine hr.mono ?_; rintro e W1 ⟨rfl, hR1, hs1⟩; have hb1 := Boxed.new W1 42 (.slice (some ⟨w.heap.size, 0, none⟩) 0 cap); have hsA := Stay.new W1 (.cells #[.slice (some ⟨w.heap.size, 0, none⟩) 0 cap] 42); have he1 := he _ W1.heap.size (hs1.trans hsA) hb1 (hR1.stay hsA) (by have := hR1.lt; omega); have HS : Hid (Stay w (W1.alloc (.cells #[.slice (some ⟨w.heap.size, 0, none⟩) 0 cap] 42))) := hs1.trans hsA; clear hr he hsA hb1 hR1)
      | (go_at_call 44; refine he1.mono ?_; rintro e W2 ⟨rfl, ht⟩))
    go_ret2
    exact ⟨rfl, ht.stay HS.out (fun k hk e => by omega)⟩
  | some k =>
    simp only [plcZ, errZ] at *
    have hk : ((k : Int) == -1) = false := by simp
    go_enter Try.func42, Try.ntmps42
    go_wp2_with (first
      | (go_at_call 43; refine hr.mono ?_; rintro e W1 ⟨rfl, hR1, hs1⟩; have hb1 := Boxed.new W1 42 (.slice (some ⟨w.heap.size, 0, none⟩) 0 cap); have hsA := Stay.new W1 (.cells #[.slice (some ⟨w.heap.size, 0, none⟩) 0 cap] 42); have he1 := he _ W1.heap.size (hs1.trans hsA) hb1 (hR1.stay hsA) (by have := hR1.lt; omega); have HS : Hid (Stay w (W1.alloc (.cells #[.slice (some ⟨w.heap.size, 0, none⟩) 0 cap] 42))) := hs1.trans hsA; clear hr he hsA hb1 hR1)
      | (go_at_call 44; refine he1.mono ?_; rintro e W2 ⟨rfl, ht⟩))
    go_ret2
    exact ⟨rfl, ht.stay HS.out (fun k hk e => by omega)⟩

/-- How many fields a line has, read as one of an arity. -/
def fieldsZ (x : List UInt8) (n : Int) : Int := if x = [] ∧ n = 0 then 0 else (x.count 9 : Nat) + 1
set_option maxRecDepth 100000 in
theorem fieldsOf_any (x : List UInt8) (n : Int) (W : World) (hx : x.length ≤ 4398046511104) : Calls Try.prog 46 #[.string (toB x), .int .i64 n] W fun e w' => e = .returned (.int .i64 (fieldsZ x n)) ∧ w' = W := by
  have hc := stCount_any (toB x) 9 W
  rw [data_toB] at hc
  have hcl := List.count_le_length (a := (9 : UInt8)) (l := x)
  unfold fieldsZ
  have hnl : (toB x).toList = x := by rw [ByteArray.toList_eq]; exact data_toB x
  by_cases he : x = []
  · have hq : (toB x).toList = [] := hnl.trans he
    by_cases hn : n = 0
    · rw [if_pos ⟨he, hn⟩]
      subst hn
      generalize toB x = xb at *
      clear hc hnl he
      go_enter Try.func46, Try.ntmps46
      go_wp2
      go_ret
      exact ⟨rfl, rfl⟩
    · rw [if_neg (fun h => hn h.2)]
      have hn2 : (n == 0) = false := by simp [hn]
      generalize x.count 9 = m at *
      generalize toB x = xb at *
      clear hn hnl he
      go_enter Try.func46, Try.ntmps46
      go_wp2_with (go_at_call 61; refine hc.mono ?_; rintro e w' ⟨rfl, hw'⟩; have hw2 := hw'.symm; subst hw2)
      go_ret
      exact ⟨rfl, rfl⟩
  · rw [if_neg (fun h => he h.1)]
    have hq : ¬ (toB x).toList = [] := fun e => he (hnl.symm.trans e)
    generalize x.count 9 = m at *
    generalize toB x = xb at *
    clear hnl he
    go_enter Try.func46, Try.ntmps46
    go_wp2_with (go_at_call 61; refine hc.mono ?_; rintro e w' ⟨rfl, hw'⟩; have hw2 := hw'.symm; subst hw2)
    go_ret
    exact ⟨rfl, rfl⟩

theorem run_makeStrs (n : Nat) (hn : 16 * n ≤ 281474976710656) (W : World) :
    (Instr.makeSlice 39 (.int .i64 0) (.int .i64 n)).run Try.prog W = .ok (.slice (some ⟨W.heap.size, 0, none⟩) 0 n) (W.alloc (.cells (madeCells #[.string ⟨#[]⟩] n) 9)) := by
  obtain ⟨i, hi, hz0, hz1, hz2⟩ := info_parts infoSt
  have h := run_make (P := Try.prog) W 39 9 i _ Try.underlying39 hi hz0 .i64 .i64 0 n (by omega) (by omega) (by rw [hz2]; omega) (by omega)
  rw [hz1] at h
  simpa [Value.cells] using h
/-- A line's tuple. -/
def tupL (x : List UInt8) (n : Nat) : List (List UInt8) := if n = 0 then [] else (splitT x).1

set_option maxRecDepth 100000 in
set_option maxHeartbeats 2000000 in
theorem tupleOf_any (x : List UInt8) (n : Nat) (w : World) {rb cap : Nat} (hx : x.length ≤ 4398046511104) (hcap : min x.length 1024 ≤ cap) (hn : n ≤ 16) (hR : Rm w rb cap []) :
    Calls Try.prog 47 #[.string (toB x), .int .i64 (n : Int), .slice (some ⟨rb, 0, none⟩) 0 cap] w fun e w' => ∃ v, e = .returned v ∧ OwnS w.heap.size w' v ((tupL x n).map toB) ∧ Turn (fun k => k = rb) w w' ∧ Rm w' rb cap [] := by
  have eg : ∀ args w, (callFunc 62 args).run Try.prog w = .ok (.enter 62 args) w := enters_of Try.func62 (by kernel_rfl) rfl
  have hrb := hR.lt
  have hmk := run_makeStrs n (by omega) w
  have HO : Hid (OwnS w.heap.size (w.alloc (.cells (madeCells #[.string ⟨#[]⟩] n) 9)) (.slice (some ⟨w.heap.size, 0, none⟩) 0 n) []) := World.ownsRow_made w _ n (Nat.le_refl _) (by unfold maxLen; omega) (by simp [size_madeCells])
  have hw := walk_any (gf := 62) (lb := #[.pointer (some ⟨w.heap.size + 1, 0, none⟩)]) (rb := rb) (cap := cap) (J := CutJ w rb (w.heap.size + 1)) eg (toB x) ((w.alloc (.cells (madeCells #[.string ⟨#[]⟩] n) 9)).alloc (.cells #[.slice (some ⟨w.heap.size, 0, none⟩) 0 n] 39)) (by rw [toB_size]; omega) (by rw [toB_size]; exact hcap)
    (fun cs A A' hj ht => hj.turn hrb (by omega) ht)
    (fun cs c A hl hj hR => tup1_any hrb (by omega) (by rw [toB_size] at hl; omega) hj hR)
    ⟨_, by have := Boxed.new (w.alloc (.cells (madeCells #[.string ⟨#[]⟩] n) 9)) 39 (.slice (some ⟨w.heap.size, 0, none⟩) 0 n); rwa [World.size_alloc] at this, HO.out.stay (Stay.new _ _), Turn.of_stay ((Stay.new _ _).alloc _)⟩ (hR.stay ((Stay.new _ _).alloc _))
  rw [data_toB] at hw
  unfold tupL
  by_cases h0 : n = 0
  · subst h0
    rw [if_pos rfl]
    have HR : Hid (Rm w rb cap []) := hR
    simp only [Int.natCast_zero] at hmk ⊢
    clear hw hR eg
    generalize toB x = xb at *
    go_enter Try.func47, Try.ntmps47
    go_wp2
    go_ret
    exact ⟨_, rfl, HO.out.stay (Stay.new _ _), Turn.of_stay ((Stay.new _ _).alloc _), HR.out.stay ((Stay.new _ _).alloc _)⟩
  · rw [if_neg h0]
    have hn0 : (0 : Int) < (n : Int) := by omega
    generalize splitT x = T at *
    obtain ⟨T1, T2⟩ := T
    dsimp only at *
    generalize plcZ T2 = z at *
    generalize toB x = xb at *
    clear hR eg h0 HO
    go_enter Try.func47, Try.ntmps47
    go_wp2_with (go_at_call 58; refine hw.mono ?_; rintro e W1 ⟨rfl, ⟨v, hb, ho, ht⟩, hR1⟩; have hcell := hb.cell)
    go_ret
    exact ⟨v, rfl, ho, ht, hR1⟩
end Go.Proofs.Ytbbgembkdhcidaa
