/- The plain part, on: rows that differ in places alone; counting. double: a row of places twice as long, into which all keys are laid anew. -/
import Derived.Test.YtnhmjheipfopoaaIT
import Derived.Test.YtnhmjheipfopoaaIHl
namespace Go.Proofs.Ytnhmjheipfopoaa

section
variable {κ ν : Type}

/-- An entry without its place. -/
def strip (e : Ent κ ν) : Ent κ ν := { e with place := 0 }
/-- Two rows that differ in places alone. -/
def Sim (a b : List (Ent κ ν)) : Prop := b.map strip = a.map strip

theorem Sim.refl (a : List (Ent κ ν)) : Sim a a := rfl
theorem Sim.trans {a b c : List (Ent κ ν)} (h : Sim a b) (k : Sim b c) : Sim a c := Eq.trans k h
theorem Sim.len {a b : List (Ent κ ν)} (h : Sim a b) : b.length = a.length := by
  have := congrArg List.length h; simpa using this
theorem Sim.set {a b : List (Ent κ ν)} (h : Sim a b) {t p : Nat} {e : Ent κ ν} (he : b[t]? = some e) : Sim a (b.set t { e with place := p }) := by
  unfold Sim at *
  rw [← h, List.map_set]
  apply List.ext_getElem?
  intro i
  by_cases hi : t = i
  · subst hi
    have hl := (List.getElem?_eq_some_iff.1 he).1
    rw [List.getElem?_set_self (by simpa using hl), List.getElem?_map, he]
    rfl
  · rw [List.getElem?_set_ne hi]
theorem Sim.at {a b : List (Ent κ ν)} (h : Sim a b) {t : Nat} {e : Ent κ ν} (he : b[t]? = some e) : ∃ p, a[t]? = some { e with place := p } := by
  have h1 : (b.map strip)[t]? = (a.map strip)[t]? := by rw [h]
  rw [List.getElem?_map, List.getElem?_map, he] at h1
  cases ha : a[t]? with
  | none => rw [ha] at h1; simp at h1
  | some x =>
    rw [ha] at h1
    simp only [Option.map_some, Option.some.injEq] at h1
    refine ⟨x.place, ?_⟩
    cases x; cases e
    simp only [strip, Ent.mk.injEq] at h1
    simp [h1]
theorem Sim.symm {a b : List (Ent κ ν)} (h : Sim a b) : Sim b a := Eq.symm h
theorem Sim.lives {a b : List (Ent κ ν)} (h : Sim a b) : Sim (live a) (live b) := by
  unfold Sim live at *
  have e : ∀ l : List (Ent κ ν), (l.filter (·.there)).map strip = (l.map strip).filter (·.there) := by
    intro l; rw [List.filter_map]; rfl
  rw [e, e, h]
theorem Sim.take {a b : List (Ent κ ν)} (h : Sim a b) (n : Nat) : Sim (a.take n) (b.take n) := by
  unfold Sim at *; rw [List.map_take, List.map_take, h]
theorem Sim.append {a b c d : List (Ent κ ν)} (h : Sim a b) (k : Sim c d) : Sim (a ++ c) (b ++ d) := by
  unfold Sim at *; rw [List.map_append, List.map_append, h, k]
theorem live_length_le (l : List (Ent κ ν)) : (live l).length ≤ l.length := List.length_filter_le _ _
theorem live_take_le_live (l : List (Ent κ ν)) (n : Nat) : (live (l.take n)).length ≤ (live l).length := by
  have : live l = live (l.take n) ++ live (l.drop n) := by rw [← live_append, List.take_append_drop]
  rw [this, List.length_append]; omega
/-- What was laid stays laid when one more comes. -/
theorem Lies.more {N n reach : Nat} {came : List (Ent κ ν)} {places : List Nat} (h : Lies N n reach came places) (hn : n ≤ came.length) (x : Ent κ ν) : Lies N n reach (came ++ [x]) places := by
  have e : ∀ t, t < n → (came ++ [x])[t]? = came[t]? := fun t ht => List.getElem?_append_left (by omega)
  refine ⟨h.len, fun p t hp => ?_, fun t e' ht he => ?_, fun t e' ht he => ?_, fun t e' ht he => ?_⟩
  · obtain ⟨h1, h2⟩ := h.back p t hp
    exact ⟨h1, by rw [e t h1]; exact h2⟩
  · rw [e t ht] at he; exact h.here t e' ht he
  · rw [e t ht] at he; exact h.first t e' ht he
  · rw [e t ht] at he; exact h.near t e' ht he
theorem live_set_same {l : List (Ent κ ν)} {t : Nat} {e e' : Ent κ ν} (he : l[t]? = some e) (ht : e.there = e'.there) : (live (l.set t e')).length = (live l).length := by
  induction l generalizing t with
  | nil => simp at he
  | cons x r ih =>
    cases t with
    | zero => simp at he; subst he; simp only [live, List.set_cons_zero, List.filter_cons, ht]; split <;> simp
    | succ t =>
      simp at he
      have := ih he
      simp only [live, List.set_cons_succ, List.filter_cons] at *
      split <;> simp [this]
theorem live_set_gone {l : List (Ent κ ν)} {t : Nat} {e e' : Ent κ ν} (he : l[t]? = some e) (ht : e.there = true) (ht' : e'.there = false) : (live (l.set t e')).length + 1 = (live l).length := by
  induction l generalizing t with
  | nil => simp at he
  | cons x r ih =>
    cases t with
    | zero => simp at he; subst he; simp [live, ht, ht']
    | succ t =>
      simp at he
      have := ih he
      simp only [live, List.set_cons_succ, List.filter_cons] at *
      split
      · rw [List.length_cons, List.length_cons]; omega
      · omega
end
end Go.Proofs.Ytnhmjheipfopoaa
namespace Go.Proofs.Ytnhmjheipfopoaa.L
open Go.RowKit Go.Maps Go.Proofs.Ytnhmjheipfopoaa

theorem run_makeSpots (n : Nat) (hn : 8 * n ≤ 281474976710656) (W : World) :
    (Instr.makeSlice 23 (.int .i64 n) (.int .i64 n)).run Try.prog W = .ok (.slice (some ⟨W.heap.size, 0, none⟩) n n) (W.alloc (.cells ((List.replicate n 0).map fun (p : Nat) => Value.int .i64 (p : Int)).toArray 3)) := by
  obtain ⟨i, hi, hz0, hz1, hz2⟩ := info_parts infoInt
  have h := run_make (P := Try.prog) W 23 3 i _ Try.underlying23 hi hz0 .i64 .i64 n n (by omega) (by omega) (by rw [hz2]; omega) (by omega)
  rw [hz1] at h
  have e : madeCells #[.int .i64 0] n = ((List.replicate n 0).map fun (p : Nat) => Value.int .i64 (p : Int)).toArray := by
    rw [List.map_replicate, show (((0 : Nat) : Int)) = 0 from rfl, ← toList_madeCells_one]
  rw [← e]
  simpa [Value.cells] using h

theorem zeros_replicate (n : Nat) : zeros (List.replicate n 0) = n := by simp [zeros, List.countP_replicate]

section
variable {w w' : World} {bt g cap pb N len reach : Nat} {fp : List LK} {came : List E} {places : List Nat}

theorem Mem.turn {S : Nat → Prop} (h : Mem w bt fp g cap pb N len reach came places) (ht : Turn S w w') (hn : ∀ k, three bt pb g k → ¬ S k) : Mem w' bt fp g cap pb N len reach came places :=
  ⟨h.box.turn ht (hn _ (.inl rfl)), h.row.turn ht (hn _ (.inr (.inr rfl))), h.spots.turn ht (hn _ (.inr (.inl rfl))), h.ne, h.len⟩

/-- The table is given an empty row of places. -/
theorem Mem.newSpots (h : Mem w bt fp g cap pb N len reach came places) (n : Nat) :
    Mem (((w.setCell ⟨bt, 3, none⟩ (.slice (some ⟨w.heap.size, 0, none⟩) n n)).setCell ⟨bt, 5, none⟩ (.int .i64 0)).alloc (.cells ((List.replicate n 0).map fun (p : Nat) => Value.int .i64 (p : Int)).toArray 3)) bt fp g cap w.heap.size n len 0 came (List.replicate n 0) ∧ Turn (fun k => k = bt ∨ k = g) w (((w.setCell ⟨bt, 3, none⟩ (.slice (some ⟨w.heap.size, 0, none⟩) n n)).setCell ⟨bt, 5, none⟩ (.int .i64 0)).alloc (.cells ((List.replicate n 0).map fun (p : Nat) => Value.int .i64 (p : Int)).toArray 3)) := by
  have hbl := h.box.lt
  have hgl := h.row.lt
  obtain ⟨pc0, h1⟩ := h.box
  have h3 := heap_setCell_same _ bt 3 _ _ (.slice (some ⟨w.heap.size, 0, none⟩) n n) h1
  have h4 := heap_setCell_same _ bt 5 _ _ (.int .i64 0) h3
  have hs : ((w.setCell ⟨bt, 3, none⟩ (.slice (some ⟨w.heap.size, 0, none⟩) n n)).setCell ⟨bt, 5, none⟩ (.int .i64 0)).heap.size = w.heap.size := by simp
  have hrow := (h.row.storeOther bt 3 (.slice (some ⟨w.heap.size, 0, none⟩) n n) (Ne.symm h.ne.b)).storeOther bt 5 (.int .i64 0) (Ne.symm h.ne.b)
  have hT : Turn (fun k => k = bt ∨ k = g) w ((w.setCell ⟨bt, 3, none⟩ (.slice (some ⟨w.heap.size, 0, none⟩) n n)).setCell ⟨bt, 5, none⟩ (.int .i64 0)) := ((Turn.refl _ w).set (.inl rfl) _ _).set (.inl rfl) _ _
  generalize (w.setCell ⟨bt, 3, none⟩ (.slice (some ⟨w.heap.size, 0, none⟩) n n)).setCell ⟨bt, 5, none⟩ (.int .i64 0) = w1 at h4 hs hrow hT ⊢
  refine ⟨⟨?_, ?_, ?_, ⟨by omega, h.ne.b, by omega⟩, by simp⟩, hT.trans (Turn.of_stay (Stay.new _ _))⟩
  · refine ⟨n, ?_⟩
    rw [Below.heap_alloc w1 _ bt (by omega), h4]
    simp
  · exact hrow.block (Below.heap_alloc w1 _ g (by omega))
  · refine Spots.mk1 ?_
    show (w1.alloc _).heap[w.heap.size]? = _
    rw [← hs]
    exact heap_new w1 _

set_option maxRecDepth 100000 in
set_option maxHeartbeats 2000000 in
theorem double_any (h : Mem w bt fp g cap pb N len reach came places) (hN : Pow N) (hN2 : N ≤ 274877906944) (hfew : 2 * (live came).length < 4 * N) (hh : ∀ (t : Nat) (e : E), came[t]? = some e → e.there = true → e.hash < 18446744073709551616) (hshort : came.length ≤ 1099511627776) :
    Calls Try.prog 79 #[.pointer (some ⟨bt, 0, none⟩)] w fun e' w' => e' = .returned (.tuple #[]) ∧ ∃ came' places' reach', Sim came came' ∧ Lies (2 * N) came.length reach' came' places' ∧ reach' < 2 * N ∧ zeros places' + (live came).length = 2 * N ∧
      Mem w' bt fp g cap w.heap.size (2 * N) len reach' came' places' ∧ Turn (fun k => k = bt ∨ k = g) w w' := by
  have hb := hN.bd
  have hN' : Pow (2 * N) := by
    obtain ⟨m, rfl, hm⟩ := hN
    refine ⟨m + 1, by rw [Nat.pow_succ]; omega, ?_⟩
    apply Nat.le_of_not_lt
    intro hlt
    have := Nat.pow_le_pow_right (show 0 < 2 by decide) (show 40 ≤ m by omega)
    have e : (2 : Nat) ^ 40 = 1099511627776 := by decide
    omega
  obtain ⟨pc3, c3⟩ := h.box.c3
  have f3 := h.box.free 3
  have f5 := h.box.free 5
  have c5 := h.box.c5
  have c2 := h.box.c2
  have hcl := h.row.len
  have hmk := run_makeSpots (2 * N) (by omega) w
  rw [show ((2 * N : Nat) : Int) = 2 * (N : Int) by simp] at hmk
  have HM := h.newSpots (2 * N)
  have hwb := h.box.lt
  generalize hL : (((List.replicate (2 * N) 0).map fun (p : Nat) => Value.int .i64 (p : Int)).toArray) = zs at hmk HM
  have H0 : Hid _ := HM
  clear HM hL
  have HH : Hid (∀ (t : Nat) (e : E), came[t]? = some e → e.there = true → e.hash < 18446744073709551616) := hh
  have HN : Hid (Pow (2 * N)) := hN'
  have hbn : bt ≠ w.heap.size := by omega
  clear hh hN' hN h
  go_enter Try.func79, Try.ntmps79
  go_wp2_with fail
  obtain ⟨hM0, hT0⟩ := H0.out
  generalize ((w.setCell ⟨bt, 3, none⟩ (.slice (some ⟨w.heap.size, 0, none⟩) (2 * N) (2 * N))).setCell ⟨bt, 5, none⟩ (.int .i64 0)).alloc (.cells zs 3) = w0 at hM0 hT0 ⊢
  have HM0 : Hid (Mem w0 bt fp g cap w.heap.size (2 * N) len 0 came (List.replicate (2 * N) 0) ∧ Turn (fun k => k = bt ∨ k = g) w w0) := ⟨hM0, hT0⟩
  clear hM0 hT0 H0 c2 c3 c5 f3 f5 hmk
  have hlt0 := live_take_le_live came
  go_loopw [2, 21] (fun _u i wr => ∃ n : Nat, n ≤ came.length ∧ i = .int .i64 (n : Int) ∧ ∃ came' places' reach', Sim came came' ∧ Lies (2 * N) n reach' came' places' ∧ reach' < 2 * N ∧ zeros places' + (live (came.take n)).length = 2 * N ∧
      Mem wr bt fp g cap w.heap.size (2 * N) len reach' came' places' ∧ Turn (fun k => k = bt ∨ k = g) w wr) (fun _u i _ => came.length - (intOf i).toNat)
  case atStart => exact ⟨0, Nat.zero_le _, rfl, came, _, 0, Sim.refl _, Lies.empty _ _, by omega, by simp [zeros_replicate, live], HM0.out⟩
  case round =>
    obtain ⟨n, hn, rfl, came', places', reach', hS, hL, hr, hz, hM, hT⟩ := hrel
    by_cases hlt : n < came.length
    · have hlen := hS.len
      obtain ⟨e, he⟩ : ∃ e, came'[n]? = some e := ⟨_, List.getElem?_eq_getElem (by omega)⟩
      obtain ⟨p, hp⟩ := hS.at he
      have c2 := hM.box.c2
      rw [hlen] at c2
      have ct := (hM.row.cells n e he).2.2.2.2
      have hz0 : 0 < zeros places' := by have := hlt0 n; omega
      have HR : Hid (Sim came came' ∧ Lies (2 * N) n reach' came' places' ∧ reach' < 2 * N ∧ zeros places' + (live (came.take n)).length = 2 * N ∧ Mem wr bt fp g cap w.heap.size (2 * N) len reach' came' places' ∧ Turn (fun k => k = bt ∨ k = g) w wr ∧ came[n]? = some { e with place := p } ∧ came'[n]? = some e) := ⟨hS, hL, hr, hz, hM, hT, hp, he⟩
      have hLi : (n : Int) < (came.length : Int) := by omega
      have hmx : came.length ≤ 9223372036854775807 := by omega
      cases hth : e.there with
      | false =>
        rw [hth] at ct
        clear hS hL hr hz hM hT hp he hlt0
        go_wp2_with fail
        obtain ⟨hS, hL, hr, hz, hM, hT, hp, he⟩ := HR.out
        refine ⟨⟨n + 1, hlt, by simp, came', places', reach', hS, hL.skip (fun e' he' => ?_), hr, ?_, hM, hT⟩, by simp [intOf]; omega⟩
        · rw [he] at he'; simp only [Option.some.injEq] at he'; subst he'; exact hth
        · rw [live_take hp, if_neg (by show ¬ e.there = true; rw [hth]; decide)]; exact hz
      | true =>
        rw [hth] at ct
        have hlay := lay_any hM HN.out hz0 he (HH.out n { e with place := p } hp hth) hr (by omega)
        clear hS hL hr hz hM hT hp he hlt0
        go_wp2_with fail
        refine hlay.mono ?_
        rintro e9 w9 ⟨rfl, r, hf9, hM9, hT9⟩
        have H9 : Hid (Free (2 * N) (e.hash % (2 * N)) places' r ∧ Mem w9 bt fp g cap w.heap.size (2 * N) len (max reach' (dist (2 * N) (e.hash % (2 * N)) r)) (came'.set n { e with place := r }) (places'.set r (n + 1)) ∧ Turn (three bt w.heap.size g) wr w9) := ⟨hf9, hM9, hT9⟩
        clear hf9 hM9 hT9 hlay
        go_wp2_with fail
        obtain ⟨hS, hL, hr, hz, hM, hT, hp, he⟩ := HR.out
        obtain ⟨hf9, hM9, hT9⟩ := H9.out
        refine ⟨⟨n + 1, hlt, by simp, _, _, _, hS.set he, hL.lay he hth hf9, ?_, ?_, hM9, hT.then hT9 ?_⟩, by simp [intOf]; omega⟩
        · have := (dist_spec (Nat.mod_lt e.hash (show 0 < 2 * N by omega)) hf9.1).1
          omega
        · have h1 := zeros_set_pos hf9.2.1 (show n + 1 ≠ 0 by omega)
          rw [live_take hp, if_pos (show ({ e with place := p } : E).there = true from hth), List.length_append]
          simp only [List.length_cons, List.length_nil]
          omega
        · rintro i hi (rfl | rfl | rfl)
          · exact .inl rfl
          · omega
          · exact .inr rfl
    · obtain rfl : n = came.length := by omega
      rw [List.take_length] at hz
      have HR : Hid (∃ came' places' reach', Sim came came' ∧ Lies (2 * N) came.length reach' came' places' ∧ reach' < 2 * N ∧ zeros places' + (live came).length = 2 * N ∧ Mem wr bt fp g cap w.heap.size (2 * N) len reach' came' places' ∧ Turn (fun k => k = bt ∨ k = g) w wr) := ⟨came', places', reach', hS, hL, hr, hz, hM, hT⟩
      clear hS hL hr hz hM hT hlt0
      go_wp2_with fail
      go_end0
      exact ⟨rfl, HR.out⟩
end
end Go.Proofs.Ytnhmjheipfopoaa.L
