/- The statements' small helpers: Same, left, spoil. -/
import Derived.Test.YtnhmjheipfopoaaL6c
namespace Go.Proofs.Ytnhmjheipfopoaa.L
open Go.RowKit Go.Maps Go.Shelf Go.Proofs.Ytnhmjheipfopoaa

set_option maxRecDepth 100000 in
set_option maxHeartbeats 1000000 in
theorem y4Same_any (w : World) (a1 a2 : Option Addr) (b1 o1 b2 o2 c1 c2 : Nat) (xs ys : List Int) (hx : IntsS w a1 b1 o1 xs) (hy : IntsS w a2 b2 o2 ys) (hlx : xs.length ≤ maxLen) (hly : ys.length ≤ maxLen) :
    Calls Try.prog 13 #[.slice a1 xs.length c1, .slice a2 ys.length c2] w fun e w' => e = .returned (.bool (decide (xs = ys))) ∧ ∃ n, w' = w.drewN n := by
  unfold maxLen at hlx hly
  by_cases hl : xs.length = ys.length
  · have hne : ((xs.length : Int) != (ys.length : Int)) = false := by simp [hl]
    have HX : Hid (IntsS w a1 b1 o1 xs ∧ IntsS w a2 b2 o2 ys) := ⟨hx, hy⟩
    have HL : Hid (xs.length = ys.length) := hl
    clear hx hy hl
    go_enter Try.func13, Try.ntmps13
    go_wp2
    go_loopw [5] (fun i wr => ∃ k : Nat, k ≤ xs.length ∧ i = .int .i64 k ∧ xs.take k = ys.take k ∧ ∃ n, wr = w.drewN n) (fun i _ => xs.length - (intOf i).toNat)
    case atStart => exact ⟨0, Nat.zero_le _, rfl, by simp, 0, rfl⟩
    case round =>
      obtain ⟨k, hk, rfl, htk, n, rfl⟩ := hrel
      by_cases hlt : k < xs.length
      · have hl := HL.out
        have hlt2 : k < ys.length := by omega
        obtain rfl := HX.out.1.1 (by omega)
        obtain rfl := HX.out.2.1 (by omega)
        have hc1 := HX.out.1.2 k hlt
        have hc2 := HX.out.2.2 k hlt2
        have hi1 : (k : Int) < (xs.length : Int) := by omega
        have hi2 : (k : Int) < (ys.length : Int) := by omega
        have HT : Hid (∀ z, z = decide (xs[k] = ys[k]) → z = true → xs.take (k + 1) = ys.take (k + 1)) := by
          rintro z rfl h2
          rw [List.take_succ_eq_append_getElem hlt, List.take_succ_eq_append_getElem hlt2, htk, of_decide_eq_true h2]
        have HF : Hid (xs[k] ≠ ys[k] → decide (xs = ys) = false) := fun h => by
          rw [decide_eq_false_iff_not]; rintro rfl; exact h rfl
        generalize xs[k] = x at hc1 HT HF
        generalize ys[k] = y at hc2 HT HF
        clear hl htk
        go_wp2
        go_quiet (fail)
        go_wp2
        · have hxy : (x != y) = true := by assumption
          go_ret
          exact ⟨by rw [HF.out (by simpa using hxy)]; rfl, _, World.drewN_drewN _ _ _⟩
        · have hxy : (x != y) = false := by assumption
          go_roundw
          case rel => exact ⟨k + 1, by omega, by go_num, HT.out _ rfl (by simpa using hxy), _, rfl⟩
          case measure => simp [intOf]; omega
      · go_wp2
        go_ret
        have hl := HL.out
        rw [List.take_of_length_le (by omega), List.take_of_length_le (by omega)] at htk
        exact ⟨by simp [htk], n, rfl⟩
  · have hne : ((xs.length : Int) != (ys.length : Int)) = true := by simp; omega
    have hd : decide (xs = ys) = false := by rw [decide_eq_false_iff_not]; rintro rfl; exact hl rfl
    have HD : Hid (decide (xs = ys) = false) := hd
    clear hx hy hd hl
    go_enter Try.func13, Try.ntmps13
    go_wp2
    go_ret
    exact ⟨by rw [HD.out]; rfl, 0, rfl⟩

theorem Lent4.marks {base : Nat} {w : World} {g cap : Nat} {xs : List Int} (h : Lent4 base w g cap xs) : w.cell? ⟨g, xs.length, none⟩ = some (.int .i64 (-77)) ∧ w.cell? ⟨g, xs.length + 1, none⟩ = some (.int .i64 (-77)) := by
  unfold Lent4 OwnI at h
  rw [List.length_append] at h
  refine ⟨row_cell h _ _ ?_, row_cell h _ _ ?_⟩
  · rw [List.getElem?_map, List.getElem?_append_right (by omega)]; simp
  · rw [List.getElem?_map, List.getElem?_append_right (by omega)]; simp
theorem Lent4.turn {S : Nat → Prop} {base : Nat} {w w' : World} {g cap : Nat} {xs : List Int} (h : Lent4 base w g cap xs) (ht : Turn S w w') (hn : ¬ S g) : Lent4 base w' g cap xs :=
  ownI_turn h ht (fun k hk => by simp [Value.ownBlock] at hk; subst hk; exact hn)
theorem Lent4.stay {base : Nat} {w w' : World} {g cap : Nat} {xs : List Int} (h : Lent4 base w g cap xs) (hs : Stay w w') : Lent4 base w' g cap xs := OwnI.stay h hs

set_option maxRecDepth 100000 in
set_option maxHeartbeats 1000000 in
theorem left_any (w : World) (g c : Nat) (a2 : Option Addr) (b2 o2 c2 base : Nat) (xs : List Int) (hl : Lent4 base w g c xs) (hS : IntsS w a2 b2 o2 xs) :
    Calls Try.prog 38 #[.slice (some ⟨g, 0, none⟩) xs.length c, .slice a2 xs.length c2] w fun e w' => e = .returned (.bool true) ∧ Stay w w' := by
  obtain ⟨_, hb1, hb2, _⟩ := hl.bound
  obtain ⟨k1, k2⟩ := hl.marks
  have hsm := y4Same_any w (some ⟨g, 0, none⟩) a2 g 0 b2 o2 c c2 xs xs hl.ints hS (by omega) (by omega)
  rw [show decide (xs = xs) = true by simp] at hsm
  have HM : Hid (∀ n, (w.drewN n).cell? ⟨g, xs.length, none⟩ = some (.int .i64 (-77)) ∧ (w.drewN n).cell? ⟨g, xs.length + 1, none⟩ = some (.int .i64 (-77))) := fun n => ⟨k1, k2⟩
  unfold maxLen at hb2
  have hb3 : (xs.length : Int) + 2 ≤ (c : Int) := by omega
  have hb4 : (c : Int) ≤ 9223372036854775807 := by omega
  clear hl hS k1 k2
  go_enter Try.func38, Try.ntmps38
  go_wp2_with (go_at_call 13; refine hsm.mono ?_; rintro e w9 ⟨rfl, n, rfl⟩; obtain ⟨k1, k2⟩ := HM.out n)
  go_ret
  exact ⟨by first | rfl | simp, Stay.drewN _ _⟩

/-- A list of n numbers that may be written over and grown: nothing lies in it, or it lies in cells of ints. -/
def Rm (w : World) (v : Value) (n : Nat) : Prop := (∃ c, v = .slice none 0 c ∧ n = 0 ∧ c = 0) ∨ ∃ g cap cur, v = .slice (some ⟨g, 0, none⟩) n cap ∧ w.heap[g]? = some (.cells cur 3 (0, 0)) ∧ n ≤ cap ∧ cap ≤ cur.size ∧ cap ≤ maxLen

theorem Rm.of_own {base : Nat} {w : World} {v : Value} {zs : List Int} (h : OwnI base w v zs) : Rm w v zs.length := by
  rcases h.2 with ⟨rfl, h2⟩ | ⟨g, c, cur, rfl, hb, hh, h1, h2, h3, h4⟩
  · rw [h2]; exact .inl ⟨0, rfl, rfl, rfl⟩
  · exact .inr ⟨g, c, cur, rfl, hh, h1, by omega, h2⟩
theorem Rm.of_lent {base : Nat} {w : World} {g cap : Nat} {xs : List Int} (h : Lent4 base w g cap xs) : Rm w (.slice (some ⟨g, 0, none⟩) xs.length xs.length) xs.length := by
  obtain ⟨_, hb1, hb2, _⟩ := h.bound
  rcases h.2 with ⟨h1, _⟩ | ⟨g', c, cur, hv, hb, hh, h1, h2, h3, h4⟩
  · simp at h1
  · simp only [Value.slice.injEq, Option.some.injEq, Addr.mk.injEq, and_true] at hv
    obtain ⟨rfl, _, rfl⟩ := hv
    exact .inr ⟨g, xs.length, cur, rfl, hh, Nat.le_refl _, by omega, by omega⟩

/-- An append of one number. -/
theorem rm_append {w : World} {v : Value} {n : Nat} (h : Rm w v n) (ty : TypeId) (i : TypeInfo) (hi : Try.prog.info? 3 = some i) (hz : i.zero = some (.int .i64 0)) (hsize : i.size = 1) (hby : i.bytes = 8) (a : Addr) (c : Nat) (u : Value) (hnews : ∀ j x, [u][j]? = some x → w.cell? (a.add j) = some x) (h1 : u.oneCell' = true) (hb : n + 1 ≤ 1099511627776) :
    ∃ v' w', (Builtin.append_ #[23, 23] ty #[v, .slice (some a) 1 c]).run Try.prog w = .ok v' w' ∧ Rm w' v' (n + 1) ∧ Turn (fun k => v.ownBlock = some k) w w' ∧ (v'.ownBlock = v.ownBlock ∨ ∃ g, v'.ownBlock = some g ∧ w.heap.size ≤ g) := by
  rcases h with ⟨c0, rfl, rfl, rfl⟩ | ⟨g, cap, cur, rfl, hh, h2, h3, h4⟩
  · obtain ⟨v', w', hr, h2, h3, _, h5⟩ := run_append_own_at (P := Try.prog) w 0 23 ty 3 i (.int .i64 0) 1 8 Try.underlying23 hi hz hsize hby rfl (by decide) _ 0 [] (World.ownsRow_nil _ _ _ _) a 1 c [u] rfl hnews (by simpa using h1) (by unfold maxLen; omega) (by omega) (Nat.zero_le _)
    refine ⟨v', w', hr, ?_, ⟨h3.os, h3.tape, h3.output, h3.size, fun k hk hn => h3.block k hk (fun e => hn e.symm)⟩, ?_⟩
    · rcases h2.2 with ⟨_, h6⟩ | ⟨g, c, cur, rfl, hb, hh, q1, q2, q3, q4⟩
      · omega
      · exact .inr ⟨g, c, cur, rfl, hh, q1, by omega, q2⟩
    · rcases h5 with e | e
      · exact .inl e
      · exact .inr ⟨_, e, Nat.le_refl _⟩
  · by_cases hroom : n + 1 ≤ cap
    · have e := run_append_room (P := Try.prog) w 23 ty 3 i Try.underlying23 hi g n cap cur hh a 1 c [u] (by simp [hsize]) hnews (by simpa using h1) hroom (by simp [hsize]; omega)
      refine ⟨_, _, e, .inr ⟨g, cap, _, rfl, setRow_heap _ _ _ _ _ _ hh, hroom, ?_, h4⟩, ⟨rfl, rfl, rfl, by simp, fun k hk hn => ?_⟩, .inl rfl⟩
      · simp [hsize]; omega
      · have hne : g ≠ k := fun e => hn (by rw [e]; rfl)
        simp [World.setRow, Array.getElem?_modify, hne]
    · have holds : ∀ j x, (cur.toList.take n)[j]? = some x → w.cell? ((⟨g, 0, none⟩ : Addr).add j) = some x := fun j x hj => by
        rw [add_at, Nat.zero_add]
        have hjn : j < n := by have := (List.getElem?_eq_some_iff.1 hj).1; simp at this; omega
        rw [List.getElem?_take_of_lt hjn] at hj
        simp only [World.cell?, hh]
        simpa using hj
      have hzc : (Builtin.zeroCells (Value.int .i64 0).cells (grownCap w (n + 1) cap 3 - (n + 1))).size = grownCap w (n + 1) cap 3 - (n + 1) := by
        rw [size_zeroCells]; simp [Value.cells]
      have hge := grownCap_ge w (n + 1) cap 3
      have e := run_append_grow (P := Try.prog) w 23 ty 3 i (.int .i64 0) Try.underlying23 hi hz ⟨g, 0, none⟩ n cap (cur.toList.take n) (by simp [hsize]; omega) holds a 1 c [u] (by simp [hsize]) hnews (by omega) (by omega) (by rw [hby]; exact growslice_fits (by omega) (by omega))
      refine ⟨_, _, e, .inr ⟨w.heap.size, _, _, rfl, heap_new w.drew _, hge, ?_, grownCap_le_maxLen _ _ _ _ (by unfold maxLen; omega)⟩, ?_, .inr ⟨_, rfl, Nat.le_refl _⟩⟩
      · rw [Array.size_append, Array.size_append, hzc]; simp; omega
      · exact (Turn.of_stay ((Stay.drew w).trans (Stay.new w.drew _)))

theorem wpList_rm_append {w : World} {ops : Array Oper} {rest : List Oper} {o : Oper} {a : Act} {Q : Exit → Act → World → Prop} (hgd : o.guard = none) (s x : Operand)
    (ho : o.op = .call { callee := .builtin .append, args := #[s, x], argTypes := #[23, 23] }) (i : TypeInfo) (hi : Try.prog.info? 3 = some i) (hz : i.zero = some (.int .i64 0)) (hsize : i.size = 1) (hby : i.bytes = 8)
    (v : Value) (n : Nat) (hs : a.eval s = v) (h : Rm w v n) (ad : Addr) (c : Nat) (u : Value) (hx : a.eval x = .slice (some ad) 1 c)
    (hnews : ∀ j x, [u][j]? = some x → w.cell? (ad.add j) = some x) (h1 : u.oneCell' = true) (hb : n + 1 ≤ 1099511627776)
    (hk : ∀ v' w', Rm w' v' (n + 1) → Turn (fun k => v.ownBlock = some k) w w' → (v'.ownBlock = v.ownBlock ∨ ∃ g, v'.ownBlock = some g ∧ w.heap.size ≤ g) → wpList Try.prog ops Q rest (a.put o.dst v') w') :
    wpList Try.prog ops Q (o :: rest) a w := by
  refine wpList_plain hgd fun K hK => ?_
  obtain ⟨v', w', hr, k1, k2, k3⟩ := rm_append h o.type i hi hz hsize hby ad c u hnews h1 hb
  unfold Oper.wp execOp
  simp only [ho, resolve, invoke, builtin, Sem.run_bind, Sem.run_pure, Result.andThen_ok, List.map_toArray, List.map_cons, List.map_nil, hs, hx, hr]
  exact hK _ _ (hk v' w' k1 k2 k3)

theorem Rm.alloc {w : World} {v : Value} {n : Nat} (h : Rm w v n) (o : Obj) : Rm (w.alloc o) v n := by
  rcases h with h | ⟨g, cap, cur, rfl, hh, h2⟩
  · exact .inl h
  · exact .inr ⟨g, cap, cur, rfl, (Stay.new w o).heap hh, h2⟩
theorem Rm.at {w : World} {v : Value} {n : Nat} (h : Rm w v n) {k : Nat} (hk : k < n) : ∃ g cap, v = .slice (some ⟨g, 0, none⟩) n cap ∧ (∃ x, w.cell? ⟨g, k, none⟩ = some x) ∧ w.frozen? ⟨g, k, none⟩ = false ∧ ∀ u, Rm (w.setCell ⟨g, k, none⟩ u) v n := by
  rcases h with ⟨_, _, h0, _⟩ | ⟨g, cap, cur, rfl, hh, h2, h3, h4⟩
  · omega
  · refine ⟨g, cap, rfl, ⟨cur[k]'(by omega), by simp [World.cell?, hh, show k < cur.size by omega]⟩, by simp [World.frozen?, hh], fun u => .inr ⟨g, cap, _, rfl, heap_setCell_same _ _ _ _ _ _ hh, h2, by simpa using h3, h4⟩⟩

set_option maxRecDepth 100000 in
set_option maxHeartbeats 1000000 in
/-- spoil: a list is written over, and grown. -/
theorem spoil_any (w : World) (v : Value) (n : Nat) (h : Rm w v n) (hn : n ≤ 1048576) : Calls Try.prog 39 #[v] w fun e w' => (∃ r, e = .returned r) ∧ Turn (fun k => v.ownBlock = some k) w w' := by
  obtain ⟨i0, hi, hz0, hz1, hz2⟩ := info_parts infoInt
  have hv : ∃ a c, v = .slice a n c := by
    rcases h with ⟨c, h1, h2, _⟩ | ⟨g, cap, _, h1, _⟩
    · exact ⟨none, c, by rw [h1, h2]⟩
    · exact ⟨_, _, h1⟩
  obtain ⟨a, c, rfl⟩ := hv
  have H0 : Hid (Rm w (.slice a n c) n) := h
  clear h
  go_enter Try.func39, Try.ntmps39
  go_wp2
  go_loopw [2] (fun i wr => ∃ k : Nat, k ≤ n ∧ i = .int .i64 k ∧ Rm wr (.slice a n c) n ∧ Turn (fun k => (Value.slice a n c).ownBlock = some k) w wr) (fun i _ => n - (intOf i).toNat)
  case atStart => exact ⟨0, Nat.zero_le _, rfl, H0.out, Turn.refl _ _⟩
  case round =>
    obtain ⟨k, hk, rfl, hR, ht⟩ := hrel
    by_cases hlt : k < n
    · have hkb : (k : Int) < (n : Int) := by omega
      obtain ⟨g, cap, hv, ⟨x, hx⟩, hf, hN⟩ := hR.at hlt
      simp only [Value.slice.injEq, true_and] at hv
      obtain ⟨rfl, rfl⟩ := hv
      have HN : Hid (Rm (wr.setCell ⟨g, k, none⟩ (.int .i64 (-9))) (.slice (some ⟨g, 0, none⟩) n c) n ∧ Turn (fun k => (Value.slice (some ⟨g, 0, none⟩) n c).ownBlock = some k) w (wr.setCell ⟨g, k, none⟩ (.int .i64 (-9)))) := ⟨hN _, ht.set (g := g) rfl k _⟩
      clear hR ht hN
      go_wp2
      go_roundw
      case rel => exact ⟨k + 1, by omega, by go_num, HN.out⟩
      case measure => simp [intOf]; omega
    · have hkb : ¬ (k : Int) < (n : Int) := by omega
      rename World => wA
      have HR : Hid (Rm wA (.slice a n c) n ∧ Turn (fun k => (Value.slice a n c).ownBlock = some k) w wA) := ⟨hR, ht⟩
      clear hR ht
      go_wp2
      go_loopw [0, 3] (fun v i wr => ∃ k : Nat, k ≤ 20 ∧ i = .int .i64 k ∧ Rm wr v (n + k) ∧ Turn (fun k => (Value.slice a n c).ownBlock = some k) w wr ∧ ∀ j, v.ownBlock = some j → (Value.slice a n c).ownBlock = some j ∨ w.heap.size ≤ j) (fun _ i _ => 20 - (intOf i).toNat)
      case atStart => exact ⟨0, Nat.zero_le _, rfl, HR.out.1, HR.out.2, fun j hj => .inl hj⟩
      case round =>
        clear HR
        obtain ⟨k, hk, rfl, hR, ht, ho⟩ := hrel
        by_cases hlt : k < 20
        · have hkb : (k : Int) < 20 := by omega
          have HR : Hid (Rm wr u0 (n + k) ∧ Turn (fun k => (Value.slice a n c).ownBlock = some k) w wr ∧ ∀ j, u0.ownBlock = some j → (Value.slice a n c).ownBlock = some j ∨ w.heap.size ≤ j) := ⟨hR, ht, ho⟩
          clear hR ht ho
          go_wp2_with (at_builtin; refine wpList_rm_append rfl _ _ rfl i0 hi hz0 hz1 hz2 u0 (n + k) rfl (HR.out.1.alloc _) ⟨wr.heap.size, 0, none⟩ 1 (.int .i64 (-9)) rfl (new_cells wr [.int .i64 (-9)] 3) (by simp [Value.oneCell']) (by omega) ?_; intro v2 w2 hR2 ht2 hl2; have HN : Hid (Rm w2 v2 (n + (k + 1)) ∧ Turn (fun k => (Value.slice a n c).ownBlock = some k) w w2 ∧ ∀ j, v2.ownBlock = some j → (Value.slice a n c).ownBlock = some j ∨ w.heap.size ≤ j) := (by
              obtain ⟨_, q2, q3⟩ := HR.out
              have hsz := q2.size
              refine ⟨hR2, (q2.then (Turn.of_stay (S := fun k => (Value.slice a n c).ownBlock = some k) (Stay.new wr (.cells #[.int .i64 (-9)] 3))) (fun i hi e => e)).then ht2 (fun i hi e => ?_), fun j hj => ?_⟩
              · rcases q3 i e with h | h
                · exact h
                · omega
              · rcases hl2 with e | ⟨g, e, hg⟩
                · exact q3 j (e ▸ hj)
                · rw [e] at hj; simp only [Option.some.injEq] at hj; rw [World.size_alloc] at hg; exact .inr (by omega)); clear hR2 ht2 hl2)
          go_roundw
          case rel => exact ⟨k + 1, by omega, by go_num, HN.out⟩
          case measure => simp [intOf]; omega
        · have hkb : ¬ (k : Int) < 20 := by omega
          have HT : Hid (Turn (fun k => (Value.slice a n c).ownBlock = some k) w wr) := ht
          clear hR ht ho
          go_wp2
          go_end0
          exact ⟨⟨_, rfl⟩, HT.out⟩
end Go.Proofs.Ytnhmjheipfopoaa.L
