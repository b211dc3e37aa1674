/- FactsOrder: the walk. -/
import Derived.Test.YthpecmdfppdkaabFZ
import Derived.Test.YthpecmdfppdkaabFAh
namespace Go.Proofs.Ythpecmdfppdkaab
open Go.RowKit Go.Maps

theorem any_mem {α : Type} {l m : List α} (h : ∀ x, x ∈ l ↔ x ∈ m) (p : α → Bool) : l.any p = m.any p := by
  rw [Bool.eq_iff_iff, List.any_eq_true, List.any_eq_true]
  exact ⟨fun ⟨x, h1, h2⟩ => ⟨x, (h x).1 h1, h2⟩, fun ⟨x, h1, h2⟩ => ⟨x, (h x).2 h1, h2⟩⟩
theorem refZ_mem {l m : List (List ByteArray)} (h : ∀ x, x ∈ l ↔ x ∈ m) (z : Int) : refZ l z = refZ m z := by
  unfold refZ
  rw [any_mem h, any_mem h]
theorem relT_mem {l m : List (List ByteArray)} (h : ∀ x, x ∈ l ↔ x ∈ m) (z : Int) : relT l z = relT m z := by
  unfold relT
  have e : setR l = setR m := setR_is (setR_ris l) (fun x => by rw [setR_mem, h])
  rw [refZ_mem h, e]
/-- Each twice. -/
def dbl (l : List Tx) : List Tx := l.flatMap fun t => [t, t]
theorem dbl_snoc (l : List Tx) (t : Tx) : dbl (l ++ [t]) = dbl l ++ [t, t] := by simp [dbl]
theorem dbl_mem (l : List Tx) (t : Tx) : t ∈ dbl l ↔ t ∈ l := by simp [dbl]
theorem dbl_len : ∀ l : List Tx, (dbl l).length = l.length * 2
  | [] => rfl
  | t :: l => by have := dbl_len l; simp only [dbl, List.flatMap_cons, List.length_append, List.length_cons, List.length_nil] at *; omega
theorem dbl_drop {ts : List Tx} {j : Nat} (h : j < ts.length) : dbl (ts.drop j).reverse = dbl (ts.drop (j + 1)).reverse ++ [ts[j], ts[j]] := by
  rw [List.drop_eq_getElem_cons h, List.reverse_cons, dbl_snoc]
/-- A list of lists that is one's own; the lists are not. -/
structure More (W wr : World) (v : Value) (m : List Tx) : Prop where
  row : wr.ownsRow W.heap.size 29 1 v m.length (m.map Tx.v)
  stay : Stay W wr
theorem More.drew {W wr : World} {v : Value} {m : List Tx} (h : More W wr v m) : More W wr.drew v m :=
  ⟨(Turn.of_stay (S := fun _ => False) (Stay.drew wr)).row h.row (fun _ _ h => h), h.stay.trans (Stay.drew wr)⟩
theorem More.push {W wr : World} {v : Value} {m : List Tx} (h : More W wr v m) (t : Tx) (hb : (m.length + 2) * 24 ≤ 140737488355328) :
    ∃ v' V, (Builtin.append_ #[22, 22] 22 #[v, .slice (some ⟨wr.heap.size, 0, none⟩) 2 2]).run Try.prog (wr.alloc (.cells #[t.v, t.v] 29)) = .ok v' V ∧ More W V v' (m ++ [t, t]) := by
  obtain ⟨i0, hi, hz0, hz1, hz2⟩ := info_parts infoSs
  obtain ⟨v', V, hr, h2, h3, h4, h5⟩ := run_append_own_at (P := Try.prog) (wr.alloc (.cells #[t.v, t.v] 29)) W.heap.size 22 22 29 i0 (.slice none 0 0) 1 24 Try.underlying22 hi hz0 hz1 hz2 rfl (by decide) v m.length (m.map Tx.v) (h.row.alloc _) ⟨wr.heap.size, 0, none⟩ 2 2 [t.v, t.v] rfl (new_cells wr [t.v, t.v] _) (by intro x hx; simp at hx; subst hx; exact slice_one) (by unfold maxLen; omega) (by omega) (by have := h.stay.size; simp; omega)
  refine ⟨v', V, hr, ⟨by rw [List.map_append, List.length_append]; exact h2, (Turn.of_grown h3).stay (h.stay.alloc _) (fun k hk e => ?_)⟩⟩
  have := (World.ownsRow.lt h.row k e).1
  omega
theorem More.txs {W wr : World} {v : Value} {m : List Tx} (h : More W wr v m) (hS : ∀ t ∈ m, t.S wr) : ∃ a b c, v = .slice a m.length c ∧ TxsS wr a b 0 m := by
  have hrow := h.row
  rcases h.row.2 with ⟨hv, h0⟩ | ⟨g, cap, cur, hv, hb, hh, k1, k2, k3, k4⟩
  · have e : m = [] := List.eq_nil_of_length_eq_zero h0
    subst e
    exact ⟨none, 0, 0, hv, fun h => absurd h (Nat.lt_irrefl _), fun _ h => absurd h (Nat.not_lt_zero _)⟩
  · rw [hv] at hrow
    refine ⟨some ⟨g, 0, none⟩, g, cap, hv, fun _ => rfl, fun j hj => ⟨?_, hS _ (List.getElem_mem hj)⟩⟩
    rw [Nat.zero_add]
    exact row_cell hrow j _ (by simp [hj])
/-- The box of a relation. -/
theorem box_rel {W V : World} {q : ByteArray} {n : Int} {v : Value} (h : Stay (W.alloc (.cells #[.string q, .int .i64 n, v] 25)) V) : V.cell? ⟨W.heap.size, 2, none⟩ = some v := by
  have hr : Rel3 V W.heap.size q n v := (h.block _ (by simp)).trans (heap_new W _)
  exact hr.cells.2.2.1

set_option maxRecDepth 100000 in
set_option maxHeartbeats 8000000 in
theorem order_walk (w : World) (a : Option Addr) (b off c : Nat) (ts : List Tx) (z : Int) (hT : TxsS w a b off ts) (hm : ∀ t ∈ ts, t.xs.length ≤ 1048576) (hl : ts.length ≤ 1048576) :
    Calls Try.prog 3 #[.slice a ts.length c, .int .i64 z] w fun e w' => e = .returned (.bool true) ∧ Stay w w' := by
  have hn := lnum_any
  have hkn := known_any w
  have hR1 := fun V (hV : Stay w V) => Relation_any (c := c) ⟨#[112]⟩ z (hT.stay hV) (by decide) (by omega) (fun t ht => by have := hm t ht; unfold maxLen; omega)
  have hmem : ∀ x, x ∈ (dbl ts.reverse).map Tx.xs ↔ x ∈ ts.map Tx.xs := fun x => by
    simp only [List.mem_map, dbl_mem, List.mem_reverse]
  have hR2 := fun V (hV : Stay w V) v (hM : ∃ W, More W V v (dbl ts.reverse)) => (by
    obtain ⟨W, hM⟩ := hM
    obtain ⟨a2, b2, c2, rfl, h2⟩ := hM.txs (fun t ht => by
      rw [dbl_mem, List.mem_reverse] at ht
      obtain ⟨j, hj, rfl⟩ := List.mem_iff_getElem.1 ht
      exact ((hT.stay hV).2 j hj).2)
    have := Relation_any (c := c2) ⟨#[112]⟩ z h2 (by decide) (by rw [dbl_len, List.length_reverse]; omega) (fun t ht => by
      rw [dbl_mem, List.mem_reverse] at ht
      have := hm t ht; unfold maxLen; omega)
    rw [refZ_mem hmem, relT_mem hmem] at this
    exact this : Calls Try.prog 5 #[.string ⟨#[112]⟩, .int .i64 z, v] V fun e w' => ∃ q n v us, e = .returned (.tuple #[.agg #[.string q, .int .i64 n, v], .int .i64 (refZ (ts.map Tx.xs) z)]) ∧ (q, n) = (if refZ (ts.map Tx.xs) z = 0 then ((⟨#[112]⟩ : ByteArray), z) else (⟨#[]⟩, 0)) ∧ OwnG V.heap.size w' v us (relT (ts.map Tx.xs) z) ∧ Stay V w')
  have hrl : (relT (ts.map Tx.xs) z).length ≤ 1048576 := by
    unfold relT
    split
    · have := setR_len (ts.map Tx.xs); rw [List.length_map] at this; omega
    · simp
  have hrm : ∀ t ∈ relT (ts.map Tx.xs) z, t ∈ ts.map Tx.xs := fun t ht => by
    unfold relT at ht
    split at ht
    · exact (setR_mem _ _).1 ht
    · simp at ht
  have hrk : ∀ t ∈ relT (ts.map Tx.xs) z, t.length ≤ 140737488355328 := fun t ht => by
    obtain ⟨u, hu, rfl⟩ := List.mem_map.1 (hrm t ht)
    have := hm u hu; omega
  have hris : RisS (relT (ts.map Tx.xs) z) := by
    unfold relT
    split
    · exact setR_ris _
    · exact List.Pairwise.nil
  have hback : refZ (ts.map Tx.xs) z = 0 → ∀ t ∈ ts.map Tx.xs, t ∈ relT (ts.map Tx.xs) z := fun h t ht => by
    unfold relT; rw [if_pos h]; exact (setR_mem _ _).2 ht
  have hnil : ¬ refZ (ts.map Tx.xs) z = 0 → relT (ts.map Tx.xs) z = [] := fun h => by unfold relT; rw [if_neg h]
  generalize refZ (ts.map Tx.xs) z = E at *
  generalize relT (ts.map Tx.xs) z = RT at *
  obtain ⟨n, hnn⟩ : ∃ n, n = ts.length := ⟨_, rfl⟩
  have HN : Hid (n = ts.length) := hnn
  have HT : Hid (TxsS w a b off ts ∧ (∀ t ∈ ts, t.xs.length ≤ 1048576)) := ⟨hT, hm⟩
  have HR : Hid (RT.length ≤ 1048576 ∧ (∀ t ∈ RT, t ∈ ts.map Tx.xs) ∧ (∀ t ∈ RT, t.length ≤ 140737488355328) ∧ RisS RT ∧ (E = 0 → ∀ t ∈ ts.map Tx.xs, t ∈ RT) ∧ (¬ E = 0 → RT = [])) := ⟨hrl, hrm, hrk, hris, hback, hnil⟩
  rw [← hnn] at hR1 hl ⊢
  clear hT hm hmem hrl hrm hrk hris hback hnil hnn
  go_enter Try.func3, Try.ntmps3
  go_wp2_with (first
    | (go_at_call 4; refine hkn.mono ?_; rintro e W1 ⟨rfl, hs1⟩; have hr1 := hR1 W1 hs1; clear hkn hR1)
    | (go_at_call 5; refine hr1.mono ?_; rintro e W2 ⟨q2, n2, v2, us2, rfl, -, ho2, hs2⟩; obtain ⟨ar, br, mr, cr, rfl, hmr, hkr⟩ := ho2.read HR.out.2.2.1; have HK : Hid (∀ V, Stay W2 V → ∃ xs : List Tx, TxsS V ar br 0 xs ∧ xs.map Tx.xs = RT ∧ xs.length = mr ∧ ∀ t ∈ xs, t.xs.length ≤ maxLen) := hkr; have HMR : Hid (mr = RT.length) := hmr; clear hr1 hkr hmr ho2))
  have HS2 : Hid (Stay w W2) := hs1.trans hs2
  obtain ⟨W3, hW3⟩ : ∃ W3, W3 = W2.alloc (.cells #[.string q2, .int .i64 n2, .slice ar mr cr] 25) := ⟨_, rfl⟩
  have HW3 : Hid (W3 = W2.alloc (.cells #[.string q2, .int .i64 n2, .slice ar mr cr] 25)) := hW3
  rw [← hW3]
  have HS3 : Hid (Stay w W3) := by show Stay w W3; rw [hW3]; exact HS2.out.alloc _
  clear hs1 hs2 hW3
  go_loopw [7, 8] (fun v i wr => ∃ r : Nat, r ≤ n ∧ i = .int .i64 ((r : Int) - 1) ∧ More W3 wr v (dbl (ts.drop r).reverse)) (fun _ i _ => (intOf i + 1).toNat)
  case atStart => exact ⟨n, Nat.le_refl _, rfl, ⟨by rw [List.drop_eq_nil_of_le (by rw [← HN.out]; exact Nat.le_refl _)]; exact World.ownsRow_nil _ _ _ _, Stay.refl _⟩⟩
  case round =>
    obtain ⟨r, hr, rfl, hM⟩ := hrel
    cases r with
    | succ j =>
      rw [show ((j + 1 : Nat) : Int) - 1 = (j : Int) by omega]
      have hjt : j < ts.length := by rw [← HN.out]; omega
      obtain rfl := HT.out.1.1 (by omega)
      obtain ⟨hc1, -⟩ := (HT.out.1.stay (HS3.out.trans hM.stay)).2 j hjt
      have hji : (0 : Int) ≤ (j : Int) := by omega
      have hjn : (j : Int) < (n : Int) := by omega
      obtain ⟨v', V, hap, hM'⟩ := hM.drew.push ts[j] (by rw [dbl_len, List.length_reverse, List.length_drop, ← HN.out]; omega)
      have HF : Hid (More W3 V v' (dbl (ts.drop j).reverse)) := by show More _ _ _ _; rw [dbl_drop hjt]; exact hM'
      unfold Tx.v at hc1 hap
      generalize ts[j] = t at *
      obtain ⟨ta, tb, to, tc, tx⟩ := t
      dsimp only at *
      generalize tx.length = tn at *
      have hcd : wr.drew.cell? ⟨b, off + j, none⟩ = some (.slice ta tn tc) := hc1
      clear hM hM' hjt
      go_upto_region 8 with fail
      go_region_law (first
        | (refine step_append_run rfl _ _ _ _ rfl (by first | rfl | simp [Act.eval, Act.put]) (by first | rfl | simp [Act.eval, Act.put]) hap ?_; clear hap))
      all_goals
        go_wp2_with fail
        go_roundw
        case rel => exact ⟨j, by omega, by first | rfl | simp, HF.out⟩
        case measure => simp [intOf]; try omega
    | zero =>
      have hM0 : More W3 wr u7 (dbl ts.reverse) := by simpa using hM
      rw [show (((0 : Nat) : Int) - 1) = -1 from rfl]
      have HS4 : Hid (Stay W3 wr) := hM0.stay
      have hr2 := hR2 wr (HS3.out.trans hM0.stay) u7 ⟨W3, hM0⟩
      clear hM hM0 hR2 hr
      by_cases hE : E = 0
      · have hEb : (E == 0) = true := by simp [hE]
        have HE : Hid (E = 0) := hE
        clear hE
        go_wp2_with (first
          | (go_at_call 5; refine hr2.mono ?_; rintro e W5 ⟨q5, n5, v5, us5, rfl, -, ho5, hs5⟩; obtain ⟨a5, b5, m5, c5, rfl, hm5, hk5⟩ := ho5.read HR.out.2.2.1; have HK5 : Hid (m5 = RT.length ∧ ∀ V, Stay W5 V → ∃ xs : List Tx, TxsS V a5 b5 0 xs ∧ xs.map Tx.xs = RT ∧ xs.length = m5 ∧ ∀ t ∈ xs, t.xs.length ≤ maxLen) := ⟨hm5, hk5⟩; have HS5 : Hid (Stay W3 W5) := HS4.out.trans hs5
             have hb1 : ∀ V, Stay W5 V → V.cell? ⟨W2.heap.size, 2, none⟩ = some (.slice ar mr cr) := fun V hV => box_rel (by have := HS5.out.trans hV; rw [HW3.out] at this; exact this)
             have hb2 := hb1 (W5.alloc (.cells #[.string q5, .int .i64 n5, .slice a5 m5 c5] 25)) (Stay.new _ _)
             have hb3 : (W5.alloc (.cells #[.string q5, .int .i64 n5, .slice a5 m5 c5] 25)).cell? ⟨W5.heap.size, 2, none⟩ = some (.slice a5 m5 c5) := box_rel (Stay.refl _)
             have hsm : Calls Try.prog 7 #[.slice ar mr cr, .slice a5 m5 c5] (W5.alloc (.cells #[.string q5, .int .i64 n5, .slice a5 m5 c5] 25)) fun e w' => e = .returned (.bool true) ∧ Stay (W5.alloc (.cells #[.string q5, .int .i64 n5, .slice a5 m5 c5] 25)) w' := by
               (obtain ⟨xs, t1, e1, l1, q1⟩ := HK.out (W5.alloc (.cells #[.string q5, .int .i64 n5, .slice a5 m5 c5] 25)) (by have := (HS5.out.trans (Stay.new W5 (.cells #[.string q5, .int .i64 n5, .slice a5 m5 c5] 25))); rw [HW3.out] at this; exact (Stay.new W2 _).trans this)
                obtain ⟨ys, t2, e2, l2, q2'⟩ := HK5.out.2 (W5.alloc (.cells #[.string q5, .int .i64 n5, .slice a5 m5 c5] 25)) (Stay.new _ _)
                exact same_lit t1 l1 t2 l2 (e1.trans e2.symm) (by have := HMR.out; have := HR.out.1; omega) (by have := HK5.out.1; have := HR.out.1; omega) q1 q2')
             clear ho5 hm5 hk5 hs5 hr2)
          | (go_at_call 7; refine hsm.mono ?_; rintro e W7 ⟨rfl, hs7⟩; have hb7 := hb1 W7 ((Stay.new W5 _).trans hs7); have HS7 : Hid (Stay W3 W7) := (HS5.out.alloc _).trans hs7; clear hsm hs7 hb1)
          | (go_at_call 6; refine (hn _ _).mono ?_; rintro e w' ⟨rfl, hw'⟩; have hw2 := hw'.symm; subst hw2))
        have HW2 : Hid (Stay W2 W3) := by show Stay W2 W3; rw [HW3.out]; exact Stay.new _ _
        rw [show (E != 0) = false by rw [HE.out]; rfl]
        clear hb2 hb3
        go_loopw [11] (fun i wr' => ∃ k : Nat, k ≤ mr ∧ i = .int .i64 (k : Int) ∧ ∃ d, wr' = W7.drewN d) (fun i _ => mr - (intOf i).toNat)
        case atStart => exact ⟨0, Nat.zero_le _, rfl, 0, rfl⟩
        case round =>
          obtain ⟨k, hk, rfl, hdr⟩ := hrel
          have HD : Hid (∃ d, wr = W7.drewN d) := hdr
          have hsw : Stay W7 wr := by obtain ⟨d, rfl⟩ := hdr; exact Stay.drewN _ _
          clear hdr
          have hb8 := hsw.cell hb7
          have HSw : Hid (Stay w wr) := (HS3.out.trans HS7.out).trans hsw
          by_cases hlt : k < mr
          · obtain ⟨xs, t1, e1, l1, q1⟩ := HK.out wr ((HW2.out.trans HS7.out).trans hsw)
            have hkx : k < xs.length := by omega
            obtain rfl := t1.1 (by omega)
            obtain ⟨hc1, hS1⟩ := t1.2 k hkx
            rw [Nat.zero_add] at hc1
            unfold Tx.v at hc1
            have hmemk : xs[k].xs ∈ ts.map Tx.xs := HR.out.2.1 _ (by rw [← e1]; exact List.mem_map.2 ⟨_, List.getElem_mem hkx, rfl⟩)
            have hami := fun V (hV : Stay wr V) => among_any V a xs[k].a b off xs[k].b xs[k].o c xs[k].c ts xs[k].xs (HT.out.1.stay (HSw.out.trans hV)) (StrsS.stay hS1 hV) (by rw [← HN.out]; omega) (fun t ht => by have := HT.out.2 t ht; unfold maxLen; omega) (q1 _ (List.getElem_mem hkx)) hmemk
            simp only [← HN.out] at hami
            have hki : (k : Int) < (mr : Int) := by omega
            have hki0 : (0 : Int) ≤ (k : Int) := by omega
            have hmrb : mr ≤ 1048576 := by rw [HMR.out]; exact HR.out.1
            by_cases hk0 : 0 < k
            · obtain ⟨j, hjk⟩ : ∃ j, k = j + 1 := ⟨k - 1, by omega⟩
              have hjx : j < xs.length := by omega
              obtain ⟨hc0, hS0⟩ := t1.2 j hjx
              rw [Nat.zero_add] at hc0
              unfold Tx.v at hc0
              have hah := fun V (hV : Stay wr V) => ahead_any V xs[j].a xs[k].a xs[j].b xs[j].o xs[k].b xs[k].o xs[j].c xs[k].c xs[j].xs xs[k].xs (StrsS.stay hS0 hV) (StrsS.stay hS1 hV) (q1 _ (List.getElem_mem hjx)) (q1 _ (List.getElem_mem hkx))
              have hZ : aheadZ xs[j].xs xs[k].xs < 0 := (ahead_cmp _ _).1.2 (by
                have hris := HR.out.2.2.2.1
                rw [← e1] at hris
                have := List.pairwise_iff_getElem.1 hris j k (by rw [List.length_map]; exact hjx) (by rw [List.length_map]; exact hkx) (by omega)
                rwa [List.getElem_map, List.getElem_map] at this)
              have hj1 : (k : Int) - 1 = (j : Int) := by omega
              have hj2 : (j : Int) < (mr : Int) := by omega
              have hj3 : (0 : Int) ≤ (j : Int) := by omega
              have hk0i : (0 : Int) < (k : Int) := by omega
              generalize aheadZ xs[j].xs xs[k].xs = Z at *
              have hZ1 : ¬ (0 : Int) ≤ Z := by omega
              have hZ2 : decide ((0 : Int) ≤ Z) = false := decide_eq_false hZ1
              generalize xs[j] = tj at *
              generalize xs[k] = tk at *
              generalize tj.xs.length = nj at *
              generalize tk.xs.length = nk at *
              have HJ : Hid (k = j + 1) := hjk
              have hk0t : decide (0 < k) = true := decide_eq_true hk0
              have hk0u : decide ((0 : Int) < (k : Int)) = true := decide_eq_true hk0i
              clear hjk hS0 hS1 hmemk hkx hjx t1 e1 l1 q1 hZ
              go_wp2_with fail
              go_quiet ((first
                | (go_at_call 8; exact Calls.quiet_of (hah _ (Stay.drewN _ _)))
                | (go_at_call 9; exact Calls.quiet_of (hami _ (Stay.drewN _ _)))))
              go_wp2
              go_roundw
              case rel => exact ⟨k + 1, by omega, by first | rfl | go_num | simp, drew_on HD.out nq⟩
              case measure => simp [intOf]; omega
            · have hk0i : ¬ (0 : Int) < (k : Int) := by omega
              have hk0d : decide ((0 : Int) < (k : Int)) = false := decide_eq_false hk0i
              generalize xs[k] = tk at *
              generalize tk.xs.length = nk at *
              have hk0e : decide (0 < k) = false := decide_eq_false hk0
              clear hS1 hmemk hkx t1 e1 l1 q1
              go_wp2_with fail
              go_quiet ((first
                | (go_at_call 9; exact Calls.quiet_of (hami _ (Stay.drewN _ _)))))
              go_wp2
              go_roundw
              case rel => exact ⟨k + 1, by omega, by first | rfl | go_num | simp, drew_on HD.out nq⟩
              case measure => simp [intOf]; omega
          · have hki : ¬ (k : Int) < (mr : Int) := by omega
            go_wp2
            go_loopw [12] (fun i wr' => ∃ k2 : Nat, k2 ≤ n ∧ i = .int .i64 (k2 : Int) ∧ ∃ d, wr' = W7.drewN d) (fun i _ => n - (intOf i).toNat)
            case atStart => exact ⟨0, Nat.zero_le _, rfl, HD.out⟩
            case round =>
              clear HD hsw hb8 HSw
              obtain ⟨k2, hk2, rfl, hdr⟩ := hrel
              have HD : Hid (∃ d, wr = W7.drewN d) := hdr
              have hsw : Stay W7 wr := by obtain ⟨d, rfl⟩ := hdr; exact Stay.drewN _ _
              clear hdr
              have hb8 := hsw.cell hb7
              have HSw : Hid (Stay w wr) := (HS3.out.trans HS7.out).trans hsw
              by_cases hlt2 : k2 < n
              · obtain ⟨xs, t1, e1, l1, q1⟩ := HK.out wr ((HW2.out.trans HS7.out).trans hsw)
                have hkt : k2 < ts.length := by rw [← HN.out]; exact hlt2
                obtain rfl := HT.out.1.1 (by omega)
                obtain ⟨hc1, hS1⟩ := (HT.out.1.stay HSw.out).2 k2 hkt
                unfold Tx.v at hc1
                have hin : ts[k2].xs ∈ xs.map Tx.xs := by
                  rw [e1]; exact HR.out.2.2.2.2.1 HE.out _ (List.mem_map.2 ⟨_, List.getElem_mem hkt, rfl⟩)
                have hmrb : mr ≤ 1048576 := by rw [HMR.out]; exact HR.out.1
                have hami := fun V (hV : Stay wr V) => among_any V ar ts[k2].a br 0 ts[k2].b ts[k2].o cr ts[k2].c xs ts[k2].xs (t1.stay hV) (StrsS.stay hS1 hV) (by omega) q1 (by have := HT.out.2 _ (List.getElem_mem hkt); unfold maxLen; omega) hin
                simp only [l1] at hami
                have hki2 : (k2 : Int) < (n : Int) := by omega
                generalize ts[k2] = tk at *
                generalize tk.xs.length = nk at *
                clear hS1 hin hkt t1 e1 l1 q1
                go_wp2_with fail
                go_quiet ((first
                  | (go_at_call 9; exact Calls.quiet_of (hami _ (Stay.drewN _ _)))))
                go_wp2
                first
                  | exact ⟨⟨k2 + 1, by omega, by first | rfl | go_num | simp, drew_on HD.out nq⟩, by simp [intOf]; omega⟩
                  | (go_roundw
                     case rel => exact ⟨k2 + 1, by omega, by first | rfl | go_num | simp, drew_on HD.out nq⟩
                     case measure => simp [intOf]; omega)
              · have hki2 : ¬ (k2 : Int) < (n : Int) := by omega
                go_wp2
                go_ret
                exact ⟨rfl, HSw.out⟩
      · have hEb : (E == 0) = false := by simp [hE]
        have hz : mr = 0 := by rw [HMR.out, HR.out.2.2.2.2.2 hE]; rfl
        have hmz : ((mr : Int) == 0) = true := by rw [hz]; rfl
        clear hE hz
        go_wp2_with (first
          | (go_at_call 5; refine hr2.mono ?_; rintro e W5 ⟨q5, n5, v5, us5, rfl, -, ho5, hs5⟩; obtain ⟨a5, b5, m5, c5, rfl, hm5, hk5⟩ := ho5.read HR.out.2.2.1; have HK5 : Hid (m5 = RT.length ∧ ∀ V, Stay W5 V → ∃ xs : List Tx, TxsS V a5 b5 0 xs ∧ xs.map Tx.xs = RT ∧ xs.length = m5 ∧ ∀ t ∈ xs, t.xs.length ≤ maxLen) := ⟨hm5, hk5⟩; have HS5 : Hid (Stay W3 W5) := HS4.out.trans hs5
             have hb1 : ∀ V, Stay W5 V → V.cell? ⟨W2.heap.size, 2, none⟩ = some (.slice ar mr cr) := fun V hV => box_rel (by have := HS5.out.trans hV; rw [HW3.out] at this; exact this)
             have hb2 := hb1 (W5.alloc (.cells #[.string q5, .int .i64 n5, .slice a5 m5 c5] 25)) (Stay.new _ _)
             have hb3 : (W5.alloc (.cells #[.string q5, .int .i64 n5, .slice a5 m5 c5] 25)).cell? ⟨W5.heap.size, 2, none⟩ = some (.slice a5 m5 c5) := box_rel (Stay.refl _)
             have hsm : Calls Try.prog 7 #[.slice ar mr cr, .slice a5 m5 c5] (W5.alloc (.cells #[.string q5, .int .i64 n5, .slice a5 m5 c5] 25)) fun e w' => e = .returned (.bool true) ∧ Stay (W5.alloc (.cells #[.string q5, .int .i64 n5, .slice a5 m5 c5] 25)) w' := by
               (obtain ⟨xs, t1, e1, l1, q1⟩ := HK.out (W5.alloc (.cells #[.string q5, .int .i64 n5, .slice a5 m5 c5] 25)) (by have := (HS5.out.trans (Stay.new W5 (.cells #[.string q5, .int .i64 n5, .slice a5 m5 c5] 25))); rw [HW3.out] at this; exact (Stay.new W2 _).trans this)
                obtain ⟨ys, t2, e2, l2, q2'⟩ := HK5.out.2 (W5.alloc (.cells #[.string q5, .int .i64 n5, .slice a5 m5 c5] 25)) (Stay.new _ _)
                exact same_lit t1 l1 t2 l2 (e1.trans e2.symm) (by have := HMR.out; have := HR.out.1; omega) (by have := HK5.out.1; have := HR.out.1; omega) q1 q2')
             clear ho5 hm5 hk5 hs5 hr2)
          | (go_at_call 7; refine hsm.mono ?_; rintro e W7 ⟨rfl, hs7⟩; have hb7 := hb1 W7 ((Stay.new W5 _).trans hs7); have HS7 : Hid (Stay W3 W7) := (HS5.out.alloc _).trans hs7; clear hsm hs7 hb1)
          | (go_at_call 6; refine (hn _ _).mono ?_; rintro e w' ⟨rfl, hw'⟩; have hw2 := hw'.symm; subst hw2))
        go_ret
        exact ⟨rfl, HS3.out.trans HS7.out⟩
end Go.Proofs.Ythpecmdfppdkaab
