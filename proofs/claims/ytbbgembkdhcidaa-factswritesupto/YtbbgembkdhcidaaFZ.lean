/- known: what the document names. -/
import Derived.Test.YtbbgembkdhcidaaFY
namespace Go.Proofs.Ytbbgembkdhcidaa
open Go.RowKit Go.Maps

theorem txs_lit (W : World) (ts : List Tx) (h : ∀ t ∈ ts, t.S W) : TxsS (W.alloc (.cells (ts.map Tx.v).toArray 39)) (some ⟨W.heap.size, 0, none⟩) W.heap.size 0 ts := by
  refine ⟨fun _ => rfl, fun j hj => ⟨?_, StrsS.stay (h _ (List.getElem_mem hj)) (Stay.new _ _)⟩⟩
  have := new_cells W (ts.map Tx.v) 39 j ts[j].v (by simp [hj])
  rwa [add_at] at this
theorem read_1 : readT [97, 9, 98, 10, 99, 92, 116, 9, 100] 2 = ([[[97], [98]], [[99, 9], [100]]], -1, 0) := by rfl
theorem read_2 : readT [97, 9, 92, 113] 2 = ([], 3, 11) := by rfl
theorem write_1 : writeT [[⟨#[120]⟩, ⟨#[10]⟩]] 2 = ([120, 9, 92, 110, 10], 0) := by rfl
theorem rel_1 : refZ [[⟨#[98]⟩], [⟨#[97]⟩], [⟨#[98]⟩]] 1 = 0 ∧ relT [[⟨#[98]⟩], [⟨#[97]⟩], [⟨#[98]⟩]] 1 = [[⟨#[97]⟩], [⟨#[98]⟩]] := by constructor <;> rfl

/-- A list of lists of one's own, as a reader has it, with what stays. -/
theorem OwnG.read {base : Nat} {w : World} {v : Value} {us : List Value} {ts : List (List ByteArray)} (h : OwnG base w v us ts) (hm : ∀ t ∈ ts, t.length ≤ 140737488355328) : ∃ (a : Option Addr) (b m c : Nat), v = .slice a m c ∧ m = ts.length ∧ ∀ V, Stay w V → ∃ xs : List Tx, TxsS V a b 0 xs ∧ xs.map Tx.xs = ts ∧ xs.length = m ∧ ∀ t ∈ xs, t.xs.length ≤ maxLen := by
  obtain ⟨a, b, c, xs, h1, h2, h3, _⟩ := h.txs
  refine ⟨a, b, xs.length, c, h1, by rw [← h3]; simp, fun V hV => ⟨xs, h2.stay hV, h3, rfl, fun t ht => ?_⟩⟩
  have := hm t.xs (by rw [← h3]; exact List.mem_map.2 ⟨t, ht, rfl⟩)
  unfold maxLen; omega
theorem same_lit {V : World} {a a2 : Option Addr} {b c b2 c2 m m2 : Nat} {xs ys : List Tx} (hx : TxsS V a b 0 xs) (hm : xs.length = m) (hy : TxsS V a2 b2 0 ys) (hm2 : ys.length = m2) (he : xs.map Tx.xs = ys.map Tx.xs) (hl : m ≤ 140737488355328) (hl2 : m2 ≤ 140737488355328) (h1 : ∀ t ∈ xs, t.xs.length ≤ maxLen) (h2 : ∀ t ∈ ys, t.xs.length ≤ maxLen) :
    Calls Try.prog 11 #[.slice a m c, .slice a2 m2 c2] V fun e w' => e = .returned (.bool true) ∧ Stay V w' := by
  subst hm hm2
  refine (same_any V a a2 b 0 b2 0 c c2 xs ys hx hy hl hl2 h1 h2).mono fun e w' h => ⟨?_, ?_⟩
  · rw [h.1, decide_eq_true he]
  · obtain ⟨q, hq⟩ := h.2
    rw [hq]; exact Stay.drewN _ _

set_option maxRecDepth 100000 in
set_option maxHeartbeats 4000000 in
theorem known_any (w : World) : Calls Try.prog 13 #[] w fun e w' => e = .returned (.bool true) ∧ Stay w w' := by
  have r1 := Read_any ⟨#[97, 9, 98, 10, 99, 92, 116, 9, 100]⟩ 2 w (by decide)
  rw [show (⟨#[97, 9, 98, 10, 99, 92, 116, 9, 100]⟩ : ByteArray).data.toList = [97, 9, 98, 10, 99, 92, 116, 9, 100] from rfl, read_1] at r1
  have r2 := fun W => Read_any ⟨#[97, 9, 92, 113]⟩ 2 W (by decide)
  rw [show (⟨#[97, 9, 92, 113]⟩ : ByteArray).data.toList = [97, 9, 92, 113] from rfl, read_2] at r2
  have hn := lnum_any
  dsimp only at r1 r2
  go_enter Try.func13, Try.ntmps13
  go_wp2_with fail
  refine r1.mono ?_
  rintro e W1 ⟨v1, us1, rfl, ho1, hs1⟩
  obtain ⟨a1, b1, m1, c1, rfl, hm1, hk1⟩ := ho1.read (fun t ht => by simp [toG] at ht; rcases ht with rfl | rfl <;> simp)
  have H1 : Hid (∀ V, Stay W1 V → ∃ xs : List Tx, TxsS V a1 b1 0 xs ∧ xs.map Tx.xs = toG [[[97], [98]], [[99, 9], [100]]] ∧ xs.length = m1 ∧ ∀ t ∈ xs, t.xs.length ≤ maxLen) := hk1
  have HM1 : Hid (m1 = 2) := hm1
  clear hk1 ho1 r1 hm1
  have hwr := Write_any (c := 1) (txs_lit (W1.alloc (.cells #[.string ⟨#[120]⟩, .string ⟨#[10]⟩] 9)) [⟨some ⟨W1.heap.size, 0, none⟩, W1.heap.size, 0, 2, [⟨#[120]⟩, ⟨#[10]⟩]⟩] (fun t ht => by rw [List.mem_singleton] at ht; subst ht; exact strs_new W1 [⟨#[120]⟩, ⟨#[10]⟩] 9)) (by simp) (fun t ht => by rw [List.mem_singleton] at ht; subst ht; simp) (by simp only [List.map_cons, List.map_nil]; decide) 2
  simp only [List.map_cons, List.map_nil, Tx.v, List.length_cons, List.length_nil, Nat.reduceAdd, write_1, World.size_alloc] at hwr
  go_wp2_with fail
  refine hwr.mono ?_
  rintro e W2 ⟨rfl, hs2⟩
  have H2 : Hid (Stay W1 W2) := ((Stay.new W1 _).alloc _).trans hs2
  clear hwr hs2
  have hrl := Relation_any (c := 3) ⟨#[112]⟩ 1 (txs_lit (((W2.alloc (.cells #[.string ⟨#[98]⟩] 9)).alloc (.cells #[.string ⟨#[97]⟩] 9)).alloc (.cells #[.string ⟨#[98]⟩] 9)) [⟨some ⟨W2.heap.size, 0, none⟩, W2.heap.size, 0, 1, [⟨#[98]⟩]⟩, ⟨some ⟨W2.heap.size + 1, 0, none⟩, W2.heap.size + 1, 0, 1, [⟨#[97]⟩]⟩, ⟨some ⟨W2.heap.size + 1 + 1, 0, none⟩, W2.heap.size + 1 + 1, 0, 1, [⟨#[98]⟩]⟩] (fun t ht => by
    simp only [List.mem_cons, List.mem_nil_iff, or_false] at ht
    rcases ht with rfl | rfl | rfl
    · exact StrsS.stay (strs_new W2 [⟨#[98]⟩] 9) ((Stay.new _ _).alloc _)
    · have := strs_new (W2.alloc (.cells #[.string ⟨#[98]⟩] 9)) [⟨#[97]⟩] 9
      rw [World.size_alloc] at this
      exact StrsS.stay this (Stay.new _ _)
    · have := strs_new ((W2.alloc (.cells #[.string ⟨#[98]⟩] 9)).alloc (.cells #[.string ⟨#[97]⟩] 9)) [⟨#[98]⟩] 9
      rw [World.size_alloc, World.size_alloc] at this
      exact this)) (by decide) (by simp) (fun t ht => by
    simp only [List.mem_cons, List.mem_nil_iff, or_false] at ht
    rcases ht with rfl | rfl | rfl <;> (show 1 ≤ maxLen; decide))
  simp only [List.map_cons, List.map_nil, Tx.v, List.length_cons, List.length_nil, Nat.reduceAdd, rel_1.1, rel_1.2, World.size_alloc, if_true] at hrl
  go_wp2_with fail
  refine hrl.mono ?_
  rintro e W3 ⟨q3, n3, v3, us3, rfl, hqn, ho3, hs3⟩
  have H3 : Hid (Stay W2 W3) := (((Stay.new W2 _).alloc _).alloc _).trans (((Stay.new _ _)).trans hs3)
  obtain ⟨a3, b3, m3, c3, rfl, hm3, hk3⟩ := ho3.read (fun t ht => by simp at ht; rcases ht with rfl | rfl <;> simp)
  have HK3 : Hid (∀ V, Stay W3 V → ∃ xs : List Tx, TxsS V a3 b3 0 xs ∧ xs.map Tx.xs = [[⟨#[97]⟩], [⟨#[98]⟩]] ∧ xs.length = m3 ∧ ∀ t ∈ xs, t.xs.length ≤ maxLen) := hk3
  have HM3 : Hid (m3 = 2) := hm3
  clear hrl hs3 ho3 hk3 hm3 hqn
  go_wp2_with fail
  refine (r2 _).mono ?_
  rintro e W4 ⟨v4, us4, rfl, ho4, hs4⟩
  obtain ⟨a4, m4, c4, rfl⟩ := own_one ho4.row
  have hrel : Rel3 W4 W3.heap.size q3 n3 (.slice a3 m3 c3) := (hs4.block _ (by simp)).trans (heap_new W3 _)
  obtain ⟨-, -, cc, -⟩ := hrel.cells
  have H4 : Hid (Stay W3 W4) := (Stay.new W3 _).trans hs4
  clear r2 ho4 hs4 hrel
  have sm1 : Calls Try.prog 11 #[.slice a1 m1 c1, .slice (some ⟨W4.heap.size + 1 + 1, 0, none⟩) 2 2] (((W4.alloc (.cells #[.string ⟨#[97]⟩, .string ⟨#[98]⟩] 9)).alloc (.cells #[.string ⟨#[99, 9]⟩, .string ⟨#[100]⟩] 9)).alloc (.cells #[.slice (some ⟨W4.heap.size, 0, none⟩) 2 2, .slice (some ⟨W4.heap.size + 1, 0, none⟩) 2 2] 39)) fun e w' => e = .returned (.bool true) ∧ Stay (((W4.alloc (.cells #[.string ⟨#[97]⟩, .string ⟨#[98]⟩] 9)).alloc (.cells #[.string ⟨#[99, 9]⟩, .string ⟨#[100]⟩] 9)).alloc (.cells #[.slice (some ⟨W4.heap.size, 0, none⟩) 2 2, .slice (some ⟨W4.heap.size + 1, 0, none⟩) 2 2] 39)) w' := by
    obtain ⟨xs1, t1, e1, l1, q1⟩ := H1.out _ (((((H2.out.trans H3.out).trans H4.out).alloc (.cells #[.string ⟨#[97]⟩, .string ⟨#[98]⟩] 9)).alloc (.cells #[.string ⟨#[99, 9]⟩, .string ⟨#[100]⟩] 9)).alloc (.cells #[.slice (some ⟨W4.heap.size, 0, none⟩) 2 2, .slice (some ⟨W4.heap.size + 1, 0, none⟩) 2 2] 39))
    have t2 := txs_lit ((W4.alloc (.cells #[.string ⟨#[97]⟩, .string ⟨#[98]⟩] 9)).alloc (.cells #[.string ⟨#[99, 9]⟩, .string ⟨#[100]⟩] 9)) [⟨some ⟨W4.heap.size, 0, none⟩, W4.heap.size, 0, 2, [⟨#[97]⟩, ⟨#[98]⟩]⟩, ⟨some ⟨W4.heap.size + 1, 0, none⟩, W4.heap.size + 1, 0, 2, [⟨#[99, 9]⟩, ⟨#[100]⟩]⟩] (fun t ht => by
      simp only [List.mem_cons, List.mem_nil_iff, or_false] at ht
      rcases ht with rfl | rfl
      · exact StrsS.stay (strs_new W4 [⟨#[97]⟩, ⟨#[98]⟩] 9) (Stay.new _ _)
      · have := strs_new (W4.alloc (.cells #[.string ⟨#[97]⟩, .string ⟨#[98]⟩] 9)) [⟨#[99, 9]⟩, ⟨#[100]⟩] 9
        rw [World.size_alloc] at this
        exact this)
    rw [World.size_alloc, World.size_alloc] at t2
    exact same_lit t1 l1 t2 rfl (by rw [e1]; rfl) (by have := HM1.out; omega) (by decide) q1 (fun t ht => by
      simp only [List.mem_cons, List.mem_nil_iff, or_false] at ht
      rcases ht with rfl | rfl <;> (show 2 ≤ maxLen; decide))
  have sm2 : ∀ V, Stay W4 V → Calls Try.prog 11 #[.slice a3 m3 c3, .slice (some ⟨V.heap.size + 1 + 1, 0, none⟩) 2 2] (((V.alloc (.cells #[.string ⟨#[97]⟩] 9)).alloc (.cells #[.string ⟨#[98]⟩] 9)).alloc (.cells #[.slice (some ⟨V.heap.size, 0, none⟩) 1 1, .slice (some ⟨V.heap.size + 1, 0, none⟩) 1 1] 39)) fun e w' => e = .returned (.bool true) ∧ Stay (((V.alloc (.cells #[.string ⟨#[97]⟩] 9)).alloc (.cells #[.string ⟨#[98]⟩] 9)).alloc (.cells #[.slice (some ⟨V.heap.size, 0, none⟩) 1 1, .slice (some ⟨V.heap.size + 1, 0, none⟩) 1 1] 39)) w' := fun V hV => by
    obtain ⟨xs1, t1, e1, l1, q1⟩ := HK3.out _ ((((H4.out.trans hV).alloc (.cells #[.string ⟨#[97]⟩] 9)).alloc (.cells #[.string ⟨#[98]⟩] 9)).alloc (.cells #[.slice (some ⟨V.heap.size, 0, none⟩) 1 1, .slice (some ⟨V.heap.size + 1, 0, none⟩) 1 1] 39))
    have t2 := txs_lit ((V.alloc (.cells #[.string ⟨#[97]⟩] 9)).alloc (.cells #[.string ⟨#[98]⟩] 9)) [⟨some ⟨V.heap.size, 0, none⟩, V.heap.size, 0, 1, [⟨#[97]⟩]⟩, ⟨some ⟨V.heap.size + 1, 0, none⟩, V.heap.size + 1, 0, 1, [⟨#[98]⟩]⟩] (fun t ht => by
      simp only [List.mem_cons, List.mem_nil_iff, or_false] at ht
      rcases ht with rfl | rfl
      · exact StrsS.stay (strs_new V [⟨#[97]⟩] 9) (Stay.new _ _)
      · have := strs_new (V.alloc (.cells #[.string ⟨#[97]⟩] 9)) [⟨#[98]⟩] 9
        rw [World.size_alloc] at this
        exact this)
    rw [World.size_alloc, World.size_alloc] at t2
    exact same_lit t1 l1 t2 rfl (by rw [e1]; rfl) (by have := HM3.out; omega) (by decide) q1 (fun t ht => by
      simp only [List.mem_cons, List.mem_nil_iff, or_false] at ht
      rcases ht with rfl | rfl <;> (show 1 ≤ maxLen; decide))
  go_wp2_with (first
    | (go_at_call 11; refine sm1.mono ?_; rintro e W5 ⟨rfl, hs5⟩; have H5 : Hid (Stay W4 W5) := (((Stay.new W4 _).alloc _).alloc _).trans hs5; have cc5 := H5.out.cell cc; have sm3 := sm2 W5 H5.out; clear sm1 sm2 hs5)
    | (go_at_call 11; refine sm3.mono ?_; rintro e W6 ⟨rfl, hs6⟩; have H6 : Hid (Stay W5 W6) := (((Stay.new W5 _).alloc _).alloc _).trans hs6; clear sm3 hs6)
    | (go_at_call 9; refine (hn _ _).mono ?_; rintro e w' ⟨rfl, hw'⟩; have hw2 := hw'.symm; subst hw2))
  go_ret
  exact ⟨rfl, ((((hs1.trans H2.out).trans H3.out).trans H4.out).trans H5.out).trans H6.out⟩
end Go.Proofs.Ytbbgembkdhcidaa
