/- FactsFields: the walk. -/
import Derived.Test.YthpecmdfppdkaaaFRu
import Derived.Test.YthpecmdfppdkaaaFZ
namespace Go.Proofs.Ythpecmdfppdkaaa
open Go.RowKit Go.Maps

section
variable {base : Nat} {w w' : World} {v : Value} {l : List ByteArray}
theorem OwnS.spot (h : OwnS base w v l) : ∃ a c, v = .slice a l.length c ∧ (0 < l.length → ∃ G, a = some ⟨G, 0, none⟩ ∧ base ≤ G) := by
  rcases h.2 with ⟨hv, hl⟩ | ⟨g, cap, cur, hv, hb, hh, h1, h2, h3, h4⟩
  · exact ⟨none, 0, by rw [hv, hl], fun h0 => by omega⟩
  · exact ⟨_, cap, hv, fun _ => ⟨g, rfl, hb⟩⟩
theorem OwnS.at {G n c : Nat} (h : OwnS base w (.slice (some ⟨G, 0, none⟩) n c) l) {j : Nat} {x : ByteArray} (hj : l[j]? = some x) : w.cell? ⟨G, j, none⟩ = some (.string x) ∧ w.frozen? ⟨G, j, none⟩ = false := by
  obtain rfl : n = l.length := by
    rcases h.2 with ⟨hv, hl⟩ | ⟨g, cap, cur, hv, hb, hh, h1, h2, h3, h4⟩
    · cases hv
    · simp only [Value.slice.injEq] at hv; exact hv.2.1
  refine ⟨row_cell h j _ (by rw [List.getElem?_map, hj]; rfl), ?_⟩
  rcases h.2 with ⟨hv, hl⟩ | ⟨g, cap, cur, hv, hb, hh, h1, h2, h3, h4⟩
  · cases hv
  · simp only [Value.slice.injEq, Option.some.injEq, Addr.mk.injEq, and_true] at hv
    obtain ⟨rfl, _⟩ := hv
    simp [World.frozen?, hh]
theorem OwnS.set {G n c : Nat} (h : OwnS base w (.slice (some ⟨G, 0, none⟩) n c) l) (j : Nat) (x : ByteArray) : OwnS base (w.setCell ⟨G, j, none⟩ (.string x)) (.slice (some ⟨G, 0, none⟩) n c) (l.set j x) := by
  refine ⟨by simp, ?_⟩
  rcases h.2 with ⟨hv, hl⟩ | ⟨g, cap, cur, hv, hb, hh, h1, h2, h3, h4⟩
  · cases hv
  · simp only [Value.slice.injEq, Option.some.injEq, Addr.mk.injEq, and_true] at hv
    obtain ⟨rfl, rfl, rfl⟩ := hv
    refine .inr ⟨G, c, _, by simp, hb, heap_setCell_same w G j cur _ _ hh, by simpa using h1, h2, by simpa using h3, ?_⟩
    rw [List.length_set, Array.toList_setIfInBounds, List.take_set, h4, List.map_set]
/-- Two lists of one's own that say the same. -/
theorem same_own {b1 b2 : Nat} {v1 v2 : Value} (h1 : OwnS b1 w v1 l) (h2 : OwnS b2 w v2 l) (hl : l.length ≤ maxLen) : Calls Try.prog 16 #[v1, v2] w fun e w' => e = .returned (.bool true) ∧ Stay w w' := by
  obtain ⟨⟨a, b, o, c, xs⟩, rfl, e, hS, _⟩ := h1.tx
  obtain ⟨⟨a', b', o', c', ys⟩, rfl, e', hS', _⟩ := h2.tx
  dsimp only at e e'
  subst e e'
  refine (sameTexts_any w a a' b o b' o' c c' ys ys hS hS' hl hl).mono fun e w' h => ⟨by rw [h.1]; simp, ?_⟩
  obtain ⟨q, hq⟩ := h.2
  rw [hq]; exact Stay.drewN _ _
end
/-- A list that has grown out of one of one's own, v0: nothing else has turned since W0. -/
structure Grw (base : Nat) (W0 : World) (v0 : Value) (w : World) (v : Value) (l : List ByteArray) : Prop where
  own : OwnS base w v l
  turn : Turn (fun k => v0.ownBlock = some k) W0 w
  from0 : ∀ k, v.ownBlock = some k → v0.ownBlock = some k ∨ W0.heap.size ≤ k
section
variable {base : Nat} {W0 w : World} {v0 v : Value} {l : List ByteArray}
theorem Grw.refl (h : OwnS base w v l) : Grw base w v w v l := ⟨h, Turn.refl _ _, fun _ h => .inl h⟩
theorem Grw.set {G n c : Nat} (h : Grw base W0 v0 w (.slice (some ⟨G, 0, none⟩) n c) l) (j : Nat) (x : ByteArray) : Grw base W0 v0 (w.setCell ⟨G, j, none⟩ (.string x)) (.slice (some ⟨G, 0, none⟩) n c) (l.set j x) := by
  refine ⟨h.own.set j x, ?_, h.from0⟩
  have ht := h.turn
  exact ⟨ht.os, ht.tape, ht.output, by simpa [World.setCell] using ht.size, fun i hi hn => (Below.heap_setCell _ _ _ _ (by
    show i ≠ G
    intro e
    rcases h.from0 G rfl with e1 | e1
    · exact hn (e ▸ e1)
    · omega)).trans (ht.block i hi hn)⟩
theorem Grw.add (h : Grw base W0 v0 w v l) (x : ByteArray) (hb : (l.length + 1) * 16 ≤ 140737488355328) (hbase : base ≤ w.heap.size) :
    ∃ v' w', (Builtin.append_ #[31, 31] 31 #[v, .slice (some ⟨w.heap.size, 0, none⟩) 1 1]).run Try.prog (w.alloc (.cells #[.string x] 9)) = .ok v' w' ∧ Grw base W0 v0 w' v' (l ++ [x]) := by
  obtain ⟨v', w', hap, ho', hg, hv1, hv2⟩ := (h.own.stay (Stay.new w (.cells #[.string x] 9))).add 31 (strs_new w [x] 9) (c := 1) (fun e => by simp at e) (by simpa using hb) (by simp; omega)
  have hT : Turn (fun k => v.ownBlock = some k) w w' := (Turn.of_stay (Stay.new w _)).trans (Turn.of_grown hg)
  refine ⟨v', w', hap, ho', h.turn.then hT (fun i hi e => ?_), fun k hk => ?_⟩
  · rcases h.from0 i e with e1 | e1
    · exact e1
    · omega
  · rcases hv2 with e2 | e2
    · exact h.from0 k (e2.symm.trans hk)
    · rw [World.size_alloc] at e2
      have := Option.some.inj (e2.symm.trans hk)
      have := h.turn.size
      exact .inr (by omega)
theorem Grw.keeps (h : Grw base W0 v0 w v l) {b' : Nat} {u : Value} {m : List ByteArray} (hu : OwnS b' W0 u m) (hne : ∀ k, u.ownBlock = some k → ¬ v0.ownBlock = some k) : OwnS b' w u m := hu.turn h.turn hne
end

set_option maxRecDepth 100000 in
set_option maxHeartbeats 8000000 in
theorem fields_walk (s : ByteArray) (w : World) (hs : s.size ≤ 1048576) : Calls Try.prog 3 #[.string s] w fun e w' => e = .returned (.bool true) ∧ Stay w w' := by
  have hn := lnum_any
  have hkn := known_any
  have c1 := Escape_any s w
  have c2 := fun V => rEscape_any s V
  have c3 := fun V => Unescape_any s V (by omega)
  have c4 := fun V => rUnescape_any s V (by omega)
  have c5 := fun V => Split_any s V (by omega)
  have c6 := fun V => rSplit_any s V (by omega)
  have hlen : ((okL (splitT s.data.toList)).map toB).length ≤ 1048577 := by
    rw [List.length_map]
    have h1 := @split_count s.data.toList
    have h2 : s.data.toList.count 9 ≤ s.data.toList.length := List.count_le_length
    rw [data_len] at h2
    unfold okL
    cases he : (splitT s.data.toList).2 with
    | none => have := h1 he; simp only; omega
    | some k => simp
  rw [show (⟨(escT s.data.toList).1.toArray⟩ : ByteArray) = toB (escT s.data.toList).1 from rfl] at c1
  generalize (okL (splitT s.data.toList)).map toB = ts at *
  generalize splitT s.data.toList = T at *
  generalize plcZ T.2 = z5 at *
  generalize errZ T.2 = z6 at *
  generalize toB (escT s.data.toList).1 = x1 at *
  generalize (escT s.data.toList).2 = z1 at *
  generalize toB (unT s.data.toList).1 = x3 at *
  generalize plcZ (unT s.data.toList).2 = z3 at *
  generalize errZ (unT s.data.toList).2 = z4 at *
  go_enter Try.func3, Try.ntmps3
  go_wp2_with (first
    | (go_at_call 9; refine c1.mono ?_; rintro e W1 ⟨rfl, hs1⟩; clear c1)
    | (go_at_call 10; refine (c2 _).mono ?_; rintro e W2 ⟨rfl, hs2⟩; clear c2)
    | (go_at_call 11; refine (c3 _).mono ?_; rintro e W3 ⟨rfl, hs3⟩; clear c3)
    | (go_at_call 12; refine (c4 _).mono ?_; rintro e W4 ⟨rfl, hs4⟩; clear c4)
    | (go_at_call 13; refine (c5 _).mono ?_; rintro e W5 ⟨v5, rfl, ho5, hs5⟩
       obtain ⟨a5, n5, rfl, hsp5⟩ := ho5.spot
       have HO5 : Hid (OwnS W4.heap.size W5 (.slice a5 ts.length n5) ts) := ho5
       clear ho5)
    | (go_at_call 14; refine (c6 _).mono ?_; rintro e W6 ⟨v6, rfl, ho6, hs6⟩
       have HO6 : Hid (OwnS W5.heap.size W6 v6 ts) := ho6
       have hq7 := same_own (HO5.out.stay hs6) ho6 (by unfold maxLen; omega)
       clear ho6 c6)
    | (go_at_call 16; refine hq7.mono ?_; rintro e W7 ⟨rfl, hs7⟩; have c8 := c5 W7; clear hq7 c5)
    | (go_at_call 13; refine c8.mono ?_; rintro e W8 ⟨v8, rfl, ho8, hs8⟩
       have HO8 : Hid (OwnS W7.heap.size W8 v8 ts) := ho8
       clear ho8 c8)
    | (go_at_call 15; refine (hn _ _).mono ?_; rintro e w' ⟨rfl, hw'⟩; have hw2 := hw'.symm; subst hw2))
  have HS : Hid (Stay w W4 ∧ Stay W4 W8 ∧ W5.heap.size ≤ W7.heap.size) := ⟨((hs1.trans hs2).trans hs3).trans hs4, ((hs5.trans hs6).trans hs7).trans hs8, (hs6.trans hs7).size⟩
  have HT5 : Hid (OwnS W4.heap.size W8 (.slice a5 ts.length n5) ts) := HO5.out.stay ((hs6.trans hs7).trans hs8)
  have HT6 : Hid (OwnS W5.heap.size W8 v6 ts) := HO6.out.stay (hs7.trans hs8)
  have HN : Hid (∀ k, (Value.slice a5 ts.length n5).ownBlock = some k → k < W5.heap.size) := fun k hk => (HO5.out.lt k hk).2
  clear HO5 HO6 hs1 hs2 hs3 hs4 hs5 hs6 hs7 hs8
  obtain ⟨n, hnn⟩ : ∃ n, n = ts.length := ⟨_, rfl⟩
  have HL : Hid (n = ts.length) := hnn
  rw [← hnn] at hlen hsp5 HT5 HN ⊢
  clear hnn
  go_loopw [22] (fun i wr => ∃ k : Nat, k ≤ n ∧ i = .int .i64 (k : Int) ∧ ∃ l, l.length = n ∧ Grw W4.heap.size W8 (.slice a5 n n5) wr (.slice a5 n n5) l) (fun i _ => n - (intOf i).toNat)
  case atStart => exact ⟨0, Nat.zero_le _, rfl, ts, HL.out.symm, Grw.refl HT5.out⟩
  case round =>
    obtain ⟨k, hk, rfl, l, hll, hg⟩ := hrel
    by_cases hlt : k < n
    · have hki : (k : Int) < (n : Int) := by omega
      obtain ⟨G, rfl, _⟩ := hsp5 (by omega)
      obtain ⟨hcell, hfz⟩ := hg.own.at (List.getElem?_eq_getElem (l := l) (i := k) (by omega))
      have HF : Hid (Grw W4.heap.size W8 (.slice (some ⟨G, 0, none⟩) n n5) (wr.setCell ⟨G, k, none⟩ (.string ⟨#[109, 97, 114, 107]⟩)) (.slice (some ⟨G, 0, none⟩) n n5) (l.set k ⟨#[109, 97, 114, 107]⟩)) := hg.set k _
      have HLL : Hid (l.length = n) := hll
      generalize l[k] = x at *
      clear hg hll
      go_wp2
      go_roundw
      case rel => exact ⟨k + 1, by omega, by simp, _, by simp [HLL.out], HF.out⟩
      case measure => simp [intOf]; omega
    · have hki : ¬ (k : Int) < (n : Int) := by omega
      have HG : Hid (∃ l, l.length = n ∧ Grw W4.heap.size W8 (.slice a5 n n5) wr (.slice a5 n n5) l) := ⟨l, hll, hg⟩
      clear hg hll
      go_wp2
      go_loopw [13, 23] (fun v i wr => ∃ k : Nat, k ≤ 20 ∧ i = .int .i64 (k : Int) ∧ ∃ l, l.length = n + k ∧ Grw W4.heap.size W8 (.slice a5 n n5) wr v l) (fun _ i _ => 20 - (intOf i).toNat)
      case atStart =>
        obtain ⟨l, h1, h2⟩ := HG.out
        exact ⟨0, Nat.zero_le _, rfl, l, h1, h2⟩
      case round =>
        obtain ⟨k, hk, rfl, l, hll, hg⟩ := hrel
        by_cases hlt : k < 20
        · have hki : (k : Int) < 20 := by omega
          obtain ⟨v', V, hap, hg'⟩ := hg.add ⟨#[109, 97, 114, 107]⟩ (by omega) (Nat.le_trans HS.out.2.1.size hg.turn.size)
          have HF : Hid (Grw W4.heap.size W8 (.slice a5 n n5) V v' (l ++ [⟨#[109, 97, 114, 107]⟩]) ∧ l.length = n + k) := ⟨hg', hll⟩
          clear hg hg' hll
          go_wp2_with (at_builtin; refine wpList_append_run rfl _ _ 31 31 rfl _ _ rfl rfl hap ?_)
          go_roundw
          case rel => exact ⟨k + 1, by omega, by simp, _, by rw [List.length_append, HF.out.2]; rfl, HF.out.1⟩
          case measure => simp [intOf]; omega
        · have hki : ¬ (k : Int) < 20 := by omega
          have hq9 := same_own (hg.keeps HO8.out (fun j hj e => by have h1 := (HO8.out.lt j hj).1; have h2 := HN.out j e; have := HS.out.2.2; omega)) (hg.keeps HT6.out (fun j hj e => by have h1 := (HT6.out.lt j hj).1; have h2 := HN.out j e; omega)) (by rw [← HL.out]; unfold maxLen; omega)
          have HW : Hid (Stay w wr) := by
            refine hg.turn.stay (HS.out.1.trans HS.out.2.1) (fun j hj e => ?_)
            have := (HT5.out.lt j e).1
            have := HS.out.1.size
            omega
          obtain ⟨a9, c9, rfl, _⟩ := hg.own.spot
          have hge : (20 : Int) ≤ (l.length : Int) := by omega
          generalize l.length = m at *
          clear hg
          go_wp2_with (first
            | (go_at_call 16; refine hq9.mono ?_; rintro e W9 ⟨rfl, hs9⟩; clear hq9)
            | (go_at_call 17; refine (hkn _).mono ?_; rintro e W10 ⟨rfl, hs10⟩))
          go_ret
          exact ⟨rfl, (HW.out.trans hs9).trans hs10⟩
end Go.Proofs.Ythpecmdfppdkaaa
