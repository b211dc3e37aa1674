/- Copy, by the program and by the document. -/
import Derived.Test.YtdmopioiaaecfaaCompare
import Derived.Test.YtdmopioiaaecfaaMeanA
namespace Go.Proofs.Ytdmopioiaaecfaa
open Go.RowKit Go.Maps Go.Shelf
attribute [local go_sem] Oper.semAt_some

/-- A table, but for that its texts may be alike. -/
structure Tab0 (w : World) (bt bm g cap : Nat) (ts : List ByteArray) : Prop where
  box : w.heap[bt]? = some (.cells #[.slice (some ⟨g, 0, none⟩) ts.length cap, .map (some bm)] 71 (0, 0))
  row : w.ownsRow 0 9 1 (.slice (some ⟨g, 0, none⟩) ts.length cap) ts.length (ts.map Value.string)
  map : w.ownsMap Try.prog 9 (plainElem Try.prog 3) bm ts.length (dat ts)
  short : ∀ s ∈ ts, s.size ≤ maxLen

section
variable {w w' : World} {bt bm g cap : Nat} {ts : List ByteArray}

theorem Tab.weak (h : Tab w bt bm g cap ts) : Tab0 w bt bm g cap ts := ⟨h.box, h.row, h.map, h.short⟩
theorem Tab0.strong (h : Tab0 w bt bm g cap ts) (hd : ts.Nodup) : Tab w bt bm g cap ts := ⟨h.box, h.row, h.map, hd, h.short⟩
theorem Tab0.lt (h : Tab0 w bt bm g cap ts) : bt < w.heap.size ∧ bm < w.heap.size ∧ g < w.heap.size :=
  ⟨(Array.getElem?_eq_some_iff.1 h.box).1, h.map.lt, (h.row.lt g rfl).2⟩
theorem Tab0.rowBlock (h : Tab0 w bt bm g cap ts) : ∃ cur, w.heap[g]? = some (.cells cur 9 (0, 0)) := by
  rcases h.row.2 with ⟨hx, _⟩ | ⟨g', cap', cur, hv, _, hh, h1, h2, h3, h4⟩
  · simp at hx
  · simp only [Value.slice.injEq, Option.some.injEq, Addr.mk.injEq, and_true, true_and] at hv
    obtain ⟨rfl, rfl⟩ := hv
    exact ⟨cur, hh⟩
theorem Tab0.ne (h : Tab0 w bt bm g cap ts) : bt ≠ bm ∧ bt ≠ g ∧ bm ≠ g := by
  have h1 := h.box
  obtain ⟨es, clock, h2, _⟩ := h.map
  obtain ⟨cur, h3⟩ := h.rowBlock
  refine ⟨fun e => ?_, fun e => ?_, fun e => ?_⟩
  · subst e; rw [h1] at h2; simp at h2
  · subst e; rw [h1] at h3; simp at h3
  · subst e; rw [h2] at h3; simp at h3
theorem Tab0.c0 (h : Tab0 w bt bm g cap ts) : w.cell? ⟨bt, 0, none⟩ = some (.slice (some ⟨g, 0, none⟩) ts.length cap) := by simp [World.cell?, h.box]
theorem Tab0.c1 (h : Tab0 w bt bm g cap ts) : w.cell? ⟨bt, 1, none⟩ = some (.map (some bm)) := by simp [World.cell?, h.box]
theorem Tab0.f0 (h : Tab0 w bt bm g cap ts) : w.frozen? ⟨bt, 0, none⟩ = false := by simp [World.frozen?, h.box]
theorem Tab0.kept {S : Nat → Prop} (h : Tab0 w bt bm g cap ts) (ht : Turn S w w') (hn : ∀ k, foot bt bm g k → ¬ S k) : Tab0 w' bt bm g cap ts :=
  ⟨(ht.block bt h.lt.1 (hn _ (.inl rfl))).trans h.box, ht.row h.row (fun k hk => hn k (.inr (.inr (by simpa [Value.ownBlock, eq_comm] using hk)))), ht.map h.map (hn _ (.inr (.inl rfl))), h.short⟩

theorem Tab0.grown (h : Tab0 w bt bm g cap ts) {o : Obj} {w1 : World} {v' : Value} (hgrow : (w.alloc o).grownBy w1 (some g)) (hloc : v'.ownBlock = some g ∨ v'.ownBlock = some (w.alloc o).heap.size) {xs : List Value}
    (hown : w1.ownsRow 0 9 1 v' (ts.length + 1) xs) :
    ∃ g' cap', v' = .slice (some ⟨g', 0, none⟩) (ts.length + 1) cap' ∧ (g' = g ∨ w.heap.size < g') ∧ w1.heap[bt]? = w.heap[bt]? ∧ Turn (foot bt bm g) w w1 ∧ w1.ownsMap Try.prog 9 (plainElem Try.prog 3) bm ts.length (dat ts) := by
  obtain ⟨g', cap', rfl⟩ := row_at hown
  have ht : Turn (fun k => some k = some g) w w1 := (Turn.alloc _ w o).trans (Turn.of_grown hgrow) (fun i _ e => e)
  refine ⟨g', cap', rfl, ?_, ht.block bt h.lt.1 (by simpa using h.ne.2.1), ht.mono (fun i _ e => .inr (.inr (by simpa using e))), ht.map h.map (by simpa using h.ne.2.2)⟩
  rcases hloc with e | e
  · simp [Value.ownBlock] at e; exact .inl e
  · simp [Value.ownBlock] at e; exact .inr (by omega)

theorem Tab0.added (h : Tab0 w bt bm g cap ts) {s : ByteArray} (hs : s.size ≤ maxLen) {w1 w2 : World} {g' cap' : Nat} (hg : g' = g ∨ w.heap.size < g') (hbt : w1.heap[bt]? = w.heap[bt]?) (ht : Turn (foot bt bm g) w w1)
    (hown : w1.ownsRow 0 9 1 (.slice (some ⟨g', 0, none⟩) (ts.length + 1) cap') (ts.length + 1) (ts.map Value.string ++ [.string s]))
    (hm : w2.ownsMap Try.prog 9 (plainElem Try.prog 3) bm (ts.length + 1) ((dat ts).put (key s) (num ts.length)))
    (hgr : (w1.setCell ⟨bt, 0, none⟩ (.slice (some ⟨g', 0, none⟩) (ts.length + 1) cap')).grownBy w2 (some bm)) :
    Tab0 w2 bt bm g' cap' (ts ++ [s]) ∧ (g' = g ∨ w.heap.size ≤ g') ∧ Turn (foot bt bm g) w w2 := by
  have hlt := h.lt
  have hne := h.ne
  have hb1 : bt < w1.heap.size := Nat.lt_of_lt_of_le hlt.1 ht.size
  have hbg : bt ≠ g' := by
    rcases hg with e | e
    · subst e; exact hne.2.1
    · omega
  have hmg : bm ≠ g' := by
    rcases hg with e | e
    · subst e; exact hne.2.2
    · omega
  have hT : Turn (foot bt bm g) w w2 := (ht.trans (Turn.setCell (foot bt bm g) w1 _ _ (.inl rfl)) (fun _ _ e => e)).trans (Turn.of_grown hgr) (fun i _ e => .inr (.inl (by simpa using e)))
  refine ⟨⟨?_, ?_, ?_, ?_⟩, hg.imp id Nat.le_of_lt, hT⟩
  · rw [hgr.block bt (by simpa [World.setCell] using hb1) (by simpa using hne.1)]
    rw [h.box] at hbt
    simp only [World.setCell, Array.getElem?_modify, hbt]
    simp
  · have hr2 := (Turn.setCell (fun k => k = bt) w1 ⟨bt, 0, none⟩ (.slice (some ⟨g', 0, none⟩) (ts.length + 1) cap') rfl).row hown (fun k hk => by simp [Value.ownBlock] at hk; omega)
    have hr3 := (Turn.of_grown hgr).row hr2 (fun k hk => by simp [Value.ownBlock] at hk ⊢; omega)
    simpa using hr3
  · rw [dat_snoc]; simpa using hm
  · intro x hx
    rw [List.mem_append, List.mem_singleton] at hx
    rcases hx with hx | rfl
    · exact h.short x hx
    · exact hs

set_option maxRecDepth 100000 in
set_option maxHeartbeats 400000 in
theorem add_weak (h : Tab0 w bt bm g cap ts) (s : ByteArray) (hs : s.size ≤ maxLen) (hb : (ts.length + 1) * 16 ≤ 140737488355328) :
    Calls Try.prog 35 #[.pointer (some ⟨bt, 0, none⟩), .string s] w fun e w' => (∃ v, e = .returned v) ∧
      ∃ g' cap', Tab0 w' bt bm g' cap' (ts ++ [s]) ∧ (g' = g ∨ w.heap.size ≤ g') ∧ Turn (foot bt bm g) w w' := by
  obtain ⟨i0, hi, hz0, hz1, hz2⟩ := info_parts info9
  have c0 := h.c0
  have c1 := h.c1
  have hrow := h.row
  have hkey : keyOf Try.prog 9 (.string s) = some (key s) := WideMaps.keyOf_string_mk Try.underlying9 hs
  have H : Hid (Tab0 w bt bm g cap ts) := h
  clear h
  go_enter Try.func35, Try.ntmps35
  go_wp2_with (first | (at_builtin; refine wpList_append_own_at _ rfl _ _ 27 rfl 0 9 i0 _ 1 16 Try.underlying27 hi hz0 hz1 hz2 rfl (by decide) _ _ _ rfl (hrow.alloc _) ⟨w.heap.size, 0, none⟩ 1 1 [.string s] rfl rfl (cell_one_new _ _ _) (by simp [Value.oneCell']) (by unfold maxLen; omega) (by omega) (Nat.zero_le _) ?_; intro v' w1 hown hgrow hnil hloc; obtain ⟨g', cap', rfl, hg, hbt, htn, hmap⟩ := H.out.grown hgrow hloc hown; clear hgrow hloc hnil; have HT : Hid (Turn (foot bt bm g) w w1 ∧ w1.heap[bt]? = w.heap[bt]?) := ⟨htn, hbt⟩; clear htn; have d0 : w1.cell? ⟨bt, 0, none⟩ = some (.slice (some ⟨g, 0, none⟩) ts.length cap) := (World.cell?_of_block (a := ⟨bt, 0, none⟩) hbt).trans c0; have d1 : w1.cell? ⟨bt, 1, none⟩ = some (.map (some bm)) := (World.cell?_of_block (a := ⟨bt, 1, none⟩) hbt).trans c1; have df : w1.frozen? ⟨bt, 0, none⟩ = false := (World.frozen?_of_block (a := ⟨bt, 0, none⟩) hbt).trans H.out.f0; clear hbt c0 c1) | (at_mapUpdate; refine wpList_mapUpdate_own _ rfl _ _ _ 69 rfl 9 3 law9 Try.underlying69 _ bm _ _ rfl ((Turn.setCell (fun k => k = bt) _ ⟨bt, 0, none⟩ _ rfl).map hmap (fun e => H.out.ne.1 e.symm)) (by unfold maxLen; omega) _ _ _ rfl rfl hkey _ [] (plainElem_int Try.underlying3 (WalkArith.wf_i64 (by omega))) ?_; intro w2 hm2 hg2))
  go_ret
  exact ⟨⟨_, rfl⟩, g', cap', H.out.added hs hg HT.out.2 HT.out.1 hown hm2 hg2⟩

/-- The copy behind some rounds. -/
structure CI (w : World) (D B3 bc bm : Nat) (ts : List ByteArray) (pre : List Nat) (W : World) : Prop where
  b3 : Boxed W B3 23 (.pointer (some ⟨bc, 0, none⟩))
  t : ∃ g c, Tab0 W bc bm g c (pre.map (tx ts)) ∧ w.heap.size ≤ g ∧ g ≠ B3
  below : Below w.heap.size w W
  size : D ≤ W.heap.size

theorem ci_own {w : World} {D B3 bc bm : Nat} {ts : List ByteArray} (hD : w.heap.size ≤ D) (hbm : bm < D) : OwnFrom D (fun pre W => CI w D B3 bc bm ts pre W) := by
  intro pre W W' row h hg hr
  have ht := Turn.of_grown hg
  obtain ⟨g, c, hT, hgw, hgb⟩ := h.t
  obtain ⟨cur, hcur⟩ := hT.rowBlock
  refine ⟨Boxed.turn h.b3 ht (fun e => ?_), ⟨g, c, hT.kept ht ?_, hgw, hgb⟩, h.below.trans (ht.below h.below.size (fun j e => ?_)), Nat.le_trans h.size ht.size⟩
  · obtain ⟨_, o, ho, hc⟩ := hr _ e.symm; exact not_same h.b3 ho hc rfl
  · rintro k hk e
    obtain ⟨hk2, o, ho, hc⟩ := hr _ e.symm
    rcases hk with rfl | rfl | rfl
    · exact not_same hT.box ho hc rfl
    · omega
    · exact not_same hcur ho hc rfl
  · have := (hr j e.symm).1; omega

theorem tx_range (ts : List ByteArray) : (List.range ts.length).map (tx ts) = ts := by
  apply List.ext_getElem?
  intro j
  by_cases hj : j < ts.length
  · simp [hj, tx]
  · rw [List.getElem?_eq_none (by simp; omega), List.getElem?_eq_none (by omega)]

set_option maxRecDepth 100000 in
set_option maxHeartbeats 2000000 in
theorem copy_in (h : Tab w bt bm g cap ts) (hlen : ts.length ≤ 1099511627776) :
    CallsIn Fence.wide 5 Try.prog 10 #[.pointer (some ⟨bt, 0, none⟩)] w fun e w' => ∃ bc, e = .returned (.pointer (some ⟨bc, 0, none⟩)) ∧ Fresh w bc ts w' := by
  have hm := made_yes w bt bm h.c1
  have hl := len_yes h
  have hwr := withRoom_any w ts.length (by omega)
  have H : Hid (Tab w bt bm g cap ts) := h
  have hlt := h.lt
  clear h
  refine callsIn_of_wp_marks Try.func10 rfl trivial ?_ rfl
  simp only [Try.ntmps10, List.size_toArray, List.length_cons, List.length_nil, Nat.reduceAdd, Nat.reduceSub, Array.replicate_succ, Array.replicate_zero, List.push_toArray, List.append_toArray, List.nil_append, List.cons_append]
  have hfw : ∀ f, Fence.wide.fn f := fun _ => trivial
  gi_wp2_with (first | (gi_at_call 34; refine CallsIn.mono (callsIn_wide.2 hm) ?_; rintro e w' ⟨rfl, hw⟩; have hw' := hw.symm; subst hw') | (gi_at_call 13; refine CallsIn.mono (callsIn_wide.2 hl) ?_; rintro e w' ⟨rfl, hw⟩; have hw' := hw.symm; subst hw') | (gi_at_call 33; refine CallsIn.mono (callsIn_wide.2 hwr) ?_; rintro e w1 ⟨rfl, hF⟩; have HF : Hid (Fresh w (w.heap.size + 2) [] w1) := hF; clear hF) | (gi_at_call 21; refine CallsIn.mono (callsIn_wide.2 (all_any _ _)) ?_; rintro e w' ⟨rfl, rfl⟩))
  clear hm hl hwr
  obtain ⟨bmc, gc, cc, hTc, f1, f2, f3, hB1⟩ := HF.out
  have hltc := hTc.lt
  have hs1 := hB1.size
  obtain ⟨W0, hW0⟩ : ∃ W0, ((w1.alloc (.cells #[.pointer (some ⟨w.heap.size + 2, 0, none⟩)] 23)).alloc (.cells #[.pointer (some ⟨bt, 0, none⟩)] 23)) = W0 := ⟨_, rfl⟩
  have hsz : W0.heap.size = w1.heap.size + 2 := by rw [← hW0]; simp
  have hB10 : Below w1.heap.size w1 W0 := by rw [← hW0]; exact ((Below.refl _ w1).alloc (Nat.le_refl _) _).alloc (by simp) _
  have b3 : Boxed W0 w1.heap.size 23 (.pointer (some ⟨w.heap.size + 2, 0, none⟩)) := by rw [← hW0]; exact (Boxed.new w1 23 _).alloc _
  have ba : Boxed W0 (w1.heap.size + 1) 23 (.pointer (some ⟨bt, 0, none⟩)) := by
    rw [← hW0]
    have h0 := Boxed.new (w1.alloc (.cells #[.pointer (some ⟨w.heap.size + 2, 0, none⟩)] 23)) 23 (.pointer (some ⟨bt, 0, none⟩))
    simpa only [World.size_alloc] using h0
  have hB0 : Below w.heap.size w W0 := hB1.trans (hB10.mono hs1)
  have hT0 : Tab W0 bt bm g cap ts := H.out.kept (Turn.of_below hB0) (by rintro k (rfl | rfl | rfl) <;> omega)
  have hC0 : Tab0 W0 (w.heap.size + 2) bmc gc cc [] := (hTc.kept (Turn.of_below hB10) (by rintro k (rfl | rfl | rfl) <;> omega)).weak
  have hI0 : CI w W0.heap.size w1.heap.size (w.heap.size + 2) bmc ts [] W0 := ⟨b3, ⟨gc, cc, hC0, f3, by omega⟩, hB0, Nat.le_refl _⟩
  have HN : Hid (w.heap.size ≤ bmc ∧ bmc < w1.heap.size ∧ w.heap.size + 2 < w1.heap.size ∧ g < w.heap.size ∧ W0.heap.size = w1.heap.size + 2) := ⟨f2, by omega, by omega, by omega, hsz⟩
  rw [hW0]
  clear hW0 hB10 b3 hC0 hB1 hTc HF f1 f2 f3 hltc hB0 hsz
  refine' wpIn_rangeFunc_ownG (α := Nat) rfl (by decide) (gf := 45) (lb := #[.pointer (some ⟨w1.heap.size + 1, 0, none⟩)]) rfl trivial (enters_of Try.func45 (by kernel_rfl) rfl)
    (allN_stops (5 - 1) (by decide) (w1.heap.size + 1) bt bm g cap ts W0 ba.cell hT0) krow_t (krow_b (by have := HN.out; omega)) (Below.refl _ _) (fun _ => rfl)
    (fun pre W => CI w W0.heap.size w1.heap.size (w.heap.size + 2) bmc ts pre W) (fun _ _ _ => False)
    (ci_own (by have := HN.out; omega) (by have := HN.out; omega)) (fun c s A B row hs hg hr => hs) hI0 _ ?assign ?body ?done ?stop
  case assign =>
    intro l x W K hK
    dsimp only [encsN]
    gi_wp2
    exact hK
  case body =>
    intro l pre x W hI hm
    obtain ⟨gk, ck, hTk, hgw, hgb⟩ := hI.t
    have c3 := hI.b3.cell
    have hsx : (tx ts x).size ≤ maxLen := by
      unfold tx
      by_cases hx : x < ts.length
      · rw [List.getElem?_eq_getElem hx]; exact H.out.short _ (List.getElem_mem hx)
      · rw [List.getElem?_eq_none (by omega)]; exact Nat.zero_le _
    have had := add_weak hTk (tx ts x) hsx (by rw [List.length_map]; exact Nat.le_trans (Nat.mul_le_mul_right 16 (by omega : pre.length + 1 ≤ 8796093022208)) (by decide))
    have HI : Hid (CI w W0.heap.size w1.heap.size (w.heap.size + 2) bmc ts pre W ∧ Tab0 W (w.heap.size + 2) bmc gk ck (pre.map (tx ts)) ∧ w.heap.size ≤ gk ∧ gk ≠ w1.heap.size) := ⟨hI, hTk, hgw, hgb⟩
    have htx : ts[x]?.getD ⟨#[]⟩ = tx ts x := rfl
    rw [htx]
    clear hI hTk hgw hgb ba hT0 hI0 hsx htx
    gi_wp2_with (gi_at_call 35; refine (CallsIn.inRound l (callsIn_wide.2 had)).mono ?_; rintro e w2 ⟨⟨v, rfl⟩, g', c', hT2, hg2, ht2⟩)
    have hN := HN.out
    obtain ⟨hI, hTk, hgw, hgb⟩ := HI.out
    have hltk := hTk.lt
    have hIs := hI.size
    have hb3l := hI.b3.lt
    have hlow : ∀ k, foot (w.heap.size + 2) bmc gk k → w.heap.size ≤ k := by rintro k (rfl | rfl | rfl) <;> omega
    obtain ⟨cur, hcur⟩ := hTk.rowBlock
    refine ⟨⟨ht2.size, fun x o hx ho hc => (ht2.block x (Array.getElem?_eq_some_iff.1 ho).1 ?_).trans ho⟩, krow_turn ht2 (by omega) (fun e => by have := hlow _ e; omega), ⟨?_, ⟨g', c', by simpa using hT2, by omega, by omega⟩, hI.below.trans (ht2.below hI.below.size hlow), Nat.le_trans hI.size ht2.size⟩⟩
    · rintro (rfl | rfl | rfl)
      · exact not_same hTk.box ho hc rfl
      · omega
      · exact not_same hcur ho hc rfl
    · exact Boxed.turn hI.b3 ht2 (by rintro (e | e | e) <;> omega)
  case done =>
    rintro D ys W hD rfl hI hK
    obtain ⟨gk, ck, hTk, hgw, hgb⟩ := hI.t
    rw [tx_range] at hTk
    have c3 := hI.b3.cell
    have HI : Hid (Tab0 W (w.heap.size + 2) bmc gk ck ts ∧ Below w.heap.size w W ∧ W.heap[D]? = some (.deferred (some [])) ∧ w.heap.size ≤ gk ∧ w.heap.size ≤ D) := ⟨hTk, hI.below, hK, hgw, by have := HN.out; omega⟩
    clear hTk hI hK hgw hgb ba hT0 hI0
    gi_wp2
    obtain ⟨hTk, hB, hK, hgw, hDw⟩ := HI.out
    refine ⟨by simp, .inl ⟨_, _, rfl, run_takeDeferred hK, ?_⟩⟩
    have htp := Turn.putObj W D (.deferred none)
    obtain ⟨cur, hcur⟩ := hTk.rowBlock
    have hTw : Tab0 (W.putObj D (.deferred none)) (w.heap.size + 2) bmc gk ck ts := hTk.kept htp (by
      rintro k (rfl | rfl | rfl) e
      · exact not_same hTk.box hK rfl e
      · have := HN.out; omega
      · exact not_same hcur hK rfl e)
    exact ⟨_, results_tmp rfl _ _ _, w.heap.size + 2, rfl, bmc, gk, ck, hTw.strong H.out.nodup, by omega, HN.out.1, hgw, hB.trans (htp.below hB.size (fun k e => by omega))⟩
  case stop =>
    rintro D c pre W _ _ h _
    exact h.elim

theorem copy_yes (h : Tab w bt bm g cap ts) (hlen : ts.length ≤ 1099511627776) :
    Calls Try.prog 10 #[.pointer (some ⟨bt, 0, none⟩)] w fun e w' => ∃ bc, e = .returned (.pointer (some ⟨bc, 0, none⟩)) ∧ Fresh w bc ts w' := callsIn_wide.1 (copy_in h hlen)
end

section
variable {w : World} {br : Nat} {sv : Value} {ls : List ByteArray}

set_option maxRecDepth 100000 in
theorem rcopy_yes (h : RTab w br sv ls) (hlen : ls.length ≤ 8796093022208) :
    Calls Try.prog 11 #[.pointer (some ⟨br, 0, none⟩)] w fun e w' => ∃ bc sv', e = .returned (.pointer (some ⟨bc, 0, none⟩)) ∧ RTab w' bc sv' ls ∧ w.heap.size ≤ bc ∧ (∀ k, sv'.ownBlock = some k → w.heap.size ≤ k) ∧ Below w.heap.size w w' := by
  obtain ⟨i0, hi, hz0, hz1, hz2⟩ := info_parts info9
  have c0 := h.c0
  have hb : ls.length * 16 ≤ 140737488355328 := Nat.le_trans (Nat.mul_le_mul_right 16 hlen) (by decide)
  have hr0 := World.ownsRow_nil w w.heap.size 9 1
  have Hnd : Hid ls.Nodup := h.nodup
  rcases h.row.2 with ⟨hx, hn⟩ | ⟨gs, cap, cur, hv, _, hh, h1, h2, h3, h4⟩
  · have hls : ls = [] := List.length_eq_zero_iff.1 hn
    subst hls hx
    have happ : ∀ ty W, (Builtin.append_ #[27, 27] ty #[.slice none 0 0, .slice none 0 0]).run Try.prog W = .ok (.slice none 0 0) W := fun ty W => by kernel_rfl
    clear h hr0
    go_enter Try.func11, Try.ntmps11
    go_wp2
    go_ret
    refine ⟨_, .slice none 0 0, rfl, ⟨heap_new _ _, by simpa using World.ownsRow_nil (w.alloc (.cells #[.slice none 0 0] 29)) 0 9 1, List.nodup_nil⟩, Nat.le_refl _, fun k e => by simp [Value.ownBlock] at e, (Below.refl _ w).alloc (Nat.le_refl _) _⟩
  · subst hv
    have hcs : ∀ j u, (ls.map Value.string)[j]? = some u → w.cell? ((⟨gs, 0, none⟩ : Addr).add j) = some u := h.row.cells (g := gs) rfl
    have H1 : Hid (∀ j u, (ls.map Value.string)[j]? = some u → w.cell? ((⟨gs, 0, none⟩ : Addr).add j) = some u) := hcs
    have H2 : Hid (∀ u ∈ ls.map Value.string, u.oneCell' = true) := fun u hu => by rw [List.mem_map] at hu; obtain ⟨s, _, rfl⟩ := hu; rfl
    clear h hcs hh h1 h2 h3 h4
    go_enter Try.func11, Try.ntmps11
    go_wp2_with (at_builtin; refine wpList_append_own _ rfl _ _ 27 rfl w.heap.size 9 i0 _ 1 16 Try.underlying27 hi hz0 hz1 hz2 rfl (by decide) (.slice none 0 0) 0 [] rfl hr0 ⟨gs, 0, none⟩ ls.length cap (ls.map Value.string) rfl (by simp) H1.out H2.out (by unfold maxLen; omega) (by omega) (Nat.le_refl _) ?_; intro v1 w1 hown1 hg1 hn1; rw [Nat.zero_add, List.nil_append] at hown1; have HB1 : Hid (Below w.heap.size w w1) := (Below.refl _ _).grown hg1 (Nat.le_refl _) (fun k e => by simp [Value.ownBlock] at e); clear hg1 hn1 hr0; obtain ⟨av, cv, rfl⟩ := row_shape hown1)
    go_ret
    refine ⟨_, .slice av ls.length cv, rfl, ⟨heap_new _ _, ?_, Hnd.out⟩, HB1.out.size, fun k e => (hown1.lt k e).1, HB1.out.alloc HB1.out.size _⟩
    exact row_base (hown1.alloc _) (Nat.zero_le _)
end
end Go.Proofs.Ytdmopioiaaecfaa
