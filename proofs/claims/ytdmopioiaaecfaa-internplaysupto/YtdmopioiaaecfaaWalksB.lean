/- Put, PutAll: what they answer, and what turns in memory. -/
import Derived.Test.YtdmopioiaaecfaaWalksA
namespace Go.Proofs.Ytdmopioiaaecfaa
open Go.RowKit Go.Maps
section
variable {w : World} {bt bm g cap : Nat} {ts : List ByteArray}

theorem row_at {w1 : World} {e : TypeId} {v' : Value} {n : Nat} {xs : List Value} (h : w1.ownsRow 0 e 1 v' (n + 1) xs) : ∃ g' cap', v' = .slice (some ⟨g', 0, none⟩) (n + 1) cap' := by
  rcases h.2 with ⟨_, hx⟩ | ⟨g', cap', cur, hv, _⟩
  · omega
  · exact ⟨g', cap', hv⟩

/-- Behind an append to a table's list, ahead of the store. -/
theorem Tab.grown (h : Tab w bt bm g cap ts) {o : Obj} {w1 : World} {v' : Value} (hgrow : (w.alloc o).grownBy w1 (some g)) (hloc : v'.ownBlock = some g ∨ v'.ownBlock = some (w.alloc o).heap.size) {xs : List Value}
    (hown : w1.ownsRow 0 9 1 v' (ts.length + 1) xs) :
    ∃ g' cap', v' = .slice (some ⟨g', 0, none⟩) (ts.length + 1) cap' ∧ (g' = g ∨ w.heap.size < g') ∧ w1.heap[bt]? = w.heap[bt]? ∧ Turn (foot bt bm g) w w1 ∧ w1.ownsMap Try.prog 9 (plainElem Try.prog 3) bm ts.length (dat ts) := by
  obtain ⟨g', cap', rfl⟩ := row_at hown
  have ht : Turn (fun k => some k = some g) w w1 := (Turn.alloc _ w o).trans (Turn.of_grown hgrow) (fun i _ e => e)
  refine ⟨g', cap', rfl, ?_, ht.block bt h.lt.1 (by simpa using h.ne.2.1), ht.mono (fun i _ e => .inr (.inr (by simpa using e))), ht.map h.map (by simpa using h.ne.2.2)⟩
  rcases hloc with e | e
  · simp [Value.ownBlock] at e; exact .inl e
  · simp [Value.ownBlock] at e; exact .inr (by omega)

/-- Behind the store into the map. -/
theorem Tab.added (h : Tab w bt bm g cap ts) {s : ByteArray} (hs : s.size ≤ maxLen) (hn : s ∉ ts) {w1 w2 : World} {g' cap' : Nat} (hg : g' = g ∨ w.heap.size < g') (hbt : w1.heap[bt]? = w.heap[bt]?) (ht : Turn (foot bt bm g) w w1)
    (hown : w1.ownsRow 0 9 1 (.slice (some ⟨g', 0, none⟩) (ts.length + 1) cap') (ts.length + 1) (ts.map Value.string ++ [.string s]))
    (hm : w2.ownsMap Try.prog 9 (plainElem Try.prog 3) bm (ts.length + 1) ((dat ts).put (key s) (num ts.length)))
    (hgr : (w1.setCell ⟨bt, 0, none⟩ (.slice (some ⟨g', 0, none⟩) (ts.length + 1) cap')).grownBy w2 (some bm)) :
    Tab w2 bt bm g' cap' (ts ++ [s]) ∧ (g' = g ∨ w.heap.size ≤ g') ∧ Turn (foot bt bm g) w w2 := by
  have hlt := h.lt
  have hne := h.ne
  have hb1 : bt < w1.heap.size := Nat.lt_of_lt_of_le hlt.1 ht.size
  have hbg : bt ≠ g' := by
    rcases hg with e | e
    · subst e; exact hne.2.1
    · omega
  have hmg : bm ≠ g' := by
    rcases hg with e | e
    · subst e; exact hne.2.2
    · omega
  have hT : Turn (foot bt bm g) w w2 := (ht.trans (Turn.setCell (foot bt bm g) w1 _ _ (.inl rfl)) (fun _ _ e => e)).trans (Turn.of_grown hgr) (fun i _ e => .inr (.inl (by simpa using e)))
  refine ⟨⟨?_, ?_, ?_, ?_, ?_⟩, hg.imp id Nat.le_of_lt, hT⟩
  · rw [hgr.block bt (by simpa [World.setCell] using hb1) (by simpa using hne.1)]
    rw [h.box] at hbt
    simp only [World.setCell, Array.getElem?_modify, hbt]
    simp
  · have hr2 := (Turn.setCell (fun k => k = bt) w1 ⟨bt, 0, none⟩ (.slice (some ⟨g', 0, none⟩) (ts.length + 1) cap') rfl).row hown (fun k hk => by simp [Value.ownBlock] at hk; omega)
    have hr3 := (Turn.of_grown hgr).row hr2 (fun k hk => by simp [Value.ownBlock] at hk ⊢; omega)
    simpa using hr3
  · rw [dat_snoc]; simpa using hm
  · have := put1_nodup h.nodup s
    unfold put1 at this
    rwa [if_neg (by rw [contains_iff]; exact hn)] at this
  · intro x hx
    rw [List.mem_append, List.mem_singleton] at hx
    rcases hx with hx | rfl
    · exact h.short x hx
    · exact hs

set_option maxRecDepth 100000 in
set_option maxHeartbeats 400000 in
theorem add_yes (h : Tab w bt bm g cap ts) (s : ByteArray) (hs : s.size ≤ maxLen) (hn : s ∉ ts) (hb : (ts.length + 1) * 16 ≤ 140737488355328) :
    Calls Try.prog 35 #[.pointer (some ⟨bt, 0, none⟩), .string s] w fun e w' => e = .returned (.int .i64 ts.length) ∧
      ∃ g' cap', Tab w' bt bm g' cap' (ts ++ [s]) ∧ (g' = g ∨ w.heap.size ≤ g') ∧ Turn (foot bt bm g) w w' := by
  obtain ⟨i0, hi, hz0, hz1, hz2⟩ := info_parts info9
  have c0 := h.c0
  have c1 := h.c1
  have hrow := h.row
  have hbox := h.box
  have hkey : keyOf Try.prog 9 (.string s) = some (key s) := WideMaps.keyOf_string_mk Try.underlying9 hs
  have H : Hid (Tab w bt bm g cap ts) := h
  have HB : Hid (w.heap[bt]? = some (.cells #[.slice (some ⟨g, 0, none⟩) ts.length cap, .map (some bm)] 71 (0, 0))) := hbox
  clear h hbox
  go_enter Try.func35, Try.ntmps35
  go_wp2_with (first | (at_builtin; refine wpList_append_own_at _ rfl _ _ 27 rfl 0 9 i0 _ 1 16 Try.underlying27 hi hz0 hz1 hz2 rfl (by decide) _ _ _ rfl (hrow.alloc _) ⟨w.heap.size, 0, none⟩ 1 1 [.string s] rfl rfl (cell_one_new _ _ _) (by simp [Value.oneCell']) (by unfold maxLen; omega) (by omega) (Nat.zero_le _) ?_; intro v' w1 hown hgrow hnil hloc; obtain ⟨g', cap', rfl, hg, hbt, htn, hmap⟩ := H.out.grown hgrow hloc hown; clear hgrow hloc hnil; have HT : Hid (Turn (foot bt bm g) w w1 ∧ w1.heap[bt]? = w.heap[bt]?) := ⟨htn, hbt⟩; clear htn; have d0 : w1.cell? ⟨bt, 0, none⟩ = some (.slice (some ⟨g, 0, none⟩) ts.length cap) := (World.cell?_of_block (a := ⟨bt, 0, none⟩) hbt).trans c0; have d1 : w1.cell? ⟨bt, 1, none⟩ = some (.map (some bm)) := (World.cell?_of_block (a := ⟨bt, 1, none⟩) hbt).trans c1; have df : w1.frozen? ⟨bt, 0, none⟩ = false := (World.frozen?_of_block (a := ⟨bt, 0, none⟩) hbt).trans H.out.f0; clear hbt c0 c1) | (at_mapUpdate; refine wpList_mapUpdate_own _ rfl _ _ _ 69 rfl 9 3 law9 Try.underlying69 _ bm _ _ rfl ((Turn.setCell (fun k => k = bt) _ ⟨bt, 0, none⟩ _ rfl).map hmap (fun e => H.out.ne.1 e.symm)) (by unfold maxLen; omega) _ _ _ rfl rfl hkey _ [] (plainElem_int Try.underlying3 (WalkArith.wf_i64 (by omega))) ?_; intro w2 hm2 hg2))
  go_ret
  exact ⟨rfl, g', cap', H.out.added hs hn hg HT.out.2 HT.out.1 hown hm2 hg2⟩

end

theorem clone_any (s : ByteArray) (w : World) (hs : s.size ≤ 281474976710656) : Calls Try.prog 46 #[.string s] w fun e w' => e = .returned (.string s) ∧ Below w.heap.size w w' := by
  have hc := Try.stringslite_Clone s w hs
  go_enter Try.func46, Try.ntmps46
  go_wp2_with (go_at_call 55; refine Calls.mono hc ?_; rintro e w' ⟨rfl, hb⟩)
  go_ret
  exact ⟨rfl, hb⟩

section
variable {w : World} {bt bm g cap : Nat} {ts : List ByteArray}

/-- What a call that puts leaves: the table with the texts us, in the blocks that it had or in new ones. -/
def Puts (w : World) (bt bm g : Nat) (us : List ByteArray) (w' : World) : Prop :=
  ∃ g' cap', Tab w' bt bm g' cap' us ∧ (g' = g ∨ w.heap.size ≤ g') ∧ Turn (foot bt bm g) w w'

set_option maxRecDepth 100000 in
set_option maxHeartbeats 400000 in
theorem put_there (h : Tab w bt bm g cap ts) (s : ByteArray) (hs : s.size ≤ 281474976710656) (hc : ts.contains s = true) :
    Calls Try.prog 22 #[.pointer (some ⟨bt, 0, none⟩), .string s] w fun e w' => e = .returned (.tuple #[.int .i64 (ts.idxOf s), .int .i64 0]) ∧ w' = w := by
  have hm := made_yes w bt bm h.c1
  have c1 := h.c1
  have hmap := h.map
  have hkey : keyOf Try.prog 9 (.string s) = some (key s) := WideMaps.keyOf_string_mk Try.underlying9 (by unfold maxLen; omega)
  have hh : has (dat ts) (key s) = true := (has_dat ts s).trans hc
  have hf : Hid (∀ c, (dat ts).atKey (key s) (.lit (.int .i64 0)) = .lit (.int .i64 c) → c = (ts.idxOf s : Int)) := fun c hat => by
    have := found_at h.nodup hat
    unfold found at this
    rwa [if_pos hc] at this
  clear h hc
  go_enter Try.func22, Try.ntmps22
  go_wp2_with (first | (go_at_call 34; refine Calls.mono hm ?_; rintro e w' ⟨rfl, rfl⟩) | (at_lookup; refine wpList_lookup_own_ok_int _ rfl _ _ 69 rfl 9 3 .i64 law9 Try.underlying69 Try.underlying3 (zero3 _) bm _ _ rfl hmap _ _ rfl hkey ?_; intro c hat hwc))
  go_ret2
  rw [hf.out c hat]
  exact ⟨rfl, rfl⟩

set_option maxRecDepth 100000 in
set_option maxHeartbeats 400000 in
theorem put_new (h : Tab w bt bm g cap ts) (s : ByteArray) (hs : s.size ≤ 281474976710656) (hn : s ∉ ts) (hb : (ts.length + 1) * 16 ≤ 140737488355328) :
    Calls Try.prog 22 #[.pointer (some ⟨bt, 0, none⟩), .string s] w fun e w' => e = .returned (.tuple #[.int .i64 ts.length, .int .i64 0]) ∧ Puts w bt bm g (ts ++ [s]) w' := by
  have hm := made_yes w bt bm h.c1
  have c1 := h.c1
  have hmap := h.map
  have hs' : s.size ≤ maxLen := by unfold maxLen; omega
  have hkey : keyOf Try.prog 9 (.string s) = some (key s) := WideMaps.keyOf_string_mk Try.underlying9 hs'
  have hh : has (dat ts) (key s) = false := by rw [has_dat ts s, contains_no]; exact hn
  have hcl := clone_any s w hs
  have HA : Hid (∀ W, Below w.heap.size w W → Calls Try.prog 35 #[.pointer (some ⟨bt, 0, none⟩), .string s] W fun e w' => e = .returned (.int .i64 ts.length) ∧ Puts w bt bm g (ts ++ [s]) w') := fun W hW => by
    have ht := Turn.of_below hW
    have hT := h.kept ht (by have := h.lt; rintro k (rfl | rfl | rfl) <;> omega)
    refine (add_yes hT s hs' hn hb).mono ?_
    rintro e w' ⟨he, g', cap', h1, h2, h3⟩
    refine ⟨he, g', cap', h1, h2.imp id (fun x => Nat.le_trans hW.size x), ?_⟩
    exact (ht.mono (S' := foot bt bm g) (fun i hi e => by omega)).trans h3 (fun _ _ e => e)
  clear h hn
  go_enter Try.func22, Try.ntmps22
  go_wp2_with (first | (go_at_call 34; refine Calls.mono hm ?_; rintro e w' ⟨rfl, rfl⟩) | (at_lookup; refine wpList_lookup_own_ok_int _ rfl _ _ 69 rfl 9 3 .i64 law9 Try.underlying69 Try.underlying3 (zero3 _) bm _ _ rfl hmap _ _ rfl hkey ?_; intro c hat hwc) | (go_at_call 46; refine Calls.mono hcl ?_; rintro e w1 ⟨rfl, hw1⟩; have HW : Hid (Below _ _ w1) := hw1; clear hw1) | (go_at_call 35; refine Calls.mono (HA.out _ HW.out) ?_; rintro e w2 ⟨rfl, hp⟩))
  go_ret2
  exact ⟨rfl, hp⟩

theorem Tab.puts_self (h : Tab w bt bm g cap ts) : Puts w bt bm g ts w := ⟨g, cap, h, .inl rfl, Turn.refl _ _⟩

theorem put_yes (h : Tab w bt bm g cap ts) (s : ByteArray) (hs : s.size ≤ 281474976710656) (hb : (ts.length + 1) * 16 ≤ 140737488355328) :
    Calls Try.prog 22 #[.pointer (some ⟨bt, 0, none⟩), .string s] w fun e w' => e = .returned (.tuple #[.int .i64 ((put1 ts s).idxOf s), .int .i64 0]) ∧ Puts w bt bm g (put1 ts s) w' := by
  by_cases hc : ts.contains s = true
  · refine (put_there h s hs hc).mono ?_
    rintro e w' ⟨he, rfl⟩
    unfold put1
    rw [if_pos hc]
    exact ⟨he, h.puts_self⟩
  · have hn : s ∉ ts := by rwa [contains_iff] at hc
    refine (put_new h s hs hn hb).mono ?_
    rintro e w' ⟨he, hp⟩
    unfold put1
    rw [if_neg hc, idx_snoc hn]
    exact ⟨he, hp⟩

end
/-- A new table with no texts, in new blocks. -/
def Fresh (w : World) (bt : Nat) (ts : List ByteArray) (w' : World) : Prop :=
  ∃ bm g cap, Tab w' bt bm g cap ts ∧ w.heap.size ≤ bt ∧ w.heap.size ≤ bm ∧ w.heap.size ≤ g ∧ Below w.heap.size w w'

theorem heap_new (w : World) (o : Obj) : (w.alloc o).heap[w.heap.size]? = some o := heap_alloc_new w o
theorem heap_old (w : World) (o : Obj) (k : Nat) (h : k < w.heap.size) : (w.alloc o).heap[k]? = w.heap[k]? := Below.heap_alloc w o k h

theorem fresh1 (w : World) (n : Nat) (hn : n ≤ maxLen) :
    Fresh w (w.heap.size + 2) [] (((w.alloc (.cells (madeCells #[.string ⟨#[]⟩] n) 9)).alloc (.map #[] 0)).alloc (.cells #[.slice (some ⟨w.heap.size, 0, none⟩) 0 n, .map (some (w.heap.size + 1))] 71)).drew := by
  refine ⟨w.heap.size + 1, w.heap.size, n, ⟨?_, ?_, ?_, List.nodup_nil, fun s h => by simp at h⟩, by omega, by omega, by omega, ?_⟩
  · show (World.alloc _ _).heap[_]? = _
    rw [show w.heap.size + 2 = ((w.alloc (.cells (madeCells #[.string ⟨#[]⟩] n) 9)).alloc (.map #[] 0)).heap.size by simp]
    exact heap_new _ _
  · exact ((World.ownsRow_made w _ n (Nat.zero_le _) hn (by simp [size_madeCells])).alloc _).alloc _
  · have := World.ownsMap_made (w.alloc (.cells (madeCells #[.string ⟨#[]⟩] n) 9)) Try.prog 9 (plainElem (H := Unit) Try.prog 3)
    rw [World.size_alloc] at this
    exact (this.alloc _).drew
  · exact ((((Below.refl _ _).alloc (Nat.le_refl _) _).alloc (by simp) _).alloc (by simp; omega) _).drew

theorem fresh2 (w : World) (n : Nat) (hn : n ≤ maxLen) :
    Fresh w (w.heap.size + 2) [] (((w.alloc (.map #[] 0)).alloc (.cells (madeCells #[.string ⟨#[]⟩] n) 9)).alloc (.cells #[.slice (some ⟨w.heap.size + 1, 0, none⟩) 0 n, .map (some w.heap.size)] 71)).drew := by
  refine ⟨w.heap.size, w.heap.size + 1, n, ⟨?_, ?_, ?_, List.nodup_nil, fun s h => by simp at h⟩, by omega, by omega, by omega, ?_⟩
  · show (World.alloc _ _).heap[_]? = _
    rw [show w.heap.size + 2 = ((w.alloc (.map #[] 0)).alloc (.cells (madeCells #[.string ⟨#[]⟩] n) 9)).heap.size by simp]
    exact heap_new _ _
  · have := World.ownsRow_made (base := 0) (e := 9) (size := 1) (w.alloc (.map #[] 0)) (madeCells #[.string ⟨#[]⟩] n) n (Nat.zero_le _) hn (by simp [size_madeCells])
    rw [World.size_alloc] at this
    exact this.alloc _
  · exact (((World.ownsMap_made w Try.prog 9 (plainElem (H := Unit) Try.prog 3)).alloc _).alloc _).drew
  · exact ((((Below.refl _ _).alloc (Nat.le_refl _) _).alloc (by simp) _).alloc (by simp; omega) _).drew

set_option maxRecDepth 100000 in
theorem withRoom_any (w : World) (n : Nat) (hn : 16 * n ≤ 281474976710656) :
    Calls Try.prog 33 #[.int .i64 n] w fun e w' => e = .returned (.pointer (some ⟨w.heap.size + 2, 0, none⟩)) ∧ Fresh w (w.heap.size + 2) [] w' := by
  have H1 : Hid _ := fresh1 w n (by unfold maxLen; omega)
  have H2 : Hid _ := fresh2 w n (by unfold maxLen; omega)
  have hms := run_make27 n hn
  have hmm := run_map69 n
  go_enter Try.func33, Try.ntmps33
  go_wp2
  go_region
  all_goals go_wp2
  all_goals go_ret
  · exact ⟨rfl, H1.out⟩
  · exact ⟨rfl, H2.out⟩

theorem new_any (w : World) : Calls Try.prog 8 #[] w fun e w' => e = .returned (.pointer (some ⟨w.heap.size + 2, 0, none⟩)) ∧ Fresh w (w.heap.size + 2) [] w' := by
  have hr := withRoom_any w 0 (by omega)
  rw [show ((0 : Nat) : Int) = 0 from rfl] at hr
  go_enter Try.func8, Try.ntmps8
  go_wp2_with (go_at_call 33; refine Calls.mono hr ?_; rintro e w' ⟨rfl, hf⟩)
  go_ret
  exact ⟨rfl, hf⟩

end Go.Proofs.Ytdmopioiaaecfaa
