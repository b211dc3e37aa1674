/- Put leaves the texts of the list that a walk over the table holds. -/
import Derived.Test.YtdmopioiaaecfaaIter
import Derived.Test.YtdmopioiaaecfaaLent
namespace Go.Proofs.Ytdmopioiaaecfaa
open Go.RowKit Go.Maps

/-- An append leaves the first places of the block in which the list lay. -/
theorem append_keeps {w : World} (ty : TypeId) (i : TypeInfo) (hi : Try.prog.info? 9 = some i) (hz : i.zero = some (.string ⟨#[]⟩)) (hsize : i.size = 1) (hby : i.bytes = 16)
    (g n cap : Nat) (xs : List Value) (hown : w.ownsRow 0 9 1 (.slice (some ⟨g, 0, none⟩) n cap) n xs) (a : Addr) (c : Nat) (u : Value) (hnews : ∀ j x, [u][j]? = some x → w.cell? (a.add j) = some x) (h1 : u.oneCell' = true)
    (h63 : n + 1 ≤ maxLen) (hbytes : (n + 1) * 16 ≤ 140737488355328) :
    ∃ v' w', (Builtin.append_ #[27, 27] ty #[.slice (some ⟨g, 0, none⟩) n cap, .slice (some a) 1 c]).run Try.prog w = .ok v' w' ∧ w'.ownsRow 0 9 1 v' (n + 1) (xs ++ [u]) ∧ w.grownBy w' (some g) ∧
      (v'.ownBlock = some g ∨ v'.ownBlock = some w.heap.size) ∧ KRow g n w w' := by
  obtain ⟨v', w', hr, h2, h3, _, h5⟩ := run_append_own_at (P := Try.prog) w 0 27 ty 9 i (.string ⟨#[]⟩) 1 16 Try.underlying27 hi hz hsize hby rfl (by decide) _ n xs hown a 1 c [u] rfl hnews (by simpa using h1) h63 hbytes (Nat.zero_le _)
  refine ⟨v', w', hr, h2, h3, h5, fun j hj => ?_⟩
  have holds : ∀ j x, xs[j]? = some x → w.cell? ((⟨g, 0, none⟩ : Addr).add j) = some x := hown.cells (g := g) rfl
  have hlx : xs.length = n := by simpa using hown.1
  by_cases hroom : n + 1 ≤ cap
  · rcases hown.2 with ⟨hx, _⟩ | ⟨g', cap', cur, hv, _, hh, k1, k2, k3, k4⟩
    · simp at hx
    · simp only [Value.slice.injEq, Option.some.injEq, Addr.mk.injEq, and_true, true_and] at hv
      obtain ⟨rfl, rfl⟩ := hv
      have e := run_append_room (P := Try.prog) w 27 ty 9 i Try.underlying27 hi g n cap cur hh a 1 c [u] (by simp [hsize]) hnews (by simpa using h1) hroom (by simp [hsize]; omega)
      rw [e] at hr
      simp only [Result.ok.injEq] at hr
      obtain ⟨rfl, rfl⟩ := hr
      have hc2 := h2.cells (g := g) rfl
      have hx : xs[j]? = some (xs[j]'(by omega)) := by simp
      have e1 := holds j _ hx
      have e2 := hc2 j _ (by rw [List.getElem?_append_left (by omega)]; exact hx)
      rw [add_at, Nat.zero_add] at e1 e2
      rw [e1, e2]
  · have e := run_append_grow (P := Try.prog) w 27 ty 9 i (.string ⟨#[]⟩) Try.underlying27 hi hz ⟨g, 0, none⟩ n cap xs (by simpa [hsize] using hlx) holds a 1 c [u] (by simp [hsize]) hnews (by omega) (by unfold maxLen at h63; omega) (by rw [hby]; exact growslice_fits (by omega) hbytes)
    rw [e] at hr
    simp only [Result.ok.injEq] at hr
    obtain ⟨_, rfl⟩ := hr
    have hg : g < w.heap.size := (hown.lt g rfl).2
    exact World.cell?_of_block (a := ⟨g, j, none⟩) (Below.heap_alloc w.drew _ g hg)

theorem wpList_append_keeps {w : World} {ops : Array Oper} {rest : List Oper} {o : Oper} {a : Act} {Q : Exit → Act → World → Prop} (hgd : o.guard = none) (s x : Operand)
    (ho : o.op = .call { callee := .builtin .append, args := #[s, x], argTypes := #[27, 27] }) (i : TypeInfo) (hi : Try.prog.info? 9 = some i) (hz : i.zero = some (.string ⟨#[]⟩)) (hsize : i.size = 1) (hby : i.bytes = 16)
    (g n cap : Nat) (xs : List Value) (hs : a.eval s = .slice (some ⟨g, 0, none⟩) n cap) (hown : w.ownsRow 0 9 1 (.slice (some ⟨g, 0, none⟩) n cap) n xs) (ad : Addr) (c : Nat) (u : Value) (hx : a.eval x = .slice (some ad) 1 c)
    (hnews : ∀ j x, [u][j]? = some x → w.cell? (ad.add j) = some x) (h1 : u.oneCell' = true) (h63 : n + 1 ≤ maxLen) (hbytes : (n + 1) * 16 ≤ 140737488355328)
    (h : ∀ v' w', w'.ownsRow 0 9 1 v' (n + 1) (xs ++ [u]) → w.grownBy w' (some g) → (v'.ownBlock = some g ∨ v'.ownBlock = some w.heap.size) → KRow g n w w' → wpList Try.prog ops Q rest (a.put o.dst v') w') :
    wpList Try.prog ops Q (o :: rest) a w := by
  refine wpList_plain hgd fun K hK => ?_
  obtain ⟨v', w', hr, k1, k2, k3, k4⟩ := append_keeps (w := w) o.type i hi hz hsize hby g n cap xs hown ad c u hnews h1 h63 hbytes
  unfold Oper.wp execOp
  simp only [ho, resolve, invoke, builtin, Sem.run_bind, Sem.run_pure, Result.andThen_ok, List.map_toArray, List.map_cons, List.map_nil, hs, hx, hr]
  exact hK _ _ (h v' w' k1 k2 k3 k4)

section
variable {w : World} {bt bm g cap : Nat} {ts : List ByteArray}

theorem krow_alloc (w : World) (o : Obj) (hg : g < w.heap.size) (n : Nat) : KRow g n w (w.alloc o) := fun j _ => World.cell?_of_block (a := ⟨g, j, none⟩) (Below.heap_alloc w o g hg)
theorem krow_other {g b : Nat} (h : g ≠ b) (n : Nat) {w : World} (k : Nat) (v : Value) : KRow g n w (w.setCell ⟨b, k, none⟩ v) := fun j _ =>
  World.cell?_of_block (a := ⟨g, j, none⟩) (Below.heap_setCell w _ _ _ h)
theorem krow_turn {S : Nat → Prop} {w w' : World} {g n : Nat} (h : Turn S w w') (hg : g < w.heap.size) (hn : ¬ S g) : KRow g n w w' := fun j _ => World.cell?_of_block (a := ⟨g, j, none⟩) (h.block g hg hn)

set_option maxRecDepth 100000 in
set_option maxHeartbeats 400000 in
theorem add_keeps (h : Tab w bt bm g cap ts) (s : ByteArray) (hs : s.size ≤ maxLen) (hn : s ∉ ts) (hb : (ts.length + 1) * 16 ≤ 140737488355328) :
    Calls Try.prog 35 #[.pointer (some ⟨bt, 0, none⟩), .string s] w fun e w' => e = .returned (.int .i64 ts.length) ∧
      (∃ g' cap', Tab w' bt bm g' cap' (ts ++ [s]) ∧ (g' = g ∨ w.heap.size ≤ g') ∧ Turn (foot bt bm g) w w') ∧ KRow g ts.length w w' := by
  obtain ⟨i0, hi, hz0, hz1, hz2⟩ := info_parts info9
  have c0 := h.c0
  have c1 := h.c1
  have hrow := h.row
  have hbox := h.box
  have hkey : keyOf Try.prog 9 (.string s) = some (key s) := WideMaps.keyOf_string_mk Try.underlying9 hs
  have H : Hid (Tab w bt bm g cap ts) := h
  have HB : Hid (w.heap[bt]? = some (.cells #[.slice (some ⟨g, 0, none⟩) ts.length cap, .map (some bm)] 71 (0, 0))) := hbox
  clear h hbox
  go_enter Try.func35, Try.ntmps35
  go_wp2_with (first | (at_builtin; refine wpList_append_keeps rfl _ _ rfl i0 hi hz0 hz1 hz2 g ts.length cap _ rfl (hrow.alloc _) ⟨w.heap.size, 0, none⟩ 1 (.string s) rfl (cell_one_new _ _ _) (by simp [Value.oneCell']) (by unfold maxLen; omega) (by omega) ?_; intro v' w1 hown hgrow hloc hkr; obtain ⟨g', cap', rfl, hg, hbt, htn, hmap⟩ := H.out.grown hgrow hloc hown; clear hgrow hloc; have HT : Hid (Turn (foot bt bm g) w w1 ∧ w1.heap[bt]? = w.heap[bt]? ∧ KRow g ts.length w w1) := ⟨htn, hbt, krow_t (krow_alloc w _ H.out.lt.2.2 _) hkr⟩; clear htn hkr; have d0 : w1.cell? ⟨bt, 0, none⟩ = some (.slice (some ⟨g, 0, none⟩) ts.length cap) := (World.cell?_of_block (a := ⟨bt, 0, none⟩) hbt).trans c0; have d1 : w1.cell? ⟨bt, 1, none⟩ = some (.map (some bm)) := (World.cell?_of_block (a := ⟨bt, 1, none⟩) hbt).trans c1; have df : w1.frozen? ⟨bt, 0, none⟩ = false := (World.frozen?_of_block (a := ⟨bt, 0, none⟩) hbt).trans H.out.f0; clear hbt c0 c1) | (at_mapUpdate; refine wpList_mapUpdate_own _ rfl _ _ _ 69 rfl 9 3 law9 Try.underlying69 _ bm _ _ rfl ((Turn.setCell (fun k => k = bt) _ ⟨bt, 0, none⟩ _ rfl).map hmap (fun e => H.out.ne.1 e.symm)) (by unfold maxLen; omega) _ _ _ rfl rfl hkey _ [] (plainElem_int Try.underlying3 (WalkArith.wf_i64 (by omega))) ?_; intro w2 hm2 hg2))
  go_ret
  refine ⟨rfl, ⟨g', cap', H.out.added hs hn hg HT.out.2.1 HT.out.1 hown hm2 hg2⟩, ?_⟩
  have hlt := H.out.lt
  have hne := H.out.ne
  have hs1 := HT.out.1.size
  refine krow_t (krow_t HT.out.2.2 (krow_other (b := bt) (fun e => hne.2.1 e.symm) _ 0 (.slice (some ⟨g', 0, none⟩) (ts.length + 1) cap'))) ?_
  exact krow_turn (Turn.of_grown hg2) (by simp [World.setCell]; omega) (by simp; exact fun e => hne.2.2 e.symm)

set_option maxRecDepth 100000 in
set_option maxHeartbeats 400000 in
theorem put_keeps_new (h : Tab w bt bm g cap ts) (s : ByteArray) (hs : s.size ≤ 281474976710656) (hn : s ∉ ts) (hb : (ts.length + 1) * 16 ≤ 140737488355328) :
    Calls Try.prog 22 #[.pointer (some ⟨bt, 0, none⟩), .string s] w fun e w' => e = .returned (.tuple #[.int .i64 ts.length, .int .i64 0]) ∧ Puts w bt bm g (ts ++ [s]) w' ∧ KRow g ts.length w w' := by
  have hm := made_yes w bt bm h.c1
  have c1 := h.c1
  have hmap := h.map
  have hs' : s.size ≤ maxLen := by unfold maxLen; omega
  have hkey : keyOf Try.prog 9 (.string s) = some (key s) := WideMaps.keyOf_string_mk Try.underlying9 hs'
  have hh : has (dat ts) (key s) = false := by rw [has_dat ts s, contains_no]; exact hn
  have hcl := clone_any s w hs
  have HA : Hid (∀ W, Below w.heap.size w W → Calls Try.prog 35 #[.pointer (some ⟨bt, 0, none⟩), .string s] W fun e w' => e = .returned (.int .i64 ts.length) ∧ Puts w bt bm g (ts ++ [s]) w' ∧ KRow g ts.length w w') := fun W hW => by
    have ht := Turn.of_below hW
    have hT := h.kept ht (by have := h.lt; rintro k (rfl | rfl | rfl) <;> omega)
    refine (add_keeps hT s hs' hn hb).mono ?_
    rintro e w' ⟨he, ⟨g', cap', h1, h2, h3⟩, h4⟩
    refine ⟨he, ⟨g', cap', h1, h2.imp id (fun x => Nat.le_trans hW.size x), ?_⟩, krow_t (krow_below hW h.lt.2.2) h4⟩
    exact (ht.mono (S' := foot bt bm g) (fun i hi e => by omega)).trans h3 (fun _ _ e => e)
  clear h hn
  go_enter Try.func22, Try.ntmps22
  go_wp2_with (first | (go_at_call 34; refine Calls.mono hm ?_; rintro e w' ⟨rfl, rfl⟩) | (at_lookup; refine wpList_lookup_own_ok_int _ rfl _ _ 69 rfl 9 3 .i64 law9 Try.underlying69 Try.underlying3 (zero3 _) bm _ _ rfl hmap _ _ rfl hkey ?_; intro c hat hwc) | (go_at_call 46; refine Calls.mono hcl ?_; rintro e w1 ⟨rfl, hw1⟩; have HW : Hid (Below _ _ w1) := hw1; clear hw1) | (go_at_call 35; refine Calls.mono (HA.out _ HW.out) ?_; rintro e w2 ⟨rfl, hp⟩))
  go_ret2
  exact ⟨rfl, hp⟩

theorem put_keeps (h : Tab w bt bm g cap ts) (s : ByteArray) (hs : s.size ≤ 281474976710656) (hb : (ts.length + 1) * 16 ≤ 140737488355328) :
    Calls Try.prog 22 #[.pointer (some ⟨bt, 0, none⟩), .string s] w fun e w' => e = .returned (.tuple #[.int .i64 ((put1 ts s).idxOf s), .int .i64 0]) ∧ Puts w bt bm g (put1 ts s) w' ∧ KRow g ts.length w w' := by
  by_cases hc : ts.contains s = true
  · refine (put_there h s hs hc).mono ?_
    rintro e w' ⟨he, rfl⟩
    unfold put1
    rw [if_pos hc]
    exact ⟨he, h.puts_self, fun _ _ => rfl⟩
  · have hn : s ∉ ts := by rwa [contains_iff] at hc
    refine (put_keeps_new h s hs hn hb).mono ?_
    rintro e w' ⟨he, hp⟩
    unfold put1
    rw [if_neg hc, idx_snoc hn]
    exact ⟨he, hp⟩
end
end Go.Proofs.Ytdmopioiaaecfaa
