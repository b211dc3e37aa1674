/- join, while some list of places is gone through: the third tuple with its key, and more. -/
import Derived.Test.YtnhmjheipfopoaaL8b
namespace Go.Proofs.Ytnhmjheipfopoaa.L
open Go.RowKit Go.Maps Go.Proofs.Ytnhmjheipfopoaa

theorem setList' {vs : List Value} {ls : List (List Nat)} {k0 n0 j : Nat} {v v' : Value} {qs : List Nat} (h : ∀ (i : Nat) (v : Value) (ps : List Nat), vs[i]? = some v → ls[i]? = some ps → v.ownBlock = some k0 → n0 ≤ ps.length) (hj : vs[j]? = some v) (hv : v'.ownBlock = some k0 → n0 ≤ qs.length) :
    ∀ (i : Nat) (v : Value) (ps : List Nat), (vs.set j v')[i]? = some v → (ls.set j qs)[i]? = some ps → v.ownBlock = some k0 → n0 ≤ ps.length := by
  intro i u ps h1 h2 h3
  by_cases hi : i = j
  · subst hi
    rw [List.getElem?_set_self (List.getElem?_eq_some_iff.1 hj).1] at h1
    have hl := (List.getElem?_eq_some_iff.1 h2).1
    rw [List.length_set] at hl
    rw [List.getElem?_set_self hl] at h2
    obtain rfl := Option.some.inj h1
    obtain rfl := Option.some.inj h2
    exact hv h3
  · rw [List.getElem?_set_ne (Ne.symm hi)] at h1 h2
    exact h i u ps h1 h2 h3

set_option maxRecDepth 100000 in
theorem append_keepsI {w : World} (ty : TypeId) (i : TypeInfo) (hi : Try.prog.info? 3 = some i) (hz : i.zero = some (.int .i64 0)) (hsize : i.size = 1) (hby : i.bytes = 8) (base : Nat)
    (g n cap : Nat) (xs : List Value) (hown : w.ownsRow base 3 1 (.slice (some ⟨g, 0, none⟩) n cap) n xs) (a : Addr) (c : Nat) (u : Value) (hnews : ∀ j x, [u][j]? = some x → w.cell? (a.add j) = some x) (h1 : u.oneCell' = true)
    (h63 : n + 1 ≤ maxLen) (hbytes : (n + 1) * 8 ≤ 140737488355328) (hbase : base ≤ w.heap.size) :
    ∃ v' w', (Builtin.append_ #[23, 23] ty #[.slice (some ⟨g, 0, none⟩) n cap, .slice (some a) 1 c]).run Try.prog w = .ok v' w' ∧ w'.ownsRow base 3 1 v' (n + 1) (xs ++ [u]) ∧ w.grownBy w' (some g) ∧
      (v'.ownBlock = some g ∨ v'.ownBlock = some w.heap.size) ∧ ∀ j, j < n → w'.cell? ⟨g, j, none⟩ = w.cell? ⟨g, j, none⟩ := by
  obtain ⟨v', w', hr, h2, h3, _, h5⟩ := run_append_own_at (P := Try.prog) w base 23 ty 3 i (.int .i64 0) 1 8 Try.underlying23 hi hz hsize hby rfl (by decide) _ n xs hown a 1 c [u] rfl hnews (by simpa using h1) h63 hbytes hbase
  refine ⟨v', w', hr, h2, h3, h5, fun j hj => ?_⟩
  have holds : ∀ j x, xs[j]? = some x → w.cell? ((⟨g, 0, none⟩ : Addr).add j) = some x := hown.cells (g := g) rfl
  have hlx : xs.length = n := by simpa using hown.1
  by_cases hroom : n + 1 ≤ cap
  · rcases hown.2 with ⟨hx, _⟩ | ⟨g', cap', cur, hv, _, hh, k1, k2, k3, k4⟩
    · simp at hx
    · simp only [Value.slice.injEq, Option.some.injEq, Addr.mk.injEq, and_true, true_and] at hv
      obtain ⟨rfl, rfl⟩ := hv
      have e := run_append_room (P := Try.prog) w 23 ty 3 i Try.underlying23 hi g n cap cur hh a 1 c [u] (by simp [hsize]) hnews (by simpa using h1) hroom (by simp [hsize]; omega)
      rw [e] at hr
      simp only [Result.ok.injEq] at hr
      obtain ⟨rfl, rfl⟩ := hr
      have hc2 := h2.cells (g := g) rfl
      have hx : xs[j]? = some (xs[j]'(by omega)) := by simp
      have e1 := holds j _ hx
      have e2 := hc2 j _ (by rw [List.getElem?_append_left (by omega)]; exact hx)
      rw [add_at, Nat.zero_add] at e1 e2
      rw [e1, e2]
  · have e := run_append_grow (P := Try.prog) w 23 ty 3 i (.int .i64 0) Try.underlying23 hi hz ⟨g, 0, none⟩ n cap xs (by simpa [hsize] using hlx) holds a 1 c [u] (by simp [hsize]) hnews (by omega) (by unfold maxLen at h63; omega) (by rw [hby]; exact growslice_fits (by omega) hbytes)
    rw [e] at hr
    simp only [Result.ok.injEq] at hr
    obtain ⟨_, rfl⟩ := hr
    have hg : g < w.heap.size := (hown.lt g rfl).2
    exact World.cell?_of_block (a := ⟨g, j, none⟩) (Below.heap_alloc w.drew _ g hg)

theorem wpList_append_keepsI {w : World} {ops : Array Oper} {rest : List Oper} {o : Oper} {a : Act} {Q : Exit → Act → World → Prop} (hgd : o.guard = none) (s x : Operand)
    (ho : o.op = .call { callee := .builtin .append, args := #[s, x], argTypes := #[23, 23] }) (i : TypeInfo) (hi : Try.prog.info? 3 = some i) (hz : i.zero = some (.int .i64 0)) (hsize : i.size = 1) (hby : i.bytes = 8) (base : Nat)
    (g n cap : Nat) (xs : List Value) (hs : a.eval s = .slice (some ⟨g, 0, none⟩) n cap) (hown : w.ownsRow base 3 1 (.slice (some ⟨g, 0, none⟩) n cap) n xs) (ad : Addr) (c : Nat) (u : Value) (hx : a.eval x = .slice (some ad) 1 c)
    (hnews : ∀ j x, [u][j]? = some x → w.cell? (ad.add j) = some x) (h1 : u.oneCell' = true) (h63 : n + 1 ≤ maxLen) (hbytes : (n + 1) * 8 ≤ 140737488355328) (hbase : base ≤ w.heap.size)
    (h : ∀ v' w', w'.ownsRow base 3 1 v' (n + 1) (xs ++ [u]) → w.grownBy w' (some g) → (v'.ownBlock = some g ∨ v'.ownBlock = some w.heap.size) → (∀ j, j < n → w'.cell? ⟨g, j, none⟩ = w.cell? ⟨g, j, none⟩) → wpList Try.prog ops Q rest (a.put o.dst v') w') :
    wpList Try.prog ops Q (o :: rest) a w := by
  refine wpList_plain hgd fun K hK => ?_
  obtain ⟨v', w', hr, k1, k2, k3, k4⟩ := append_keepsI (w := w) o.type i hi hz hsize hby base g n cap xs hown ad c u hnews h1 h63 hbytes hbase
  unfold Oper.wp execOp
  simp only [ho, resolve, invoke, builtin, Sem.run_bind, Sem.run_pure, Result.andThen_ok, List.map_toArray, List.map_cons, List.map_nil, hs, hx, hr]
  exact hK _ _ (h v' w' k1 k2 k3 k4)

/-- .. whatever the list lay in. -/
theorem append_keep0 {w : World} (ty : TypeId) (i : TypeInfo) (hi : Try.prog.info? 3 = some i) (hz : i.zero = some (.int .i64 0)) (hsize : i.size = 1) (hby : i.bytes = 8) (base : Nat)
    (v : Value) (n : Nat) (xs : List Value) (hown : w.ownsRow base 3 1 v n xs) (a : Addr) (c : Nat) (u : Value) (hnews : ∀ j x, [u][j]? = some x → w.cell? (a.add j) = some x) (h1 : u.oneCell' = true)
    (h63 : n + 1 ≤ maxLen) (hbytes : (n + 1) * 8 ≤ 140737488355328) (hbase : base ≤ w.heap.size) :
    ∃ v' w', (Builtin.append_ #[23, 23] ty #[v, .slice (some a) 1 c]).run Try.prog w = .ok v' w' ∧ w'.ownsRow base 3 1 v' (n + 1) (xs ++ [u]) ∧ w.grownBy w' v.ownBlock ∧
      (v'.ownBlock = v.ownBlock ∨ v'.ownBlock = some w.heap.size) ∧ ∀ g j, v.ownBlock = some g → j < n → w'.cell? ⟨g, j, none⟩ = w.cell? ⟨g, j, none⟩ := by
  rcases id hown.2 with ⟨rfl, hn⟩ | ⟨g, cap, cur, rfl, _⟩
  · obtain ⟨v', w', hr, h2, h3, _, h5⟩ := run_append_own_at (P := Try.prog) w base 23 ty 3 i (.int .i64 0) 1 8 Try.underlying23 hi hz hsize hby rfl (by decide) _ n xs hown a 1 c [u] rfl hnews (by simpa using h1) h63 hbytes hbase
    exact ⟨v', w', hr, h2, h3, h5, fun g j hg => by simp [Value.ownBlock] at hg⟩
  · obtain ⟨v', w', hr, h2, h3, h4, h5⟩ := append_keepsI ty i hi hz hsize hby base g n cap xs hown a c u hnews h1 h63 hbytes hbase
    refine ⟨v', w', hr, h2, h3, h4, fun g' j hg hj => ?_⟩
    simp only [Value.ownBlock, Option.some.injEq] at hg
    subst hg
    exact h5 j hj


section
variable {W W' : World} {F : Nat → Prop} {xb c : Nat} {T : List (List Int)} {tb : Nat} {fp : List LK} {cv : Value} {pb N len reach : Nat} {came : List E} {places : List Nat} {lv : Value} {vs : List Value} {ls : List (List Nat)} {kd : Nat → Nat}

/-- One place more in a list of its own: what append answers. -/
theorem push_placeN {w : World} {v : Value} {ps : List Nat} (h : OwnI 0 w v (ps.map Int.ofNat)) (p : Nat) (hl : ps.length ≤ 68719476736) :
    ∃ v' w', (Builtin.append_ #[23, 23] 23 #[v, .slice (some ⟨w.heap.size, 0, none⟩) 1 1]).run Try.prog (w.alloc (.cells #[.int .i64 (p : Int)] 3)) = .ok v' w' ∧ OwnI 0 w' v' ((ps ++ [p]).map Int.ofNat) ∧
      (w.alloc (.cells #[.int .i64 (p : Int)] 3)).grownBy w' v.ownBlock ∧ (v'.ownBlock = v.ownBlock ∨ v'.ownBlock = some (w.alloc (.cells #[.int .i64 (p : Int)] 3)).heap.size) ∧ ∀ g j, v.ownBlock = some g → j < ps.length → w'.cell? ⟨g, j, none⟩ = w.cell? ⟨g, j, none⟩ := by
  obtain ⟨i0, hi, hz0, hz1, hz2⟩ := info_parts infoInt
  obtain ⟨v', w', hr, h2, h3, h5, h6⟩ := append_keep0 (w := w.alloc (.cells #[.int .i64 (p : Int)] 3)) 23 i0 hi hz0 hz1 hz2 0 v _ _ (World.ownsRow.alloc h _) ⟨w.heap.size, 0, none⟩ 1 (.int .i64 (p : Int)) (new_cells w [.int .i64 (p : Int)] 3) (by simp [Value.oneCell']) (by unfold maxLen; simp; omega) (by simp; omega) (Nat.zero_le _)
  refine ⟨v', w', hr, ?_, h3, h5, fun g j hg hj => ?_⟩
  · unfold OwnI
    simpa using h2
  · rw [h6 g j hg (by simpa using hj)]
    exact World.cell?_of_block (Below.heap_alloc w _ g (own_at h hg))

set_option maxRecDepth 100000 in
set_option maxHeartbeats 2000000 in
theorem join_moreN {k0 n0 : Nat} (hk0 : k0 < W.heap.size) (hs0 : Sk xb tb pb cv lv vs ls k0 n0) (h : Lk W F xb c T tb fp cv pb N len reach came places lv vs ls kd) (hT : T.length + 1 ≤ 68719476736) (a : Option Addr) (b o cap : Nat) (t : List Int) (hI : IntsS W a b o t) (hl : t.length ≤ maxLen) (hw : Lib.bitLen c ≤ t.length)
    {i : Nat} {e : E} (he : came[i]? = some e) (hek : e.key.l = cutL t c) {j : Nat} (hev : e.val = -1 - (j : Int)) :
    Calls Try.prog 43 #[.pointer (some ⟨xb, 0, none⟩), .slice a t.length cap, .int .i64 T.length] W fun e w' => e = .returned (.tuple #[]) ∧ LkN w' (Grow F W.heap.size w') xb c (T ++ [t]) k0 n0 ∧ Turn F W w' ∧ KeepC k0 n0 W w' := by
  have hcut := cut_any W a b o cap c t hI hl h.col hw
  have hcl : (cutL t c).length ≤ maxLen := by
    have := cols_len c 16
    unfold cutL maxLen; rw [List.length_map]; omega
  have c0 := h.c0
  have c1 := h.c1
  have hth := h.cont.there i e he
  obtain ⟨ps, hps, hpe, hcont⟩ := h.cont.more (t := t) he hek hev
  obtain ⟨g, gc, v, hlv, hgc1, hgc2, hvs, hcell, hfr, hown⟩ := h.lst.at hps
  have hpl : ps.length ≤ T.length := by rw [hpe]; exact plc_len ..
  have hvl : vs.length ≤ 68719476736 := by have := h.cont.few; have := h.lst.len; omega
  have hjl : j < vs.length := (List.getElem?_eq_some_iff.1 hvs).1
  subst hlv
  have HH : Hid (Lk W F xb c T tb fp cv pb N len reach came places (.slice (some ⟨g, 0, none⟩) vs.length gc) vs ls kd) := h
  have HE : Hid (Cont c (T ++ [t]) came (ls.set j (ps ++ [T.length])) ∧ vs[j]? = some v ∧ OwnI 0 W v (ps.map Int.ofNat) ∧ ps.length ≤ T.length) := ⟨hcont, hvs, hown, hpl⟩
  have HPS : Hid (ls[j]? = some ps) := hps
  have HC : Hid (W.cell? ⟨g, j, none⟩ = some v ∧ W.frozen? ⟨g, j, none⟩ = false ∧ W.cell? ⟨xb, 2, none⟩ = some (.slice (some ⟨g, 0, none⟩) vs.length gc)) := ⟨hcell, hfr, h.c2⟩
  have hgb : g < W.heap.size := World.block_lt_of_cell? W _ hcell
  clear h hI hcont hps hpe hvs hown hpl hcell hfr
  go_enter Try.func43, Try.ntmps43
  go_wp2_with fail
  refine hcut.mono ?_
  rintro e1 w1 ⟨kv, rfl, hown, hs1⟩
  obtain ⟨k, rfl, hk, hIk, hkl, hkb⟩ := own_key hown hcl
  have h1 := HH.out.stay hs1
  have hg := get_yes (h1.ask k hIk hkl (fun q hf => by have := HH.out.lt _ hf; have := (hkb q).1; omega)) k (List.mem_cons_self ..) he hth (by simp [sm, hek, hk])
  rw [hev] at hg
  have c1' := hs1.cell c1
  have HS1 : Hid (Stay W w1) := hs1
  have hp0 : (-1 - (j : Int)) < 0 := by omega
  have hjj : (-1 - (-1 - (j : Int))) = j := by omega
  have hjv : (j : Int) < (vs.length : Int) := by omega
  have hjb : j ≤ 68719476736 := by omega
  clear hcut hown hs1 hk hIk hkl hkb h1 c0 c1 he hth hek hev
  go_wp2_with fail
  refine hg.mono ?_
  rintro e2 w2 ⟨rfl, hs2⟩
  have hsW : Stay W w2 := HS1.out.trans hs2
  have HS : Hid (Stay W w2) := hsW
  have c2 := hsW.cell HC.out.2.2
  clear hg hs2 hsW c1'
  go_wp2_with fail
  obtain ⟨v', w3, hap, hown3, hgr3, hloc3, hkp3⟩ := push_placeN (w := w2.drew) (HE.out.2.2.1.stay (HS.out.trans (Stay.drew w2))) T.length (by have := HE.out.2.2.2; omega)
  obtain ⟨g5, c5, rfl⟩ := own_form hown3 (by simp)
  have hn5 : ((ps ++ [T.length]).map Int.ofNat).length = ps.length + 1 := by simp
  rw [hn5] at hap hown3 hloc3
  obtain ⟨kd', hM', hT'⟩ := (HH.out.mk'.stay (HS.out.trans (Stay.drew w2))).setList (base := W.heap.size) rfl HE.out.2.1 (Stay.new w2.drew (.cells #[.int .i64 (T.length : Int)] 3)) HS.out.size hown3 hgr3 hloc3
  have hsk : Sk xb tb pb cv (.slice (some ⟨g, 0, none⟩) vs.length gc) (vs.set j (.slice (some ⟨g5, 0, none⟩) (ps.length + 1) c5)) (ls.set j (ps ++ [T.length])) k0 n0 := ⟨hs0.1, hs0.2.1, hs0.2.2.1, setList' hs0.2.2.2 HE.out.2.1 (fun hk => by
    rcases hloc3 with e | e
    · have := hs0.2.2.2 j v ps HE.out.2.1 (HPS.out) (e.symm.trans hk); rw [List.length_append]; omega
    · rw [e] at hk
      have := Option.some.inj hk
      have h2 := HS.out.size
      rw [World.size_alloc] at this
      have hdz : w2.drew.heap.size = w2.heap.size := rfl
      omega)⟩
  have hkeep : KeepC k0 n0 W (w3.setCell ⟨g, j, none⟩ (.slice (some ⟨g5, 0, none⟩) (ps.length + 1) c5)) := by
    refine (KeepC.stay (HS.out.trans (Stay.drew w2)) hk0).trans ?_
    have hk2 : k0 < w2.drew.heap.size := Nat.lt_of_lt_of_le hk0 HS.out.size
    intro i hi
    have hkg0 : k0 ≠ g := fun q => hs0.2.2.1 (by rw [q]; rfl)
    rw [World.cell?_setCell_far w3 _ _ _ (fun q => hkg0 q.symm)]
    by_cases hvk : v.ownBlock = some k0
    · have := hs0.2.2.2 j v ps HE.out.2.1 HPS.out hvk
      exact hkp3 k0 i hvk (by omega)
    · exact World.cell?_of_block ((hgr3.block k0 (by rw [World.size_alloc]; omega) (fun e => hvk e.symm)).trans (Below.heap_alloc w2.drew _ k0 hk2))
  have hF : LkN (w3.setCell ⟨g, j, none⟩ (.slice (some ⟨g5, 0, none⟩) (ps.length + 1) c5)) (Grow F W.heap.size (w3.setCell ⟨g, j, none⟩ (.slice (some ⟨g5, 0, none⟩) (ps.length + 1) c5))) xb c (T ++ [t]) k0 n0 ∧ Turn F W (w3.setCell ⟨g, j, none⟩ (.slice (some ⟨g5, 0, none⟩) (ps.length + 1) c5)) ∧ KeepC k0 n0 W (w3.setCell ⟨g, j, none⟩ (.slice (some ⟨g5, 0, none⟩) (ps.length + 1) c5)) := by
    refine ⟨⟨_, _, _, _, _, _, _, _, _, _, _, _, _, hM'.lk HE.out.1 HH.out.col ?_, hsk⟩, (Turn.of_stay (HS.out.trans (Stay.drew w2))).trans hT', hkeep⟩
    intro t' ht'
    rcases List.mem_append.1 ht' with h1 | h1
    · exact HH.out.wide t' h1
    · rw [List.mem_singleton.1 h1]; exact hw
  have HF : Hid _ := hF
  have hb1 : xb < w2.drew.heap.size := World.block_lt_of_cell? w2 _ c2
  have hnot : ∀ b9 k9 u9, w2.cell? ⟨b9, k9, none⟩ = some u9 → v.ownBlock ≠ some b9 → w3.cell? ⟨b9, k9, none⟩ = some u9 ∧ w3.frozen? ⟨b9, k9, none⟩ = w2.frozen? ⟨b9, k9, none⟩ := by
    intro b9 k9 u9 hc hn
    have hb9 : b9 < w2.heap.size := World.block_lt_of_cell? w2 _ hc
    have e9 : w3.heap[b9]? = w2.heap[b9]? := (hgr3.block b9 (by rw [World.size_alloc]; exact Nat.lt_succ_of_lt hb9) (fun e => hn e.symm)).trans (Below.heap_alloc w2.drew _ b9 hb9)
    exact ⟨(World.cell?_of_block e9).trans hc, by simp [World.frozen?, e9]⟩
  have hkx : v.ownBlock ≠ some xb := fun q => by have := HH.out.parts.lists j v xb HE.out.2.1 q; rw [HH.out.parts.box] at this; omega
  have hkg : v.ownBlock ≠ some g := fun q => by have := HH.out.parts.lists j v g HE.out.2.1 q; rw [HH.out.parts.arr g rfl] at this; omega
  have cg := HS.out.cell HC.out.1
  have d1 := (hnot xb 2 _ c2 hkx).1
  have d2 := (hnot g j _ cg hkg).1
  have d2f : w3.frozen? ⟨g, j, none⟩ = false := by
    rw [(hnot g j _ cg hkg).2]
    exact (HS.out.free HC.out.2.1 hgb)
  have cg1 : (w2.drew.alloc (.cells #[.int .i64 (T.length : Int)] 3)).cell? ⟨g, j, none⟩ = some v := (Stay.new w2.drew _).cell cg
  have cg2 : (w2.alloc (.cells #[.int .i64 (T.length : Int)] 3)).drew.cell? ⟨g, j, none⟩ = some v := cg1
  have hxg : xb ≠ g := fun q => by have := HH.out.parts.box; rw [q, HH.out.parts.arr g rfl] at this; omega
  have d3 : (w3.setCell ⟨g, j, none⟩ (.slice (some ⟨g5, 0, none⟩) (ps.length + 1) c5)).cell? ⟨xb, 2, none⟩ = some (.slice (some ⟨g, 0, none⟩) vs.length gc) := (World.cell?_setCell_far w3 _ _ _ (fun q => hxg q.symm)).trans d1
  clear hnot hkx hkg hM' hT' hown3 hgr3 hloc3 hF hb1 hsk hkeep hkp3
  refine region_wpH (S := fun W => W.cell? ⟨xb, 2, none⟩ = some (.slice (some ⟨g, 0, none⟩) vs.length gc) ∧ True) rfl ?_
  have hS : w2.drew.cell? ⟨xb, 2, none⟩ = some (.slice (some ⟨g, 0, none⟩) vs.length gc) ∧ True := ⟨c2, trivial⟩
  have hwj := wrap_nat j hjb
  --@7@
  refine wpAnyH_take (i := 0) (v := .pointer (some ⟨xb, 0, none⟩)) rfl (by kernel_rfl) (by kernel_rfl) (by kernel_rfl) (fun _ _ _ h => h) (Or.inl ⟨by rfl, fun W _ => by first | (go_simp; done) | (go_simp; with_reducible rfl) | (go_simp; exact hwj)⟩) hS ?_
  refine wpAnyH_take (i := 1) (v := .pointer (some ⟨xb, 0, none⟩)) rfl (by kernel_rfl) (by kernel_rfl) (by kernel_rfl) (fun _ _ _ h => h) (Or.inl ⟨by rfl, fun W _ => by first | (go_simp; done) | (go_simp; with_reducible rfl) | (go_simp; exact hwj)⟩) hS ?_
  refine wpAnyH_take (i := 2) (v := .pointer (some ⟨xb, 2, none⟩)) rfl (by kernel_rfl) (by kernel_rfl) (by kernel_rfl) (fun _ _ _ h => h) (Or.inl ⟨by rfl, fun W _ => by first | (go_simp; done) | (go_simp; with_reducible rfl) | (go_simp; exact hwj)⟩) hS ?_
  refine wpAnyH_take (i := 3) (v := .slice (some ⟨g, 0, none⟩) vs.length gc) rfl (by kernel_rfl) (by kernel_rfl) (by kernel_rfl) (fun _ _ _ h => h) (Or.inl ⟨by rfl, fun W hW => by obtain ⟨q0, q1⟩ := hW; first | (go_simp; done) | (go_simp; with_reducible rfl) | (go_simp; exact hwj)⟩) hS ?_
  refine wpAnyH_take (i := 4) (v := .int .i64 (-1 - (j : Int))) rfl (by kernel_rfl) (by kernel_rfl) (by kernel_rfl) (fun _ _ _ h => h) (Or.inl ⟨by rfl, fun W _ => by first | (go_simp; done) | (go_simp; with_reducible rfl) | (go_simp; exact hwj)⟩) hS ?_
  refine wpAnyH_take (i := 5) (v := .int .i64 (j : Int)) rfl (by kernel_rfl) (by kernel_rfl) (by kernel_rfl) (fun _ _ _ h => h) (Or.inl ⟨by rfl, fun W _ => by first | (go_simp; done) | (go_simp; with_reducible rfl) | (go_simp; exact hwj)⟩) hS ?_
  refine wpAnyH_take (i := 6) (v := .pointer (some ⟨xb, 0, none⟩)) rfl (by kernel_rfl) (by kernel_rfl) (by kernel_rfl) (fun _ _ _ h => h) (Or.inl ⟨by rfl, fun W _ => by first | (go_simp; done) | (go_simp; with_reducible rfl) | (go_simp; exact hwj)⟩) hS ?_
  refine wpAnyH_take (i := 7) (v := .pointer (some ⟨xb, 0, none⟩)) rfl (by kernel_rfl) (by kernel_rfl) (by kernel_rfl) (fun _ _ _ h => h) (Or.inl ⟨by rfl, fun W _ => by first | (go_simp; done) | (go_simp; with_reducible rfl) | (go_simp; exact hwj)⟩) hS ?_
  refine wpAnyH_take (i := 8) (v := .pointer (some ⟨xb, 2, none⟩)) rfl (by kernel_rfl) (by kernel_rfl) (by kernel_rfl) (fun _ _ _ h => h) (Or.inl ⟨by rfl, fun W _ => by first | (go_simp; done) | (go_simp; with_reducible rfl) | (go_simp; exact hwj)⟩) hS ?_
  refine wpAnyH_take (i := 9) (v := .slice (some ⟨g, 0, none⟩) vs.length gc) rfl (by kernel_rfl) (by kernel_rfl) (by kernel_rfl) (fun _ _ _ h => h) (Or.inl ⟨by rfl, fun W hW => by obtain ⟨q0, q1⟩ := hW; first | (go_simp; done) | (go_simp; with_reducible rfl) | (go_simp; exact hwj)⟩) hS ?_
  refine wpAnyH_take (i := 10) (v := .int .i64 (-1 - (j : Int))) rfl (by kernel_rfl) (by kernel_rfl) (by kernel_rfl) (fun _ _ _ h => h) (Or.inl ⟨by rfl, fun W _ => by first | (go_simp; done) | (go_simp; with_reducible rfl) | (go_simp; exact hwj)⟩) hS ?_
  refine wpAnyH_take (i := 11) (v := .int .i64 (j : Int)) rfl (by kernel_rfl) (by kernel_rfl) (by kernel_rfl) (fun _ _ _ h => h) (Or.inl ⟨by rfl, fun W _ => by first | (go_simp; done) | (go_simp; with_reducible rfl) | (go_simp; exact hwj)⟩) hS ?_
  refine wpAnyH_take (i := 12) (v := .pointer (some ⟨g, j, none⟩)) rfl (by kernel_rfl) (by kernel_rfl) (by kernel_rfl) (fun _ _ _ h => h) (Or.inl ⟨by rfl, fun W _ => by first | (go_simp; done) | (go_simp; with_reducible rfl) | (go_simp; exact hwj)⟩) hS ?_
  refine wpAnyH_take (i := 14) (v := .int .i64 (T.length : Int)) rfl (by kernel_rfl) (by kernel_rfl) (by kernel_rfl) (fun _ _ _ h => h) (Or.inl ⟨by rfl, fun W _ => by first | (go_simp; done) | (go_simp; with_reducible rfl) | (go_simp; exact hwj)⟩) hS ?_
  refine wpAnyH_ready (rs := [13, 15]) (by kernel_rfl) (by simp) (AllReadyH.cons (o := { dst := some 78, op := Op.load 23 (Operand.tmp 77), type := 23, pos := "lookup.go:67", after := #[{ on := 12, ground := Ground.data }], guard := none }) rfl (fun K hK => ?_) (AllReadyH.cons (o := { dst := some 80, op := Op.buildSlice 23 1 #[(0, Operand.tmp 79)], type := 23, pos := "lookup.go:67", after := #[{ on := 14, ground := Ground.data }], guard := none }) rfl (fun K hK => ?_) AllReadyH.nil))
  · (first | have cg9 := cg | skip)
    go_simp
    refine hK.out _ _ hS (fun hS => ?_)
    clear hK K
    refine wpAnyH_ready (rs := [15]) (by kernel_rfl) (by simp) (AllReadyH.cons (o := { dst := some 80, op := Op.buildSlice 23 1 #[(0, Operand.tmp 79)], type := 23, pos := "lookup.go:67", after := #[{ on := 14, ground := Ground.data }], guard := none }) rfl (fun K hK => ?_) AllReadyH.nil)
    go_simp
    refine hK.out _ _ (x2_keep hS (Stay.new _ _)) (fun hS => ?_)
    clear hK K
    refine wpAnyH_ready (rs := [16]) (by kernel_rfl) (by simp) (AllReadyH.cons (o := { dst := some 81, op := Op.call { callee := Callee.builtin Builtin.append, args := #[Operand.tmp 78, Operand.tmp 80], argTypes := #[23, 23] }, type := 23, pos := "lookup.go:67", after := #[{ on := 13, ground := Ground.data }, { on := 15, ground := Ground.data }], guard := none }) rfl (fun K hK => ?_) AllReadyH.nil)
    refine step_append_run rfl _ _ _ _ rfl (by first | rfl | simp [Act.eval]) (by first | rfl | simp [Act.eval]) hap ?_
    (try go_simp)
    refine hK.out _ _ ⟨d1, trivial⟩ (fun hS => ?_)
    clear hK K
    refine wpAnyH_take (i := 17) (v := .pointer (some ⟨g, j, none⟩)) rfl (by kernel_rfl) (by kernel_rfl) (by kernel_rfl) (fun _ _ _ h => h) (Or.inl ⟨by rfl, fun W _ => by first | (go_simp; done) | (go_simp; with_reducible rfl) | (go_simp; exact hwj)⟩) hS ?_
    refine wpAnyH_ready (rs := [18]) (by kernel_rfl) (by simp) (AllReadyH.cons (o := { dst := none, op := Op.store 23 (Operand.tmp 82) (Operand.tmp 81), type := 0, pos := "lookup.go:67", after := #[{ on := 17, ground := Ground.data }, { on := 16, ground := Ground.data }, { on := 16, ground := Ground.chain }, { on := 0, ground := Ground.phase }, { on := 1, ground := Ground.phase }, { on := 2, ground := Ground.phase }, { on := 3, ground := Ground.phase }, { on := 4, ground := Ground.phase }, { on := 5, ground := Ground.phase }, { on := 6, ground := Ground.phase }, { on := 7, ground := Ground.phase }, { on := 8, ground := Ground.phase }, { on := 9, ground := Ground.phase }, { on := 10, ground := Ground.phase }, { on := 11, ground := Ground.phase }, { on := 12, ground := Ground.phase }, { on := 13, ground := Ground.phase }, { on := 14, ground := Ground.phase }, { on := 15, ground := Ground.phase }, { on := 16, ground := Ground.phase }], guard := none }) rfl (fun K hK => ?_) AllReadyH.nil)
    go_simp
    refine hK.out _ _ ⟨d3, trivial⟩ (fun hS => ?_)
    clear hK K
    refine wpAnyH_done (by kernel_rfl) ?_ _
    unfold normQ
    clear hap cg cg1 cg2 d1 d2 d3 hS
    dsimp only
    go_end0
    exact ⟨rfl, HF.out⟩
  · go_simp
    refine hK.out _ _ (x2_keep hS (Stay.new _ _)) (fun hS => ?_)
    clear hK K
    refine wpAnyH_ready (rs := [13]) (by kernel_rfl) (by simp) (AllReadyH.cons (o := { dst := some 78, op := Op.load 23 (Operand.tmp 77), type := 23, pos := "lookup.go:67", after := #[{ on := 12, ground := Ground.data }], guard := none }) rfl (fun K hK => ?_) AllReadyH.nil)
    (first | have cg9 := cg | skip)
    go_simp
    refine hK.out _ _ hS (fun hS => ?_)
    clear hK K
    refine wpAnyH_ready (rs := [16]) (by kernel_rfl) (by simp) (AllReadyH.cons (o := { dst := some 81, op := Op.call { callee := Callee.builtin Builtin.append, args := #[Operand.tmp 78, Operand.tmp 80], argTypes := #[23, 23] }, type := 23, pos := "lookup.go:67", after := #[{ on := 13, ground := Ground.data }, { on := 15, ground := Ground.data }], guard := none }) rfl (fun K hK => ?_) AllReadyH.nil)
    refine step_append_run rfl _ _ _ _ rfl (by first | rfl | simp [Act.eval]) (by first | rfl | simp [Act.eval]) hap ?_
    (try go_simp)
    refine hK.out _ _ ⟨d1, trivial⟩ (fun hS => ?_)
    clear hK K
    refine wpAnyH_take (i := 17) (v := .pointer (some ⟨g, j, none⟩)) rfl (by kernel_rfl) (by kernel_rfl) (by kernel_rfl) (fun _ _ _ h => h) (Or.inl ⟨by rfl, fun W _ => by first | (go_simp; done) | (go_simp; with_reducible rfl) | (go_simp; exact hwj)⟩) hS ?_
    refine wpAnyH_ready (rs := [18]) (by kernel_rfl) (by simp) (AllReadyH.cons (o := { dst := none, op := Op.store 23 (Operand.tmp 82) (Operand.tmp 81), type := 0, pos := "lookup.go:67", after := #[{ on := 17, ground := Ground.data }, { on := 16, ground := Ground.data }, { on := 16, ground := Ground.chain }, { on := 0, ground := Ground.phase }, { on := 1, ground := Ground.phase }, { on := 2, ground := Ground.phase }, { on := 3, ground := Ground.phase }, { on := 4, ground := Ground.phase }, { on := 5, ground := Ground.phase }, { on := 6, ground := Ground.phase }, { on := 7, ground := Ground.phase }, { on := 8, ground := Ground.phase }, { on := 9, ground := Ground.phase }, { on := 10, ground := Ground.phase }, { on := 11, ground := Ground.phase }, { on := 12, ground := Ground.phase }, { on := 13, ground := Ground.phase }, { on := 14, ground := Ground.phase }, { on := 15, ground := Ground.phase }, { on := 16, ground := Ground.phase }], guard := none }) rfl (fun K hK => ?_) AllReadyH.nil)
    go_simp
    refine hK.out _ _ ⟨d3, trivial⟩ (fun hS => ?_)
    clear hK K
    refine wpAnyH_done (by kernel_rfl) ?_ _
    unfold normQ
    clear hap cg cg1 cg2 d1 d2 d3 hS
    dsimp only
    go_end0
    exact ⟨rfl, HF.out⟩
  --@7.@

/-- join. -/
theorem join_anyN {k0 n0 : Nat} (hk0 : k0 < W.heap.size) (h : LkN W F xb c T k0 n0) (hT : T.length + 1 ≤ 68719476736) (a : Option Addr) (b o cap : Nat) (t : List Int) (hI : IntsS W a b o t) (hl : t.length ≤ maxLen) (hw : Lib.bitLen c ≤ t.length) :
    Calls Try.prog 43 #[.pointer (some ⟨xb, 0, none⟩), .slice a t.length cap, .int .i64 T.length] W fun e w' => e = .returned (.tuple #[]) ∧ LkN w' (Grow F W.heap.size w') xb c (T ++ [t]) k0 n0 ∧ Turn F W w' ∧ KeepC k0 n0 W w' := by
  obtain ⟨tb, fp, cv, pb, N, len, reach, came, places, lv, vs, ls, kd, h, hs0⟩ := h
  by_cases h0 : plc c T (cutL t c) = []
  · exact join_firstN hk0 hs0 h hT a b o cap t hI hl hw h0
  · obtain ⟨i, e, he, hk⟩ := h.cont.all _ h0
    rcases h.cont.val i e he with ⟨p, hv, _⟩ | ⟨j, hv, _⟩
    · exact join_secondN hk0 hs0 h hT a b o cap t hI hl hw he hk hv
    · exact join_moreN hk0 hs0 h hT a b o cap t hI hl hw he hk hv
end
end Go.Proofs.Ytnhmjheipfopoaa.L
