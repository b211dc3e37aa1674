/- Relation. -/
import Derived.Test.YtbbgembkdhcidaaFU
namespace Go.Proofs.Ytbbgembkdhcidaa
open Go.RowKit Go.Maps

/-- A relation in a block of its own. -/
def Rel3 (W : World) (br : Nat) (p : ByteArray) (z : Int) (v : Value) : Prop := W.heap[br]? = some (.cells #[.string p, .int .i64 z, v] 30 (0, 0))
section
variable {W W' : World} {br : Nat} {p : ByteArray} {z : Int} {v : Value}
theorem Rel3.cells (h : Rel3 W br p z v) : W.cell? ⟨br, 0, none⟩ = some (.string p) ∧ W.cell? ⟨br, 1, none⟩ = some (.int .i64 z) ∧ W.cell? ⟨br, 2, none⟩ = some v ∧ ∀ j, W.frozen? ⟨br, j, none⟩ = false := by
  unfold Rel3 at h
  refine ⟨?_, ?_, ?_, fun j => ?_⟩
  · simp [World.cell?, h]
  · simp [World.cell?, h]
  · simp [World.cell?, h]
  · simp [World.frozen?, h]
theorem Rel3.lt (h : Rel3 W br p z v) : br < W.heap.size := (Array.getElem?_eq_some_iff.1 h).1
theorem Rel3.set (h : Rel3 W br p z v) (v' : Value) : Rel3 (W.setCell ⟨br, 2, none⟩ v') br p z v' := by
  have := heap_setCell_same W br 2 _ _ v' h
  unfold Rel3
  rw [this]; rfl
end
theorem results_cell_tmp {P : Program} {fn : Func} {p t : Tmp} {ty : TypeId} (h : fn.results = #[.cell p ty, .tmp t]) (tmps : Array Value) (w : World) (g : Nat) (t' : TypeId) (cs : Array Value) (fr : Nat × Nat) (d : TypeDesc)
    (hp : tmps.getD p undef = .pointer (some ⟨g, 0, none⟩)) (hg : w.heap[g]? = some (.cells cs t' fr))
    (hu : P.underlying ty = some d) (hd : (match d with | .struct _ | .array _ _ => true | _ => false) = true) (hi : (P.info? ty).map (·.size) = some cs.size) :
    (results fn tmps).run P w = .ok (.tuple #[.agg cs, tmps.getD t undef]) w := by
  have hp' : tmps[p]?.getD undef = .pointer (some ⟨g, 0, none⟩) := by simpa using hp
  simp [results, h, hp', asAddr, run_loadVar_row w g t' ty cs fr d hg hu hd hi]

theorem sizeRel : (Try.prog.info? 30).map (·.size) = some 3 := by kernel_rfl
theorem rel_set3 {W : World} {br : Nat} {p0 : ByteArray} {z0 : Int} {v0 : Value} (h : Rel3 W br p0 z0 v0) (p : ByteArray) (z : Int) (v : Value) : Rel3 (((W.setCell ⟨br, 0, none⟩ (.string p)).setCell ⟨br, 1, none⟩ (.int .i64 z)).setCell ⟨br, 2, none⟩ v) br p z v ∧ Turn (fun k => k = br) W (((W.setCell ⟨br, 0, none⟩ (.string p)).setCell ⟨br, 1, none⟩ (.int .i64 z)).setCell ⟨br, 2, none⟩ v) := by
  have h1 := heap_setCell_same W br 0 _ _ (.string p) h
  have h2 := heap_setCell_same _ br 1 _ _ (.int .i64 z) h1
  have h3 := heap_setCell_same _ br 2 _ _ v h2
  refine ⟨?_, Turn.set (S := fun k => k = br) (Turn.set (S := fun k => k = br) (Turn.set (S := fun k => k = br) (Turn.refl _ _) rfl 0 _) rfl 1 _) rfl 2 _⟩
  unfold Rel3
  rw [h3]; rfl
/-- Between two tuples: the relation and its tuples so far. -/
structure RelJ (V : World) (br : Nat) (p : ByteArray) (z : Int) (gs : List (List ByteArray)) (W : World) : Prop where
  t : ∃ v us, Rel3 W br p z v ∧ OwnG V.heap.size W v us gs
  turn : Turn (fun k => k = br) V W
  lt : br < V.heap.size
theorem RelJ.push {V A W1 : World} {br : Nat} {p : ByteArray} {z : Int} {gs : List (List ByteArray)} {v u : Value} {us : List Value} {t : List ByteArray} (h : RelJ V br p z gs A) (hb : Rel3 A br p z v) (ho : OwnG V.heap.size A v us gs) (hu : OwnS A.heap.size W1 u t) (hs : Stay A W1) (hl : (gs.length + 1) * 24 ≤ 140737488355328) (ty : TypeId) :
    ∃ a1 n1 c1 w2, (Builtin.append_ #[22, 22] ty #[v, .slice (some ⟨W1.heap.size, 0, none⟩) 1 1]).run Try.prog (W1.alloc (.cells #[u] 39)) = .ok (.slice a1 n1 c1) w2 ∧ Rel3 w2 br p z v ∧ RelJ V br p z (gs ++ [t]) (w2.setCell ⟨br, 2, none⟩ (.slice a1 n1 c1)) := by
  have hlt := h.lt
  have hz := h.turn.size
  have hz1 := hs.size
  have ho1 := ho.stay hs
  have hu1 : OwnS V.heap.size W1 u t := hu.low hz
  obtain ⟨v', w2, hap, hg, hgr, hnn, hvb⟩ := ho1.push ty hu1 (fun k hk hbk => by have h1 := (hu.lt k hk).1; have h2 := (ho.lt k hbk).2; omega) hl (by omega)
  obtain ⟨a1, n1, c1, rfl⟩ : ∃ a1 n1 c1, v' = .slice a1 n1 c1 := by
    rcases hg.row.2 with ⟨e, _⟩ | ⟨g, cap, cur, e, _⟩ <;> exact ⟨_, _, _, e⟩
  have hb1 : Rel3 W1 br p z v := (hs.block br hb.lt).trans hb
  have hvl := fun k hk => (ho.lt k (.inl hk)).1
  have hT1 : Turn (fun k => v.ownBlock = some k) W1 w2 := (Turn.of_stay (Stay.new W1 _)).trans (Turn.of_grown hgr)
  have hb2 : Rel3 w2 br p z v := hT1.heap hb1 (fun e => by have := hvl br e; omega)
  have hT2 : Turn (fun k => k = br ∨ v.ownBlock = some k) W1 (w2.setCell ⟨br, 2, none⟩ (.slice a1 n1 c1)) := Turn.set (hT1.mono (fun k _ e => .inr e)) (.inl rfl) 2 _
  refine ⟨a1, n1, c1, w2, hap, hb2, ⟨⟨_, us ++ [u], hb2.set _, ?_⟩, ?_, hlt⟩⟩
  · refine hg.turn (Turn.set (S := fun k => k = br) (Turn.refl _ _) rfl 2 _) (fun k hk e => ?_)
    have := (hg.lt k hk).1
    omega
  · refine (h.turn.trans (Turn.of_stay hs)).then hT2 (fun k hk e => ?_)
    rcases e with e | e
    · exact e
    · have := hvl k e; omega
theorem RelJ.go {V A A' : World} {br : Nat} {p : ByteArray} {z : Int} {gs : List (List ByteArray)} (h : RelJ V br p z gs A) (hs : Stay A A') : RelJ V br p z gs A' := by
  obtain ⟨v, us, hb, ho⟩ := h.t
  exact ⟨⟨v, us, (hs.block _ hb.lt).trans hb, ho.stay hs⟩, h.turn.trans (Turn.of_stay hs), h.lt⟩
/-- An answer of Relation. -/
def RelB (w : World) (p : ByteArray) (z r : Int) (gs : List (List ByteArray)) (e : Ending) (w' : World) : Prop := ∃ q n v us, e = .returned (.tuple #[.agg #[.string q, .int .i64 n, v], .int .i64 r]) ∧ (q, n) = (p, z) ∧ OwnG w.heap.size w' v us gs ∧ Stay w w'
/-- What Relation answers: the tuples, the error. -/
def relT (ts : List (List ByteArray)) (z : Int) : List (List ByteArray) := if refZ ts z = 0 then setR ts else []

set_option maxRecDepth 100000 in
set_option maxHeartbeats 4000000 in
theorem Relation_any {w : World} {a : Option Addr} {b off c : Nat} {ts : List Tx} (p : ByteArray) (z : Int) (h : TxsS w a b off ts) (hp : p.size ≤ 281474976710656) (hl : ts.length ≤ 4398046511104) (hl2 : ∀ t ∈ ts, t.xs.length ≤ maxLen) :
    Calls Try.prog 7 #[.string p, .int .i64 z, .slice a ts.length c] w fun e w' => ∃ q n v us, e = .returned (.tuple #[.agg #[.string q, .int .i64 n, v], .int .i64 (refZ (ts.map Tx.xs) z)]) ∧ (q, n) = (if refZ (ts.map Tx.xs) z = 0 then (p, z) else (⟨#[]⟩, 0)) ∧ OwnG w.heap.size w' v us (relT (ts.map Tx.xs) z) ∧ Stay w w' := by
  have hr := fun W (hW : Stay w W) => refusal_any (h.stay hW) (c := c) (by omega) (fun t ht => by have := hl2 t ht; unfold maxLen at this; omega) z
  unfold relT
  obtain ⟨r, hrz⟩ : ∃ r, r = refZ (ts.map Tx.xs) z := ⟨_, rfl⟩
  rw [← hrz] at hr ⊢
  by_cases h0 : r = 0
  · rw [if_pos h0, if_pos h0]
    subst h0
    show Calls _ _ _ _ (RelB w p z 0 (setR (ts.map Tx.xs)))
    have href := refZ_zero hrz.symm
    have hcl := fun W => clone_any p W hp
    have hri := fun W (hW : Stay w W) => rising_any (h.stay hW) (c := c) hl2 hl
    have egC : ∀ args w, (callFunc 22 args).run Try.prog w = .ok (.enter 22 args) w := enters_of Try.func22 (by kernel_rfl) rfl
    have HT : Hid (TxsS w a b off ts ∧ ts.length ≤ 4398046511104 ∧ (∀ t ∈ ts, t.xs.length ≤ 16 ∧ ∀ s ∈ t.xs, s.size ≤ 1024)) := ⟨h, hl, fun t ht => by
      obtain ⟨h1, h2⟩ := href.2.2 t.xs (List.mem_map.2 ⟨t, ht, rfl⟩)
      exact ⟨by omega, h2⟩⟩
    have HL : Hid ((setR (ts.map Tx.xs)).length ≤ ts.length) := by
      show (setR (ts.map Tx.xs)).length ≤ ts.length
      have := setR_len (ts.map Tx.xs)
      simpa using this
    clear h hl hl2 hrz href
    generalize ts.length = n at *
    go_enter Try.func7, Try.ntmps7
    go_wp2_with fail
    refine (hr _ (Stay.new w _)).mono ?_
    rintro e W1 ⟨rfl, hs1⟩
    go_wp2_with fail
    refine (hcl _).mono ?_
    rintro e W2 ⟨rfl, hs2⟩
    go_wp2_with fail
    obtain ⟨W3, hW3⟩ : ∃ W3, W3 = W2.alloc (.cells #[.string p, .int .i64 z, .slice none 0 0] 30) := ⟨_, rfl⟩
    have hs3 : Stay W2 W3 := by rw [hW3]; exact Stay.new _ _
    have hw3 : Stay w W3 := (((Stay.new w _).trans hs1).trans hs2).trans hs3
    have hb3 : Rel3 W3 W2.heap.size p z (.slice none 0 0) := by rw [hW3]; exact heap_new _ _
    have hres3 : Rel3 W3 w.heap.size ⟨#[]⟩ 0 (.slice none 0 0) := ((hs1.trans (hs2.trans hs3)).block _ (by simp)).trans (heap_new w _)
    rw [← hW3]
    refine (hri W3 hw3).mono ?_
    rintro e W4 ⟨a', b', c', zs, rfl, hZ, hset, hsub, hb', hs4⟩
    have hbr := hb3.lt
    have hrr := hres3.lt
    have hn12 : w.heap.size < W2.heap.size := by have h1 := hs1.size; have h2 := hs2.size; rw [World.size_alloc] at h1; omega
    have hJ0 : RelJ W4 W2.heap.size p z [] W4 := ⟨⟨_, [], (hs4.block _ hbr).trans hb3, OwnG.nil⟩, Turn.refl _ _, Nat.lt_of_lt_of_le hbr hs4.size⟩
    have hres4 : Rel3 W4 w.heap.size ⟨#[]⟩ 0 (.slice none 0 0) := (hs4.block _ hrr).trans hres3
    obtain ⟨m, hm⟩ : ∃ m, m = zs.length := ⟨_, rfl⟩
    have hml : m ≤ 4398046511104 := by
      have h1 := congrArg List.length hset
      rw [List.length_map] at h1
      have := HL.out
      have := HT.out.2.1
      omega
    have HZ : Hid (TxsS W4 a' b' 0 zs ∧ zs.map Tx.xs = setR (ts.map Tx.xs) ∧ (∀ z ∈ zs, z ∈ ts) ∧ W2.heap.size < b' ∧ Stay w W4 ∧ RelJ W4 W2.heap.size p z [] W4 ∧ Rel3 W4 w.heap.size ⟨#[]⟩ 0 (.slice none 0 0) ∧ m = zs.length ∧ w.heap.size < W2.heap.size) := ⟨hZ, hset, hsub, by omega, hw3.trans hs4, hJ0, hres4, hm, hn12⟩
    rw [← hm]
    clear hZ hset hsub hb' hs4 hJ0 hres4 hm hb3 hres3 hw3 hs3 hW3 hs1 hs2 hr hcl hri hbr hrr hn12
    go_wp2_with fail
    go_loopw [26, 11] (fun i _ wr => ∃ k : Nat, k ≤ m ∧ i = .int .i64 (k : Int) ∧ RelJ W4 W2.heap.size p z ((zs.map Tx.xs).take k) wr) (fun i _ _ => m - (intOf i).toNat)
    case atStart => exact ⟨0, Nat.zero_le _, rfl, HZ.out.2.2.2.2.2.1⟩
    case round =>
      obtain ⟨k, hk, rfl, hj⟩ := hrel
      obtain ⟨v, us, hb, ho⟩ := hj.t
      by_cases hlt : k < m
      · have hki : (k : Int) < (m : Int) := by omega
        have hkz : k < zs.length := by rw [← HZ.out.2.2.2.2.2.2.2.1]; exact hlt
        obtain rfl := HZ.out.1.1 (by omega)
        have hc0 := hj.turn.cell (HZ.out.1.2 k hkz).1 (by have := HZ.out.2.2.2.1; show ¬ b' = _; omega)
        rw [Nat.zero_add] at hc0
        have hzin := HZ.out.2.2.1 _ (List.getElem_mem hkz)
        have hwr : Stay w wr := hj.turn.stay HZ.out.2.2.2.2.1 (fun j hjj e => by have := HZ.out.2.2.2.2.2.2.2.2; omega)
        have hzs : Tx.S w zs[k] := by
          obtain ⟨i, hi, hiz⟩ := List.mem_iff_getElem.1 hzin
          rw [← hiz]
          exact (HT.out.1.2 i hi).2
        have hzl := HT.out.2.2 _ hzin
        have hcp := fun V (hV : Stay wr V) => copyTuple_any V (StrsS.stay hzs (hwr.trans hV)) (c := zs[k].c) (by omega) (fun s hs => by have := hzl.2 s hs; omega)
        have hE : (zs.map Tx.xs).take (k + 1) = (zs.map Tx.xs).take k ++ [zs[k].xs] := by
          rw [List.take_succ_eq_append_getElem (by simpa using hkz), List.getElem_map]
        obtain ⟨q1, q2, q3, q4⟩ := hb.cells
        have q5 := q4 2
        have hlb := hb.lt
        have HH : Hid (RelJ W4 W2.heap.size p z ((zs.map Tx.xs).take k) wr ∧ Rel3 wr W2.heap.size p z v ∧ OwnG W4.heap.size wr v us ((zs.map Tx.xs).take k) ∧ (zs.map Tx.xs).take (k + 1) = (zs.map Tx.xs).take k ++ [zs[k].xs] ∧ ((zs.map Tx.xs).take k).length = k) := ⟨hj, hb, ho, hE, by rw [List.length_take, List.length_map]; omega⟩
        unfold Tx.v at hc0
        generalize zs[k] = t at *
        obtain ⟨ta, tb, to, tc, tx⟩ := t
        dsimp only at *
        generalize tx.length = tn at *
        clear hj hb ho hzin hwr hzs hzl hE q4
        go_upto_region 8 with fail
        go_region_law (first
          | (refine step_call rfl 22 _ _ rfl (args := #[.slice ta tn tc]) (by simp [Act.eval, Act.put]) egC ?_; refine (hcp _ (by first | exact Stay.drewN _ _ | exact Stay.drew _)).mono ?_; rintro e X1 ⟨u, rfl, hu, hsx⟩; obtain ⟨ua, un, uc, rfl⟩ := hu.slice; refine ⟨_, rfl, ?_⟩; obtain ⟨a1, n1, k1, w2, hap, hb2, hRJ⟩ := RelJ.push (HH.out.1.go (Stay.drew wr)) (by exact HH.out.2.1) (HH.out.2.2.1.stay (Stay.drew wr)) hu hsx (by rw [HH.out.2.2.2.2]; omega) 22; have HRJ : Hid (RelJ W4 W2.heap.size p z ((zs.map Tx.xs).take (k + 1)) (w2.setCell ⟨W2.heap.size, 2, none⟩ (.slice a1 n1 k1))) := (by rw [HH.out.2.2.2.1]; exact hRJ); obtain ⟨-, -, d1, d2⟩ := hb2.cells; have d5 := d2 2; have d3 : X1.cell? ⟨W2.heap.size, 2, none⟩ = some v := hsx.cell (p := ⟨W2.heap.size, 2, none⟩) (by exact q3); have d4 : ∀ o, (X1.alloc o).cell? ⟨W2.heap.size, 2, none⟩ = some v := fun o => (Stay.new X1 o).cell d3; clear hRJ hu hsx hb2 hcp d2)
          | (refine step_append_run rfl _ _ _ _ rfl (by first | rfl | simp [Act.eval, Act.put]) (by first | rfl | simp [Act.eval, Act.put]) hap ?_; clear hap))
        all_goals
          go_wp2_with fail
          go_roundw
          case rel => exact ⟨k + 1, by omega, by simp, HRJ.out⟩
          case measure => simp [intOf]; omega
      · have hki : ¬ (k : Int) < (m : Int) := by omega
        have hE : (zs.map Tx.xs).take k = setR (ts.map Tx.xs) := by
          rw [List.take_of_length_le (by rw [List.length_map, ← HZ.out.2.2.2.2.2.2.2.1]; omega)]
          exact HZ.out.2.1
        rw [hE] at ho
        have hbr := hj.lt
        have hres : Rel3 wr w.heap.size ⟨#[]⟩ 0 (.slice none 0 0) := hj.turn.heap HZ.out.2.2.2.2.2.2.1 (by have := HZ.out.2.2.2.2.2.2.2.2; omega)
        obtain ⟨q1, q2, q3, q4⟩ := hb.cells
        obtain ⟨r1, r2, r3, r4⟩ := hres.cells
        have r5 := r4 0
        have r6 := r4 1
        have r7 := r4 2
        obtain ⟨va, vn, vc, rfl⟩ := own_one ho.row
        obtain ⟨f1, f2⟩ := rel_set3 hres p z (.slice va vn vc)
        have HF : Hid (OwnG w.heap.size (((wr.setCell ⟨w.heap.size, 0, none⟩ (.string p)).setCell ⟨w.heap.size, 1, none⟩ (.int .i64 z)).setCell ⟨w.heap.size, 2, none⟩ (.slice va vn vc)) (.slice va vn vc) us (setR (ts.map Tx.xs)) ∧ Stay w (((wr.setCell ⟨w.heap.size, 0, none⟩ (.string p)).setCell ⟨w.heap.size, 1, none⟩ (.int .i64 z)).setCell ⟨w.heap.size, 2, none⟩ (.slice va vn vc))) := by
          have hw4 := HZ.out.2.2.2.2.1.size
          have h12 := HZ.out.2.2.2.2.2.2.2.2
          refine ⟨(ho.turn f2 (fun j hjj e => by have := (ho.lt j hjj).1; omega)).low hw4, f2.stay (hj.turn.stay HZ.out.2.2.2.2.1 (fun j hjj e => by omega)) (fun j hjj e => by omega)⟩
        clear hj hb ho hE hres r4 q4 f2
        go_wp2
        refine bodyPost_ret (results_cell_tmp rfl _ _ w.heap.size 30 #[.string p, .int .i64 z, .slice va vn vc] (0, 0) _ rfl f1 Try.underlying30 rfl sizeRel) rfl ?_
        exact ⟨p, z, .slice va vn vc, us, rfl, rfl, HF.out.1, HF.out.2⟩
  · rw [if_neg h0, if_neg h0]
    show Calls _ _ _ _ (RelB w ⟨#[]⟩ 0 r [])
    have hz0 : (r == 0) = false := by simp [h0]
    clear h hl hl2 hrz
    generalize ts.length = n at *
    go_enter Try.func7, Try.ntmps7
    go_wp2_with fail
    refine (hr _ (Stay.new w _)).mono ?_
    rintro e W1 ⟨rfl, hs1⟩
    have hrb : W1.heap[w.heap.size]? = some (.cells #[.string ⟨#[]⟩, .int .i64 0, .slice none 0 0] 30 (0, 0)) := (hs1.block _ (by simp)).trans (heap_new w _)
    obtain ⟨c0, c1, c2, c3⟩ := Rel3.cells hrb
    have c4 := c3 0
    have c5 := c3 1
    have c6 := c3 2
    have hst := rel_set3 hrb ⟨#[]⟩ 0 (.slice none 0 0)
    have HF : Hid (Stay w (((W1.setCell ⟨w.heap.size, 0, none⟩ (.string ⟨#[]⟩)).setCell ⟨w.heap.size, 1, none⟩ (.int .i64 0)).setCell ⟨w.heap.size, 2, none⟩ (.slice none 0 0))) := hst.2.stay ((Stay.new w _).trans hs1) (fun k hk e => by omega)
    go_wp2
    refine bodyPost_ret (results_cell_tmp rfl _ _ w.heap.size 30 #[.string ⟨#[]⟩, .int .i64 0, .slice none 0 0] (0, 0) _ rfl hst.1 Try.underlying30 rfl sizeRel) rfl ?_
    exact ⟨⟨#[]⟩, 0, .slice none 0 0, [], rfl, rfl, OwnG.nil, HF.out⟩
end Go.Proofs.Ytbbgembkdhcidaa
