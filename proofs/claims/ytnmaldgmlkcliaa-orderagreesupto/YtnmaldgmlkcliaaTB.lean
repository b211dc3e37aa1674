/- Things that are lent: lend, kept. -/
import Derived.Test.YtnmaldgmlkcliaaTA
import Derived.Shelf.SlSortCmp.QuietGrown
import Derived.Laws.OwnMore
namespace Go.Proofs.Ytnmaldgmlkcliaa
open Go.RowKit Go.Maps Go.Sort

/-- The marks. -/
def marksT (k : Nat) : List (Int × Int) := (List.range k).map fun i : Nat => (-70 - (i : Int), -1)
theorem marksT_succ (k : Nat) : marksT (k + 1) = marksT k ++ [(-70 - (k : Int), -1)] := by simp [marksT, List.range_succ]
theorem marksT_len (k : Nat) : (marksT k).length = k := by simp [marksT]
/-- ts is lent: it lies in block g, with marks behind it. -/
def LentH (base : Nat) (w : World) (g cap : Nat) (ts : List (Int × Int)) : Prop := RowT w g cap (ts ++ marksT 9) ∧ base ≤ g
section
variable {base g cap : Nat} {w w' : World} {ts : List (Int × Int)}
theorem LentH.things (h : LentH base w g cap ts) : ThS w (some ⟨g, 0, none⟩) g 0 ts := by
  have h1 := h.1.things
  refine ⟨fun _ => rfl, fun j hj => ?_⟩
  have h2 := h1.2 j (by simp; omega)
  rwa [List.getElem_append_left hj] at h2
theorem LentH.stay (h : LentH base w g cap ts) (hs : Stay w w') : LentH base w' g cap ts := ⟨h.1.stay hs, h.2⟩
theorem LentH.turn {S : Nat → Prop} (h : LentH base w g cap ts) (ht : Turn S w w') (hn : ¬ S g) : LentH base w' g cap ts := ⟨h.1.turn ht hn, h.2⟩
theorem LentH.bound (h : LentH base w g cap ts) : ts.length + 9 ≤ cap ∧ cap ≤ maxLen := by
  have := h.1.len
  rw [List.length_append, marksT_len] at this
  exact this
theorem LentH.mark (h : LentH base w g cap ts) (k : Nat) (hk : k < 9) : w.cell? ⟨g, (ts.length + k) * 2, none⟩ = some (.int .i64 (-70 - (k : Int))) ∧ w.cell? ⟨g, (ts.length + k) * 2 + 1, none⟩ = some (.int .i64 (-1)) := by
  have := h.1.cells (ts.length + k) (-70 - (k : Int), -1) (by rw [List.getElem?_append_right (by omega)]; simp [marksT, hk])
  exact this
end
theorem own_litT (w : World) : OwnT w.heap.size (w.alloc (.cells #[] 26)) (.slice (some ⟨w.heap.size, 0, none⟩) 0 0) [] :=
  World.ownsRow_made w #[] 0 (Nat.le_refl _) (Nat.zero_le _) rfl
theorem OwnT.alloc {base : Nat} {w : World} {v : Value} {ts : List (Int × Int)} (h : OwnT base w v ts) (o : Obj) : OwnT base (w.alloc o) v ts := h.stay (Stay.new _ _)
theorem OwnT.lt {base : Nat} {w : World} {v : Value} {ts : List (Int × Int)} (h : OwnT base w v ts) (k : Nat) (e : v.ownBlock = some k) : base ≤ k ∧ k < w.heap.size := World.ownsRow.lt h k e
theorem src_th {w : World} {a : Option Addr} {b off : Nat} {ts : List (Int × Int)} (h : ThS w a b off ts) : ∀ ad, a = some ad → ∀ (j : Nat) (v : Value), (cellsT ts)[j]? = some v → w.cell? (ad.add j) = some v := by
  intro ad ha j v hv
  have hl := (List.getElem?_eq_some_iff.1 hv).1
  rw [cellsT_len] at hl
  have h0 := h.1 (by omega)
  rw [ha] at h0
  simp only [Option.some.injEq] at h0
  subst h0
  have hq : j / 2 < ts.length := by omega
  have hc := h.2 (j / 2) hq
  have hx := cellsT_at ts (j / 2) hq
  rw [add_at]
  rcases Nat.mod_two_eq_zero_or_one j with e | e
  · rw [show j / 2 * 2 = j by omega] at hc hx
    rw [hx.1] at hv; cases hv; exact hc.1
  · rw [show off + j / 2 * 2 + 1 = off + j by omega] at hc
    rw [show j / 2 * 2 + 1 = j by omega] at hx
    rw [hx.2] at hv; cases hv; exact hc.2

theorem wpList_append_by {P : Program} {w : World} {ops : Array Oper} {rest : List Oper} {o : Oper} {a : Act} {Q : Exit → Act → World → Prop} (hgd : o.guard = none) (d s : Operand) (t t' : TypeId)
    (ho : o.op = .call { callee := .builtin .append, args := #[d, s], argTypes := #[t, t'] }) (v u : Value) (hd : a.eval d = v) (hs : a.eval s = u) {v' : Value} {w' : World}
    (hr : (Builtin.append_ #[t, t'] o.type #[v, u]).run P w = .ok v' w') (h : wpList P ops Q rest (a.put o.dst v') w') : wpList P ops Q (o :: rest) a w := by
  refine wpList_plain hgd fun K hK => ?_
  unfold Oper.wp execOp
  simp only [ho, resolve, invoke, builtin, Sem.run_bind, Sem.run_pure, Result.andThen_ok, List.map_toArray, List.map_cons, List.map_nil, hd, hs, hr]
  exact hK _ _ h

/-- An append of things to things of one's own. -/
theorem append_things {base : Nat} {w : World} {v : Value} {ts us : List (Int × Int)} (ty : TypeId) (hown : OwnT base w v ts) {a : Option Addr} {b off c : Nat} (hS : ThS w a b off us) (ha : a = none → c = 0 ∧ us = []) (hb : (ts.length + us.length) * 16 ≤ 140737488355328) (hbase : base ≤ w.heap.size) :
    ∃ v' w', (Builtin.append_ #[23, 23] ty #[v, .slice a us.length c]).run Try.prog w = .ok v' w' ∧ OwnT base w' v' (ts ++ us) ∧ w.grownBy w' v.ownBlock ∧ (v' = .slice none 0 0 → v = .slice none 0 0) ∧ (v'.ownBlock = v.ownBlock ∨ v'.ownBlock = some w.heap.size) := by
  obtain ⟨i0, hi, hz0, hz1, hz2⟩ := info_parts infoTh
  cases a with
  | none =>
    obtain ⟨rfl, rfl⟩ := ha rfl
    exact ⟨v, w, run_append_owned_none (P := Try.prog) w base 23 ty 26 i0 2 Try.underlying23 hi v ts.length (cellsT ts) hown, by rw [List.append_nil]; exact hown, ⟨rfl, rfl, rfl, Nat.le_refl _, fun _ _ _ => rfl⟩, id, .inl rfl⟩
  | some ad =>
    obtain ⟨v1, w1, hr, h2, h3, h4, h5⟩ := run_append_own_at (P := Try.prog) w base 23 ty 26 i0 _ 2 16 Try.underlying23 hi hz0 hz1 hz2 rfl (by decide) v ts.length (cellsT ts) hown ad us.length c (cellsT us) (cellsT_len us) (fun j u h => src_th hS ad rfl j u h) (cellsT_one us) (by unfold maxLen; omega) hb hbase
    refine ⟨v1, w1, hr, ?_, h3, fun e => (h4.1 e).1, h5⟩
    unfold OwnT
    rw [List.length_append, cellsT_append]
    exact h2
theorem thing_at (r n : Int) (w : World) :
    Calls Try.prog 7 #[.int .i64 r, .int .i64 n] w fun e w' => e = .returned (.agg #[.int .i64 r, .int .i64 n]) ∧ w' = w.alloc (.cells #[.int .i64 r, .int .i64 n] 26) := by
  go_enter Try.func7, Try.ntmps7
  go_wp2
  exact bodyPost_ret (v := .agg #[.int .i64 r, .int .i64 n]) (by simp [results, Try.results7, go_sem]) rfl ⟨rfl, rfl⟩
theorem things_lit (w : World) (ts : List (Int × Int)) (t : TypeId) : ThS (w.alloc (.cells (cellsT ts).toArray t)) (some ⟨w.heap.size, 0, none⟩) w.heap.size 0 ts := by
  refine ⟨fun _ => rfl, fun j hj => ?_⟩
  have h := cellsT_at ts j hj
  have h0 := new_cells w (cellsT ts) t _ _ h.1
  have h1 := new_cells w (cellsT ts) t _ _ h.2
  rw [add_at] at h0 h1
  exact ⟨h0, h1⟩
/-- An append of one thing, which lies in a block of its own. -/
theorem append_thing {base : Nat} {w : World} {v : Value} {ts : List (Int × Int)} (ty : TypeId) (hown : OwnT base w v ts) (x1 x2 : Int) (hb : (ts.length + 1) * 16 ≤ 140737488355328) (hbase : base ≤ w.heap.size) :
    ∃ v' w', (Builtin.append_ #[23, 23] ty #[v, .slice (some ⟨w.heap.size, 0, none⟩) 1 1]).run Try.prog (w.alloc (.cells #[.int .i64 x1, .int .i64 x2] 26)) = .ok v' w' ∧ OwnT base w' v' (ts ++ [(x1, x2)]) ∧ (w.alloc (.cells #[.int .i64 x1, .int .i64 x2] 26)).grownBy w' v.ownBlock ∧ v' ≠ .slice none 0 0 ∧ (v'.ownBlock = v.ownBlock ∨ v'.ownBlock = some (w.heap.size + 1)) := by
  obtain ⟨v', w', h1, h2, h3, h4, h5⟩ := append_things ty (hown.alloc (.cells #[.int .i64 x1, .int .i64 x2] 26)) (things_lit w [(x1, x2)] 26) (c := 1) (by simp) (by simpa using hb) (by rw [World.size_alloc]; omega)
  refine ⟨v', w', h1, h2, h3, fun e => ?_, by simpa using h5⟩
  have := h2.1
  rcases h2.2 with ⟨_, h⟩ | ⟨b, c, cur, hv, _⟩
  · simp at h
  · rw [e] at hv; simp at hv
theorem own_grow {base : Nat} {w W W' : World} {v : Value} {ts : List (Int × Int)} (hs : Stay w W) (hb : w.heap.size ≤ base) (h : OwnT base W v ts) (hg : W.grownBy W' v.ownBlock) : Stay w W' :=
  hs.grown hg hs.size (fun k e => Nat.le_trans hb (h.lt k e).1)

set_option maxRecDepth 100000 in
set_option maxHeartbeats 2000000 in
theorem lend_any (w : World) (a : Option Addr) (b off cap : Nat) (ts : List (Int × Int)) (hS : ThS w a b off ts) (ha : a = none → cap = 0 ∧ ts = []) (hb : (ts.length + 9) * 16 ≤ 140737488355328) :
    Calls Try.prog 6 #[.slice a ts.length cap] w fun e w' => ∃ g c, e = .returned (.slice (some ⟨g, 0, none⟩) ts.length c) ∧ LentH w.heap.size w' g c ts ∧ Stay w w' := by
  have HO := own_litT w
  obtain ⟨v1, w1, hr, h2, h3, h4, _⟩ := append_things 23 HO (hS.stay (Stay.new w _)) ha (by simp; omega) (by rw [World.size_alloc]; omega)
  have HR : Hid ((Builtin.append_ #[23, 23] 23 #[.slice (some ⟨w.heap.size, 0, none⟩) 0 0, .slice a ts.length cap]).run Try.prog (w.alloc (.cells #[] 26)) = .ok v1 w1 ∧ OwnT w.heap.size w1 v1 (ts ++ marksT 0) ∧ Stay w w1 ∧ v1 ≠ .slice none 0 0) := ⟨hr, by simpa [marksT] using h2, own_grow (Stay.new w _) (Nat.le_refl _) HO h3, fun e => by have := h4 e; simp at this⟩
  clear hS ha hr h2 h3 h4 HO
  go_enter Try.func6, Try.ntmps6
  go_wp2_with (at_builtin; refine wpList_append_by rfl (.tmp 5) (.tmp 6) 23 23 rfl _ _ rfl rfl HR.out.1 ?_)
  go_loopw [3, 4] (fun v i wr => ∃ k : Nat, k ≤ 9 ∧ i = .int .i64 k ∧ OwnT w.heap.size wr v (ts ++ marksT k) ∧ Stay w wr ∧ v ≠ .slice none 0 0) (fun v i _ => 9 - (intOf i).toNat)
  case atStart => exact ⟨0, by omega, rfl, HR.out.2.1, HR.out.2.2.1, HR.out.2.2.2⟩
  case round =>
    obtain ⟨k, hk, rfl, hown, hst, hnn⟩ := hrel
    by_cases hlt : k < 9
    · have hi1 : (k : Int) < 9 := by omega
      have HO2 : Hid (OwnT w.heap.size wr u3 (ts ++ marksT k) ∧ Stay w wr) := ⟨hown, hst⟩
      have ht := thing_any (-70 - (k : Int)) (-1) wr
      clear hown hst HR hnn
      go_wp2_with fail
      refine ht.mono ?_
      rintro e9 w2 ⟨rfl, hs⟩
      obtain ⟨v3, w3, hr, h2, h3, h4, _⟩ := append_thing 23 (HO2.out.1.stay hs) (-70 - (k : Int)) (-1) (by rw [List.length_append, marksT_len]; omega) (Nat.le_trans HO2.out.2.size hs.size)
      have HR : Hid ((Builtin.append_ #[23, 23] 23 #[u3, .slice (some ⟨w2.heap.size, 0, none⟩) 1 1]).run Try.prog (w2.alloc (.cells #[.int .i64 (-70 - (k : Int)), .int .i64 (-1)] 26)) = .ok v3 w3 ∧ OwnT w.heap.size w3 v3 (ts ++ marksT (k + 1)) ∧ Stay w w3 ∧ v3 ≠ .slice none 0 0) := ⟨hr, by rw [marksT_succ, ← List.append_assoc]; exact h2, own_grow ((HO2.out.2.trans hs).alloc _) (Nat.le_refl _) ((HO2.out.1.stay hs).alloc _) h3, h4⟩
      clear hr h2 h3 h4 ht hs HO2
      go_wp2_with (at_builtin; refine wpList_append_by rfl (.tmp 12) (.tmp 16) 23 23 rfl _ _ rfl rfl HR.out.1 ?_)
      go_roundw
      case rel => exact ⟨k + 1, by omega, by go_num, HR.out.2.1, HR.out.2.2.1, HR.out.2.2.2⟩
      case measure => simp [intOf]; omega
    · have hi1 : ¬ (k : Int) < 9 := by omega
      obtain rfl : k = 9 := by omega
      obtain ⟨g, c, rfl, hR, hg⟩ := hown.row hnn
      have hl := hR.len
      rw [List.length_append, marksT_len] at hl ⊢
      have hb2 : ((ts.length : Nat) : Int) ≤ (c : Int) := by omega
      unfold maxLen at hl
      have HN : Hid (LentH w.heap.size wr g c ts ∧ Stay w wr) := ⟨⟨hR, hg⟩, hst⟩
      clear hown hst HR hR hnn
      go_wp2
      go_ret
      exact ⟨g, c, rfl, HN.out.1, HN.out.2⟩

end Go.Proofs.Ytnmaldgmlkcliaa
