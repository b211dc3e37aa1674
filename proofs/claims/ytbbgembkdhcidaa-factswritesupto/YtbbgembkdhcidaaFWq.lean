/- The document's Relation; FactsWrites: the walks. -/
import Derived.Test.YtbbgembkdhcidaaFWp
import Derived.Test.YtbbgembkdhcidaaFWm
namespace Go.Proofs.Ytbbgembkdhcidaa
open Go.RowKit Go.Maps

set_option maxRecDepth 100000 in
set_option maxHeartbeats 4000000 in
theorem rRelation_any {w : World} {a : Option Addr} {b off c : Nat} {ts : List Tx} (p : ByteArray) (z : Int) (h : TxsS w a b off ts) (hnn : ∀ t ∈ ts, t.a = none → t.c = 0 ∧ t.xs = []) (hm : ∀ t ∈ ts, t.xs.length ≤ 1048576) (hl : ts.length ≤ 1048576) :
    Calls Try.prog 8 #[.string p, .int .i64 z, .slice a ts.length c] w fun e w' => ∃ q n v us, e = .returned (.tuple #[.agg #[.string q, .int .i64 n, v], .int .i64 (refZ (ts.map Tx.xs) z)]) ∧ (q, n) = (if refZ (ts.map Tx.xs) z = 0 then (p, z) else (⟨#[]⟩, 0)) ∧ OwnG w.heap.size w' v us (relT (ts.map Tx.xs) z) ∧ Stay w w' := by
  have hr := fun W (hW : Stay w W) => rright_any (h.stay hW) (c := c) hl z
  have hsR := fun W (hW : Stay w W) => rSet_any (h.stay hW) (c := c) hnn hm hl
  unfold relT
  obtain ⟨r, hrz⟩ : ∃ r, r = refZ (ts.map Tx.xs) z := ⟨_, rfl⟩
  rw [← hrz] at hr ⊢
  by_cases h0 : r = 0
  · rw [if_pos h0, if_pos h0]
    subst h0
    show Calls _ _ _ _ (RelB w p z 0 (setR (ts.map Tx.xs)))
    clear h hl hm hnn hrz
    generalize setR (ts.map Tx.xs) = gs at *
    generalize ts.length = n at *
    go_enter Try.func8, Try.ntmps8
    go_wp2_with fail
    refine (hr _ (Stay.new w _)).mono ?_
    rintro e W1 ⟨rfl, hs1⟩
    go_wp2_with fail
    refine (hsR _ ((Stay.new w _).trans hs1)).mono ?_
    rintro e W2 ⟨v, us, rfl, ho, hs2⟩
    obtain ⟨va, vn, vc, rfl⟩ := own_one ho.row
    have hres : Rel3 W2 w.heap.size ⟨#[]⟩ 0 (.slice none 0 0) := ((hs1.trans hs2).block _ (by simp)).trans (heap_new w _)
    obtain ⟨c0, c1, c2, c3⟩ := hres.cells
    have c4 := c3 0
    have c5 := c3 1
    have c6 := c3 2
    obtain ⟨f1, f2⟩ := rel_set3 hres p z (.slice va vn vc)
    have hz := hs1.size
    rw [World.size_alloc] at hz
    have HF : Hid (OwnG w.heap.size (((W2.setCell ⟨w.heap.size, 0, none⟩ (.string p)).setCell ⟨w.heap.size, 1, none⟩ (.int .i64 z)).setCell ⟨w.heap.size, 2, none⟩ (.slice va vn vc)) (.slice va vn vc) us gs ∧ Stay w (((W2.setCell ⟨w.heap.size, 0, none⟩ (.string p)).setCell ⟨w.heap.size, 1, none⟩ (.int .i64 z)).setCell ⟨w.heap.size, 2, none⟩ (.slice va vn vc))) :=
      ⟨(ho.turn f2 (fun j hj e => by have := (ho.lt j hj).1; omega)).low (by omega), f2.stay (((Stay.new w _).trans hs1).trans hs2) (fun j hj e => by omega)⟩
    clear ho hres c3 f2 hs1 hs2 hr hsR hz
    go_wp2
    refine bodyPost_ret (results_cell_tmp rfl _ _ w.heap.size 30 #[.string p, .int .i64 z, .slice va vn vc] (0, 0) _ rfl f1 Try.underlying30 rfl sizeRel) rfl ?_
    exact ⟨p, z, .slice va vn vc, us, rfl, rfl, HF.out.1, HF.out.2⟩
  · rw [if_neg h0, if_neg h0]
    show Calls _ _ _ _ (RelB w ⟨#[]⟩ 0 r [])
    have hz0 : (r == 0) = false := by simp [h0]
    clear h hl hm hnn hrz hsR
    generalize ts.length = n at *
    go_enter Try.func8, Try.ntmps8
    go_wp2_with fail
    refine (hr _ (Stay.new w _)).mono ?_
    rintro e W1 ⟨rfl, hs1⟩
    have hrb : W1.heap[w.heap.size]? = some (.cells #[.string ⟨#[]⟩, .int .i64 0, .slice none 0 0] 30 (0, 0)) := (hs1.block _ (by simp)).trans (heap_new w _)
    obtain ⟨c0, c1, c2, c3⟩ := Rel3.cells hrb
    have c4 := c3 0
    have c5 := c3 1
    have c6 := c3 2
    have hst := rel_set3 hrb ⟨#[]⟩ 0 (.slice none 0 0)
    have HF : Hid (Stay w (((W1.setCell ⟨w.heap.size, 0, none⟩ (.string ⟨#[]⟩)).setCell ⟨w.heap.size, 1, none⟩ (.int .i64 0)).setCell ⟨w.heap.size, 2, none⟩ (.slice none 0 0))) := hst.2.stay ((Stay.new w _).trans hs1) (fun k hk e => by omega)
    go_wp2
    refine bodyPost_ret (results_cell_tmp rfl _ _ w.heap.size 30 #[.string ⟨#[]⟩, .int .i64 0, .slice none 0 0] (0, 0) _ rfl hst.1 Try.underlying30 rfl sizeRel) rfl ?_
    exact ⟨⟨#[]⟩, 0, .slice none 0 0, [], rfl, rfl, OwnG.nil, HF.out⟩

/-- Two lists of one's own that say the same. -/
theorem sameG2 {V : World} {b1 b2 : Nat} {v1 v2 : Value} {us1 us2 : List Value} {ts : List (List ByteArray)} (h1 : OwnG b1 V v1 us1 ts) (h2 : OwnG b2 V v2 us2 ts) (hl : ts.length ≤ 1048577) (hm : ∀ t ∈ ts, t.length ≤ 1048577) : Calls Try.prog 11 #[v1, v2] V fun e w' => e = .returned (.bool true) ∧ Stay V w' := by
  obtain ⟨a1, c1, m1, d1, rfl, hm1, hk1⟩ := h1.read (fun t ht => by have := hm t ht; omega)
  obtain ⟨a2, c2, m2, d2, rfl, hm2, hk2⟩ := h2.read (fun t ht => by have := hm t ht; omega)
  obtain ⟨xs, t1, e1, l1, q1⟩ := hk1 V (Stay.refl _)
  obtain ⟨ys, t2, e2, l2, q2⟩ := hk2 V (Stay.refl _)
  exact same_lit t1 l1 t2 l2 (e1.trans e2.symm) (by omega) (by omega) q1 q2
/-- A relation's box. -/
theorem rel_box {W V : World} {q : ByteArray} {n : Int} {v : Value} (h : Stay (W.alloc (.cells #[.string q, .int .i64 n, v] 30)) V) : V.cell? ⟨W.heap.size, 0, none⟩ = some (.string q) ∧ V.cell? ⟨W.heap.size, 1, none⟩ = some (.int .i64 n) ∧ V.cell? ⟨W.heap.size, 2, none⟩ = some v := by
  have hr : Rel3 V W.heap.size q n v := (h.block _ (by simp)).trans (heap_new W _)
  exact ⟨hr.cells.1, hr.cells.2.1, hr.cells.2.2.1⟩
end Go.Proofs.Ytbbgembkdhcidaa
