/- The document's table of layer 3: home, New, Copy. -/
import Derived.Test.YtdnophgcdnghkaaJ3d
import Derived.Deep.RegionLaw
namespace Go.Proofs.Ytdnophgcdnghkaa.I
open Go.RowKit Go.Maps

variable {w w' : World} {br : Nat} {way : Int} {a : Option Addr} {b c : Nat} {ps : List (Int × Int)} {size : Nat}
theorem rNew_any (w : World) (way : Int) (hw : KeyOk way) : Calls Try.prog 8 #[.int .i64 way] w fun e w' => e = .returned (.pointer (some ⟨w.heap.size, 0, none⟩)) ∧ RTab w' w.heap.size way none 0 0 [] 8 ∧ Stay w w' := by
  have HW : Hid (KeyOk way) := hw
  clear hw
  go_enter Try.func8, Try.ntmps8
  go_wp2
  go_ret
  exact ⟨rfl, ⟨heap_new _ _, OwnR.nil, fun h => absurd h (Nat.lt_irrefl _), (fun e => by cases e), fun _ h => absurd h List.not_mem_nil, HW.out⟩, Stay.new _ _⟩

set_option maxRecDepth 100000 in
theorem rhome_any (h : RTab w br way a b c ps size) (key : Int) (hk : KeyOk key) (hs0 : 0 < size) (hs : size ≤ 4398046511104) : Calls Try.prog 51 #[.pointer (some ⟨br, 0, none⟩), .int .i64 key] w fun e w' => e = .returned (.int .i64 ((hashOf way key % size : Nat) : Int)) ∧ Stay w w' := by
  have hh := fun W => rhash_any W way key h.wayOk hk
  obtain ⟨c0, c1, c2⟩ := h.cells
  have hl := hash_lt way key
  obtain ⟨r, hr⟩ : ∃ r, r = hashOf way key % size := ⟨_, rfl⟩
  have hrl : r < size := by rw [hr]; exact Nat.mod_lt _ hs0
  rw [← hr]
  obtain ⟨x, hx⟩ : ∃ x, x = hashOf way key := ⟨_, rfl⟩
  rw [← hx] at hh hr hl
  have e1 : IntKind.u64.wrap (size : Int) = (size : Int) := by rw [wrapu]; omega
  have e2 : ((x : Int).tmod (size : Int)) = (r : Int) := by rw [hr]; rfl
  have e3 : IntKind.i64.wrap (r : Int) = (r : Int) := by simp only [IntKind.wrap_i64]; omega
  have e4 : ((size : Int) == 0) = false := by simp; omega
  have e5 : IntKind.u64.wrap (r : Int) = (r : Int) := by rw [wrapu]; omega
  clear hr hx h
  go_enter Try.func51, Try.ntmps51
  go_wp2_with fail
  go_quiet ((first | (go_at_call 21; exact Calls.quiet_of_same (hh _))))
  go_wp2_with fail
  go_ret
  exact ⟨rfl, Stay.drewN _ _⟩
theorem step_append_run {P : Program} {ops : Array Oper} {o : Oper} {a : Act} {w : World} {K : Act → World → Prop} {Q : Exit → Act → World → Prop} {E : Prop} (hg : o.guard = none) (s x : Operand) (t u : TypeId)
    (ho : o.op = .call { callee := .builtin .append, args := #[s, x], argTypes := #[t, u] }) {v z : Value} (hs : a.eval s = v) (hx : a.eval x = z) {v' : Value} {w' : World}
    (hr : (Builtin.append_ #[t, u] o.type #[v, z]).run P w = .ok v' w') (h : K (a.put o.dst v') w') : if Region.wanted o (yielded ops a.tmps) = true then Oper.wp P o a w K Q else E := by
  have hw : Region.wanted o (yielded ops a.tmps) = true := by simp [Region.wanted, hg]
  rw [if_pos hw]
  unfold Oper.wp
  simp only [execOp, ho, resolve, invoke, builtin, Sem.run_bind, Sem.run_pure, Result.andThen_ok, List.map_toArray, List.map_cons, List.map_nil, hs, hx, hr]
  exact h

def CopyR (w : World) (way : Int) (ps : List (Int × Int)) (size : Nat) (e : Ending) (w' : World) : Prop :=
  ∃ a' b' c', e = .returned (.pointer (some ⟨w.heap.size, 0, none⟩)) ∧ RTab w' w.heap.size way a' b' c' ps size ∧ Stay w w' ∧ ∀ k, (Value.slice a' ps.length c').ownBlock = some k → w.heap.size ≤ k
set_option maxRecDepth 100000 in
set_option maxHeartbeats 2000000 in
theorem rCopy_any (h : RTab w br way a b c ps size) (hn : ps.length ≤ 1099511627776) : Calls Try.prog 33 #[.pointer (some ⟨br, 0, none⟩)] w (CopyR w way ps size) := by
  obtain ⟨R, hR⟩ : ∃ R, R = CopyR w way ps size := ⟨_, rfl⟩
  rw [← hR]
  have HR : Hid (R = CopyR w way ps size) := hR
  have HT : Hid (RTab w br way a b c ps size) := h
  obtain ⟨n, hn'⟩ : ∃ n, n = ps.length := ⟨_, rfl⟩
  have HN : Hid (n = ps.length) := hn'
  rw [← hn'] at hn
  obtain ⟨c0, c1, c2⟩ := h.cells
  clear h hR hn'
  go_enter Try.func33, Try.ntmps33
  go_wp2_with fail
  go_region
  go_wp2_with fail
  clear c0 c1 c2
  go_loopw [4] (fun u wr => ∃ (j : Nat) (a' : Option Addr) (b' c' : Nat), j ≤ n ∧ u = .int .i64 (j : Int) ∧ RTab wr w.heap.size way a' b' c' (ps.take j) size ∧ Stay w wr ∧ ∀ k, (Value.slice a' (ps.take j).length c').ownBlock = some k → w.heap.size ≤ k) (fun u _ => n - (intOf u).toNat)
  case atStart => exact ⟨0, none, 0, 0, Nat.zero_le _, rfl, ⟨heap_new w _, OwnR.nil, fun h => absurd h (Nat.lt_irrefl _), (fun e => by cases e), fun _ h => absurd h List.not_mem_nil, HT.out.wayOk⟩, (Stay.new w _).trans (Stay.drew _), (fun k e => by cases e)⟩
  case round =>
    obtain ⟨j, a', b', c', hj, rfl, hC, hst, hfr⟩ := hrel
    obtain ⟨t0, t1, t2⟩ := (HT.out.stay hst).cells
    rw [← HN.out] at t1
    by_cases hlt : j < n
    · have hji : (j : Int) < (n : Int) := by omega
      have hjl : j < ps.length := by have := HN.out; omega
      obtain ⟨rfl, d0, d1⟩ := (HT.out.stay hst).pair hjl
      have htl : (ps.take j).length = j := by rw [List.length_take]; omega
      have htk : ps.take (j + 1) = ps.take j ++ [ps[j]] := by rw [List.take_add_one, List.getElem?_eq_getElem hjl, Option.toList_some]
      obtain ⟨a2, b2, c2', W2, hap, hc, hf, hI, ht, hat⟩ := (hC.stay (Stay.drew wr)).push (HT.out.keys _ (List.getElem_mem hjl)).1 (HT.out.keys _ (List.getElem_mem hjl)).2 (by rw [htl]; omega)
      obtain ⟨u0, u1, u2⟩ := hC.cells
      rw [htl] at hap hc u1
      have hst2 : Stay w (W2.setCell ⟨w.heap.size, 1, none⟩ (.slice a2 ((ps.take j).length + 1) c2')) := ht.stay (hst.trans (Stay.drew wr)) (fun k hk hr => by
        rcases hr with rfl | hr
        · omega
        · have := hfr k hr; omega)
      have HX : Hid (RTab (W2.setCell ⟨w.heap.size, 1, none⟩ (.slice a2 (j + 1) c2')) w.heap.size way a2 b2 c2' (ps.take (j + 1)) size ∧ Stay w (W2.setCell ⟨w.heap.size, 1, none⟩ (.slice a2 (j + 1) c2')) ∧ ∀ k, (Value.slice a2 (ps.take (j + 1)).length c2').ownBlock = some k → w.heap.size ≤ k) := by
        rw [htl] at hI hst2 hat
        refine ⟨by rw [htk]; exact hI, hst2, fun k hk => ?_⟩
        rw [htk, List.length_append, List.length_singleton, htl] at hk
        rcases hat with g | g
        · exact hfr k (by rw [htl, ← g]; exact hk)
        · exact Nat.le_trans hst.size (show wr.heap.size ≤ k from g k hk)
      have z1 : w.heap.size < wr.heap.size := (Array.getElem?_eq_some_iff.1 hC.box).1
      have z2 : br < wr.heap.size := World.block_lt_of_cell? wr _ t1
      have z3 : b < wr.heap.size := World.block_lt_of_cell? wr _ d0
      clear hI ht hat hC hst hfr hst2 htl htk
      generalize ps[j] = p at *
      obtain ⟨p1, p2⟩ := p
      dsimp only at *
      generalize hq : j + 1 = q at hap HX
      have HQ : Hid (j + 1 = q) := hq
      clear hq
      go_wp2_with fail
      go_region_law (first
        | (refine step_append_run rfl _ _ _ _ rfl (by first | rfl | simp [Act.eval, Act.put]) (by first | rfl | simp [Act.eval, Act.put]) hap ?_; clear hap))
      all_goals
        go_wp2_with fail
        go_roundw
        case rel =>
          have hqq := HQ.out
          subst hqq
          exact ⟨j + 1, a2, b2, c2', by omega, by simp, HX.out⟩
        case measure => simp [intOf]; omega
    · obtain rfl : n = j := by omega
      have HX : Hid (R (.returned (.pointer (some ⟨w.heap.size, 0, none⟩))) wr) := by
        show R _ _
        rw [HR.out]
        rw [HN.out, List.take_of_length_le (Nat.le_refl _)] at hC hfr
        exact ⟨a', b', c', rfl, hC, hst, hfr⟩
      clear hC hst hfr HR
      go_wp2_with fail
      exact HX.out
end Go.Proofs.Ytdnophgcdnghkaa.I
