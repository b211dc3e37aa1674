/- IndexPlays, IndexWalks: what a walk must tell: pairs of the document's table, as two lists in a box. -/
import Derived.Test.YtdnophgcdnghkaaJ3i
import Derived.Deep.CutRange
namespace Go.Proofs.Ytdnophgcdnghkaa.I
open Go.RowKit Go.Maps Go.Proofs.Ytdnophgcdnghkaa

def encN (z : Int) : List Value := [.int .i64 z]
theorem encNOk : EncOk 1 encN := ⟨fun _ => rfl, fun _ u hu => by simp [encN] at hu; subst hu; rfl, by decide⟩
/-- A box of two lists, each its own. -/
structure ToldI (w0 : World) (bb : Nat) (va vb : Value) (ks vs : List Int) (W : World) : Prop where
  box : W.heap[bb]? = some (.cells #[va, vb] 49 (0, 0))
  own1 : OwnR 3 1 encN w0.heap.size W va ks
  own2 : OwnR 3 1 encN w0.heap.size W vb vs
  apart : ∀ q, va.ownBlock = some q → vb.ownBlock ≠ some q
  turn : Turn (fun k => k = bb) w0 W
  near : bb < w0.heap.size
variable {w0 W W' : World} {bb : Nat} {va vb : Value} {ks vs : List Int}
theorem ToldI.keep (h : ToldI w0 bb va vb ks vs W) (hs : Stay W W') : ToldI w0 bb va vb ks vs W' :=
  ⟨(hs.block bb (Array.getElem?_eq_some_iff.1 h.box).1).trans h.box, h.own1.stay hs, h.own2.stay hs, h.apart, h.turn.trans (Turn.of_stay hs), h.near⟩
theorem ToldI.cells (h : ToldI w0 bb va vb ks vs W) : W.cell? ⟨bb, 0, none⟩ = some va ∧ W.cell? ⟨bb, 1, none⟩ = some vb ∧ (∀ j, W.frozen? ⟨bb, j, none⟩ = false) ∧ bb < W.heap.size := by
  refine ⟨by simp [World.cell?, h.box], by simp [World.cell?, h.box], fun j => by simp [World.frozen?, h.box], (Array.getElem?_eq_some_iff.1 h.box).1⟩
theorem ToldI.push1 (h : ToldI w0 bb va vb ks vs W) (z : Int) (hn : ks.length ≤ 1099511627776) :
    ∃ a' n' c' W2, (Builtin.append_ #[47, 47] 47 #[va, .slice (some ⟨W.heap.size, 0, none⟩) 1 1]).run Try.prog (W.alloc (.cells #[.int .i64 z] 3)) = .ok (.slice a' n' c') W2 ∧ W2.cell? ⟨bb, 0, none⟩ = some va ∧ W2.frozen? ⟨bb, 0, none⟩ = false ∧
      ToldI w0 bb (.slice a' n' c') vb (ks ++ [z]) vs (W2.setCell ⟨bb, 0, none⟩ (.slice a' n' c')) := by
  have hbl := (Array.getElem?_eq_some_iff.1 h.box).1
  obtain ⟨a', b', c', W2, hr, hO, -, e1, e2, e3, hblk, hat, hsz⟩ := own_push1 encNOk Try.underlying47 infoInt rfl h.own1 z (by unfold maxLen; omega) (by omega) h.turn.size 47
  have hva : va.ownBlock ≠ some bb := fun e => by have := (h.own1.lt bb e).1; have := h.near; omega
  have hbx := (hblk bb hbl hva).trans h.box
  have hnew : ∀ q, (Value.slice a' (ks.length + 1) c').ownBlock = some q → q ≠ bb ∧ vb.ownBlock ≠ some q := fun q hq => by
    rcases hat with g | g
    · rw [g] at hq
      exact ⟨fun e => hva (e ▸ hq), h.apart q hq⟩
    · rw [g] at hq
      have hq := Option.some.inj hq
      exact ⟨by omega, fun e => by have := (h.own2.lt q e).2; omega⟩
  have hT : Turn (fun k => k = bb) W2 (W2.setCell ⟨bb, 0, none⟩ (.slice a' (ks.length + 1) c')) := (Turn.refl (fun k => k = bb) W2).set rfl _ _
  refine ⟨a', _, c', W2, hr, by simp [World.cell?, hbx], by simp [World.frozen?, hbx], ⟨?_, ?_, ?_, fun q hq => (hnew q hq).2, ?_, h.near⟩⟩
  · simp [World.setCell, Array.getElem?_modify, hbx]
  · exact hT.row hO (fun k hk e => (hnew k hk).1 e)
  · refine hT.row (show W2.ownsRow w0.heap.size 3 1 vb vs.length (cellsR encN vs) from ?_) (fun k hk e => by have := (h.own2.lt k hk).1; have := h.near; omega)
    have ht2 : Turn (fun k => va.ownBlock = some k) W W2 := ⟨e1, e2, e3, Nat.le_of_lt hsz, fun k hk hn => hblk k hk hn⟩
    exact ht2.row h.own2 (fun k hk e => h.apart k e hk)
  · have ht2 : Turn (fun k => va.ownBlock = some k) W W2 := ⟨e1, e2, e3, Nat.le_of_lt hsz, fun k hk hn => hblk k hk hn⟩
    exact (h.turn.then ht2 (fun i hi e => by have := (h.own1.lt i e).1; omega)).set rfl _ _
theorem ToldI.push2 (h : ToldI w0 bb va vb ks vs W) (z : Int) (hn : vs.length ≤ 1099511627776) :
    ∃ a' n' c' W2, (Builtin.append_ #[47, 47] 47 #[vb, .slice (some ⟨W.heap.size, 0, none⟩) 1 1]).run Try.prog (W.alloc (.cells #[.int .i64 z] 3)) = .ok (.slice a' n' c') W2 ∧ W2.cell? ⟨bb, 1, none⟩ = some vb ∧ W2.frozen? ⟨bb, 1, none⟩ = false ∧
      ToldI w0 bb va (.slice a' n' c') ks (vs ++ [z]) (W2.setCell ⟨bb, 1, none⟩ (.slice a' n' c')) := by
  have hbl := (Array.getElem?_eq_some_iff.1 h.box).1
  obtain ⟨a', b', c', W2, hr, hO, -, e1, e2, e3, hblk, hat, hsz⟩ := own_push1 encNOk Try.underlying47 infoInt rfl h.own2 z (by unfold maxLen; omega) (by omega) h.turn.size 47
  have hva : vb.ownBlock ≠ some bb := fun e => by have := (h.own2.lt bb e).1; have := h.near; omega
  have hbx := (hblk bb hbl hva).trans h.box
  have hnew : ∀ q, (Value.slice a' (vs.length + 1) c').ownBlock = some q → q ≠ bb ∧ va.ownBlock ≠ some q := fun q hq => by
    rcases hat with g | g
    · rw [g] at hq
      exact ⟨fun e => hva (e ▸ hq), fun e => h.apart q e hq⟩
    · rw [g] at hq
      have hq := Option.some.inj hq
      exact ⟨by omega, fun e => by have := (h.own1.lt q e).2; omega⟩
  have hT : Turn (fun k => k = bb) W2 (W2.setCell ⟨bb, 1, none⟩ (.slice a' (vs.length + 1) c')) := (Turn.refl (fun k => k = bb) W2).set rfl _ _
  have ht2 : Turn (fun k => vb.ownBlock = some k) W W2 := ⟨e1, e2, e3, Nat.le_of_lt hsz, fun k hk hn => hblk k hk hn⟩
  refine ⟨a', _, c', W2, hr, by simp [World.cell?, hbx], by simp [World.frozen?, hbx], ⟨?_, ?_, ?_, fun q hq e => (hnew q e).2 hq, ?_, h.near⟩⟩
  · simp [World.setCell, Array.getElem?_modify, hbx]
  · refine hT.row (show W2.ownsRow w0.heap.size 3 1 va ks.length (cellsR encN ks) from ?_) (fun k hk e => by have := (h.own1.lt k hk).1; have := h.near; omega)
    exact ht2.row h.own1 (fun k hk e => h.apart k hk e)
  · exact hT.row hO (fun k hk e => (hnew k hk).1 e)
  · exact (h.turn.then ht2 (fun i hi e => by have := (h.own2.lt i e).1; omega)).set rfl _ _
variable {w : World} {br : Nat} {way : Int} {a : Option Addr} {b c : Nat} {ps : List (Int × Int)} {size : Nat}
theorem two_told (w : World) {w1 : World} (hw1 : w1 = (w.alloc (.cells #[.slice none 0 0, .slice none 0 0] 49)).alloc (.cells #[.slice none 0 0, .slice none 0 0] 49)) : w1.heap[w.heap.size + 1]? = some (.cells #[.slice none 0 0, .slice none 0 0] 49 (0, 0)) ∧ w1.heap[w.heap.size]? = some (.cells #[.slice none 0 0, .slice none 0 0] 49 (0, 0)) := by
  refine ⟨?_, ?_⟩
  · have := heap_new (w.alloc (.cells #[.slice none 0 0, .slice none 0 0] 49)) (.cells #[.slice none 0 0, .slice none 0 0] 49)
    rw [World.size_alloc] at this
    rw [hw1]
    exact this
  · rw [hw1]
    exact ((Stay.new (w.alloc (.cells #[.slice none 0 0, .slice none 0 0] 49)) _).block w.heap.size (by simp)).trans (heap_new _ _)
/-- Two lists that are told. -/
def TellR (w : World) (ks vs : List Int) (e : Ending) (w' : World) : Prop :=
  ∃ a1 b1 c1 a2 b2 c2, e = .returned (.agg #[.slice a1 ks.length c1, .slice a2 vs.length c2]) ∧ RecS 1 encN w' a1 b1 0 ks ∧ RecS 1 encN w' a2 b2 0 vs ∧ Stay w w'
/-- The same, the lists in blocks of their own. -/
def TellO (w : World) (ks vs : List Int) (e : Ending) (w' : World) : Prop :=
  ∃ a1 b1 c1 a2 b2 c2, e = .returned (.agg #[.slice a1 ks.length c1, .slice a2 vs.length c2]) ∧ RecS 1 encN w' a1 b1 0 ks ∧ RecS 1 encN w' a2 b2 0 vs ∧ Stay w w' ∧ ∀ k, a1 = some ⟨k, 0, none⟩ ∨ a2 = some ⟨k, 0, none⟩ → w.heap.size ≤ k
theorem TellO.tell {e : Ending} {w' : World} (h : TellO w ks vs e w') : TellR w ks vs e w' := by
  obtain ⟨a1, b1, c1, a2, b2, c2, h1, h2, h3, h4, -⟩ := h
  exact ⟨a1, b1, c1, a2, b2, c2, h1, h2, h3, h4⟩
set_option maxRecDepth 100000 in
set_option maxHeartbeats 2000000 in
theorem pairs_anyO (h : RTab w br way a b c ps size) (hn : ps.length ≤ 1099511627775) : Calls Try.prog 12 #[.pointer (some ⟨br, 0, none⟩)] w (TellO w (ps.map (·.1)) (ps.map (·.2))) := by
  obtain ⟨R, hR⟩ : ∃ R, R = TellO w (ps.map (·.1)) (ps.map (·.2)) := ⟨_, rfl⟩
  rw [← hR]
  have HR : Hid (R = TellO w (ps.map (·.1)) (ps.map (·.2))) := hR
  have HT : Hid (RTab w br way a b c ps size) := h
  obtain ⟨n, hn'⟩ : ∃ n, n = ps.length := ⟨_, rfl⟩
  have HN : Hid (n = ps.length) := hn'
  rw [← hn'] at hn
  obtain ⟨w1, hw1⟩ : ∃ w1, w1 = (w.alloc (.cells #[.slice none 0 0, .slice none 0 0] 49)).alloc (.cells #[.slice none 0 0, .slice none 0 0] 49) := ⟨_, rfl⟩
  have s1 : Stay w w1 := by rw [hw1]; exact (Stay.new _ _).alloc _
  have z1 : w1.heap.size = w.heap.size + 2 := by rw [hw1]; simp
  have H1 : Hid (Stay w w1 ∧ w1.heap.size = w.heap.size + 2 ∧ w1.heap[w.heap.size + 1]? = some (.cells #[.slice none 0 0, .slice none 0 0] 49 (0, 0)) ∧ w1.heap[w.heap.size]? = some (.cells #[.slice none 0 0, .slice none 0 0] 49 (0, 0))) := ⟨s1, z1, (two_told w hw1).1, (two_told w hw1).2⟩
  clear h hR hn' s1 z1
  go_enter Try.func12, Try.ntmps12
  go_wp2_with fail
  rw [← hw1]
  go_loopw [4] (fun u wr => ∃ (j : Nat) (va vb : Value), j ≤ n ∧ u = .int .i64 (j : Int) ∧ ToldI w1 (w.heap.size + 1) va vb ((ps.take j).map (·.1)) ((ps.take j).map (·.2)) wr) (fun u _ => n - (intOf u).toNat)
  case atStart => exact ⟨0, _, _, Nat.zero_le _, rfl, ⟨H1.out.2.2.1, OwnR.nil, OwnR.nil, (fun q e => by cases e), Turn.refl _ _, by have := H1.out.2.1; omega⟩⟩
  case round =>
    obtain ⟨j, va, vb, hj, rfl, hI⟩ := hrel
    have hst : Stay w wr := hI.turn.stay H1.out.1 (fun k hk e => by omega)
    obtain ⟨c0, c1, c2⟩ := (HT.out.stay hst).cells
    rw [← HN.out] at c1
    by_cases hlt : j < n
    · have hji : (j : Int) < (n : Int) := by omega
      have hjl : j < ps.length := by have := HN.out; omega
      have htk : ps.take (j + 1) = ps.take j ++ [ps[j]] := by rw [List.take_add_one, List.getElem?_eq_getElem hjl, Option.toList_some]
      have hl1 : ((ps.take j).map (·.1)).length ≤ 1099511627776 := by rw [List.length_map, List.length_take]; omega
      have hl2 : ((ps.take j).map (·.2)).length ≤ 1099511627776 := by rw [List.length_map, List.length_take]; omega
      obtain ⟨rfl, d0, d1⟩ := (HT.out.stay hst).pair hjl
      obtain ⟨p1, hp1⟩ : ∃ p1, p1 = ps[j].1 := ⟨_, rfl⟩
      obtain ⟨p2, hp2⟩ : ∃ p2, p2 = ps[j].2 := ⟨_, rfl⟩
      have HP : Hid (ps.take (j + 1) = ps.take j ++ [(p1, p2)] ∧ p1 = ps[j].1 ∧ p2 = ps[j].2) := ⟨by rw [htk, hp1, hp2], hp1, hp2⟩
      rw [← hp1] at d0
      rw [← hp2] at d1
      obtain ⟨a1, n1, k1, W2, hap, hc, hf, hI2⟩ := (hI.keep (Stay.drew wr)).push1 p1 hl1
      obtain ⟨t0, t1, t2, t3⟩ := hI.cells
      have z2 : br < wr.heap.size := World.block_lt_of_cell? wr _ c1
      have z3 : b < wr.heap.size := World.block_lt_of_cell? wr _ d0
      have HI2 : Hid (ToldI w1 (w.heap.size + 1) (.slice a1 n1 k1) vb ((ps.take j).map (·.1) ++ [p1]) ((ps.take j).map (·.2)) (W2.setCell ⟨w.heap.size + 1, 0, none⟩ (.slice a1 n1 k1)) ∧ ((ps.take j).map (·.2)).length ≤ 1099511627776) := ⟨hI2, hl2⟩
      clear hI hI2 htk hp1 hp2 hst t2 hl1 hl2
      go_upto_region 5 with fail
      go_cut [] from 5 to 39 (fun wx => wx = W2.setCell ⟨w.heap.size + 1, 0, none⟩ (.slice a1 n1 k1))
      case first =>
        go_region_law (first
          | (refine step_append_run rfl _ _ _ _ rfl (by first | rfl | simp [Act.eval, Act.put]) (by first | rfl | simp [Act.eval, Act.put]) hap ?_; clear hap))
        all_goals
          go_wp2_with fail
          go_meet
          case rel => rfl
      case rest =>
        subst hcut
        clear hap hc hf t0 t1 c0 c1 c2 d0 d1 z2 z3 t3
        obtain ⟨V, hV⟩ : ∃ V, V = W2.setCell ⟨w.heap.size + 1, 0, none⟩ (.slice a1 n1 k1) := ⟨_, rfl⟩
        have hI := HI2.out.1
        rw [← hV] at hI ⊢
        have hst : Stay w V := hI.turn.stay H1.out.1 (fun k hk e => by omega)
        obtain ⟨c0, c1, c2⟩ := (HT.out.stay hst).cells
        rw [← HN.out] at c1
        obtain ⟨-, d0, d1⟩ := (HT.out.stay hst).pair hjl
        rw [← HP.out.2.2] at d1
        obtain ⟨a2, n2, k2, W3, hap, hc, hf, hI3⟩ := (hI.keep (Stay.drew V)).push2 p2 HI2.out.2
        obtain ⟨t0, t1, t2, t3⟩ := hI.cells
        have z2 : br < V.heap.size := World.block_lt_of_cell? V _ c1
        have z3 : b < V.heap.size := World.block_lt_of_cell? V _ d1
        have HX : Hid (ToldI w1 (w.heap.size + 1) (.slice a1 n1 k1) (.slice a2 n2 k2) ((ps.take (j + 1)).map (·.1)) ((ps.take (j + 1)).map (·.2)) (W3.setCell ⟨w.heap.size + 1, 1, none⟩ (.slice a2 n2 k2))) := by
          show ToldI _ _ _ _ _ _ _
          rw [HP.out.1, List.map_append, List.map_append]
          exact hI3
        clear hI hI3 hV hst t2 HI2 d0
        go_wp2_with fail
        go_region_law (first
          | (refine step_append_run rfl _ _ _ _ rfl (by first | rfl | simp [Act.eval, Act.put]) (by first | rfl | simp [Act.eval, Act.put]) hap ?_; clear hap))
        all_goals
          go_wp2_with fail
          go_roundw
          case rel => exact ⟨j + 1, _, _, by omega, by simp, HX.out⟩
          case measure => simp [intOf]; omega
    · obtain rfl : n = j := by omega
      rw [HN.out, List.take_of_length_le (Nat.le_refl _)] at hI
      have hbx : wr.heap[w.heap.size]? = some (.cells #[.slice none 0 0, .slice none 0 0] 49 (0, 0)) := (hI.turn.block w.heap.size (by have := H1.out.2.1; omega) (by omega)).trans H1.out.2.2.2
      obtain ⟨FW, hFW⟩ : ∃ FW, FW = (wr.setCell ⟨w.heap.size, 0, none⟩ va).setCell ⟨w.heap.size, 1, none⟩ vb := ⟨_, rfl⟩
      have hT : Turn (fun k => k = w.heap.size) wr FW := by rw [hFW]; exact ((Turn.refl (fun k => k = w.heap.size) wr).set rfl _ _).set rfl _ _
      have o1 : OwnR 3 1 encN w1.heap.size FW va (ps.map (·.1)) := hT.row hI.own1 (fun k hk e => by have := (hI.own1.lt k hk).1; have := H1.out.2.1; omega)
      have o2 : OwnR 3 1 encN w1.heap.size FW vb (ps.map (·.2)) := hT.row hI.own2 (fun k hk e => by have := (hI.own2.lt k hk).1; have := H1.out.2.1; omega)
      obtain ⟨t0, t1, t2, t3⟩ := hI.cells
      have m0 : wr.cell? ⟨w.heap.size, 0, none⟩ = some (.slice none 0 0) := by simp [World.cell?, hbx]
      have m1 : (wr.setCell ⟨w.heap.size, 0, none⟩ va).cell? ⟨w.heap.size, 1, none⟩ = some (.slice none 0 0) := by simp [World.cell?, World.setCell, Array.getElem?_modify, hbx]
      have f0 : wr.frozen? ⟨w.heap.size, 0, none⟩ = false := by simp [World.frozen?, hbx]
      have f1 : (wr.setCell ⟨w.heap.size, 0, none⟩ va).frozen? ⟨w.heap.size, 1, none⟩ = false := by simp [World.frozen?, World.setCell, Array.getElem?_modify, hbx]
      have g0 : FW.cell? ⟨w.heap.size, 0, none⟩ = some va := by rw [hFW]; simp [World.cell?, World.setCell, Array.getElem?_modify, hbx]
      have g1 : FW.cell? ⟨w.heap.size, 1, none⟩ = some vb := by rw [hFW]; simp [World.cell?, World.setCell, Array.getElem?_modify, hbx]
      have hSt : Stay w FW := hT.stay hst (fun k hk e => by omega)
      obtain ⟨a1, b1, k1, rfl, hR1, -⟩ := o1.form encNOk
      obtain ⟨a2, b2, k2, rfl, hR2, -⟩ := o2.form encNOk
      have hfr : ∀ k, a1 = some ⟨k, 0, none⟩ ∨ a2 = some ⟨k, 0, none⟩ → w.heap.size ≤ k := by
        have := H1.out.2.1
        rintro k (rfl | rfl)
        · have := (o1.lt k rfl).1; omega
        · have := (o2.lt k rfl).1; omega
      have HX : Hid (R (.returned (.agg #[.slice a1 (ps.map (·.1)).length k1, .slice a2 (ps.map (·.2)).length k2])) FW) := by
        show R _ _
        rw [HR.out]
        exact ⟨a1, b1, k1, a2, b2, k2, rfl, hR1, hR2, hSt, hfr⟩
      clear hI hT o1 o2 hR1 hR2 hSt t2 hbx HR hfr
      generalize (ps.map (·.1)).length = q1 at *
      generalize (ps.map (·.2)).length = q2 at *
      rw [hFW] at g0 g1
      go_wp2_with fail
      refine bodyPost_ret (v := .agg #[.slice a1 q1 k1, .slice a2 q2 k2]) (by simp [results, Try.results12, go_sem, g0, g1]) rfl ?_
      rw [← hFW]
      exact HX.out
theorem pairs_any (h : RTab w br way a b c ps size) (hn : ps.length ≤ 1099511627775) : Calls Try.prog 12 #[.pointer (some ⟨br, 0, none⟩)] w (TellR w (ps.map (·.1)) (ps.map (·.2))) :=
  (pairs_anyO h hn).mono fun _ _ h => h.tell
end Go.Proofs.Ytdnophgcdnghkaa.I
