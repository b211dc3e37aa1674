/- IndexPlays, IndexWalks: what a walk over places must tell: places and their keys, of the document's table. -/
import Derived.Test.YtdnophgcdnghkaaJ3j
namespace Go.Proofs.Ytdnophgcdnghkaa.I
open Go.RowKit Go.Maps Go.Proofs.Ytdnophgcdnghkaa

/-- The places that are taken, and the keys that lie there, up to k. -/
def laidAt (ps : List (Int × Int)) (places : List Nat) (k : Nat) : List (Int × Int) := match places[k]? with
  | some (t + 1) => [((k : Int), (ps[t]?.getD (0, 0)).1)]
  | _ => []
def laidL (ps : List (Int × Int)) (places : List Nat) : Nat → List (Int × Int)
  | 0 => []
  | k + 1 => laidL ps places k ++ laidAt ps places k
theorem laidL_len (ps : List (Int × Int)) (places : List Nat) : ∀ k, (laidL ps places k).length ≤ k
  | 0 => Nat.le_refl _
  | k + 1 => by
    have := laidL_len ps places k
    have h2 : (laidAt ps places k).length ≤ 1 := by unfold laidAt; split <;> simp
    rw [laidL, List.length_append]
    omega
variable {w : World} {br : Nat} {way : Int} {a : Option Addr} {b c : Nat} {ps : List (Int × Int)} {size : Nat}
def LaidR (w : World) (way : Int) (ps : List (Int × Int)) (N : Nat) (e : Ending) (w' : World) : Prop :=
  ∃ (came : List E) (places : List Nat), LayI way ps N ps.length came places ∧ places.length = N ∧ TellR w ((laidL ps places N).map (·.1)) ((laidL ps places N).map (·.2)) e w'
def LaidO (w : World) (way : Int) (ps : List (Int × Int)) (N : Nat) (e : Ending) (w' : World) : Prop :=
  ∃ (came : List E) (places : List Nat), LayI way ps N ps.length came places ∧ places.length = N ∧ TellO w ((laidL ps places N).map (·.1)) ((laidL ps places N).map (·.2)) e w'
set_option maxRecDepth 100000 in
set_option maxHeartbeats 2000000 in
theorem laid_anyO (h : RTab w br way a b c ps size) (hn : ps.length < size) (hs : size ≤ 1099511627775) : Calls Try.prog 14 #[.pointer (some ⟨br, 0, none⟩)] w (LaidO w way ps size) := by
  obtain ⟨R, hR⟩ : ∃ R, R = LaidO w way ps size := ⟨_, rfl⟩
  rw [← hR]
  have HR : Hid (R = LaidO w way ps size) := hR
  have HT : Hid (RTab w br way a b c ps size ∧ ps.length < size) := ⟨h, hn⟩
  obtain ⟨w1, hw1⟩ : ∃ w1, w1 = (w.alloc (.cells #[.slice none 0 0, .slice none 0 0] 49)).alloc (.cells #[.slice none 0 0, .slice none 0 0] 49) := ⟨_, rfl⟩
  have s1 : Stay w w1 := by rw [hw1]; exact (Stay.new _ _).alloc _
  have z1 : w1.heap.size = w.heap.size + 2 := by rw [hw1]; simp
  have b1b := two_told w hw1
  have H1 : Hid (Stay w w1 ∧ w1.heap.size = w.heap.size + 2 ∧ w1.heap[w.heap.size + 1]? = some (.cells #[.slice none 0 0, .slice none 0 0] 49 (0, 0)) ∧ w1.heap[w.heap.size]? = some (.cells #[.slice none 0 0, .slice none 0 0] 49 (0, 0))) := ⟨s1, z1, b1b.1, b1b.2⟩
  have hlay := rLayout_any (h.stay s1) hn (by omega)
  obtain ⟨n, hn'⟩ : ∃ n, n = ps.length := ⟨_, rfl⟩
  have HN : Hid (n = ps.length) := hn'
  clear h hR hn' s1 z1 b1b
  go_enter Try.func14, Try.ntmps14
  go_wp2_with (go_at_call 39; rw [← hw1]; refine hlay.mono ?_; rintro e w2 ⟨came, places, rfl, hrow, hI, hpl, s2⟩; have HL : Hid (LayRow w2 w1.heap.size (outL places) ∧ LayI way ps size ps.length came places ∧ places.length = size ∧ w1.heap.size < w2.heap.size ∧ Stay w1 w2) := ⟨hrow, hI, hpl, (Array.getElem?_eq_some_iff.1 hrow).1, s2⟩; clear hlay hrow hI hpl s2 hw1)
  go_loopw [5] (fun u wr => ∃ (j : Nat) (va vb : Value), j ≤ size ∧ u = .int .i64 (j : Int) ∧ ToldI w2 (w.heap.size + 1) va vb ((laidL ps places j).map (·.1)) ((laidL ps places j).map (·.2)) wr) (fun u _ => size - (intOf u).toNat)
  case atStart => exact ⟨0, _, _, Nat.zero_le _, rfl, ⟨(HL.out.2.2.2.2.block _ (by have := H1.out.2.1; omega)).trans H1.out.2.2.1, OwnR.nil, OwnR.nil, (fun q e => by cases e), Turn.refl _ _, by have := H1.out.2.1; have := HL.out.2.2.2.1; omega⟩⟩
  case round =>
    obtain ⟨j, va, vb, hj, rfl, hI⟩ := hrel
    have hst : Stay w wr := hI.turn.stay (H1.out.1.trans HL.out.2.2.2.2) (fun k hk e => by omega)
    by_cases hlt : j < size
    · have hji : (j : Int) < (size : Int) := by omega
      obtain ⟨p, hp⟩ : ∃ p, places[j]? = some p := ⟨_, List.getElem?_eq_getElem (by have := HL.out.2.2.1; omega)⟩
      have hrow : LayRow wr w1.heap.size (outL places) := hI.turn.heap HL.out.1 (by have := H1.out.2.1; omega)
      obtain ⟨q0, -⟩ := hrow.cell (out_at hp)
      have hll := laidL_len ps places j
      cases p with
      | zero =>
        have hla : laidL ps places (j + 1) = laidL ps places j := by rw [laidL, laidAt, hp]; simp
        have HX : Hid (ToldI w2 (w.heap.size + 1) va vb ((laidL ps places (j + 1)).map (·.1)) ((laidL ps places (j + 1)).map (·.2)) wr) := by rw [hla]; exact hI
        rw [show (((0 : Nat) : Int) - 1) = -1 from rfl] at q0
        clear hI hst hrow hp hla
        go_wp2_with fail
        go_roundw
        case rel => exact ⟨j + 1, _, _, by omega, by simp, HX.out⟩
        case measure => simp [intOf]; omega
      | succ t =>
        have htl : t < ps.length := by
          obtain ⟨reach, hL⟩ := HL.out.2.1.lies
          exact (hL.back j t hp).1
        have hla : laidL ps places (j + 1) = laidL ps places j ++ [((j : Int), ps[t].1)] := by rw [laidL, laidAt, hp]; simp [htl]
        obtain ⟨p1, hp1⟩ : ∃ p1, p1 = ps[t].1 := ⟨_, rfl⟩
        have HP : Hid (laidL ps places (j + 1) = laidL ps places j ++ [((j : Int), p1)] ∧ p1 = ps[t].1) := ⟨by rw [hla, hp1], hp1⟩
        have hti : (t : Int) < (n : Int) := by have := HN.out; omega
        have ht0 : (0 : Int) ≤ (t : Int) := by omega
        rw [show (((t + 1 : Nat) : Int) - 1) = (t : Int) by omega] at q0
        have HO : Hid (places[j]? = some (t + 1)) := hp
        obtain ⟨a1, n1, k1, W2, hap, hc, hf, hI2⟩ := hI.push1 (j : Int) (by rw [List.length_map]; omega)
        obtain ⟨t0, t1, t2, t3⟩ := hI.cells
        have HI2 : Hid (ToldI w2 (w.heap.size + 1) (.slice a1 n1 k1) vb ((laidL ps places j).map (·.1) ++ [(j : Int)]) ((laidL ps places j).map (·.2)) (W2.setCell ⟨w.heap.size + 1, 0, none⟩ (.slice a1 n1 k1)) ∧ ((laidL ps places j).map (·.2)).length ≤ 1099511627776) := ⟨hI2, by rw [List.length_map]; omega⟩
        clear hI hI2 hla hp1 hst t2 hrow hp hll
        go_wp2_with (at_builtin; refine wpList_append_run rfl (.tmp 20) (.tmp 22) 47 47 rfl _ _ rfl rfl hap ?_; clear hap)
        clear hc hf t0 t1 q0 t3
        obtain ⟨V, hV⟩ : ∃ V, V = W2.setCell ⟨w.heap.size + 1, 0, none⟩ (.slice a1 n1 k1) := ⟨_, rfl⟩
        have hI := HI2.out.1
        rw [← hV] at hI ⊢
        have hst : Stay w V := hI.turn.stay (H1.out.1.trans HL.out.2.2.2.2) (fun k hk e => by omega)
        obtain ⟨c0, c1, c2⟩ := (HT.out.1.stay hst).cells
        rw [← HN.out] at c1
        obtain ⟨rfl, d0, d1⟩ := (HT.out.1.stay hst).pair htl
        rw [← HP.out.2] at d0
        have hrow : LayRow V w1.heap.size (outL places) := hI.turn.heap HL.out.1 (by have := H1.out.2.1; omega)
        obtain ⟨q0, -⟩ := hrow.cell (out_at HO.out)
        rw [show (((t + 1 : Nat) : Int) - 1) = (t : Int) by omega] at q0
        obtain ⟨a2, n2, k2, W3, hap, hc, hf, hI3⟩ := (hI.keep (Stay.drew V)).push2 p1 HI2.out.2
        obtain ⟨t0, t1, t2, t3⟩ := hI.cells
        have z2 : br < V.heap.size := World.block_lt_of_cell? V _ c1
        have z3 : b < V.heap.size := World.block_lt_of_cell? V _ d0
        have z4 : w1.heap.size < V.heap.size := World.block_lt_of_cell? V _ q0
        have HX : Hid (ToldI w2 (w.heap.size + 1) (.slice a1 n1 k1) (.slice a2 n2 k2) ((laidL ps places (j + 1)).map (·.1)) ((laidL ps places (j + 1)).map (·.2)) (W3.setCell ⟨w.heap.size + 1, 1, none⟩ (.slice a2 n2 k2))) := by
          show ToldI _ _ _ _ _ _ _
          rw [HP.out.1, List.map_append, List.map_append]
          exact hI3
        clear hI hI3 hV hst t2 HI2 d1 hrow
        go_region_law (first
          | (refine step_append_run rfl _ _ _ _ rfl (by first | rfl | simp [Act.eval, Act.put]) (by first | rfl | simp [Act.eval, Act.put]) hap ?_; clear hap))
        all_goals
          go_wp2_with fail
          go_roundw
          case rel => exact ⟨j + 1, _, _, by omega, by simp, HX.out⟩
          case measure => simp [intOf]; omega
    · obtain rfl : size = j := by omega
      have hbx : wr.heap[w.heap.size]? = some (.cells #[.slice none 0 0, .slice none 0 0] 49 (0, 0)) := (hI.turn.block w.heap.size (by have := H1.out.2.1; have := HL.out.2.2.2.1; omega) (by omega)).trans ((HL.out.2.2.2.2.block w.heap.size (by have := H1.out.2.1; have := HL.out.2.2.2.1; omega)).trans H1.out.2.2.2)
      obtain ⟨FW, hFW⟩ : ∃ FW, FW = (wr.setCell ⟨w.heap.size, 0, none⟩ va).setCell ⟨w.heap.size, 1, none⟩ vb := ⟨_, rfl⟩
      have hT : Turn (fun k => k = w.heap.size) wr FW := by rw [hFW]; exact ((Turn.refl (fun k => k = w.heap.size) wr).set rfl _ _).set rfl _ _
      have o1 : OwnR 3 1 encN w2.heap.size FW va ((laidL ps places size).map (·.1)) := hT.row hI.own1 (fun k hk e => by have := (hI.own1.lt k hk).1; have := H1.out.2.1; have := HL.out.2.2.2.1; omega)
      have o2 : OwnR 3 1 encN w2.heap.size FW vb ((laidL ps places size).map (·.2)) := hT.row hI.own2 (fun k hk e => by have := (hI.own2.lt k hk).1; have := H1.out.2.1; have := HL.out.2.2.2.1; omega)
      obtain ⟨t0, t1, t2, t3⟩ := hI.cells
      have m0 : wr.cell? ⟨w.heap.size, 0, none⟩ = some (.slice none 0 0) := by simp [World.cell?, hbx]
      have m1 : (wr.setCell ⟨w.heap.size, 0, none⟩ va).cell? ⟨w.heap.size, 1, none⟩ = some (.slice none 0 0) := by simp [World.cell?, World.setCell, Array.getElem?_modify, hbx]
      have f0 : wr.frozen? ⟨w.heap.size, 0, none⟩ = false := by simp [World.frozen?, hbx]
      have f1 : (wr.setCell ⟨w.heap.size, 0, none⟩ va).frozen? ⟨w.heap.size, 1, none⟩ = false := by simp [World.frozen?, World.setCell, Array.getElem?_modify, hbx]
      have g0 : FW.cell? ⟨w.heap.size, 0, none⟩ = some va := by rw [hFW]; simp [World.cell?, World.setCell, Array.getElem?_modify, hbx]
      have g1 : FW.cell? ⟨w.heap.size, 1, none⟩ = some vb := by rw [hFW]; simp [World.cell?, World.setCell, Array.getElem?_modify, hbx]
      have hSt : Stay w FW := hT.stay hst (fun k hk e => by omega)
      obtain ⟨a1, b1, k1, rfl, hR1, -⟩ := o1.form encNOk
      obtain ⟨a2, b2, k2, rfl, hR2, -⟩ := o2.form encNOk
      have hfr : ∀ k, a1 = some ⟨k, 0, none⟩ ∨ a2 = some ⟨k, 0, none⟩ → w.heap.size ≤ k := by
        have := H1.out.2.1
        have := HL.out.2.2.2.1
        rintro k (rfl | rfl)
        · have := (o1.lt k rfl).1; omega
        · have := (o2.lt k rfl).1; omega
      have HX : Hid (R (.returned (.agg #[.slice a1 ((laidL ps places size).map (·.1)).length k1, .slice a2 ((laidL ps places size).map (·.2)).length k2])) FW) := by
        show R _ _
        rw [HR.out]
        exact ⟨came, places, HL.out.2.1, HL.out.2.2.1, a1, b1, k1, a2, b2, k2, rfl, hR1, hR2, hSt, hfr⟩
      clear hI hT o1 o2 hR1 hR2 hSt t2 hbx HR hfr
      generalize ((laidL ps places size).map (·.1)).length = q1 at *
      generalize ((laidL ps places size).map (·.2)).length = q2 at *
      rw [hFW] at g0 g1
      go_wp2_with fail
      refine bodyPost_ret (v := .agg #[.slice a1 q1 k1, .slice a2 q2 k2]) (by simp [results, Try.results14, go_sem, g0, g1]) rfl ?_
      rw [← hFW]
      exact HX.out
theorem laid_any (h : RTab w br way a b c ps size) (hn : ps.length < size) (hs : size ≤ 1099511627775) : Calls Try.prog 14 #[.pointer (some ⟨br, 0, none⟩)] w (LaidR w way ps size) :=
  (laid_anyO h hn hs).mono fun _ _ ⟨came, places, h1, h2, h3⟩ => ⟨came, places, h1, h2, h3.tell⟩
end Go.Proofs.Ytdnophgcdnghkaa.I
