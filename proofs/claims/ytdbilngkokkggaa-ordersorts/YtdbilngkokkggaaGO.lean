/- OrderSorts: its walk (written by tools/sl.py). -/
import Derived.Test.YtdbilngkokkggaaGN
import Derived.Test.YtdbilngkokkggaaGK
import Derived.Test.YtdbilngkokkggaaSL
import Derived.Test.YtdbilngkokkggaaRW
namespace Go.Proofs.Ytdbilngkokkggaa
open Go.RowKit Go.Maps Go.Shelf Go.Sort Go.Proofs.Ytdbilngkokkggaa.HT

theorem ths_turn2 {S : Nat → Prop} {w w' : World} {a : Option Addr} {b o : Nat} {ts : List (Int × Int)} (h : ThS w a b o ts) (ht : Turn S w w') (hn : 0 < ts.length → ¬ S b) : ThS w' a b o ts :=
  ⟨h.1, fun j hj => ⟨ht.cell (h.2 j hj).1 (hn (by omega)), ht.cell (h.2 j hj).2 (hn (by omega))⟩⟩
theorem RowT.rank {w : World} {g cap : Nat} {ts : List (Int × Int)} (h : RowT w g cap ts) (t : Nat) (x : Int × Int) (hx : ts[t]? = some x) (z : Int) : RowT (w.setCell ⟨g, t * 2, none⟩ (.int .i64 z)) g cap (ts.set t (z, x.2)) := by
  obtain ⟨cur, h1, h2, h3, h4, h5⟩ := h
  have ht := (List.getElem?_eq_some_iff.1 hx).1
  have hl : (cellsT (ts.take t)).length = t * 2 := by rw [cellsT_len, List.length_take]; congr 1; omega
  refine ⟨_, heap_setCell_same w g _ cur _ _ h1, by simpa using h2, h3, by simpa using h4, ?_⟩
  rw [List.length_set, Array.toList_setIfInBounds, List.take_set, h5, cellsT_split ts t _ hx, setMid _ _ _ _ 0 _ (by omega) (by simp [encT]), cellsT_set ts t _ _ hx]
  rfl
/-- Two values by their numbers. -/
def two2 (a b : Value) : Nat → Value
  | 0 => a
  | _ => b
def two2L (a b : List (Int × Int)) : Nat → List (Int × Int)
  | 0 => a
  | _ => b
theorem two_lists {W : World} {va vb : Value} {la lb : List (Int × Int)} {n0 n1 : Nat} (h0 : OwnT n0 W va la) (h1 : OwnT n1 W vb lb) (k0 : ∀ k, va.ownBlock = some k → k < n1) (e1 : n0 ≤ n1) :
    Lists n0 (W.alloc (.cells #[va, vb] 29)) W.heap.size 2 (two2 va vb) (two2L la lb) := by
  have l0 := fun k e => h0.lt k e
  have l1 := fun k e => h1.lt k e
  refine ⟨⟨fun i j hi hj hij b hb hb2 => ?_, fun i hi hb => ?_⟩, fun i hi => ?_, fun i hi => ?_⟩
  · have c0 := fun e => And.intro (l0 b e) (k0 b e)
    have c1 := fun e => l1 b e
    match i, j, hi, hj with
    | 0, 0, _, _ => exact hij rfl
    | 0, 1, _, _ => have := c0 hb; have := c1 hb2; omega
    | 1, 0, _, _ => have := c1 hb; have := c0 hb2; omega
    | 1, 1, _, _ => exact hij rfl
  · match i, hi with
    | 0, _ => have := l0 _ hb; omega
    | 1, _ => have := l1 _ hb; omega
  · have h9 := new_cells W [va, vb] 29
    match i, hi with
    | 0, _ => have := h9 0 va rfl; rwa [add_at] at this
    | 1, _ => have := h9 1 vb rfl; rwa [add_at] at this
  · match i, hi with
    | 0, _ => exact (h0.alloc _)
    | 1, _ => exact ((h1.alloc _).mono (by omega))
theorem same_none (W : World) (a b : Option Addr) (c d : Nat) : Calls Try.prog 22 #[.slice a 0 c, .slice b 0 d] W fun e w' => e = .returned (.bool true) ∧ w' = W := by
  go_enter Try.func22, Try.ntmps22
  go_wp2
  refine wp_loop_rounds 1 ?_
  rw [rounds_succ]
  go_wp2
  go_ret
  exact ⟨rfl, rfl⟩
theorem isSorted_none (W : World) (a : Option Addr) (c : Nat) (fv : Value) : Calls Try.prog 58 #[.slice a 0 c, fv] W fun e w' => e = .returned (.bool true) ∧ w' = W := by
  go_enter Try.func58, Try.ntmps58
  go_wp2
  refine wp_loop_rounds 1 ?_
  rw [rounds_succ]
  go_wp2
  go_ret
  exact ⟨rfl, rfl⟩
theorem sorted_none (W : World) (a : Option Addr) (c : Nat) : Calls Try.prog 20 #[.slice a 0 c, .nilFunc] W fun e w' => e = .returned (.bool true) ∧ w' = W := by
  have hc := isSorted_none W a c (.func (.func 78) #[] #[])
  go_enter Try.func20, Try.ntmps20
  go_wp2_with fail
  refine (orderOf_nil _).mono ?_
  rintro e9 w9 ⟨rfl, hw⟩
  have hw' := hw.symm; subst hw'
  clear hw
  go_wp2_with fail
  refine hc.mono ?_
  rintro e w1 ⟨rfl, hw⟩
  have hw' := hw.symm; subst hw'
  clear hw hc
  go_wp2
  go_ret
  exact ⟨rfl, rfl⟩
theorem sortR_again (l : List (Int × Int)) : sortR (sortR l) = sortR l := (sorted_is (sortR_rises l) (Eqv.refl _)).symm
theorem risk_none (l : List (Int × Int)) : RisK (fun _ => 0) l := List.pairwise_of_forall (fun _ _ => Int.le_refl _)

set_option maxRecDepth 100000 in
set_option maxHeartbeats 20000000 in
theorem sorts_walk (w : World) (a1 : Option Addr) (b1 o1 c1 : Nat) (l : List (Int × Int)) (h1 : ThS w a1 b1 o1 l) (hn1 : a1 = none → c1 = 0 ∧ l = []) (hl : (l.length + 40) * 16 ≤ 140737488355328) :
    Calls Try.prog 4 #[.slice a1 l.length c1] w fun e w' => e = .returned (.bool true) ∧ Stay w w' := by
  obtain ⟨A, hA⟩ : ∃ A, A = sortR l := ⟨_, rfl⟩
  obtain ⟨C, hC⟩ : ∃ C, C = setR l := ⟨_, rfl⟩
  have HE : Hid (A = sortR l ∧ C = setR l ∧ sortR A = A ∧ RisK (fun x => x.1) A) := ⟨hA, hC, by rw [hA]; exact sortR_again l, by rw [hA]; exact sortR_rises l⟩
  have hal : A.length = l.length := by rw [hA]; exact sortR_len l
  have hcl : C.length ≤ l.length := by rw [hC]; exact uniqR_len _ _
  have HB : Hid (A.length = l.length ∧ C.length ≤ l.length ∧ (l.length + 40) * 16 ≤ 140737488355328 ∧ (a1 = none → c1 = 0 ∧ l = [])) := ⟨hal, hcl, hl, hn1⟩
  have hlI : (l.length : Int) ≤ 8796093022208 := by omega
  have S0 : Hid (Stay w w ∧ ThS w a1 b1 o1 l) := ⟨Stay.refl _, h1⟩
  clear h1 hn1 hl hA hC hal hcl
  go_enter Try.func4, Try.ntmps4
  have hcall := lend_any w a1 b1 o1 c1 l S0.out.2 HB.out.2.2.2 (by have := HB.out; omega)
  go_wp2_with fail
  refine hcall.mono ?_
  rintro e w1 ⟨gx, cx, rfl, hle, hst⟩
  have GX : Hid (w.heap.size ≤ gx) := hle.2
  have S1 : Hid (Stay w w1 ∧ ThS w1 a1 b1 o1 l ∧ LentH 0 w1 gx cx l) := ⟨S0.out.1.trans hst, S0.out.2.stay hst, ⟨hle.1, Nat.zero_le _⟩⟩
  clear hcall hst S0 hle
  obtain ⟨Np, hNp⟩ : ∃ N, N = w1.heap.size := ⟨_, rfl⟩
  have G0 : Hid (gx < Np ∧ (0 < l.length → b1 < Np) ∧ w.heap.size ≤ Np) := by rw [hNp]; exact ⟨S1.out.2.2.1.lt, fun h => World.block_lt_of_cell? _ _ (S1.out.2.1.2 0 h).1, S1.out.1.size⟩
  have hcall := sort_by w1 (some ⟨gx, 0, none⟩) gx 0 cx l S1.out.2.2.things (fun h => by cases h) (by have := HB.out; omega)
  go_wp2_with fail
  refine hcall.mono ?_
  rintro e w2 ⟨v, rfl, hown, hst⟩
  rw [← HE.out.1] at hown
  obtain ⟨pa, pb, pc, rfl, hT, hn, hc⟩ := hown.shape
  have Cp : Hid ((pa = none → pc = 0 ∧ A = []) ∧ A.length ≤ pc) := ⟨hn, hc⟩
  rw [← hNp] at hown
  have Ep : Hid (Np ≤ w2.heap.size) := by rw [hNp]; exact hst.size
  have Fp : Hid (∀ k, (Value.slice pa A.length pc).ownBlock = some k → k < w2.heap.size) := fun k e => (hown.lt k e).2
  have S2 : Hid (Stay w w2 ∧ ThS w2 a1 b1 o1 l ∧ LentH 0 w2 gx cx l ∧ ThS w2 pa pb 0 A ∧ OwnT Np w2 (.slice pa A.length pc) A ∧ Np ≤ w2.heap.size) := ⟨S1.out.1.trans hst, S1.out.2.1.stay hst, S1.out.2.2.stay hst, hT, hown, (by rw [hNp]; exact hst.size)⟩
  clear hcall hst S1 hown hT hn hc hNp
  obtain ⟨Nq, hNq⟩ : ∃ N, N = w2.heap.size := ⟨_, rfl⟩
  have Gp : Hid (Np ≤ Nq ∧ ∀ k, (Value.slice pa A.length pc).ownBlock = some k → k < Nq) := by rw [hNq]; exact ⟨Ep.out, Fp.out⟩
  clear Ep Fp
  have hcall := sort_by w2 (some ⟨gx, 0, none⟩) gx 0 cx l S2.out.2.2.1.things (fun h => by cases h) (by have := HB.out; omega)
  go_wp2_with fail
  refine hcall.mono ?_
  rintro e w3 ⟨v, rfl, hown, hst⟩
  rw [← HE.out.1] at hown
  obtain ⟨qa, qb, qc, rfl, hT, hn, hc⟩ := hown.shape
  have Cq : Hid ((qa = none → qc = 0 ∧ A = []) ∧ A.length ≤ qc) := ⟨hn, hc⟩
  rw [← hNq] at hown
  have Eq : Hid (Nq ≤ w3.heap.size) := by rw [hNq]; exact hst.size
  have Fq : Hid (∀ k, (Value.slice qa A.length qc).ownBlock = some k → k < w3.heap.size) := fun k e => (hown.lt k e).2
  have S3 : Hid (Stay w w3 ∧ ThS w3 a1 b1 o1 l ∧ LentH 0 w3 gx cx l ∧ ThS w3 pa pb 0 A ∧ OwnT Np w3 (.slice pa A.length pc) A ∧ Np ≤ w3.heap.size ∧ ThS w3 qa qb 0 A ∧ OwnT Nq w3 (.slice qa A.length qc) A) := ⟨S2.out.1.trans hst, S2.out.2.1.stay hst, S2.out.2.2.1.stay hst, S2.out.2.2.2.1.stay hst, S2.out.2.2.2.2.1.stay hst, Nat.le_trans (S2.out.2.2.2.2.2) hst.size, hT, hown⟩
  clear hcall hst S2 hown hT hn hc hNq
  obtain ⟨Nr, hNr⟩ : ∃ N, N = w3.heap.size := ⟨_, rfl⟩
  have Gq : Hid (Nq ≤ Nr ∧ ∀ k, (Value.slice qa A.length qc).ownBlock = some k → k < Nr) := by rw [hNr]; exact ⟨Eq.out, Fq.out⟩
  clear Eq Fq
  have hcall := set_by w3 (some ⟨gx, 0, none⟩) gx 0 cx l S3.out.2.2.1.things (fun h => by cases h) (by have := HB.out; omega)
  go_wp2_with fail
  refine hcall.mono ?_
  rintro e w4 ⟨v, rfl, hown, hst⟩
  rw [← HE.out.2.1] at hown
  obtain ⟨ra, rb, rc, rfl, hT, hn, hc⟩ := hown.shape
  have Cr : Hid ((ra = none → rc = 0 ∧ C = []) ∧ C.length ≤ rc) := ⟨hn, hc⟩
  rw [← hNr] at hown
  have Er : Hid (Nr ≤ w4.heap.size) := by rw [hNr]; exact hst.size
  have Fr : Hid (∀ k, (Value.slice ra C.length rc).ownBlock = some k → k < w4.heap.size) := fun k e => (hown.lt k e).2
  have S4 : Hid (Stay w w4 ∧ ThS w4 a1 b1 o1 l ∧ LentH 0 w4 gx cx l ∧ ThS w4 pa pb 0 A ∧ OwnT Np w4 (.slice pa A.length pc) A ∧ Np ≤ w4.heap.size ∧ ThS w4 qa qb 0 A ∧ OwnT Nq w4 (.slice qa A.length qc) A ∧ ThS w4 ra rb 0 C ∧ OwnT Nr w4 (.slice ra C.length rc) C) := ⟨S3.out.1.trans hst, S3.out.2.1.stay hst, S3.out.2.2.1.stay hst, S3.out.2.2.2.1.stay hst, S3.out.2.2.2.2.1.stay hst, Nat.le_trans (S3.out.2.2.2.2.2.1) hst.size, S3.out.2.2.2.2.2.2.1.stay hst, S3.out.2.2.2.2.2.2.2.stay hst, hT, hown⟩
  clear hcall hst S3 hown hT hn hc hNr
  obtain ⟨Ns, hNs⟩ : ∃ N, N = w4.heap.size := ⟨_, rfl⟩
  have Gr : Hid (Nr ≤ Ns ∧ ∀ k, (Value.slice ra C.length rc).ownBlock = some k → k < Ns) := by rw [hNs]; exact ⟨Er.out, Fr.out⟩
  clear Er Fr
  have hcall := set_by w4 (some ⟨gx, 0, none⟩) gx 0 cx l S4.out.2.2.1.things (fun h => by cases h) (by have := HB.out; omega)
  go_wp2_with fail
  refine hcall.mono ?_
  rintro e w5 ⟨v, rfl, hown, hst⟩
  rw [← HE.out.2.1] at hown
  obtain ⟨sa, sb, sc, rfl, hT, hn, hc⟩ := hown.shape
  have Cs : Hid ((sa = none → sc = 0 ∧ C = []) ∧ C.length ≤ sc) := ⟨hn, hc⟩
  rw [← hNs] at hown
  have Es : Hid (Ns ≤ w5.heap.size) := by rw [hNs]; exact hst.size
  have Fs : Hid (∀ k, (Value.slice sa C.length sc).ownBlock = some k → k < w5.heap.size) := fun k e => (hown.lt k e).2
  have S5 : Hid (Stay w w5 ∧ ThS w5 a1 b1 o1 l ∧ LentH 0 w5 gx cx l ∧ ThS w5 pa pb 0 A ∧ OwnT Np w5 (.slice pa A.length pc) A ∧ Np ≤ w5.heap.size ∧ ThS w5 qa qb 0 A ∧ OwnT Nq w5 (.slice qa A.length qc) A ∧ ThS w5 ra rb 0 C ∧ OwnT Nr w5 (.slice ra C.length rc) C ∧ ThS w5 sa sb 0 C ∧ OwnT Ns w5 (.slice sa C.length sc) C) := ⟨S4.out.1.trans hst, S4.out.2.1.stay hst, S4.out.2.2.1.stay hst, S4.out.2.2.2.1.stay hst, S4.out.2.2.2.2.1.stay hst, Nat.le_trans (S4.out.2.2.2.2.2.1) hst.size, S4.out.2.2.2.2.2.2.1.stay hst, S4.out.2.2.2.2.2.2.2.1.stay hst, S4.out.2.2.2.2.2.2.2.2.1.stay hst, S4.out.2.2.2.2.2.2.2.2.2.stay hst, hT, hown⟩
  clear hcall hst S4 hown hT hn hc hNs
  have hcall := sorted_any ordBy orderOf_yes w5 (some ⟨gx, 0, none⟩) gx 0 cx l S5.out.2.2.1.things (by have := HB.out; omega)
  go_wp2_with fail
  refine hcall.mono ?_
  rintro e w6 ⟨⟨q1, rfl, hq⟩, hst⟩
  have HQ : Hid (q1 = true ↔ RisK (fun x => x.1) l) := hq
  have S6 : Hid (Stay w w6 ∧ ThS w6 a1 b1 o1 l ∧ LentH 0 w6 gx cx l ∧ ThS w6 pa pb 0 A ∧ OwnT Np w6 (.slice pa A.length pc) A ∧ Np ≤ w6.heap.size ∧ ThS w6 qa qb 0 A ∧ OwnT Nq w6 (.slice qa A.length qc) A ∧ ThS w6 ra rb 0 C ∧ OwnT Nr w6 (.slice ra C.length rc) C ∧ ThS w6 sa sb 0 C ∧ OwnT Ns w6 (.slice sa C.length sc) C) := ⟨S5.out.1.trans hst, S5.out.2.1.stay hst, S5.out.2.2.1.stay hst, S5.out.2.2.2.1.stay hst, S5.out.2.2.2.2.1.stay hst, Nat.le_trans (S5.out.2.2.2.2.2.1) hst.size, S5.out.2.2.2.2.2.2.1.stay hst, S5.out.2.2.2.2.2.2.2.1.stay hst, S5.out.2.2.2.2.2.2.2.2.1.stay hst, S5.out.2.2.2.2.2.2.2.2.2.1.stay hst, S5.out.2.2.2.2.2.2.2.2.2.2.1.stay hst, S5.out.2.2.2.2.2.2.2.2.2.2.2.stay hst⟩
  clear hcall hst S5 hq
  have hcall := rsorted_any w6 a1 b1 o1 c1 l S6.out.2.1 (by have := HB.out; omega)
  go_wp2_with fail
  refine hcall.mono ?_
  rintro e w7 ⟨⟨q2, rfl, hq⟩, hst⟩
  obtain rfl : q2 = q1 := by rw [Bool.eq_iff_iff, hq]; exact HQ.out.symm
  have hqq : (q2 != q2) = false := by simp
  have S7 : Hid (Stay w w7 ∧ ThS w7 a1 b1 o1 l ∧ LentH 0 w7 gx cx l ∧ ThS w7 pa pb 0 A ∧ OwnT Np w7 (.slice pa A.length pc) A ∧ Np ≤ w7.heap.size ∧ ThS w7 qa qb 0 A ∧ OwnT Nq w7 (.slice qa A.length qc) A ∧ ThS w7 ra rb 0 C ∧ OwnT Nr w7 (.slice ra C.length rc) C ∧ ThS w7 sa sb 0 C ∧ OwnT Ns w7 (.slice sa C.length sc) C) := ⟨S6.out.1.trans hst, S6.out.2.1.stay hst, S6.out.2.2.1.stay hst, S6.out.2.2.2.1.stay hst, S6.out.2.2.2.2.1.stay hst, Nat.le_trans (S6.out.2.2.2.2.2.1) hst.size, S6.out.2.2.2.2.2.2.1.stay hst, S6.out.2.2.2.2.2.2.2.1.stay hst, S6.out.2.2.2.2.2.2.2.2.1.stay hst, S6.out.2.2.2.2.2.2.2.2.2.1.stay hst, S6.out.2.2.2.2.2.2.2.2.2.2.1.stay hst, S6.out.2.2.2.2.2.2.2.2.2.2.2.stay hst⟩
  clear hcall hst S6 hq HQ
  have hcall := rsort_any w7 a1 b1 o1 c1 l S7.out.2.1 (by have := HB.out; omega)
  go_wp2_with fail
  refine hcall.mono ?_
  rintro e w8 ⟨v, rfl, hown, hst⟩
  rw [← HE.out.1] at hown
  obtain ⟨ta, tb, tc, rfl, hT, hn, hc⟩ := hown.shape
  have Ct : Hid ((ta = none → tc = 0 ∧ A = []) ∧ A.length ≤ tc) := ⟨hn, hc⟩
  have S8 : Hid (Stay w w8 ∧ ThS w8 a1 b1 o1 l ∧ LentH 0 w8 gx cx l ∧ ThS w8 pa pb 0 A ∧ OwnT Np w8 (.slice pa A.length pc) A ∧ Np ≤ w8.heap.size ∧ ThS w8 qa qb 0 A ∧ OwnT Nq w8 (.slice qa A.length qc) A ∧ ThS w8 ra rb 0 C ∧ OwnT Nr w8 (.slice ra C.length rc) C ∧ ThS w8 sa sb 0 C ∧ OwnT Ns w8 (.slice sa C.length sc) C ∧ ThS w8 ta tb 0 A) := ⟨S7.out.1.trans hst, S7.out.2.1.stay hst, S7.out.2.2.1.stay hst, S7.out.2.2.2.1.stay hst, S7.out.2.2.2.2.1.stay hst, Nat.le_trans (S7.out.2.2.2.2.2.1) hst.size, S7.out.2.2.2.2.2.2.1.stay hst, S7.out.2.2.2.2.2.2.2.1.stay hst, S7.out.2.2.2.2.2.2.2.2.1.stay hst, S7.out.2.2.2.2.2.2.2.2.2.1.stay hst, S7.out.2.2.2.2.2.2.2.2.2.2.1.stay hst, S7.out.2.2.2.2.2.2.2.2.2.2.2.stay hst, hT⟩
  clear hcall hst S7 hown hT hn hc
  have hsame := same_any w8 pa ta pb 0 tb 0 pc tc A A S8.out.2.2.2.1 S8.out.2.2.2.2.2.2.2.2.2.2.2.2 (by have := HB.out; unfold maxLen; omega) (by have := HB.out; unfold maxLen; omega)
  rw [show decide (A = A) = true by simp] at hsame
  have hcall := hsame
  go_wp2_with fail
  refine hcall.mono ?_
  rintro e w9 ⟨rfl, hst⟩
  have S9 : Hid (Stay w w9 ∧ ThS w9 a1 b1 o1 l ∧ LentH 0 w9 gx cx l ∧ ThS w9 pa pb 0 A ∧ OwnT Np w9 (.slice pa A.length pc) A ∧ Np ≤ w9.heap.size ∧ ThS w9 qa qb 0 A ∧ OwnT Nq w9 (.slice qa A.length qc) A ∧ ThS w9 ra rb 0 C ∧ OwnT Nr w9 (.slice ra C.length rc) C ∧ ThS w9 sa sb 0 C ∧ OwnT Ns w9 (.slice sa C.length sc) C ∧ ThS w9 ta tb 0 A) := ⟨S8.out.1.trans hst, S8.out.2.1.stay hst, S8.out.2.2.1.stay hst, S8.out.2.2.2.1.stay hst, S8.out.2.2.2.2.1.stay hst, Nat.le_trans (S8.out.2.2.2.2.2.1) hst.size, S8.out.2.2.2.2.2.2.1.stay hst, S8.out.2.2.2.2.2.2.2.1.stay hst, S8.out.2.2.2.2.2.2.2.2.1.stay hst, S8.out.2.2.2.2.2.2.2.2.2.1.stay hst, S8.out.2.2.2.2.2.2.2.2.2.2.1.stay hst, S8.out.2.2.2.2.2.2.2.2.2.2.2.1.stay hst, S8.out.2.2.2.2.2.2.2.2.2.2.2.2.stay hst⟩
  clear hcall hst S8 hsame
  have S10 : Hid (Stay w w9 ∧ ThS w9 a1 b1 o1 l ∧ LentH 0 w9 gx cx l ∧ ThS w9 pa pb 0 A ∧ OwnT Np w9 (.slice pa A.length pc) A ∧ Np ≤ w9.heap.size ∧ ThS w9 qa qb 0 A ∧ OwnT Nq w9 (.slice qa A.length qc) A ∧ ThS w9 ra rb 0 C ∧ OwnT Nr w9 (.slice ra C.length rc) C ∧ ThS w9 sa sb 0 C ∧ OwnT Ns w9 (.slice sa C.length sc) C) := ⟨S9.out.1, S9.out.2.1, S9.out.2.2.1, S9.out.2.2.2.1, S9.out.2.2.2.2.1, S9.out.2.2.2.2.2.1, S9.out.2.2.2.2.2.2.1, S9.out.2.2.2.2.2.2.2.1, S9.out.2.2.2.2.2.2.2.2.1, S9.out.2.2.2.2.2.2.2.2.2.1, S9.out.2.2.2.2.2.2.2.2.2.2.1, S9.out.2.2.2.2.2.2.2.2.2.2.2.1⟩
  clear S9
  have hsame := same_any w9 qa pa qb 0 pb 0 qc pc A A S10.out.2.2.2.2.2.2.1 S10.out.2.2.2.1 (by have := HB.out; unfold maxLen; omega) (by have := HB.out; unfold maxLen; omega)
  rw [show decide (A = A) = true by simp] at hsame
  have hcall := hsame
  go_wp2_with fail
  refine hcall.mono ?_
  rintro e w11 ⟨rfl, hst⟩
  have S11 : Hid (Stay w w11 ∧ ThS w11 a1 b1 o1 l ∧ LentH 0 w11 gx cx l ∧ ThS w11 pa pb 0 A ∧ OwnT Np w11 (.slice pa A.length pc) A ∧ Np ≤ w11.heap.size ∧ ThS w11 qa qb 0 A ∧ OwnT Nq w11 (.slice qa A.length qc) A ∧ ThS w11 ra rb 0 C ∧ OwnT Nr w11 (.slice ra C.length rc) C ∧ ThS w11 sa sb 0 C ∧ OwnT Ns w11 (.slice sa C.length sc) C) := ⟨S10.out.1.trans hst, S10.out.2.1.stay hst, S10.out.2.2.1.stay hst, S10.out.2.2.2.1.stay hst, S10.out.2.2.2.2.1.stay hst, Nat.le_trans (S10.out.2.2.2.2.2.1) hst.size, S10.out.2.2.2.2.2.2.1.stay hst, S10.out.2.2.2.2.2.2.2.1.stay hst, S10.out.2.2.2.2.2.2.2.2.1.stay hst, S10.out.2.2.2.2.2.2.2.2.2.1.stay hst, S10.out.2.2.2.2.2.2.2.2.2.2.1.stay hst, S10.out.2.2.2.2.2.2.2.2.2.2.2.stay hst⟩
  clear hcall hst S10 hsame
  have hcall := rset_any w11 a1 b1 o1 c1 l S11.out.2.1 (by have := HB.out; omega)
  go_wp2_with fail
  refine hcall.mono ?_
  rintro e w12 ⟨v, rfl, hown, hst⟩
  rw [← HE.out.2.1] at hown
  obtain ⟨ta, tb, tc, rfl, hT, hn, hc⟩ := hown.shape
  have Ct : Hid ((ta = none → tc = 0 ∧ C = []) ∧ C.length ≤ tc) := ⟨hn, hc⟩
  have S12 : Hid (Stay w w12 ∧ ThS w12 a1 b1 o1 l ∧ LentH 0 w12 gx cx l ∧ ThS w12 pa pb 0 A ∧ OwnT Np w12 (.slice pa A.length pc) A ∧ Np ≤ w12.heap.size ∧ ThS w12 qa qb 0 A ∧ OwnT Nq w12 (.slice qa A.length qc) A ∧ ThS w12 ra rb 0 C ∧ OwnT Nr w12 (.slice ra C.length rc) C ∧ ThS w12 sa sb 0 C ∧ OwnT Ns w12 (.slice sa C.length sc) C ∧ ThS w12 ta tb 0 C) := ⟨S11.out.1.trans hst, S11.out.2.1.stay hst, S11.out.2.2.1.stay hst, S11.out.2.2.2.1.stay hst, S11.out.2.2.2.2.1.stay hst, Nat.le_trans (S11.out.2.2.2.2.2.1) hst.size, S11.out.2.2.2.2.2.2.1.stay hst, S11.out.2.2.2.2.2.2.2.1.stay hst, S11.out.2.2.2.2.2.2.2.2.1.stay hst, S11.out.2.2.2.2.2.2.2.2.2.1.stay hst, S11.out.2.2.2.2.2.2.2.2.2.2.1.stay hst, S11.out.2.2.2.2.2.2.2.2.2.2.2.stay hst, hT⟩
  clear hcall hst S11 hown hT hn hc
  have hsame := same_any w12 ra ta rb 0 tb 0 rc tc C C S12.out.2.2.2.2.2.2.2.2.1 S12.out.2.2.2.2.2.2.2.2.2.2.2.2 (by have := HB.out; unfold maxLen; omega) (by have := HB.out; unfold maxLen; omega)
  rw [show decide (C = C) = true by simp] at hsame
  have hcall := hsame
  go_wp2_with fail
  refine hcall.mono ?_
  rintro e w13 ⟨rfl, hst⟩
  have S13 : Hid (Stay w w13 ∧ ThS w13 a1 b1 o1 l ∧ LentH 0 w13 gx cx l ∧ ThS w13 pa pb 0 A ∧ OwnT Np w13 (.slice pa A.length pc) A ∧ Np ≤ w13.heap.size ∧ ThS w13 qa qb 0 A ∧ OwnT Nq w13 (.slice qa A.length qc) A ∧ ThS w13 ra rb 0 C ∧ OwnT Nr w13 (.slice ra C.length rc) C ∧ ThS w13 sa sb 0 C ∧ OwnT Ns w13 (.slice sa C.length sc) C ∧ ThS w13 ta tb 0 C) := ⟨S12.out.1.trans hst, S12.out.2.1.stay hst, S12.out.2.2.1.stay hst, S12.out.2.2.2.1.stay hst, S12.out.2.2.2.2.1.stay hst, Nat.le_trans (S12.out.2.2.2.2.2.1) hst.size, S12.out.2.2.2.2.2.2.1.stay hst, S12.out.2.2.2.2.2.2.2.1.stay hst, S12.out.2.2.2.2.2.2.2.2.1.stay hst, S12.out.2.2.2.2.2.2.2.2.2.1.stay hst, S12.out.2.2.2.2.2.2.2.2.2.2.1.stay hst, S12.out.2.2.2.2.2.2.2.2.2.2.2.1.stay hst, S12.out.2.2.2.2.2.2.2.2.2.2.2.2.stay hst⟩
  clear hcall hst S12 hsame
  have S14 : Hid (Stay w w13 ∧ ThS w13 a1 b1 o1 l ∧ LentH 0 w13 gx cx l ∧ ThS w13 pa pb 0 A ∧ OwnT Np w13 (.slice pa A.length pc) A ∧ Np ≤ w13.heap.size ∧ ThS w13 qa qb 0 A ∧ OwnT Nq w13 (.slice qa A.length qc) A ∧ ThS w13 ra rb 0 C ∧ OwnT Nr w13 (.slice ra C.length rc) C ∧ ThS w13 sa sb 0 C ∧ OwnT Ns w13 (.slice sa C.length sc) C) := ⟨S13.out.1, S13.out.2.1, S13.out.2.2.1, S13.out.2.2.2.1, S13.out.2.2.2.2.1, S13.out.2.2.2.2.2.1, S13.out.2.2.2.2.2.2.1, S13.out.2.2.2.2.2.2.2.1, S13.out.2.2.2.2.2.2.2.2.1, S13.out.2.2.2.2.2.2.2.2.2.1, S13.out.2.2.2.2.2.2.2.2.2.2.1, S13.out.2.2.2.2.2.2.2.2.2.2.2.1⟩
  clear S13
  have hsame := same_any w13 sa ra sb 0 rb 0 sc rc C C S14.out.2.2.2.2.2.2.2.2.2.2.1 S14.out.2.2.2.2.2.2.2.2.1 (by have := HB.out; unfold maxLen; omega) (by have := HB.out; unfold maxLen; omega)
  rw [show decide (C = C) = true by simp] at hsame
  have hcall := hsame
  go_wp2_with fail
  refine hcall.mono ?_
  rintro e w15 ⟨rfl, hst⟩
  have S15 : Hid (Stay w w15 ∧ ThS w15 a1 b1 o1 l ∧ LentH 0 w15 gx cx l ∧ ThS w15 pa pb 0 A ∧ OwnT Np w15 (.slice pa A.length pc) A ∧ Np ≤ w15.heap.size ∧ ThS w15 qa qb 0 A ∧ OwnT Nq w15 (.slice qa A.length qc) A ∧ ThS w15 ra rb 0 C ∧ OwnT Nr w15 (.slice ra C.length rc) C ∧ ThS w15 sa sb 0 C ∧ OwnT Ns w15 (.slice sa C.length sc) C) := ⟨S14.out.1.trans hst, S14.out.2.1.stay hst, S14.out.2.2.1.stay hst, S14.out.2.2.2.1.stay hst, S14.out.2.2.2.2.1.stay hst, Nat.le_trans (S14.out.2.2.2.2.2.1) hst.size, S14.out.2.2.2.2.2.2.1.stay hst, S14.out.2.2.2.2.2.2.2.1.stay hst, S14.out.2.2.2.2.2.2.2.2.1.stay hst, S14.out.2.2.2.2.2.2.2.2.2.1.stay hst, S14.out.2.2.2.2.2.2.2.2.2.2.1.stay hst, S14.out.2.2.2.2.2.2.2.2.2.2.2.stay hst⟩
  clear hcall hst S14 hsame
  have hcall := kept_any w15 gx cx a1 b1 o1 c1 0 l S15.out.2.2.1 S15.out.2.1
  go_wp2_with fail
  refine hcall.mono ?_
  rintro e w16 ⟨rfl, hst⟩
  have S16 : Hid (Stay w w16 ∧ ThS w16 a1 b1 o1 l ∧ LentH 0 w16 gx cx l ∧ ThS w16 pa pb 0 A ∧ OwnT Np w16 (.slice pa A.length pc) A ∧ Np ≤ w16.heap.size ∧ ThS w16 qa qb 0 A ∧ OwnT Nq w16 (.slice qa A.length qc) A ∧ ThS w16 ra rb 0 C ∧ OwnT Nr w16 (.slice ra C.length rc) C ∧ ThS w16 sa sb 0 C ∧ OwnT Ns w16 (.slice sa C.length sc) C) := ⟨S15.out.1.trans hst, S15.out.2.1.stay hst, S15.out.2.2.1.stay hst, S15.out.2.2.2.1.stay hst, S15.out.2.2.2.2.1.stay hst, Nat.le_trans (S15.out.2.2.2.2.2.1) hst.size, S15.out.2.2.2.2.2.2.1.stay hst, S15.out.2.2.2.2.2.2.2.1.stay hst, S15.out.2.2.2.2.2.2.2.2.1.stay hst, S15.out.2.2.2.2.2.2.2.2.2.1.stay hst, S15.out.2.2.2.2.2.2.2.2.2.2.1.stay hst, S15.out.2.2.2.2.2.2.2.2.2.2.2.stay hst⟩
  clear hcall hst S15
  have hcall := sorted_any ordBy orderOf_yes w16 pa pb 0 pc A S16.out.2.2.2.1 (by have := HB.out; omega)
  go_wp2_with fail
  refine hcall.mono ?_
  rintro e w17 ⟨⟨q3, rfl, hq⟩, hst⟩
  obtain rfl : q3 = true := hq.2 HE.out.2.2.2
  have S17 : Hid (Stay w w17 ∧ ThS w17 a1 b1 o1 l ∧ LentH 0 w17 gx cx l ∧ ThS w17 pa pb 0 A ∧ OwnT Np w17 (.slice pa A.length pc) A ∧ Np ≤ w17.heap.size ∧ ThS w17 qa qb 0 A ∧ OwnT Nq w17 (.slice qa A.length qc) A ∧ ThS w17 ra rb 0 C ∧ OwnT Nr w17 (.slice ra C.length rc) C ∧ ThS w17 sa sb 0 C ∧ OwnT Ns w17 (.slice sa C.length sc) C) := ⟨S16.out.1.trans hst, S16.out.2.1.stay hst, S16.out.2.2.1.stay hst, S16.out.2.2.2.1.stay hst, S16.out.2.2.2.2.1.stay hst, Nat.le_trans (S16.out.2.2.2.2.2.1) hst.size, S16.out.2.2.2.2.2.2.1.stay hst, S16.out.2.2.2.2.2.2.2.1.stay hst, S16.out.2.2.2.2.2.2.2.2.1.stay hst, S16.out.2.2.2.2.2.2.2.2.2.1.stay hst, S16.out.2.2.2.2.2.2.2.2.2.2.1.stay hst, S16.out.2.2.2.2.2.2.2.2.2.2.2.stay hst⟩
  clear hcall hst S16 hq
  have hcall := sort_by w17 pa pb 0 pc A S17.out.2.2.2.1 Cp.out.1 (by have := HB.out; omega)
  go_wp2_with fail
  refine hcall.mono ?_
  rintro e w18 ⟨v, rfl, hown, hst⟩
  rw [HE.out.2.2.1] at hown
  obtain ⟨ta, tb, tc, rfl, hT, hn, hc⟩ := hown.shape
  have Ct : Hid ((ta = none → tc = 0 ∧ A = []) ∧ A.length ≤ tc) := ⟨hn, hc⟩
  have S18 : Hid (Stay w w18 ∧ ThS w18 a1 b1 o1 l ∧ LentH 0 w18 gx cx l ∧ ThS w18 pa pb 0 A ∧ OwnT Np w18 (.slice pa A.length pc) A ∧ Np ≤ w18.heap.size ∧ ThS w18 qa qb 0 A ∧ OwnT Nq w18 (.slice qa A.length qc) A ∧ ThS w18 ra rb 0 C ∧ OwnT Nr w18 (.slice ra C.length rc) C ∧ ThS w18 sa sb 0 C ∧ OwnT Ns w18 (.slice sa C.length sc) C ∧ ThS w18 ta tb 0 A) := ⟨S17.out.1.trans hst, S17.out.2.1.stay hst, S17.out.2.2.1.stay hst, S17.out.2.2.2.1.stay hst, S17.out.2.2.2.2.1.stay hst, Nat.le_trans (S17.out.2.2.2.2.2.1) hst.size, S17.out.2.2.2.2.2.2.1.stay hst, S17.out.2.2.2.2.2.2.2.1.stay hst, S17.out.2.2.2.2.2.2.2.2.1.stay hst, S17.out.2.2.2.2.2.2.2.2.2.1.stay hst, S17.out.2.2.2.2.2.2.2.2.2.2.1.stay hst, S17.out.2.2.2.2.2.2.2.2.2.2.2.stay hst, hT⟩
  clear hcall hst S17 hown hT hn hc
  have hsame := same_any w18 ta pa tb 0 pb 0 tc pc A A S18.out.2.2.2.2.2.2.2.2.2.2.2.2 S18.out.2.2.2.1 (by have := HB.out; unfold maxLen; omega) (by have := HB.out; unfold maxLen; omega)
  rw [show decide (A = A) = true by simp] at hsame
  have hcall := hsame
  go_wp2_with fail
  refine hcall.mono ?_
  rintro e w19 ⟨rfl, hst⟩
  have S19 : Hid (Stay w w19 ∧ ThS w19 a1 b1 o1 l ∧ LentH 0 w19 gx cx l ∧ ThS w19 pa pb 0 A ∧ OwnT Np w19 (.slice pa A.length pc) A ∧ Np ≤ w19.heap.size ∧ ThS w19 qa qb 0 A ∧ OwnT Nq w19 (.slice qa A.length qc) A ∧ ThS w19 ra rb 0 C ∧ OwnT Nr w19 (.slice ra C.length rc) C ∧ ThS w19 sa sb 0 C ∧ OwnT Ns w19 (.slice sa C.length sc) C ∧ ThS w19 ta tb 0 A) := ⟨S18.out.1.trans hst, S18.out.2.1.stay hst, S18.out.2.2.1.stay hst, S18.out.2.2.2.1.stay hst, S18.out.2.2.2.2.1.stay hst, Nat.le_trans (S18.out.2.2.2.2.2.1) hst.size, S18.out.2.2.2.2.2.2.1.stay hst, S18.out.2.2.2.2.2.2.2.1.stay hst, S18.out.2.2.2.2.2.2.2.2.1.stay hst, S18.out.2.2.2.2.2.2.2.2.2.1.stay hst, S18.out.2.2.2.2.2.2.2.2.2.2.1.stay hst, S18.out.2.2.2.2.2.2.2.2.2.2.2.1.stay hst, S18.out.2.2.2.2.2.2.2.2.2.2.2.2.stay hst⟩
  clear hcall hst S18 hsame
  have S20 : Hid (Stay w w19 ∧ ThS w19 a1 b1 o1 l ∧ LentH 0 w19 gx cx l ∧ ThS w19 pa pb 0 A ∧ OwnT Np w19 (.slice pa A.length pc) A ∧ Np ≤ w19.heap.size ∧ ThS w19 qa qb 0 A ∧ OwnT Nq w19 (.slice qa A.length qc) A ∧ ThS w19 ra rb 0 C ∧ OwnT Nr w19 (.slice ra C.length rc) C ∧ ThS w19 sa sb 0 C ∧ OwnT Ns w19 (.slice sa C.length sc) C) := ⟨S19.out.1, S19.out.2.1, S19.out.2.2.1, S19.out.2.2.2.1, S19.out.2.2.2.2.1, S19.out.2.2.2.2.2.1, S19.out.2.2.2.2.2.2.1, S19.out.2.2.2.2.2.2.2.1, S19.out.2.2.2.2.2.2.2.2.1, S19.out.2.2.2.2.2.2.2.2.2.1, S19.out.2.2.2.2.2.2.2.2.2.2.1, S19.out.2.2.2.2.2.2.2.2.2.2.2.1⟩
  clear S19
  have hFL := four_lists S20.out.2.2.2.2.1 S20.out.2.2.2.2.2.2.2.1 S20.out.2.2.2.2.2.2.2.2.2.1 S20.out.2.2.2.2.2.2.2.2.2.2.2 Gp.out.2 Gq.out.2 Gr.out.2 Gp.out.1 Gq.out.1 Gr.out.1
  have hsB : Stay w19 (w19.alloc (.cells #[.slice pa A.length pc, .slice qa A.length qc, .slice ra C.length rc, .slice sa C.length sc] 29)) := Stay.new _ _
  have hap := apart_any _ Np w19.heap.size 4 (four (.slice pa A.length pc) (.slice qa A.length qc) (.slice ra C.length rc) (.slice sa C.length sc)) (fourL A A C C) hFL (by rw [World.size_alloc]; omega) (by decide) (fun i hi => by
    have := HB.out
    match i, hi with
    | 0, _ => show (A.length + 31) * 16 ≤ _; omega
    | 1, _ => show (A.length + 31) * 16 ≤ _; omega
    | 2, _ => show (C.length + 31) * 16 ≤ _; omega
    | 3, _ => show (C.length + 31) * 16 ≤ _; omega) (Nat.le_trans (S20.out.2.2.2.2.2.1) hsB.size)
  have hap2 : Calls Try.prog 26 #[.slice (some ⟨w19.heap.size, 0, none⟩) 4 4] (w19.alloc (.cells #[.slice pa A.length pc, .slice qa A.length qc, .slice ra C.length rc, .slice sa C.length sc] 29)) fun e w' => e = .returned (.bool true) ∧ Hid (Stay w w' ∧ ThS w' a1 b1 o1 l ∧ LentH 0 w' gx cx l) := by
    refine hap.mono ?_
    rintro e w' ⟨he, hT⟩
    have hS : ∀ b, b < Np → ¬ (∃ i, i < 4 ∧ (four (.slice pa A.length pc) (.slice qa A.length qc) (.slice ra C.length rc) (.slice sa C.length sc) i).ownBlock = some b) := by
      rintro b hb ⟨i, hi, e⟩
      have := (hFL.own i hi).lt b e
      omega
    have g0 := G0.out
    exact ⟨he, hT.stay (S20.out.1.trans hsB) (fun k hk => hS k (by omega)), ths_turn2 (S20.out.2.1.stay hsB) hT (fun h => hS _ (g0.2.1 h)), (S20.out.2.2.1.stay hsB).turn hT (hS _ g0.1)⟩
  clear hap hFL hsB
  go_wp2_with fail
  refine hap2.mono ?_
  rintro e w21 ⟨rfl, S21⟩
  clear hap2 S20 Gp Gq Gr Es Fs Cp Cq Cr Cs G0
  have hcall := kept_any w21 gx cx a1 b1 o1 c1 0 l S21.out.2.2 S21.out.2.1
  go_wp2_with fail
  refine hcall.mono ?_
  rintro e w22 ⟨rfl, hst⟩
  have S22 : Hid (Stay w w22 ∧ ThS w22 a1 b1 o1 l ∧ LentH 0 w22 gx cx l) := ⟨S21.out.1.trans hst, S21.out.2.1.stay hst, S21.out.2.2.stay hst⟩
  clear hcall hst S21
  obtain ⟨Ni, hNi⟩ : ∃ N, N = w22.heap.size := ⟨_, rfl⟩
  have G0 : Hid (gx < Ni ∧ (0 < l.length → b1 < Ni) ∧ w.heap.size ≤ Ni) := by rw [hNi]; exact ⟨S22.out.2.2.1.lt, fun h => World.block_lt_of_cell? _ _ (S22.out.2.1.2 0 h).1, S22.out.1.size⟩
  have hcall := sort_nil w22 (some ⟨gx, 0, none⟩) gx 0 cx l S22.out.2.2.things (fun h => by cases h) (by have := HB.out; omega)
  go_wp2_with fail
  refine hcall.mono ?_
  rintro e w23 ⟨v, rfl, hown, hst⟩
  obtain ⟨ia, ib, ic, rfl, hT, hn, hc⟩ := hown.shape
  have Ci : Hid ((ia = none → ic = 0 ∧ l = []) ∧ l.length ≤ ic) := ⟨hn, hc⟩
  rw [← hNi] at hown
  have Ei : Hid (Ni ≤ w23.heap.size) := by rw [hNi]; exact hst.size
  have Fi : Hid (∀ k, (Value.slice ia l.length ic).ownBlock = some k → k < w23.heap.size) := fun k e => (hown.lt k e).2
  have S23 : Hid (Stay w w23 ∧ ThS w23 a1 b1 o1 l ∧ LentH 0 w23 gx cx l ∧ ThS w23 ia ib 0 l ∧ OwnT Ni w23 (.slice ia l.length ic) l ∧ Ni ≤ w23.heap.size) := ⟨S22.out.1.trans hst, S22.out.2.1.stay hst, S22.out.2.2.stay hst, hT, hown, (by rw [hNi]; exact hst.size)⟩
  clear hcall hst S22 hown hT hn hc hNi
  obtain ⟨O, hO⟩ : ∃ O, O = l.take 1 := ⟨_, rfl⟩
  have HO : Hid (O = l.take 1) := hO
  clear hO
  obtain ⟨Nj, hNj⟩ : ∃ N, N = w23.heap.size := ⟨_, rfl⟩
  have Gi : Hid (Ni ≤ Nj ∧ ∀ k, (Value.slice ia l.length ic).ownBlock = some k → k < Nj) := by rw [hNj]; exact ⟨Ei.out, Fi.out⟩
  clear Ei Fi
  have hcall := set_nil w23 (some ⟨gx, 0, none⟩) gx 0 cx l S23.out.2.2.1.things (fun h => by cases h) (by have := HB.out; omega)
  go_wp2_with fail
  refine hcall.mono ?_
  rintro e w24 ⟨v, rfl, hown, hst⟩
  rw [← HO.out] at hown
  obtain ⟨ja, jb, jc, rfl, hT, hn, hc⟩ := hown.shape
  have Cj : Hid ((ja = none → jc = 0 ∧ O = []) ∧ O.length ≤ jc) := ⟨hn, hc⟩
  rw [← hNj] at hown
  have Ej : Hid (Nj ≤ w24.heap.size) := by rw [hNj]; exact hst.size
  have Fj : Hid (∀ k, (Value.slice ja O.length jc).ownBlock = some k → k < w24.heap.size) := fun k e => (hown.lt k e).2
  have S24 : Hid (Stay w w24 ∧ ThS w24 a1 b1 o1 l ∧ LentH 0 w24 gx cx l ∧ ThS w24 ia ib 0 l ∧ OwnT Ni w24 (.slice ia l.length ic) l ∧ Ni ≤ w24.heap.size ∧ ThS w24 ja jb 0 O ∧ OwnT Nj w24 (.slice ja O.length jc) O) := ⟨S23.out.1.trans hst, S23.out.2.1.stay hst, S23.out.2.2.1.stay hst, S23.out.2.2.2.1.stay hst, S23.out.2.2.2.2.1.stay hst, Nat.le_trans (S23.out.2.2.2.2.2) hst.size, hT, hown⟩
  clear hcall hst S23 hown hT hn hc hNj
  have mixed : Try.prog.follows .mixedOrders = true := by kernel_rfl
  have hsame : ∀ W, Stay w24 W → Calls Try.prog 22 #[.slice ia l.length ic, .slice a1 l.length c1] W fun e w' => e = .returned (.bool true) ∧ Stay W w' := fun W hW => by
    have := same_any W ia a1 ib 0 b1 o1 ic c1 l l ((S24.out.2.2.2.1).stay hW) ((S24.out.2.1).stay hW) (by have := HB.out; unfold maxLen; omega) (by have := HB.out; unfold maxLen; omega)
    rwa [show decide (l = l) = true by simp] at this
  have hsrt : ∀ W, Stay w24 W → Calls Try.prog 20 #[.slice (some ⟨gx, 0, none⟩) l.length cx, .nilFunc] W fun e w' => e = .returned (.bool true) ∧ Stay W w' := fun W hW =>
    (sorted_any ordNo orderOf_nil W (some ⟨gx, 0, none⟩) gx 0 cx l ((S24.out.2.2.1).stay hW).things (by have := HB.out; omega)).mono fun e w' ⟨⟨q, he, hq⟩, hs⟩ => ⟨by rw [he, hq.2 (risk_none l)], hs⟩
  go_upto_region 12 with fail
  go_cut [9, 118] from 12 (fun v9 vc wx => v9 = .slice ja O.length jc ∧ vc = .bool false ∧ Stay w24 wx)
  case first =>
    by_cases hl0 : 0 < l.length
    · have hl1 : (0 : Int) < (l.length : Int) := by omega
      obtain ⟨y, hy⟩ : ∃ y, l[0]? = some y := ⟨_, List.getElem?_eq_getElem hl0⟩
      have hOl : O.length = 1 := by rw [HO.out, List.length_take]; omega
      have hcj := (S24.out.2.2.2.2.2.2.1).2 0 (by omega)
      have hcl := (S24.out.2.1).2 0 hl0
      have ej : O[0]'(by omega) = y := by
        have : O[0]? = some y := by rw [HO.out, List.getElem?_take_of_lt (by omega)]; exact hy
        exact (List.getElem?_eq_some_iff.1 this).2
      have el : l[0] = y := (List.getElem?_eq_some_iff.1 hy).2
      rw [ej] at hcj
      rw [el] at hcl
      obtain rfl := (S24.out.2.2.2.2.2.2.1).1 (by omega)
      obtain rfl := (S24.out.2.1).1 hl0
      rw [hOl]
      obtain ⟨y1, y2⟩ := y
      have hS0 := four_keep (Z := w24) (Stay.drew w24) ⟨hcl.1, hcl.2, by simpa using hcj.1, by simpa using hcj.2, Stay.refl w24⟩
      simp only [Nat.zero_mul, Nat.add_zero] at hS0
      have hne : ∀ W, (binOp .neq 33 (.agg #[.int .i64 y1, .int .i64 y2]) (.agg #[.int .i64 y1, .int .i64 y2])).run Try.prog W = .ok (.bool false) W := fun W => by rw [neqT]; simp
      have hg := guardT
      have hmin : min (1 : Int) (l.length : Int) = 1 := by omega
      have hp1 : (0 : Int) < 1 := by omega
      have HOl : Hid (O.length = 1) := hOl
      clear hcj hcl ej el hOl hy
      go_region_held3 (fun W => W.cell? ⟨b1, o1, none⟩ = some (.int .i64 y1) ∧ W.cell? ⟨b1, o1 + 1, none⟩ = some (.int .i64 y2) ∧ W.cell? ⟨jb, 0, none⟩ = some (.int .i64 y1) ∧ W.cell? ⟨jb, 1, none⟩ = some (.int .i64 y2) ∧ Hid (Stay w24 W)) (first | assumption | (exact four_keep (by assumption) (by assumption))) (first
        | (go_at_call 22; refine (hsame _ (four_stay (by assumption))).mono ?_; rintro e8 w8 ⟨rfl, hs8⟩)
        | (go_at_call 20; refine (hsrt _ (four_stay (by assumption))).mono ?_; rintro e8 w8 ⟨rfl, hs8⟩))
      have HS8 : Hid (Stay w24 w8) := four_stay (Z := w24) (g := b1) (o := o1) (B := jb) (by assumption)
      clear hS0 hs8
      go_wp2_with fail
      go_meet
      case rel => exact ⟨by rw [HOl.out], rfl, HS8.out⟩
    · obtain rfl : l = [] := List.eq_nil_of_length_eq_zero (by omega)
      obtain rfl : O = [] := HO.out
      clear hl0 hlI hsame hsrt
      have hq1 : ∀ n, Calls Try.prog 22 #[.slice ia 0 ic, .slice a1 0 c1] ((w24).drewN n) fun e w' => e = .returned (.bool true) ∧ ∃ m, w' = (w24).drewN m := fun n => (same_none _ ia a1 ic c1).mono fun e w' ⟨h1, h2⟩ => ⟨h1, n, h2⟩
      have hq2 : ∀ n, Calls Try.prog 20 #[.slice (some ⟨gx, 0, none⟩) 0 cx, .nilFunc] ((w24).drewN n) fun e w' => e = .returned (.bool true) ∧ ∃ m, w' = (w24).drewN m := fun n => (sorted_none _ _ cx).mono fun e w' ⟨h1, h2⟩ => ⟨h1, n, h2⟩
      simp only [List.length_nil]
      have hmin : min (1 : Int) 0 = 0 := by decide
      have hmin2 : ((0 : Int) != min 1 0) = false := by decide
      refine wp_region_quiet_lit (by kernel_rfl) (by kernel_rfl) ?_
      repeat (go_big_quiet_step (first | (go_at_call 22; exact hq1 _) | (go_at_call 20; exact hq2 _)))
      refine wpQuiet_nil ?_
      intro _ hw'
      obtain ⟨nq, hw''⟩ := hw'
      subst hw''
      clear hq1 hq2
      go_wp2_with fail
      go_meet
      case rel => exact ⟨rfl, rfl, Stay.drewN _ _⟩
  case rest =>
    obtain ⟨rfl, rfl, hst⟩ := hcut
    have HR : Hid (Stay w wc ∧ RowT wc gx cx (l ++ marksT 9) ∧ OwnT Ni wc (.slice ia l.length ic) l ∧ OwnT Nj wc (.slice ja O.length jc) O ∧ Nj ≤ wc.heap.size ∧ Ni ≤ wc.heap.size) := ⟨(S24.out.1).trans hst, ((S24.out.2.2.1).stay hst).1, (S24.out.2.2.2.2.1).stay hst, (S24.out.2.2.2.2.2.2.2).stay hst, Nat.le_trans Ej.out hst.size, Nat.le_trans (S24.out.2.2.2.2.2.1) hst.size⟩
    clear S24 hst hsame hsrt mixed Ej Fj
    go_wp2
    go_loopw [10] (fun vi wr => ∃ (k : Nat) (l2 : List (Int × Int)), k ≤ l.length ∧ vi = .int .i64 k ∧ l2.length = l.length ∧ RowT wr gx cx (l2 ++ marksT 9) ∧ Turn (fun j => j = gx) wc wr) (fun vi _ => l.length - (intOf vi).toNat)
    case atStart => exact ⟨0, l, Nat.zero_le _, rfl, rfl, HR.out.2.1, Turn.refl _ _⟩
    case round =>
      obtain ⟨k, l2, hk, rfl, hl2, hRow, hT⟩ := hrel
      by_cases hlt : k < l.length
      · have hi1 : (k : Int) < (l.length : Int) := by omega
        obtain ⟨x, hx⟩ : ∃ x, l2[k]? = some x := ⟨_, List.getElem?_eq_getElem (by omega)⟩
        have hx2 : (l2 ++ marksT 9)[k]? = some x := by rw [List.getElem?_append_left (by omega)]; exact hx
        obtain ⟨d0, d1⟩ := hRow.cells k x hx2
        have fz := hRow.free
        have HS : Hid (∀ z, RowT (wr.setCell ⟨gx, k * 2, none⟩ (.int .i64 z)) gx cx (l2.set k (z, x.2) ++ marksT 9)) := fun z => by
          have := hRow.rank k x hx2 z
          rwa [List.set_append, if_pos (by omega)] at this
        have HT : Hid (Turn (fun j => j = gx) wc wr ∧ l2.length = l.length) := ⟨hT, hl2⟩
        obtain ⟨x1, x2⟩ := x
        dsimp only at d0 d1
        clear hl2 hRow hT hx hx2
        go_wp2
        exact ⟨⟨k + 1, _, by omega, by go_num, by rw [List.length_set]; exact HT.out.2, HS.out _, HT.out.1.set rfl _ _⟩, by simp [intOf]; omega⟩
      · have hi1 : ¬ (k : Int) < (l.length : Int) := by omega
        have g0 := G0.out
        have HR2 : Hid (Stay w wr ∧ LentH 0 wr gx cx l2 ∧ OwnT Ni wr (.slice ia l.length ic) l ∧ OwnT Nj wr (.slice ja O.length jc) O ∧ Nj ≤ wr.heap.size ∧ Ni ≤ wr.heap.size ∧ l2.length = l.length ∧ (l.length + 40) * 16 ≤ 140737488355328) :=
          ⟨hT.stay HR.out.1 (fun b hb e => by have := GX.out; omega), ⟨hRow, Nat.zero_le _⟩, HR.out.2.2.1.turn hT (fun b e h => by have := (HR.out.2.2.1.lt b e).1; omega), HR.out.2.2.2.1.turn hT (fun b e h => by have := (HR.out.2.2.2.1.lt b e).1; have := Gi.out.1; omega), Nat.le_trans HR.out.2.2.2.2.1 hT.size, Nat.le_trans HR.out.2.2.2.2.2 hT.size, hl2, HB.out.2.2.1⟩
        clear g0 hRow hT hl2 HR hk
        have hbd : (([] : List (Int × Int)).length + l2.length) * 16 ≤ 140737488355328 := by rw [List.length_nil]; have := HR2.out; omega
        obtain ⟨v1, u1, hr1, g1, k1, _, _⟩ := append_things (base := wr.heap.size) (w := wr.alloc (.cells #[] 33)) (ts := []) (us := l2) 29 (own_litT wr) (HR2.out.2.1.things.stay (Stay.new wr _)) (c := cx) (fun h => by cases h) hbd (by rw [World.size_alloc]; omega)
        rw [List.nil_append] at g1
        have hs1 : Stay wr u1 := own_grow (Stay.new wr (.cells #[] 33)) (Nat.le_refl _) (own_litT wr) k1
        obtain ⟨na, nb, nc, rfl, hTn, hnn, _⟩ := g1.shape
        obtain ⟨n2, hn2⟩ : ∃ n2, n2 = l2.length := ⟨_, rfl⟩
        obtain ⟨D, hD⟩ : ∃ D, D = sortR l2 := ⟨_, rfl⟩
        have hso := sort_by u1 (some ⟨gx, 0, none⟩) gx 0 cx l2 (HR2.out.2.1.stay hs1).things (fun h => by cases h) (by have := HR2.out; omega)
        rw [HR2.out.2.2.2.2.2.2.1] at hr1 hso
        have HA : Hid ((Builtin.append_ #[29, 29] 29 #[.slice (some ⟨wr.heap.size, 0, none⟩) 0 0, .slice (some ⟨gx, 0, none⟩) l.length cx]).run Try.prog (wr.alloc (.cells #[] 33)) = .ok (.slice na l2.length nc) u1) := by rw [HR2.out.2.2.2.2.2.2.1]; exact hr1
        have HA2 : Hid (Stay wr u1 ∧ ThS u1 na nb 0 l2 ∧ D = sortR l2) := ⟨hs1, hTn, hD⟩
        clear hr1 g1 k1 hs1 hTn hnn hbd hn2
        rw [← hD] at hso
        clear hD
        go_wp2_with (at_builtin; refine wpList_append_by rfl (.tmp 136) (.tmp 137) 29 29 rfl _ _ rfl rfl HA.out ?_)
        refine hso.mono ?_
        rintro e u2 ⟨v, rfl, hown, hst⟩
        obtain ⟨za, zb, zc, rfl, hTz, _, _⟩ := hown.shape
        have HA3 : Hid (Stay wr u2 ∧ ThS u2 na nb 0 l2 ∧ ThS u2 za zb 0 D) := ⟨HA2.out.1.trans hst, HA2.out.2.1.stay hst, hTz⟩
        have hrs := rsort_any u2 na nb 0 nc l2 HA3.out.2.1 (by have := HR2.out; omega)
        rw [← HA2.out.2.2] at hrs
        clear hown hst hTz hso HA
        go_wp2_with fail
        refine hrs.mono ?_
        rintro e u3 ⟨v, rfl, hown, hst⟩
        obtain ⟨ya, yb, yc, rfl, hTy, _, _⟩ := hown.shape
        have HA4 : Hid (Stay wr u3 ∧ ThS u3 za zb 0 D ∧ ThS u3 ya yb 0 D ∧ D.length ≤ maxLen) := ⟨HA3.out.1.trans hst, HA3.out.2.2.stay hst, hTy, by rw [HA2.out.2.2, sortR_len]; have := HR2.out; unfold maxLen; omega⟩
        have hsm := same_any u3 za ya zb 0 yb 0 zc yc D D HA4.out.2.1 HA4.out.2.2.1 HA4.out.2.2.2 HA4.out.2.2.2
        rw [show decide (D = D) = true by simp] at hsm
        clear hown hst hTy hrs HA3
        go_wp2_with fail
        refine hsm.mono ?_
        rintro e u4 ⟨rfl, hst⟩
        have HA5 : Hid (Stay wr u4 ∧ Stay w u4) := ⟨HA4.out.1.trans hst, HR2.out.1.trans (HA4.out.1.trans hst)⟩
        clear hst hsm HA4 HA2
        have hFL := two_lists (HR2.out.2.2.1.stay HA5.out.1) (HR2.out.2.2.2.1.stay HA5.out.1) Gi.out.2 Gi.out.1
        have hsB : Stay u4 (u4.alloc (.cells #[.slice ia l.length ic, .slice ja O.length jc] 29)) := Stay.new _ _
        have hap := apart_any _ Ni u4.heap.size 2 (two2 (.slice ia l.length ic) (.slice ja O.length jc)) (two2L l O) hFL (by rw [World.size_alloc]; omega) (by decide) (fun i hi => by
          have := HR2.out
          have hO9 : O.length ≤ l.length := by rw [HO.out, List.length_take]; omega
          match i, hi with
          | 0, _ => show (l.length + 31) * 16 ≤ _; omega
          | 1, _ => show (O.length + 31) * 16 ≤ _; omega) (Nat.le_trans HR2.out.2.2.2.2.2.1 (Nat.le_trans HA5.out.1.size hsB.size))
        have hap2 : Calls Try.prog 26 #[.slice (some ⟨u4.heap.size, 0, none⟩) 2 2] (u4.alloc (.cells #[.slice ia l.length ic, .slice ja O.length jc] 29)) fun e w' => e = .returned (.bool true) ∧ Hid (Stay w w') := by
          refine hap.mono ?_
          rintro e w' ⟨he, hT⟩
          refine ⟨he, hT.stay (HA5.out.2.trans hsB) (fun k hk => ?_)⟩
          rintro ⟨i, hi, e⟩
          have h8 := (hFL.own i hi).lt k e
          have h9 := G0.out
          omega
        clear hap hFL hsB
        go_wp2_with fail
        refine hap2.mono ?_
        rintro e u5 ⟨rfl, hS5⟩
        clear hap2
        have hwk := works_any u5
        go_wp2_with fail
        refine hwk.mono ?_
        rintro e u6 ⟨rfl, hst⟩
        have HF : Hid (Stay w u6) := hS5.out.trans hst
        clear hst hwk hS5
        go_wp2
        go_ret
        exact ⟨rfl, HF.out⟩
end Go.Proofs.Ytdbilngkokkggaa
