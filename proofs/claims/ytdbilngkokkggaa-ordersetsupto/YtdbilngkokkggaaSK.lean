/- OrderSets: its walk (written by tools/sk.py). -/
import Derived.Test.YtdbilngkokkggaaSG
import Derived.Test.YtdbilngkokkggaaSE
import Derived.Test.YtdbilngkokkggaaSJ
namespace Go.Proofs.Ytdbilngkokkggaa
open Go.RowKit Go.Maps Go.Sort

theorem OwnT.shape {base : Nat} {w : World} {v : Value} {ts : List (Int × Int)} (h : OwnT base w v ts) : ∃ a b c, v = .slice a ts.length c ∧ ThS w a b 0 ts ∧ (a = none → c = 0 ∧ ts = []) ∧ ts.length ≤ c := by
  by_cases hn : v = .slice none 0 0
  · have h0 : ts = [] := by
      rcases h.2 with ⟨_, h2⟩ | ⟨b, c, cur, hv, _⟩
      · exact List.eq_nil_of_length_eq_zero h2
      · rw [hn] at hv; simp at hv
    subst h0 hn
    exact ⟨none, 0, 0, rfl, ⟨fun h => by simp at h, fun j hj => by simp at hj⟩, fun _ => ⟨rfl, rfl⟩, Nat.le_refl _⟩
  · obtain ⟨g, cap, rfl, hR, hb⟩ := h.row hn
    exact ⟨_, g, cap, rfl, hR.things, fun h => (by cases h), hR.len.1⟩
/-- Four values by their numbers. -/
def four (a b c d : Value) : Nat → Value
  | 0 => a
  | 1 => b
  | 2 => c
  | _ => d
def fourL (a b c d : List (Int × Int)) : Nat → List (Int × Int)
  | 0 => a
  | 1 => b
  | 2 => c
  | _ => d
/-- Four lists that came one behind the other stand apart. -/
theorem four_lists {W : World} {va vb vc vd : Value} {la lb lc ld : List (Int × Int)} {n0 n1 n2 n3 : Nat} (h0 : OwnT n0 W va la) (h1 : OwnT n1 W vb lb) (h2 : OwnT n2 W vc lc) (h3 : OwnT n3 W vd ld)
    (k0 : ∀ k, va.ownBlock = some k → k < n1) (k1 : ∀ k, vb.ownBlock = some k → k < n2) (k2 : ∀ k, vc.ownBlock = some k → k < n3) (e1 : n0 ≤ n1) (e2 : n1 ≤ n2) (e3 : n2 ≤ n3) :
    Lists n0 (W.alloc (.cells #[va, vb, vc, vd] 29)) W.heap.size 4 (four va vb vc vd) (fourL la lb lc ld) := by
  have l0 := fun k e => h0.lt k e
  have l1 := fun k e => h1.lt k e
  have l2 := fun k e => h2.lt k e
  have l3 := fun k e => h3.lt k e
  refine ⟨⟨fun i j hi hj hij b hb hb2 => ?_, fun i hi hb => ?_⟩, fun i hi => ?_, fun i hi => ?_⟩
  · have c0 := fun e => And.intro (l0 b e) (k0 b e)
    have c1 := fun e => And.intro (l1 b e) (k1 b e)
    have c2 := fun e => And.intro (l2 b e) (k2 b e)
    have c3 := fun e => l3 b e
    match i, j, hi, hj with
    | 0, 0, _, _ => exact hij rfl
    | 0, 1, _, _ => have := c0 hb; have := c1 hb2; omega
    | 0, 2, _, _ => have := c0 hb; have := c2 hb2; omega
    | 0, 3, _, _ => have := c0 hb; have := c3 hb2; omega
    | 1, 0, _, _ => have := c1 hb; have := c0 hb2; omega
    | 1, 1, _, _ => exact hij rfl
    | 1, 2, _, _ => have := c1 hb; have := c2 hb2; omega
    | 1, 3, _, _ => have := c1 hb; have := c3 hb2; omega
    | 2, 0, _, _ => have := c2 hb; have := c0 hb2; omega
    | 2, 1, _, _ => have := c2 hb; have := c1 hb2; omega
    | 2, 2, _, _ => exact hij rfl
    | 2, 3, _, _ => have := c2 hb; have := c3 hb2; omega
    | 3, 0, _, _ => have := c3 hb; have := c0 hb2; omega
    | 3, 1, _, _ => have := c3 hb; have := c1 hb2; omega
    | 3, 2, _, _ => have := c3 hb; have := c2 hb2; omega
    | 3, 3, _, _ => exact hij rfl
  · match i, hi with
    | 0, _ => have := l0 _ hb; omega
    | 1, _ => have := l1 _ hb; omega
    | 2, _ => have := l2 _ hb; omega
    | 3, _ => have := l3 _ hb; omega
  · have h9 := new_cells W [va, vb, vc, vd] 29
    match i, hi with
    | 0, _ => have := h9 0 va rfl; rwa [add_at] at this
    | 1, _ => have := h9 1 vb rfl; rwa [add_at] at this
    | 2, _ => have := h9 2 vc rfl; rwa [add_at] at this
    | 3, _ => have := h9 3 vd rfl; rwa [add_at] at this
  · match i, hi with
    | 0, _ => exact (h0.alloc _)
    | 1, _ => exact ((h1.alloc _).mono (by omega))
    | 2, _ => exact ((h2.alloc _).mono (by omega))
    | 3, _ => exact ((h3.alloc _).mono (by omega))
theorem ths_turn {S : Nat → Prop} {w w' : World} {a : Option Addr} {b : Nat} {ts : List (Int × Int)} (h : ThS w a b 0 ts) (ht : Turn S w w') (hn : 0 < ts.length → ¬ S b) : ThS w' a b 0 ts :=
  ⟨h.1, fun j hj => ⟨ht.cell (h.2 j hj).1 (hn (by omega)), ht.cell (h.2 j hj).2 (hn (by omega))⟩⟩

set_option maxRecDepth 100000 in
set_option maxHeartbeats 20000000 in
theorem sets_walk (w : World) (a1 a2 : Option Addr) (b1 o1 b2 o2 c1 c2 : Nat) (l m : List (Int × Int)) (h1 : ThS w a1 b1 o1 l) (h2 : ThS w a2 b2 o2 m) (hl : l.length ≤ 1048576) (hm : m.length ≤ 1048576) :
    Calls Try.prog 7 #[.slice a1 l.length c1, .slice a2 m.length c2] w fun e w' => e = .returned (.bool true) ∧ Stay w w' := by
  obtain ⟨s, hs⟩ : ∃ s, s = setR l := ⟨_, rfl⟩
  obtain ⟨t, ht⟩ : ∃ t, t = setR m := ⟨_, rfl⟩
  obtain ⟨U, hU⟩ : ∃ U, U = unionR s t := ⟨_, rfl⟩
  obtain ⟨M, hM⟩ : ∃ M, M = meetR s t := ⟨_, rfl⟩
  obtain ⟨D, hD⟩ : ∃ D, D = minusR s t := ⟨_, rfl⟩
  have stS : Strict s := by rw [hs]; exact set_strict l
  have stT : Strict t := by rw [ht]; exact set_strict m
  have HE : Hid (s = setR l ∧ t = setR m ∧ U = unionR s t ∧ M = meetR s t ∧ D = minusR s t ∧ sortR (s ++ minusR t s) = U ∧ unionR D M = s ∧ minusR s s = [] ∧ meetR s s = s) :=
    ⟨hs, ht, hU, hM, hD, by rw [hU, union_sort stS stT], by rw [hD, hM]; exact union_parts stS t, minus_self s, meet_self s⟩
  have hsl : s.length ≤ 1048576 := by rw [hs]; exact Nat.le_trans (set_len l) hl
  have htl : t.length ≤ 1048576 := by rw [ht]; exact Nat.le_trans (set_len m) hm
  have hul : U.length + M.length = s.length + t.length := by rw [hU, hM]; exact union_len stS stT
  have hml : M.length ≤ s.length := by rw [hM]; exact List.length_filter_le _ _
  have hdl : D.length ≤ s.length := by rw [hD]; exact List.length_filter_le _ _
  have HB : Hid (s.length ≤ 1048576 ∧ t.length ≤ 1048576 ∧ U.length ≤ 2097152 ∧ M.length ≤ 1048576 ∧ D.length ≤ 1048576 ∧ l.length ≤ 1048576 ∧ m.length ≤ 1048576) := ⟨hsl, htl, by omega, by omega, by omega, hl, hm⟩
  have HR : Hid (Rises s ∧ Rises t ∧ Rises D ∧ Rises M) := ⟨stS.rises, stT.rises, by rw [hD]; exact (stS.filter _).rises, by rw [hM]; exact (stS.filter _).rises⟩
  have hw1 : IntKind.i64.wrap ((s.length : Int) + (t.length : Int)) = (s.length : Int) + (t.length : Int) := by rw [IntKind.wrap_i64]; omega
  have hw2 : IntKind.i64.wrap ((s.length : Int) + (t.length : Int) - (M.length : Int)) = (U.length : Int) := by rw [IntKind.wrap_i64]; omega
  have S0 : Hid (Stay w w ∧ ThS w a1 b1 o1 l ∧ ThS w a2 b2 o2 m) := ⟨Stay.refl _, h1, h2⟩
  clear h1 h2 hl hm hs ht hU hM hD stS stT hsl htl hul hml hdl
  go_enter Try.func7, Try.ntmps7
  have hcall := rset_any w a1 b1 o1 c1 l S0.out.2.1 (by have := HB.out; omega)
  go_wp2_with fail
  refine hcall.mono ?_
  rintro e w1 ⟨v, rfl, hown, hst⟩
  rw [← HE.out.1] at hown
  obtain ⟨sa, sb, sc, rfl, hT, hn, hc⟩ := hown.shape
  have Cs : Hid ((sa = none → sc = 0 ∧ s = []) ∧ s.length ≤ sc) := ⟨hn, hc⟩
  have S1 : Hid (Stay w w1 ∧ ThS w1 a1 b1 o1 l ∧ ThS w1 a2 b2 o2 m ∧ ThS w1 sa sb 0 s) := ⟨S0.out.1.trans hst, S0.out.2.1.stay hst, S0.out.2.2.stay hst, hT⟩
  clear hcall hst S0 hown hT hn hc
  have hcall := rset_any w1 a2 b2 o2 c2 m S1.out.2.2.1 (by have := HB.out; omega)
  go_wp2_with fail
  refine hcall.mono ?_
  rintro e w2 ⟨v, rfl, hown, hst⟩
  rw [← HE.out.2.1] at hown
  obtain ⟨ta, tb, tc, rfl, hT, hn, hc⟩ := hown.shape
  have Ct : Hid ((ta = none → tc = 0 ∧ t = []) ∧ t.length ≤ tc) := ⟨hn, hc⟩
  have S2 : Hid (Stay w w2 ∧ ThS w2 a1 b1 o1 l ∧ ThS w2 a2 b2 o2 m ∧ ThS w2 sa sb 0 s ∧ ThS w2 ta tb 0 t) := ⟨S1.out.1.trans hst, S1.out.2.1.stay hst, S1.out.2.2.1.stay hst, S1.out.2.2.2.stay hst, hT⟩
  clear hcall hst S1 hown hT hn hc
  have S3 : Hid (Stay w w2 ∧ ThS w2 sa sb 0 s ∧ ThS w2 ta tb 0 t) := ⟨S2.out.1, S2.out.2.2.2.1, S2.out.2.2.2.2⟩
  clear S2
  have hcall := lend_any w2 sa sb 0 sc s S3.out.2.1 Cs.out.1 (by have := HB.out; omega)
  go_wp2_with fail
  refine hcall.mono ?_
  rintro e w4 ⟨gx, cx, rfl, hle, hst⟩
  have S4 : Hid (Stay w w4 ∧ ThS w4 sa sb 0 s ∧ ThS w4 ta tb 0 t ∧ LentH 0 w4 gx cx s) := ⟨S3.out.1.trans hst, S3.out.2.1.stay hst, S3.out.2.2.stay hst, ⟨hle.1, Nat.zero_le _⟩⟩
  clear hcall hst S3 hle
  have hcall := lend_any w4 ta tb 0 tc t S4.out.2.2.1 Ct.out.1 (by have := HB.out; omega)
  go_wp2_with fail
  refine hcall.mono ?_
  rintro e w5 ⟨gy, cy, rfl, hle, hst⟩
  have S5 : Hid (Stay w w5 ∧ ThS w5 sa sb 0 s ∧ ThS w5 ta tb 0 t ∧ LentH 0 w5 gx cx s ∧ LentH 0 w5 gy cy t) := ⟨S4.out.1.trans hst, S4.out.2.1.stay hst, S4.out.2.2.1.stay hst, S4.out.2.2.2.stay hst, ⟨hle.1, Nat.zero_le _⟩⟩
  clear hcall hst S4 hle
  obtain ⟨Nu, hNu⟩ : ∃ N, N = w5.heap.size := ⟨_, rfl⟩
  have G0 : Hid (gx < Nu ∧ gy < Nu ∧ (0 < s.length → sb < Nu) ∧ (0 < t.length → tb < Nu) ∧ w.heap.size ≤ Nu) := by rw [hNu]; exact ⟨S5.out.2.2.2.1.1.lt, S5.out.2.2.2.2.1.lt, fun h => World.block_lt_of_cell? _ _ (S5.out.2.1.2 0 h).1, fun h => World.block_lt_of_cell? _ _ (S5.out.2.2.1.2 0 h).1, S5.out.1.size⟩
  have hcall := union_any w5 (some ⟨gx, 0, none⟩) (some ⟨gy, 0, none⟩) gx 0 gy 0 cx cy s t S5.out.2.2.2.1.things S5.out.2.2.2.2.things (by have := HB.out; omega) (by have := S5.out.2.2.2.1.bound; omega) (by have := S5.out.2.2.2.2.bound; omega) (fun h => by cases h) (fun h => by cases h)
  go_wp2_with fail
  refine hcall.mono ?_
  rintro e w6 ⟨v, rfl, hown, hst⟩
  rw [← HE.out.2.2.1] at hown
  obtain ⟨ua, ub, uc, rfl, hT, hn, hc⟩ := hown.shape
  have Cu : Hid ((ua = none → uc = 0 ∧ U = []) ∧ U.length ≤ uc) := ⟨hn, hc⟩
  rw [← hNu] at hown
  have Eu : Hid (Nu ≤ w6.heap.size) := by rw [hNu]; exact hst.size
  have Fu : Hid (∀ k, (Value.slice ua U.length uc).ownBlock = some k → k < w6.heap.size) := fun k e => (hown.lt k e).2
  have S6 : Hid (Stay w w6 ∧ ThS w6 sa sb 0 s ∧ ThS w6 ta tb 0 t ∧ LentH 0 w6 gx cx s ∧ LentH 0 w6 gy cy t ∧ ThS w6 ua ub 0 U ∧ OwnT Nu w6 (.slice ua U.length uc) U ∧ Nu ≤ w6.heap.size) := ⟨S5.out.1.trans hst, S5.out.2.1.stay hst, S5.out.2.2.1.stay hst, S5.out.2.2.2.1.stay hst, S5.out.2.2.2.2.stay hst, hT, hown, (by rw [hNu]; exact hst.size)⟩
  clear hcall hst S5 hown hT hn hc hNu
  obtain ⟨Nm, hNm⟩ : ∃ N, N = w6.heap.size := ⟨_, rfl⟩
  have Gu : Hid (Nu ≤ Nm ∧ ∀ k, (Value.slice ua U.length uc).ownBlock = some k → k < Nm) := by rw [hNm]; exact ⟨Eu.out, Fu.out⟩
  clear Eu Fu
  have hcall := meet_any w6 (some ⟨gx, 0, none⟩) (some ⟨gy, 0, none⟩) gx 0 gy 0 cx cy s t S6.out.2.2.2.1.things S6.out.2.2.2.2.1.things HR.out.1 HR.out.2.1 (by have := HB.out; omega) (by have := S6.out.2.2.2.2.1.bound; omega) (by have := HB.out; omega)
  go_wp2_with fail
  refine hcall.mono ?_
  rintro e w7 ⟨v, rfl, hown, hst⟩
  rw [← HE.out.2.2.2.1] at hown
  obtain ⟨ma, mb, mc, rfl, hT, hn, hc⟩ := hown.shape
  have Cm : Hid ((ma = none → mc = 0 ∧ M = []) ∧ M.length ≤ mc) := ⟨hn, hc⟩
  rw [← hNm] at hown
  have Em : Hid (Nm ≤ w7.heap.size) := by rw [hNm]; exact hst.size
  have Fm : Hid (∀ k, (Value.slice ma M.length mc).ownBlock = some k → k < w7.heap.size) := fun k e => (hown.lt k e).2
  have S7 : Hid (Stay w w7 ∧ ThS w7 sa sb 0 s ∧ ThS w7 ta tb 0 t ∧ LentH 0 w7 gx cx s ∧ LentH 0 w7 gy cy t ∧ ThS w7 ua ub 0 U ∧ OwnT Nu w7 (.slice ua U.length uc) U ∧ Nu ≤ w7.heap.size ∧ ThS w7 ma mb 0 M ∧ OwnT Nm w7 (.slice ma M.length mc) M) := ⟨S6.out.1.trans hst, S6.out.2.1.stay hst, S6.out.2.2.1.stay hst, S6.out.2.2.2.1.stay hst, S6.out.2.2.2.2.1.stay hst, S6.out.2.2.2.2.2.1.stay hst, S6.out.2.2.2.2.2.2.1.stay hst, Nat.le_trans (S6.out.2.2.2.2.2.2.2) hst.size, hT, hown⟩
  clear hcall hst S6 hown hT hn hc hNm
  obtain ⟨Nd, hNd⟩ : ∃ N, N = w7.heap.size := ⟨_, rfl⟩
  have Gm : Hid (Nm ≤ Nd ∧ ∀ k, (Value.slice ma M.length mc).ownBlock = some k → k < Nd) := by rw [hNd]; exact ⟨Em.out, Fm.out⟩
  clear Em Fm
  have hcall := minus_any w7 (some ⟨gx, 0, none⟩) (some ⟨gy, 0, none⟩) gx 0 gy 0 cx cy s t S7.out.2.2.2.1.things S7.out.2.2.2.2.1.things HR.out.1 HR.out.2.1 (by have := HB.out; omega) (by have := S7.out.2.2.2.2.1.bound; omega) (by have := HB.out; omega)
  go_wp2_with fail
  refine hcall.mono ?_
  rintro e w8 ⟨v, rfl, hown, hst⟩
  rw [← HE.out.2.2.2.2.1] at hown
  obtain ⟨da, db, dc, rfl, hT, hn, hc⟩ := hown.shape
  have Cd : Hid ((da = none → dc = 0 ∧ D = []) ∧ D.length ≤ dc) := ⟨hn, hc⟩
  rw [← hNd] at hown
  have Ed : Hid (Nd ≤ w8.heap.size) := by rw [hNd]; exact hst.size
  have Fd : Hid (∀ k, (Value.slice da D.length dc).ownBlock = some k → k < w8.heap.size) := fun k e => (hown.lt k e).2
  have S8 : Hid (Stay w w8 ∧ ThS w8 sa sb 0 s ∧ ThS w8 ta tb 0 t ∧ LentH 0 w8 gx cx s ∧ LentH 0 w8 gy cy t ∧ ThS w8 ua ub 0 U ∧ OwnT Nu w8 (.slice ua U.length uc) U ∧ Nu ≤ w8.heap.size ∧ ThS w8 ma mb 0 M ∧ OwnT Nm w8 (.slice ma M.length mc) M ∧ ThS w8 da db 0 D ∧ OwnT Nd w8 (.slice da D.length dc) D) := ⟨S7.out.1.trans hst, S7.out.2.1.stay hst, S7.out.2.2.1.stay hst, S7.out.2.2.2.1.stay hst, S7.out.2.2.2.2.1.stay hst, S7.out.2.2.2.2.2.1.stay hst, S7.out.2.2.2.2.2.2.1.stay hst, Nat.le_trans (S7.out.2.2.2.2.2.2.2.1) hst.size, S7.out.2.2.2.2.2.2.2.2.1.stay hst, S7.out.2.2.2.2.2.2.2.2.2.stay hst, hT, hown⟩
  clear hcall hst S7 hown hT hn hc hNd
  obtain ⟨Nv, hNv⟩ : ∃ N, N = w8.heap.size := ⟨_, rfl⟩
  have Gd : Hid (Nd ≤ Nv ∧ ∀ k, (Value.slice da D.length dc).ownBlock = some k → k < Nv) := by rw [hNv]; exact ⟨Ed.out, Fd.out⟩
  clear Ed Fd
  have hcall := union_any w8 (some ⟨gx, 0, none⟩) (some ⟨gy, 0, none⟩) gx 0 gy 0 cx cy s t S8.out.2.2.2.1.things S8.out.2.2.2.2.1.things (by have := HB.out; omega) (by have := S8.out.2.2.2.1.bound; omega) (by have := S8.out.2.2.2.2.1.bound; omega) (fun h => by cases h) (fun h => by cases h)
  go_wp2_with fail
  refine hcall.mono ?_
  rintro e w9 ⟨v, rfl, hown, hst⟩
  rw [← HE.out.2.2.1] at hown
  obtain ⟨va, vb, vc, rfl, hT, hn, hc⟩ := hown.shape
  have Cv : Hid ((va = none → vc = 0 ∧ U = []) ∧ U.length ≤ vc) := ⟨hn, hc⟩
  rw [← hNv] at hown
  have Ev : Hid (Nv ≤ w9.heap.size) := by rw [hNv]; exact hst.size
  have Fv : Hid (∀ k, (Value.slice va U.length vc).ownBlock = some k → k < w9.heap.size) := fun k e => (hown.lt k e).2
  have S9 : Hid (Stay w w9 ∧ ThS w9 sa sb 0 s ∧ ThS w9 ta tb 0 t ∧ LentH 0 w9 gx cx s ∧ LentH 0 w9 gy cy t ∧ ThS w9 ua ub 0 U ∧ OwnT Nu w9 (.slice ua U.length uc) U ∧ Nu ≤ w9.heap.size ∧ ThS w9 ma mb 0 M ∧ OwnT Nm w9 (.slice ma M.length mc) M ∧ ThS w9 da db 0 D ∧ OwnT Nd w9 (.slice da D.length dc) D ∧ ThS w9 va vb 0 U ∧ OwnT Nv w9 (.slice va U.length vc) U) := ⟨S8.out.1.trans hst, S8.out.2.1.stay hst, S8.out.2.2.1.stay hst, S8.out.2.2.2.1.stay hst, S8.out.2.2.2.2.1.stay hst, S8.out.2.2.2.2.2.1.stay hst, S8.out.2.2.2.2.2.2.1.stay hst, Nat.le_trans (S8.out.2.2.2.2.2.2.2.1) hst.size, S8.out.2.2.2.2.2.2.2.2.1.stay hst, S8.out.2.2.2.2.2.2.2.2.2.1.stay hst, S8.out.2.2.2.2.2.2.2.2.2.2.1.stay hst, S8.out.2.2.2.2.2.2.2.2.2.2.2.stay hst, hT, hown⟩
  clear hcall hst S8 hown hT hn hc hNv
  have hcall := runion_any w9 sa ta sb 0 tb 0 sc tc s t S9.out.2.1 S9.out.2.2.1 Cs.out.1 (by have := HB.out; omega)
  go_wp2_with fail
  refine hcall.mono ?_
  rintro e w10 ⟨v, rfl, hown, hst⟩
  rw [HE.out.2.2.2.2.2.1] at hown
  obtain ⟨pa, pb, pc, rfl, hT, hn, hc⟩ := hown.shape
  have Cp : Hid ((pa = none → pc = 0 ∧ U = []) ∧ U.length ≤ pc) := ⟨hn, hc⟩
  have S10 : Hid (Stay w w10 ∧ ThS w10 sa sb 0 s ∧ ThS w10 ta tb 0 t ∧ LentH 0 w10 gx cx s ∧ LentH 0 w10 gy cy t ∧ ThS w10 ua ub 0 U ∧ OwnT Nu w10 (.slice ua U.length uc) U ∧ Nu ≤ w10.heap.size ∧ ThS w10 ma mb 0 M ∧ OwnT Nm w10 (.slice ma M.length mc) M ∧ ThS w10 da db 0 D ∧ OwnT Nd w10 (.slice da D.length dc) D ∧ ThS w10 va vb 0 U ∧ OwnT Nv w10 (.slice va U.length vc) U ∧ ThS w10 pa pb 0 U) := ⟨S9.out.1.trans hst, S9.out.2.1.stay hst, S9.out.2.2.1.stay hst, S9.out.2.2.2.1.stay hst, S9.out.2.2.2.2.1.stay hst, S9.out.2.2.2.2.2.1.stay hst, S9.out.2.2.2.2.2.2.1.stay hst, Nat.le_trans (S9.out.2.2.2.2.2.2.2.1) hst.size, S9.out.2.2.2.2.2.2.2.2.1.stay hst, S9.out.2.2.2.2.2.2.2.2.2.1.stay hst, S9.out.2.2.2.2.2.2.2.2.2.2.1.stay hst, S9.out.2.2.2.2.2.2.2.2.2.2.2.1.stay hst, S9.out.2.2.2.2.2.2.2.2.2.2.2.2.1.stay hst, S9.out.2.2.2.2.2.2.2.2.2.2.2.2.2.stay hst, hT⟩
  clear hcall hst S9 hown hT hn hc
  have hsame := same_any w10 ua pa ub 0 pb 0 uc pc U U S10.out.2.2.2.2.2.1 S10.out.2.2.2.2.2.2.2.2.2.2.2.2.2.2 (by have := HB.out; unfold maxLen; omega) (by have := HB.out; unfold maxLen; omega)
  rw [show decide (U = U) = true by simp] at hsame
  have hcall := hsame
  go_wp2_with fail
  refine hcall.mono ?_
  rintro e w11 ⟨rfl, hst⟩
  have S11 : Hid (Stay w w11 ∧ ThS w11 sa sb 0 s ∧ ThS w11 ta tb 0 t ∧ LentH 0 w11 gx cx s ∧ LentH 0 w11 gy cy t ∧ ThS w11 ua ub 0 U ∧ OwnT Nu w11 (.slice ua U.length uc) U ∧ Nu ≤ w11.heap.size ∧ ThS w11 ma mb 0 M ∧ OwnT Nm w11 (.slice ma M.length mc) M ∧ ThS w11 da db 0 D ∧ OwnT Nd w11 (.slice da D.length dc) D ∧ ThS w11 va vb 0 U ∧ OwnT Nv w11 (.slice va U.length vc) U ∧ ThS w11 pa pb 0 U) := ⟨S10.out.1.trans hst, S10.out.2.1.stay hst, S10.out.2.2.1.stay hst, S10.out.2.2.2.1.stay hst, S10.out.2.2.2.2.1.stay hst, S10.out.2.2.2.2.2.1.stay hst, S10.out.2.2.2.2.2.2.1.stay hst, Nat.le_trans (S10.out.2.2.2.2.2.2.2.1) hst.size, S10.out.2.2.2.2.2.2.2.2.1.stay hst, S10.out.2.2.2.2.2.2.2.2.2.1.stay hst, S10.out.2.2.2.2.2.2.2.2.2.2.1.stay hst, S10.out.2.2.2.2.2.2.2.2.2.2.2.1.stay hst, S10.out.2.2.2.2.2.2.2.2.2.2.2.2.1.stay hst, S10.out.2.2.2.2.2.2.2.2.2.2.2.2.2.1.stay hst, S10.out.2.2.2.2.2.2.2.2.2.2.2.2.2.2.stay hst⟩
  clear hcall hst S10 hsame
  have S12 : Hid (Stay w w11 ∧ ThS w11 sa sb 0 s ∧ ThS w11 ta tb 0 t ∧ LentH 0 w11 gx cx s ∧ LentH 0 w11 gy cy t ∧ ThS w11 ua ub 0 U ∧ OwnT Nu w11 (.slice ua U.length uc) U ∧ Nu ≤ w11.heap.size ∧ ThS w11 ma mb 0 M ∧ OwnT Nm w11 (.slice ma M.length mc) M ∧ ThS w11 da db 0 D ∧ OwnT Nd w11 (.slice da D.length dc) D ∧ ThS w11 va vb 0 U ∧ OwnT Nv w11 (.slice va U.length vc) U) := ⟨S11.out.1, S11.out.2.1, S11.out.2.2.1, S11.out.2.2.2.1, S11.out.2.2.2.2.1, S11.out.2.2.2.2.2.1, S11.out.2.2.2.2.2.2.1, S11.out.2.2.2.2.2.2.2.1, S11.out.2.2.2.2.2.2.2.2.1, S11.out.2.2.2.2.2.2.2.2.2.1, S11.out.2.2.2.2.2.2.2.2.2.2.1, S11.out.2.2.2.2.2.2.2.2.2.2.2.1, S11.out.2.2.2.2.2.2.2.2.2.2.2.2.1, S11.out.2.2.2.2.2.2.2.2.2.2.2.2.2.1⟩
  clear S11
  have hcall := rmeet_any w11 sa ta sb 0 tb 0 sc tc s t S12.out.2.1 S12.out.2.2.1 (by have := HB.out; omega) (by have := HB.out; unfold maxLen; omega)
  go_wp2_with fail
  refine hcall.mono ?_
  rintro e w13 ⟨v, rfl, hown, hst⟩
  rw [← HE.out.2.2.2.1] at hown
  obtain ⟨qa, qb, qc, rfl, hT, hn, hc⟩ := hown.shape
  have Cq : Hid ((qa = none → qc = 0 ∧ M = []) ∧ M.length ≤ qc) := ⟨hn, hc⟩
  have S13 : Hid (Stay w w13 ∧ ThS w13 sa sb 0 s ∧ ThS w13 ta tb 0 t ∧ LentH 0 w13 gx cx s ∧ LentH 0 w13 gy cy t ∧ ThS w13 ua ub 0 U ∧ OwnT Nu w13 (.slice ua U.length uc) U ∧ Nu ≤ w13.heap.size ∧ ThS w13 ma mb 0 M ∧ OwnT Nm w13 (.slice ma M.length mc) M ∧ ThS w13 da db 0 D ∧ OwnT Nd w13 (.slice da D.length dc) D ∧ ThS w13 va vb 0 U ∧ OwnT Nv w13 (.slice va U.length vc) U ∧ ThS w13 qa qb 0 M) := ⟨S12.out.1.trans hst, S12.out.2.1.stay hst, S12.out.2.2.1.stay hst, S12.out.2.2.2.1.stay hst, S12.out.2.2.2.2.1.stay hst, S12.out.2.2.2.2.2.1.stay hst, S12.out.2.2.2.2.2.2.1.stay hst, Nat.le_trans (S12.out.2.2.2.2.2.2.2.1) hst.size, S12.out.2.2.2.2.2.2.2.2.1.stay hst, S12.out.2.2.2.2.2.2.2.2.2.1.stay hst, S12.out.2.2.2.2.2.2.2.2.2.2.1.stay hst, S12.out.2.2.2.2.2.2.2.2.2.2.2.1.stay hst, S12.out.2.2.2.2.2.2.2.2.2.2.2.2.1.stay hst, S12.out.2.2.2.2.2.2.2.2.2.2.2.2.2.stay hst, hT⟩
  clear hcall hst S12 hown hT hn hc
  have hsame := same_any w13 ma qa mb 0 qb 0 mc qc M M S13.out.2.2.2.2.2.2.2.2.1 S13.out.2.2.2.2.2.2.2.2.2.2.2.2.2.2 (by have := HB.out; unfold maxLen; omega) (by have := HB.out; unfold maxLen; omega)
  rw [show decide (M = M) = true by simp] at hsame
  have hcall := hsame
  go_wp2_with fail
  refine hcall.mono ?_
  rintro e w14 ⟨rfl, hst⟩
  have S14 : Hid (Stay w w14 ∧ ThS w14 sa sb 0 s ∧ ThS w14 ta tb 0 t ∧ LentH 0 w14 gx cx s ∧ LentH 0 w14 gy cy t ∧ ThS w14 ua ub 0 U ∧ OwnT Nu w14 (.slice ua U.length uc) U ∧ Nu ≤ w14.heap.size ∧ ThS w14 ma mb 0 M ∧ OwnT Nm w14 (.slice ma M.length mc) M ∧ ThS w14 da db 0 D ∧ OwnT Nd w14 (.slice da D.length dc) D ∧ ThS w14 va vb 0 U ∧ OwnT Nv w14 (.slice va U.length vc) U ∧ ThS w14 qa qb 0 M) := ⟨S13.out.1.trans hst, S13.out.2.1.stay hst, S13.out.2.2.1.stay hst, S13.out.2.2.2.1.stay hst, S13.out.2.2.2.2.1.stay hst, S13.out.2.2.2.2.2.1.stay hst, S13.out.2.2.2.2.2.2.1.stay hst, Nat.le_trans (S13.out.2.2.2.2.2.2.2.1) hst.size, S13.out.2.2.2.2.2.2.2.2.1.stay hst, S13.out.2.2.2.2.2.2.2.2.2.1.stay hst, S13.out.2.2.2.2.2.2.2.2.2.2.1.stay hst, S13.out.2.2.2.2.2.2.2.2.2.2.2.1.stay hst, S13.out.2.2.2.2.2.2.2.2.2.2.2.2.1.stay hst, S13.out.2.2.2.2.2.2.2.2.2.2.2.2.2.1.stay hst, S13.out.2.2.2.2.2.2.2.2.2.2.2.2.2.2.stay hst⟩
  clear hcall hst S13 hsame
  have S15 : Hid (Stay w w14 ∧ ThS w14 sa sb 0 s ∧ ThS w14 ta tb 0 t ∧ LentH 0 w14 gx cx s ∧ LentH 0 w14 gy cy t ∧ ThS w14 ua ub 0 U ∧ OwnT Nu w14 (.slice ua U.length uc) U ∧ Nu ≤ w14.heap.size ∧ ThS w14 ma mb 0 M ∧ OwnT Nm w14 (.slice ma M.length mc) M ∧ ThS w14 da db 0 D ∧ OwnT Nd w14 (.slice da D.length dc) D ∧ ThS w14 va vb 0 U ∧ OwnT Nv w14 (.slice va U.length vc) U) := ⟨S14.out.1, S14.out.2.1, S14.out.2.2.1, S14.out.2.2.2.1, S14.out.2.2.2.2.1, S14.out.2.2.2.2.2.1, S14.out.2.2.2.2.2.2.1, S14.out.2.2.2.2.2.2.2.1, S14.out.2.2.2.2.2.2.2.2.1, S14.out.2.2.2.2.2.2.2.2.2.1, S14.out.2.2.2.2.2.2.2.2.2.2.1, S14.out.2.2.2.2.2.2.2.2.2.2.2.1, S14.out.2.2.2.2.2.2.2.2.2.2.2.2.1, S14.out.2.2.2.2.2.2.2.2.2.2.2.2.2.1⟩
  clear S14
  have hcall := rminus_any w14 sa ta sb 0 tb 0 sc tc s t S15.out.2.1 S15.out.2.2.1 (by have := HB.out; omega) (by have := HB.out; unfold maxLen; omega)
  go_wp2_with fail
  refine hcall.mono ?_
  rintro e w16 ⟨v, rfl, hown, hst⟩
  rw [← HE.out.2.2.2.2.1] at hown
  obtain ⟨ra, rb, rc, rfl, hT, hn, hc⟩ := hown.shape
  have Cr : Hid ((ra = none → rc = 0 ∧ D = []) ∧ D.length ≤ rc) := ⟨hn, hc⟩
  have S16 : Hid (Stay w w16 ∧ ThS w16 sa sb 0 s ∧ ThS w16 ta tb 0 t ∧ LentH 0 w16 gx cx s ∧ LentH 0 w16 gy cy t ∧ ThS w16 ua ub 0 U ∧ OwnT Nu w16 (.slice ua U.length uc) U ∧ Nu ≤ w16.heap.size ∧ ThS w16 ma mb 0 M ∧ OwnT Nm w16 (.slice ma M.length mc) M ∧ ThS w16 da db 0 D ∧ OwnT Nd w16 (.slice da D.length dc) D ∧ ThS w16 va vb 0 U ∧ OwnT Nv w16 (.slice va U.length vc) U ∧ ThS w16 ra rb 0 D) := ⟨S15.out.1.trans hst, S15.out.2.1.stay hst, S15.out.2.2.1.stay hst, S15.out.2.2.2.1.stay hst, S15.out.2.2.2.2.1.stay hst, S15.out.2.2.2.2.2.1.stay hst, S15.out.2.2.2.2.2.2.1.stay hst, Nat.le_trans (S15.out.2.2.2.2.2.2.2.1) hst.size, S15.out.2.2.2.2.2.2.2.2.1.stay hst, S15.out.2.2.2.2.2.2.2.2.2.1.stay hst, S15.out.2.2.2.2.2.2.2.2.2.2.1.stay hst, S15.out.2.2.2.2.2.2.2.2.2.2.2.1.stay hst, S15.out.2.2.2.2.2.2.2.2.2.2.2.2.1.stay hst, S15.out.2.2.2.2.2.2.2.2.2.2.2.2.2.stay hst, hT⟩
  clear hcall hst S15 hown hT hn hc
  have hsame := same_any w16 da ra db 0 rb 0 dc rc D D S16.out.2.2.2.2.2.2.2.2.2.2.1 S16.out.2.2.2.2.2.2.2.2.2.2.2.2.2.2 (by have := HB.out; unfold maxLen; omega) (by have := HB.out; unfold maxLen; omega)
  rw [show decide (D = D) = true by simp] at hsame
  have hcall := hsame
  go_wp2_with fail
  refine hcall.mono ?_
  rintro e w17 ⟨rfl, hst⟩
  have S17 : Hid (Stay w w17 ∧ ThS w17 sa sb 0 s ∧ ThS w17 ta tb 0 t ∧ LentH 0 w17 gx cx s ∧ LentH 0 w17 gy cy t ∧ ThS w17 ua ub 0 U ∧ OwnT Nu w17 (.slice ua U.length uc) U ∧ Nu ≤ w17.heap.size ∧ ThS w17 ma mb 0 M ∧ OwnT Nm w17 (.slice ma M.length mc) M ∧ ThS w17 da db 0 D ∧ OwnT Nd w17 (.slice da D.length dc) D ∧ ThS w17 va vb 0 U ∧ OwnT Nv w17 (.slice va U.length vc) U ∧ ThS w17 ra rb 0 D) := ⟨S16.out.1.trans hst, S16.out.2.1.stay hst, S16.out.2.2.1.stay hst, S16.out.2.2.2.1.stay hst, S16.out.2.2.2.2.1.stay hst, S16.out.2.2.2.2.2.1.stay hst, S16.out.2.2.2.2.2.2.1.stay hst, Nat.le_trans (S16.out.2.2.2.2.2.2.2.1) hst.size, S16.out.2.2.2.2.2.2.2.2.1.stay hst, S16.out.2.2.2.2.2.2.2.2.2.1.stay hst, S16.out.2.2.2.2.2.2.2.2.2.2.1.stay hst, S16.out.2.2.2.2.2.2.2.2.2.2.2.1.stay hst, S16.out.2.2.2.2.2.2.2.2.2.2.2.2.1.stay hst, S16.out.2.2.2.2.2.2.2.2.2.2.2.2.2.1.stay hst, S16.out.2.2.2.2.2.2.2.2.2.2.2.2.2.2.stay hst⟩
  clear hcall hst S16 hsame
  have S18 : Hid (Stay w w17 ∧ ThS w17 sa sb 0 s ∧ ThS w17 ta tb 0 t ∧ LentH 0 w17 gx cx s ∧ LentH 0 w17 gy cy t ∧ ThS w17 ua ub 0 U ∧ OwnT Nu w17 (.slice ua U.length uc) U ∧ Nu ≤ w17.heap.size ∧ ThS w17 ma mb 0 M ∧ OwnT Nm w17 (.slice ma M.length mc) M ∧ ThS w17 da db 0 D ∧ OwnT Nd w17 (.slice da D.length dc) D ∧ ThS w17 va vb 0 U ∧ OwnT Nv w17 (.slice va U.length vc) U) := ⟨S17.out.1, S17.out.2.1, S17.out.2.2.1, S17.out.2.2.2.1, S17.out.2.2.2.2.1, S17.out.2.2.2.2.2.1, S17.out.2.2.2.2.2.2.1, S17.out.2.2.2.2.2.2.2.1, S17.out.2.2.2.2.2.2.2.2.1, S17.out.2.2.2.2.2.2.2.2.2.1, S17.out.2.2.2.2.2.2.2.2.2.2.1, S17.out.2.2.2.2.2.2.2.2.2.2.2.1, S17.out.2.2.2.2.2.2.2.2.2.2.2.2.1, S17.out.2.2.2.2.2.2.2.2.2.2.2.2.2.1⟩
  clear S17
  have hsame := same_any w17 va ua vb 0 ub 0 vc uc U U S18.out.2.2.2.2.2.2.2.2.2.2.2.2.1 S18.out.2.2.2.2.2.1 (by have := HB.out; unfold maxLen; omega) (by have := HB.out; unfold maxLen; omega)
  rw [show decide (U = U) = true by simp] at hsame
  have hcall := hsame
  go_wp2_with fail
  refine hcall.mono ?_
  rintro e w19 ⟨rfl, hst⟩
  have S19 : Hid (Stay w w19 ∧ ThS w19 sa sb 0 s ∧ ThS w19 ta tb 0 t ∧ LentH 0 w19 gx cx s ∧ LentH 0 w19 gy cy t ∧ ThS w19 ua ub 0 U ∧ OwnT Nu w19 (.slice ua U.length uc) U ∧ Nu ≤ w19.heap.size ∧ ThS w19 ma mb 0 M ∧ OwnT Nm w19 (.slice ma M.length mc) M ∧ ThS w19 da db 0 D ∧ OwnT Nd w19 (.slice da D.length dc) D ∧ ThS w19 va vb 0 U ∧ OwnT Nv w19 (.slice va U.length vc) U) := ⟨S18.out.1.trans hst, S18.out.2.1.stay hst, S18.out.2.2.1.stay hst, S18.out.2.2.2.1.stay hst, S18.out.2.2.2.2.1.stay hst, S18.out.2.2.2.2.2.1.stay hst, S18.out.2.2.2.2.2.2.1.stay hst, Nat.le_trans (S18.out.2.2.2.2.2.2.2.1) hst.size, S18.out.2.2.2.2.2.2.2.2.1.stay hst, S18.out.2.2.2.2.2.2.2.2.2.1.stay hst, S18.out.2.2.2.2.2.2.2.2.2.2.1.stay hst, S18.out.2.2.2.2.2.2.2.2.2.2.2.1.stay hst, S18.out.2.2.2.2.2.2.2.2.2.2.2.2.1.stay hst, S18.out.2.2.2.2.2.2.2.2.2.2.2.2.2.stay hst⟩
  clear hcall hst S18 hsame
  have hcall := kept_any w19 gx cx sa sb 0 sc 0 s S19.out.2.2.2.1 S19.out.2.1
  go_wp2_with fail
  refine hcall.mono ?_
  rintro e w20 ⟨rfl, hst⟩
  have S20 : Hid (Stay w w20 ∧ ThS w20 sa sb 0 s ∧ ThS w20 ta tb 0 t ∧ LentH 0 w20 gx cx s ∧ LentH 0 w20 gy cy t ∧ ThS w20 ua ub 0 U ∧ OwnT Nu w20 (.slice ua U.length uc) U ∧ Nu ≤ w20.heap.size ∧ ThS w20 ma mb 0 M ∧ OwnT Nm w20 (.slice ma M.length mc) M ∧ ThS w20 da db 0 D ∧ OwnT Nd w20 (.slice da D.length dc) D ∧ ThS w20 va vb 0 U ∧ OwnT Nv w20 (.slice va U.length vc) U) := ⟨S19.out.1.trans hst, S19.out.2.1.stay hst, S19.out.2.2.1.stay hst, S19.out.2.2.2.1.stay hst, S19.out.2.2.2.2.1.stay hst, S19.out.2.2.2.2.2.1.stay hst, S19.out.2.2.2.2.2.2.1.stay hst, Nat.le_trans (S19.out.2.2.2.2.2.2.2.1) hst.size, S19.out.2.2.2.2.2.2.2.2.1.stay hst, S19.out.2.2.2.2.2.2.2.2.2.1.stay hst, S19.out.2.2.2.2.2.2.2.2.2.2.1.stay hst, S19.out.2.2.2.2.2.2.2.2.2.2.2.1.stay hst, S19.out.2.2.2.2.2.2.2.2.2.2.2.2.1.stay hst, S19.out.2.2.2.2.2.2.2.2.2.2.2.2.2.stay hst⟩
  clear hcall hst S19
  have hcall := kept_any w20 gy cy ta tb 0 tc 0 t S20.out.2.2.2.2.1 S20.out.2.2.1
  go_wp2_with fail
  refine hcall.mono ?_
  rintro e w21 ⟨rfl, hst⟩
  have S21 : Hid (Stay w w21 ∧ ThS w21 sa sb 0 s ∧ ThS w21 ta tb 0 t ∧ LentH 0 w21 gx cx s ∧ LentH 0 w21 gy cy t ∧ ThS w21 ua ub 0 U ∧ OwnT Nu w21 (.slice ua U.length uc) U ∧ Nu ≤ w21.heap.size ∧ ThS w21 ma mb 0 M ∧ OwnT Nm w21 (.slice ma M.length mc) M ∧ ThS w21 da db 0 D ∧ OwnT Nd w21 (.slice da D.length dc) D ∧ ThS w21 va vb 0 U ∧ OwnT Nv w21 (.slice va U.length vc) U) := ⟨S20.out.1.trans hst, S20.out.2.1.stay hst, S20.out.2.2.1.stay hst, S20.out.2.2.2.1.stay hst, S20.out.2.2.2.2.1.stay hst, S20.out.2.2.2.2.2.1.stay hst, S20.out.2.2.2.2.2.2.1.stay hst, Nat.le_trans (S20.out.2.2.2.2.2.2.2.1) hst.size, S20.out.2.2.2.2.2.2.2.2.1.stay hst, S20.out.2.2.2.2.2.2.2.2.2.1.stay hst, S20.out.2.2.2.2.2.2.2.2.2.2.1.stay hst, S20.out.2.2.2.2.2.2.2.2.2.2.2.1.stay hst, S20.out.2.2.2.2.2.2.2.2.2.2.2.2.1.stay hst, S20.out.2.2.2.2.2.2.2.2.2.2.2.2.2.stay hst⟩
  clear hcall hst S20
  have hcall := union_any w21 da ma db 0 mb 0 dc mc D M S21.out.2.2.2.2.2.2.2.2.2.2.1 S21.out.2.2.2.2.2.2.2.2.1 (by have := HB.out; omega) Cd.out.2 Cm.out.2 (fun h => (Cd.out.1 h).1) (fun h => (Cm.out.1 h).1)
  go_wp2_with fail
  refine hcall.mono ?_
  rintro e w22 ⟨v, rfl, hown, hst⟩
  rw [HE.out.2.2.2.2.2.2.1] at hown
  obtain ⟨za, zb, zc, rfl, hT, hn, hc⟩ := hown.shape
  have Cz : Hid ((za = none → zc = 0 ∧ s = []) ∧ s.length ≤ zc) := ⟨hn, hc⟩
  have S22 : Hid (Stay w w22 ∧ ThS w22 sa sb 0 s ∧ ThS w22 ta tb 0 t ∧ LentH 0 w22 gx cx s ∧ LentH 0 w22 gy cy t ∧ ThS w22 ua ub 0 U ∧ OwnT Nu w22 (.slice ua U.length uc) U ∧ Nu ≤ w22.heap.size ∧ ThS w22 ma mb 0 M ∧ OwnT Nm w22 (.slice ma M.length mc) M ∧ ThS w22 da db 0 D ∧ OwnT Nd w22 (.slice da D.length dc) D ∧ ThS w22 va vb 0 U ∧ OwnT Nv w22 (.slice va U.length vc) U ∧ ThS w22 za zb 0 s) := ⟨S21.out.1.trans hst, S21.out.2.1.stay hst, S21.out.2.2.1.stay hst, S21.out.2.2.2.1.stay hst, S21.out.2.2.2.2.1.stay hst, S21.out.2.2.2.2.2.1.stay hst, S21.out.2.2.2.2.2.2.1.stay hst, Nat.le_trans (S21.out.2.2.2.2.2.2.2.1) hst.size, S21.out.2.2.2.2.2.2.2.2.1.stay hst, S21.out.2.2.2.2.2.2.2.2.2.1.stay hst, S21.out.2.2.2.2.2.2.2.2.2.2.1.stay hst, S21.out.2.2.2.2.2.2.2.2.2.2.2.1.stay hst, S21.out.2.2.2.2.2.2.2.2.2.2.2.2.1.stay hst, S21.out.2.2.2.2.2.2.2.2.2.2.2.2.2.stay hst, hT⟩
  clear hcall hst S21 hown hT hn hc
  have hsame := same_any w22 za sa zb 0 sb 0 zc sc s s S22.out.2.2.2.2.2.2.2.2.2.2.2.2.2.2 S22.out.2.1 (by have := HB.out; unfold maxLen; omega) (by have := HB.out; unfold maxLen; omega)
  rw [show decide (s = s) = true by simp] at hsame
  have hcall := hsame
  go_wp2_with fail
  refine hcall.mono ?_
  rintro e w23 ⟨rfl, hst⟩
  have S23 : Hid (Stay w w23 ∧ ThS w23 sa sb 0 s ∧ ThS w23 ta tb 0 t ∧ LentH 0 w23 gx cx s ∧ LentH 0 w23 gy cy t ∧ ThS w23 ua ub 0 U ∧ OwnT Nu w23 (.slice ua U.length uc) U ∧ Nu ≤ w23.heap.size ∧ ThS w23 ma mb 0 M ∧ OwnT Nm w23 (.slice ma M.length mc) M ∧ ThS w23 da db 0 D ∧ OwnT Nd w23 (.slice da D.length dc) D ∧ ThS w23 va vb 0 U ∧ OwnT Nv w23 (.slice va U.length vc) U ∧ ThS w23 za zb 0 s) := ⟨S22.out.1.trans hst, S22.out.2.1.stay hst, S22.out.2.2.1.stay hst, S22.out.2.2.2.1.stay hst, S22.out.2.2.2.2.1.stay hst, S22.out.2.2.2.2.2.1.stay hst, S22.out.2.2.2.2.2.2.1.stay hst, Nat.le_trans (S22.out.2.2.2.2.2.2.2.1) hst.size, S22.out.2.2.2.2.2.2.2.2.1.stay hst, S22.out.2.2.2.2.2.2.2.2.2.1.stay hst, S22.out.2.2.2.2.2.2.2.2.2.2.1.stay hst, S22.out.2.2.2.2.2.2.2.2.2.2.2.1.stay hst, S22.out.2.2.2.2.2.2.2.2.2.2.2.2.1.stay hst, S22.out.2.2.2.2.2.2.2.2.2.2.2.2.2.1.stay hst, S22.out.2.2.2.2.2.2.2.2.2.2.2.2.2.2.stay hst⟩
  clear hcall hst S22 hsame
  have S24 : Hid (Stay w w23 ∧ ThS w23 sa sb 0 s ∧ ThS w23 ta tb 0 t ∧ LentH 0 w23 gx cx s ∧ LentH 0 w23 gy cy t ∧ ThS w23 ua ub 0 U ∧ OwnT Nu w23 (.slice ua U.length uc) U ∧ Nu ≤ w23.heap.size ∧ ThS w23 ma mb 0 M ∧ OwnT Nm w23 (.slice ma M.length mc) M ∧ ThS w23 da db 0 D ∧ OwnT Nd w23 (.slice da D.length dc) D ∧ ThS w23 va vb 0 U ∧ OwnT Nv w23 (.slice va U.length vc) U) := ⟨S23.out.1, S23.out.2.1, S23.out.2.2.1, S23.out.2.2.2.1, S23.out.2.2.2.2.1, S23.out.2.2.2.2.2.1, S23.out.2.2.2.2.2.2.1, S23.out.2.2.2.2.2.2.2.1, S23.out.2.2.2.2.2.2.2.2.1, S23.out.2.2.2.2.2.2.2.2.2.1, S23.out.2.2.2.2.2.2.2.2.2.2.1, S23.out.2.2.2.2.2.2.2.2.2.2.2.1, S23.out.2.2.2.2.2.2.2.2.2.2.2.2.1, S23.out.2.2.2.2.2.2.2.2.2.2.2.2.2.1⟩
  clear S23
  have hcall := minus_any w23 sa sa sb 0 sb 0 sc sc s s S24.out.2.1 S24.out.2.1 HR.out.1 HR.out.1 (by have := HB.out; omega) Cs.out.2 (by have := HB.out; omega)
  go_wp2_with fail
  refine hcall.mono ?_
  rintro e w25 ⟨v, rfl, hown, hst⟩
  rw [HE.out.2.2.2.2.2.2.2.1] at hown
  obtain ⟨fa, fb, fc, hv, _, _, _⟩ := hown.shape
  rw [List.length_nil] at hv
  subst hv
  have S25 : Hid (Stay w w25 ∧ ThS w25 sa sb 0 s ∧ ThS w25 ta tb 0 t ∧ LentH 0 w25 gx cx s ∧ LentH 0 w25 gy cy t ∧ ThS w25 ua ub 0 U ∧ OwnT Nu w25 (.slice ua U.length uc) U ∧ Nu ≤ w25.heap.size ∧ ThS w25 ma mb 0 M ∧ OwnT Nm w25 (.slice ma M.length mc) M ∧ ThS w25 da db 0 D ∧ OwnT Nd w25 (.slice da D.length dc) D ∧ ThS w25 va vb 0 U ∧ OwnT Nv w25 (.slice va U.length vc) U) := ⟨S24.out.1.trans hst, S24.out.2.1.stay hst, S24.out.2.2.1.stay hst, S24.out.2.2.2.1.stay hst, S24.out.2.2.2.2.1.stay hst, S24.out.2.2.2.2.2.1.stay hst, S24.out.2.2.2.2.2.2.1.stay hst, Nat.le_trans (S24.out.2.2.2.2.2.2.2.1) hst.size, S24.out.2.2.2.2.2.2.2.2.1.stay hst, S24.out.2.2.2.2.2.2.2.2.2.1.stay hst, S24.out.2.2.2.2.2.2.2.2.2.2.1.stay hst, S24.out.2.2.2.2.2.2.2.2.2.2.2.1.stay hst, S24.out.2.2.2.2.2.2.2.2.2.2.2.2.1.stay hst, S24.out.2.2.2.2.2.2.2.2.2.2.2.2.2.stay hst⟩
  clear hcall hst S24 hown
  have hcall := meet_any w25 sa sa sb 0 sb 0 sc sc s s S25.out.2.1 S25.out.2.1 HR.out.1 HR.out.1 (by have := HB.out; omega) Cs.out.2 (by have := HB.out; omega)
  go_wp2_with fail
  refine hcall.mono ?_
  rintro e w26 ⟨v, rfl, hown, hst⟩
  rw [HE.out.2.2.2.2.2.2.2.2] at hown
  obtain ⟨ka, kb, kc, rfl, hT, hn, hc⟩ := hown.shape
  have Ck : Hid ((ka = none → kc = 0 ∧ s = []) ∧ s.length ≤ kc) := ⟨hn, hc⟩
  have S26 : Hid (Stay w w26 ∧ ThS w26 sa sb 0 s ∧ ThS w26 ta tb 0 t ∧ LentH 0 w26 gx cx s ∧ LentH 0 w26 gy cy t ∧ ThS w26 ua ub 0 U ∧ OwnT Nu w26 (.slice ua U.length uc) U ∧ Nu ≤ w26.heap.size ∧ ThS w26 ma mb 0 M ∧ OwnT Nm w26 (.slice ma M.length mc) M ∧ ThS w26 da db 0 D ∧ OwnT Nd w26 (.slice da D.length dc) D ∧ ThS w26 va vb 0 U ∧ OwnT Nv w26 (.slice va U.length vc) U ∧ ThS w26 ka kb 0 s) := ⟨S25.out.1.trans hst, S25.out.2.1.stay hst, S25.out.2.2.1.stay hst, S25.out.2.2.2.1.stay hst, S25.out.2.2.2.2.1.stay hst, S25.out.2.2.2.2.2.1.stay hst, S25.out.2.2.2.2.2.2.1.stay hst, Nat.le_trans (S25.out.2.2.2.2.2.2.2.1) hst.size, S25.out.2.2.2.2.2.2.2.2.1.stay hst, S25.out.2.2.2.2.2.2.2.2.2.1.stay hst, S25.out.2.2.2.2.2.2.2.2.2.2.1.stay hst, S25.out.2.2.2.2.2.2.2.2.2.2.2.1.stay hst, S25.out.2.2.2.2.2.2.2.2.2.2.2.2.1.stay hst, S25.out.2.2.2.2.2.2.2.2.2.2.2.2.2.stay hst, hT⟩
  clear hcall hst S25 hown hT hn hc
  have hsame := same_any w26 ka sa kb 0 sb 0 kc sc s s S26.out.2.2.2.2.2.2.2.2.2.2.2.2.2.2 S26.out.2.1 (by have := HB.out; unfold maxLen; omega) (by have := HB.out; unfold maxLen; omega)
  rw [show decide (s = s) = true by simp] at hsame
  have hcall := hsame
  go_wp2_with fail
  refine hcall.mono ?_
  rintro e w27 ⟨rfl, hst⟩
  have S27 : Hid (Stay w w27 ∧ ThS w27 sa sb 0 s ∧ ThS w27 ta tb 0 t ∧ LentH 0 w27 gx cx s ∧ LentH 0 w27 gy cy t ∧ ThS w27 ua ub 0 U ∧ OwnT Nu w27 (.slice ua U.length uc) U ∧ Nu ≤ w27.heap.size ∧ ThS w27 ma mb 0 M ∧ OwnT Nm w27 (.slice ma M.length mc) M ∧ ThS w27 da db 0 D ∧ OwnT Nd w27 (.slice da D.length dc) D ∧ ThS w27 va vb 0 U ∧ OwnT Nv w27 (.slice va U.length vc) U ∧ ThS w27 ka kb 0 s) := ⟨S26.out.1.trans hst, S26.out.2.1.stay hst, S26.out.2.2.1.stay hst, S26.out.2.2.2.1.stay hst, S26.out.2.2.2.2.1.stay hst, S26.out.2.2.2.2.2.1.stay hst, S26.out.2.2.2.2.2.2.1.stay hst, Nat.le_trans (S26.out.2.2.2.2.2.2.2.1) hst.size, S26.out.2.2.2.2.2.2.2.2.1.stay hst, S26.out.2.2.2.2.2.2.2.2.2.1.stay hst, S26.out.2.2.2.2.2.2.2.2.2.2.1.stay hst, S26.out.2.2.2.2.2.2.2.2.2.2.2.1.stay hst, S26.out.2.2.2.2.2.2.2.2.2.2.2.2.1.stay hst, S26.out.2.2.2.2.2.2.2.2.2.2.2.2.2.1.stay hst, S26.out.2.2.2.2.2.2.2.2.2.2.2.2.2.2.stay hst⟩
  clear hcall hst S26 hsame
  have S28 : Hid (Stay w w27 ∧ ThS w27 sa sb 0 s ∧ ThS w27 ta tb 0 t ∧ LentH 0 w27 gx cx s ∧ LentH 0 w27 gy cy t ∧ ThS w27 ua ub 0 U ∧ OwnT Nu w27 (.slice ua U.length uc) U ∧ Nu ≤ w27.heap.size ∧ ThS w27 ma mb 0 M ∧ OwnT Nm w27 (.slice ma M.length mc) M ∧ ThS w27 da db 0 D ∧ OwnT Nd w27 (.slice da D.length dc) D ∧ ThS w27 va vb 0 U ∧ OwnT Nv w27 (.slice va U.length vc) U) := ⟨S27.out.1, S27.out.2.1, S27.out.2.2.1, S27.out.2.2.2.1, S27.out.2.2.2.2.1, S27.out.2.2.2.2.2.1, S27.out.2.2.2.2.2.2.1, S27.out.2.2.2.2.2.2.2.1, S27.out.2.2.2.2.2.2.2.2.1, S27.out.2.2.2.2.2.2.2.2.2.1, S27.out.2.2.2.2.2.2.2.2.2.2.1, S27.out.2.2.2.2.2.2.2.2.2.2.2.1, S27.out.2.2.2.2.2.2.2.2.2.2.2.2.1, S27.out.2.2.2.2.2.2.2.2.2.2.2.2.2.1⟩
  clear S27
  have hFL := four_lists S28.out.2.2.2.2.2.2.1 S28.out.2.2.2.2.2.2.2.2.2.1 S28.out.2.2.2.2.2.2.2.2.2.2.2.1 S28.out.2.2.2.2.2.2.2.2.2.2.2.2.2 Gu.out.2 Gm.out.2 Gd.out.2 Gu.out.1 Gm.out.1 Gd.out.1
  have hsB : Stay w27 (w27.alloc (.cells #[.slice ua U.length uc, .slice ma M.length mc, .slice da D.length dc, .slice va U.length vc] 29)) := Stay.new _ _
  have hap := apart_any _ Nu w27.heap.size 4 (four (.slice ua U.length uc) (.slice ma M.length mc) (.slice da D.length dc) (.slice va U.length vc)) (fourL U M D U) hFL (by rw [World.size_alloc]; omega) (by decide) (fun i hi => by
    have := HB.out
    match i, hi with
    | 0, _ => show (U.length + 31) * 16 ≤ _; omega
    | 1, _ => show (M.length + 31) * 16 ≤ _; omega
    | 2, _ => show (D.length + 31) * 16 ≤ _; omega
    | 3, _ => show (U.length + 31) * 16 ≤ _; omega) (Nat.le_trans (S28.out.2.2.2.2.2.2.2.1) hsB.size)
  have hap2 : Calls Try.prog 26 #[.slice (some ⟨w27.heap.size, 0, none⟩) 4 4] (w27.alloc (.cells #[.slice ua U.length uc, .slice ma M.length mc, .slice da D.length dc, .slice va U.length vc] 29)) fun e w' => e = .returned (.bool true) ∧ Hid (Stay w w' ∧ ThS w' sa sb 0 s ∧ ThS w' ta tb 0 t ∧ LentH 0 w' gx cx s ∧ LentH 0 w' gy cy t) := by
    refine hap.mono ?_
    rintro e w' ⟨he, hT⟩
    have hS : ∀ b, b < Nu → ¬ (∃ i, i < 4 ∧ (four (.slice ua U.length uc) (.slice ma M.length mc) (.slice da D.length dc) (.slice va U.length vc) i).ownBlock = some b) := by
      rintro b hb ⟨i, hi, e⟩
      have := (hFL.own i hi).lt b e
      omega
    have g0 := G0.out
    exact ⟨he, hT.stay (S28.out.1.trans hsB) (fun k hk => hS k (by omega)), ths_turn (S28.out.2.1.stay hsB) hT (fun h => hS _ (g0.2.2.1 h)), ths_turn (S28.out.2.2.1.stay hsB) hT (fun h => hS _ (g0.2.2.2.1 h)), (S28.out.2.2.2.1.stay hsB).turn hT (hS _ g0.1), (S28.out.2.2.2.2.1.stay hsB).turn hT (hS _ g0.2.1)⟩
  clear hap hFL hsB
  go_wp2_with fail
  refine hap2.mono ?_
  rintro e w29 ⟨rfl, S29⟩
  clear hap2 S28
  have hcall := kept_any w29 gx cx sa sb 0 sc 0 s S29.out.2.2.2.1 S29.out.2.1
  go_wp2_with fail
  refine hcall.mono ?_
  rintro e w30 ⟨rfl, hst⟩
  have S30 : Hid (Stay w w30 ∧ ThS w30 sa sb 0 s ∧ ThS w30 ta tb 0 t ∧ LentH 0 w30 gx cx s ∧ LentH 0 w30 gy cy t) := ⟨S29.out.1.trans hst, S29.out.2.1.stay hst, S29.out.2.2.1.stay hst, S29.out.2.2.2.1.stay hst, S29.out.2.2.2.2.stay hst⟩
  clear hcall hst S29
  have hcall := kept_any w30 gy cy ta tb 0 tc 0 t S30.out.2.2.2.2 S30.out.2.2.1
  go_wp2_with fail
  refine hcall.mono ?_
  rintro e w31 ⟨rfl, hst⟩
  have S31 : Hid (Stay w w31 ∧ ThS w31 sa sb 0 s ∧ ThS w31 ta tb 0 t ∧ LentH 0 w31 gx cx s ∧ LentH 0 w31 gy cy t) := ⟨S30.out.1.trans hst, S30.out.2.1.stay hst, S30.out.2.2.1.stay hst, S30.out.2.2.2.1.stay hst, S30.out.2.2.2.2.stay hst⟩
  clear hcall hst S30
  have hcall := works_any w31
  go_wp2_with fail
  refine hcall.mono ?_
  rintro e w32 ⟨rfl, hst⟩
  have S32 : Hid (Stay w w32 ∧ ThS w32 sa sb 0 s ∧ ThS w32 ta tb 0 t ∧ LentH 0 w32 gx cx s ∧ LentH 0 w32 gy cy t) := ⟨S31.out.1.trans hst, S31.out.2.1.stay hst, S31.out.2.2.1.stay hst, S31.out.2.2.2.1.stay hst, S31.out.2.2.2.2.stay hst⟩
  clear hcall hst S31
  go_wp2
  go_ret
  exact ⟨rfl, S32.out.1⟩
end Go.Proofs.Ytdbilngkokkggaa
