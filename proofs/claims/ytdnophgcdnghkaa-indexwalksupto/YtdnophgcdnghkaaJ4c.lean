/- walks: what a walk over a table tells is held against what it must tell. -/
import Derived.Test.YtdnophgcdnghkaaJBi
import Derived.Test.YtdnophgcdnghkaaJ3j
import Derived.Sort.CutIn
namespace Go.Proofs.Ytdnophgcdnghkaa.I
open Go.RowKit Go.Maps Go.Shelf Go.Proofs.Ytdnophgcdnghkaa
attribute [local go_sem] Oper.semAt_some

theorem eql_seqf (g : Nat) (lb : Array Value) (w : World) : (binOp .eql 44 (.func (.func g) #[] lb) .nilFunc).run Try.prog w = .ok (.bool false) w := by kernel_rfl
theorem Turn.putObj1 (W : World) (D : Nat) (o : Obj) : Turn (fun k => k = D) W (W.putObj D o) := by
  have h := grownBy_putObj' W D o
  exact ⟨h.os, h.tape, h.output, h.size, fun k hk hn => h.block k hk (fun e => hn (by cases e; rfl))⟩
/-- The end of a function with one loop over a function. -/
theorem gi_end1 (W : World) (D Bq : Nat) (w : World) (h1 : W.heap[D]? = some (.deferred (some []))) {v : Value} (hc : W.cell? ⟨Bq, 0, none⟩ = some v) (hB : Stay w W) (hd : w.heap.size ≤ D) :
    (W.putObj D (.deferred none)).cell? ⟨Bq, 0, none⟩ = some v ∧ Stay w (W.putObj D (.deferred none)) := by
  have t1 := Turn.putObj1 W D (.deferred none)
  have hb1 : Bq ≠ D := fun e => by subst e; simp [World.cell?, h1] at hc
  exact ⟨t1.cell hc hb1, t1.stay hB (fun k hk e => by omega)⟩
/-- Between two rounds: how many were told. -/
def NI (V X : World) (Bn : Nat) (pre : List Nat) : Prop := Boxed X Bn 3 (.int .i64 (pre.length : Int)) ∧ Turn (fun k => k = Bn) V X
theorem NI.own {V : World} {Bn : Nat} : OwnFrom V.heap.size (fun pre X => NI V X Bn pre) := by
  intro pre W W' row h hg hr
  have ht : Turn (fun k => some k = row) W W' := ⟨hg.os, hg.tape, hg.output, hg.size, fun k hk hn => hg.block k hk hn⟩
  refine ⟨ht.heap h.1 (fun e => ?_), h.2.then ht (fun k hk e => ?_)⟩
  · obtain ⟨_, o, ho, hic⟩ := hr Bn e.symm
    rw [show W.heap[Bn]? = _ from h.1] at ho; simp only [Option.some.injEq] at ho; subst ho; simp [Obj.isCells] at hic
  · have := (hr k e.symm).1; omega
theorem no_bump {B : Nat} (W : World) (l : Nat) (o o' : Obj) (_ : B ≤ l) (h : W.heap[l]? = some o) (hc : o.isCells = false) (_ : o.isWalk = false) : Keep B (fun _ _ => False) W (W.putObj l o') := by
  have hg := grownBy_putObj' W l o'
  refine ⟨hg.size, fun k cs t f _ hk _ => (hg.block k (Array.getElem?_eq_some_iff.1 hk).1 (fun e => ?_)).trans hk, fun k hm => hm.elim⟩
  cases e; rw [hk] at h; simp only [Option.some.injEq] at h; subst h; simp [Obj.isCells] at hc
theorem no_keep {B : Nat} {W : World} {b : Nat} (hb : b < B) (v : Value) : Keep B (fun _ _ => False) W (W.setCell ⟨b, 0, none⟩ v) :=
  ⟨by simp [World.setCell], fun k cs t f hk hc _ => (Below.heap_setCell _ _ _ _ (by show k ≠ b; omega)).trans hc, fun k hm => hm.elim⟩
theorem set_from {B : Nat} (W : World) (b : Nat) (v : Value) : KeepsFrom B W (W.setCell ⟨b, 0, none⟩ v) := (KeepsOthers.setCell W ⟨b, 0, none⟩ v).from B
/-- A stop: one that never is; or the answer is yes. -/
def StopW (V X : World) (Bn Bq : Nat) (c : Code) (pre : List Nat) : Prop := c = .ret ∧ ((∃ q x, pre = q ++ [x] ∧ x ≠ q.length) ∨ (Boxed X Bq 4 (.bool true) ∧ Turn (fun k => k = Bn ∨ k = Bq) V X))
theorem StopW.own {V : World} {Bn Bq : Nat} {c : Code} : OwnFrom V.heap.size (fun pre X => StopW V X Bn Bq c pre) := by
  rintro pre W W' row ⟨hc, h⟩ hg hr
  refine ⟨hc, h.imp id ?_⟩
  rintro ⟨hb, hT⟩
  have ht : Turn (fun k => some k = row) W W' := ⟨hg.os, hg.tape, hg.output, hg.size, fun k hk hn => hg.block k hk hn⟩
  refine ⟨ht.heap hb (fun e => ?_), hT.then ht (fun k hk e => ?_)⟩
  · obtain ⟨_, o, ho, hic⟩ := hr Bq e.symm
    rw [show W.heap[Bq]? = _ from hb] at ho; simp only [Option.some.injEq] at ho; subst ho; simp [Obj.isCells] at hic
  · have := (hr k e.symm).1; omega
theorem snoc_range {pre : List Nat} {k : Nat} (h : pre = List.range k) {q : List Nat} {x : Nat} (hq : pre = q ++ [x]) : x = q.length := by
  rw [h] at hq
  cases k with
  | zero => simp at hq
  | succ k =>
    rw [List.range_succ] at hq
    have := List.append_inj' hq rfl
    have h1 := congrArg List.length this.1
    have h2 := this.2
    simp at h1 h2
    omega
theorem recs_ints {w : World} {a : Option Addr} {b : Nat} {xs : List Int} (h : RecS 1 encN w a b 0 xs) : (0 < xs.length → a = some ⟨b, 0, none⟩) ∧ ∀ j (h : j < xs.length), w.cell? ⟨b, j, none⟩ = some (.int .i64 xs[j]) :=
  ⟨h.1, fun j hj => by have := h.2 j hj 0 _ rfl; rw [Nat.zero_add, Nat.add_zero, Nat.mul_one] at this; exact this⟩
def encF (f g : Nat → Int) (x : Nat) : Array Value := #[.int .i64 (f x), .int .i64 (g x)]

set_option maxRecDepth 100000 in
set_option maxHeartbeats 4000000 in
theorem walks_any (w : World) {gf : Nat} {lb : Array Value} (henter : ∀ args w, (callFunc gf args).run Try.prog w = .ok (.enter gf args) w) {f g : Nat → Int} {n : Nat}
    (hseq : ∀ W, Stay w W → SeqStopsK Fence.wide 8 Try.prog gf lb (encF f g) (Keep W.heap.size fun _ _ => False) (fun ys => ys = List.range n) (fun pre => ∃ k, k ≤ n ∧ pre = List.range k) n W)
    {a1 a2 : Option Addr} {b1 b2 c1 c2 : Nat} {ks vs : List Int} (hk : RecS 1 encN w a1 b1 0 ks) (hv : RecS 1 encN w a2 b2 0 vs) (hkl : ks.length = n) (hvl : vs.length = n) (hkf : ∀ i (h : i < ks.length), ks[i] = f i) (hvg : ∀ i (h : i < vs.length), vs[i] = g i) (leave : Int) (hn : n ≤ 1099511627776) :
    Calls Try.prog 10 #[.func (.func gf) #[] lb, .agg #[.slice a1 ks.length c1, .slice a2 vs.length c2], .int .i64 leave] w fun e w' => e = .returned (.bool true) ∧ Stay w w' := by
  refine callsIn_wide (n := 9) |>.1 ?_
  have hfn := eql_seqf
  refine callsIn_of_wp_marks Try.func10 rfl trivial ?_ rfl
  simp only [Try.ntmps10, List.size_toArray, List.length_cons, List.length_nil, Nat.reduceAdd, Nat.reduceSub, Array.replicate_succ, Array.replicate_zero, List.push_toArray, List.append_toArray, List.nil_append, List.cons_append]
  rw [hkl, hvl]
  gi_wp2_with fail
  obtain ⟨V, hV⟩ : ∃ V, (((w.alloc (.cells #[.slice a1 n c1, .slice a2 n c2] 49)).alloc (.cells #[.int .i64 leave] 3)).alloc (.cells #[.bool false] 4)).alloc (.cells #[.int .i64 0] 3) = V := ⟨_, rfl⟩
  rw [hV]
  have hS0 : Stay w V := by rw [← hV]; exact (((Stay.new _ _).alloc _).alloc _).alloc _
  have hz : V.heap.size = w.heap.size + 4 := by rw [← hV]; simp
  have hbw : V.heap[w.heap.size]? = some (.cells #[.slice a1 n c1, .slice a2 n c2] 49 (0, 0)) := by
    rw [← hV]
    exact ((((Stay.new _ _).alloc _).alloc _).block w.heap.size (by simp)).trans (heap_new w _)
  have hbl : V.heap[w.heap.size + 1]? = some (.cells #[.int .i64 leave] 3 (0, 0)) := by
    have h := heap_new (w.alloc (.cells #[.slice a1 n c1, .slice a2 n c2] 49)) (.cells #[.int .i64 leave] 3)
    rw [World.size_alloc] at h
    rw [← hV]
    exact (((Stay.new _ _).alloc _).block (w.heap.size + 1) (by simp)).trans h
  have hbq : Boxed V (w.heap.size + 2) 4 (.bool false) := by
    have h := heap_new ((w.alloc (.cells #[.slice a1 n c1, .slice a2 n c2] 49)).alloc (.cells #[.int .i64 leave] 3)) (.cells #[.bool false] 4)
    rw [World.size_alloc, World.size_alloc] at h
    rw [← hV]
    exact ((Stay.new _ _).block (w.heap.size + 1 + 1) (by simp)).trans h
  have hbn : Boxed V (w.heap.size + 3) 3 (.int .i64 0) := by
    have h := heap_new (((w.alloc (.cells #[.slice a1 n c1, .slice a2 n c2] 49)).alloc (.cells #[.int .i64 leave] 3)).alloc (.cells #[.bool false] 4)) (.cells #[.int .i64 0] 3)
    rw [World.size_alloc, World.size_alloc, World.size_alloc] at h
    rw [← hV]
    exact h
  have hks := recs_ints hk
  have hvs := recs_ints hv
  have HV : Hid (Stay w V ∧ V.heap.size = w.heap.size + 4 ∧ V.heap[w.heap.size]? = some (.cells #[.slice a1 n c1, .slice a2 n c2] 49 (0, 0)) ∧ V.heap[w.heap.size + 1]? = some (.cells #[.int .i64 leave] 3 (0, 0)) ∧ Boxed V (w.heap.size + 2) 4 (.bool false)) := ⟨hS0, hz, hbw, hbl, hbq⟩
  have HK : Hid ((0 < n → a1 = some ⟨b1, 0, none⟩ ∧ a2 = some ⟨b2, 0, none⟩) ∧ ∀ i, i < n → w.cell? ⟨b1, i, none⟩ = some (.int .i64 (f i)) ∧ w.cell? ⟨b2, i, none⟩ = some (.int .i64 (g i))) := by
    refine ⟨fun h => ⟨hks.1 (by omega), hvs.1 (by omega)⟩, fun i hi => ⟨?_, ?_⟩⟩
    · rw [← hkf i (by omega)]; exact hks.2 i (by omega)
    · rw [← hvg i (by omega)]; exact hvs.2 i (by omega)
  have hsq := hseq V hS0
  have hN0 : NI V V (w.heap.size + 3) [] := ⟨hbn, Turn.refl _ _⟩
  clear hV hbw hbl hbq hbn hks hvs hkf hvg hk hv hkl hvl hseq hfn
  refine' wpIn_rangeFunc_ownG (α := Nat) rfl (by decide) (gf := gf) (lb := lb) rfl trivial henter
    hsq (fun h k => h.trans k) no_bump (Below.refl _ _) (fun _ => rfl)
    (fun pre Y => NI V Y (w.heap.size + 3) pre) (fun c pre Y => StopW V Y (w.heap.size + 3) (w.heap.size + 2) c pre) NI.own (fun c => StopW.own) hN0 _ ?assign ?body ?done ?stop
  case assign =>
    intro l x Y K hK
    dsimp only [encF]
    gi_wp2
    exact hK
  case stop =>
    rintro D c pre Y hD ⟨k, hk, hpre⟩ hSt hKD
    obtain ⟨rfl, hx | ⟨hb, hT⟩⟩ := hSt
    · exfalso
      obtain ⟨q, x, hq, hx⟩ := hx
      exact hx (snoc_range hpre hq)
    · have hSY : Stay w Y := hT.stay hS0 (fun k hk e => by omega)
      have hfin := gi_end1 Y D (w.heap.size + 2) w hKD hb.cell hSY (by omega)
      have HF : Hid _ := And.intro hKD hfin
      clear hfin hT hb hKD hSY hsq hN0
      gi_wp2
      refine ⟨by simp, .inl ⟨_, _, rfl, run_takeDeferred HF.out.1, ?_⟩⟩
      refine ⟨.bool true, ?_, rfl, HF.out.2.2⟩
      simp [results, Try.results10, go_sem, HF.out.2.1]
  case body =>
    intro l pre x Y hI hlt
    obtain ⟨rfl, rfl⟩ := HK.out.1 (by omega)
    obtain ⟨h1, h2, h3, h4, h5⟩ := HV.out
    have hwl : ∀ i, i < n → b1 < w.heap.size ∧ b2 < w.heap.size := fun i hi => ⟨World.block_lt_of_cell? w _ (HK.out.2 i hi).1, World.block_lt_of_cell? w _ (HK.out.2 i hi).2⟩
    have hb12 := hwl pre.length hlt
    have k1 := hI.2.cell (h1.cell (HK.out.2 pre.length hlt).1) (by dsimp only; omega)
    have k2 := hI.2.cell (h1.cell (HK.out.2 pre.length hlt).2) (by dsimp only; omega)
    have hw' := hI.2.heap h3 (by omega)
    have hl' := hI.2.heap h4 (by omega)
    have hq' : Boxed Y (w.heap.size + 2) 4 (.bool false) := hI.2.heap h5 (by omega)
    have w0 : Y.cell? ⟨w.heap.size, 0, none⟩ = some (.slice (some ⟨b1, 0, none⟩) n c1) := by simp [World.cell?, hw']
    have w1 : Y.cell? ⟨w.heap.size, 1, none⟩ = some (.slice (some ⟨b2, 0, none⟩) n c2) := by simp [World.cell?, hw']
    have l0 : Y.cell? ⟨w.heap.size + 1, 0, none⟩ = some (.int .i64 leave) := by simp [World.cell?, hl']
    have cn := hI.1.cell
    have fn := hI.1.frozen
    have cq := hq'.cell
    have fq := hq'.frozen
    have hsz := hI.2.size
    have z0 : w.heap.size < Y.heap.size := by omega
    have hil : (pre.length : Int) < (n : Int) := by omega
    have hil2 : ¬ (n : Int) ≤ (pre.length : Int) := by omega
    have HN : Hid (NI V Y (w.heap.size + 3) pre ∧ Boxed Y (w.heap.size + 2) 4 (.bool false) ∧ V.heap.size = w.heap.size + 4) := ⟨hI, hq', h2⟩
    have HX : Hid (x = pre.length → f x = f pre.length ∧ g x = g pre.length) := fun e => by rw [e]; exact ⟨rfl, rfl⟩
    clear hI h1 h2 h3 h4 h5 hw' hl' hq' hsq hN0 hwl hsz hlt hS0
    try dsimp only [encF] at ⊢
    generalize f x = fx at HX ⊢
    generalize g x = gx at HX ⊢
    generalize f pre.length = fp at HX k1 ⊢
    generalize g pre.length = gp at HX k2 ⊢
    by_cases hpe : fx = fp
    · subst hpe
      by_cases hke : gx = gp
      · subst hke
        by_cases hle : (pre.length : Int) + 1 = leave
        · subst hle
          gi_wp2_with fail
          obtain ⟨hN, hq, hz⟩ := HN.out
          have t1 : Turn (fun k => k = w.heap.size + 3) Y (Y.setCell ⟨w.heap.size + 3, 0, none⟩ (.int .i64 ((pre.length : Int) + 1))) := (Turn.refl (fun k => k = w.heap.size + 3) Y).set rfl _ _
          have hq2 : Boxed (Y.setCell ⟨w.heap.size + 3, 0, none⟩ (.int .i64 ((pre.length : Int) + 1))) (w.heap.size + 2) 4 (.bool false) := t1.heap hq (by omega)
          refine ⟨(set_from _ _ _).trans (set_from _ _ _), rfl, .inr ⟨hq2.set _, ?_⟩⟩
          exact (((hN.2.mono (fun k _ hk => .inl hk)).set (.inl rfl) _ _).set (.inr rfl) _ _)
        · gi_wp2_with fail
          have hN := HN.out.1
          have hb := hN.1.set (.int .i64 ((pre.length : Int) + 1))
          refine ⟨set_from _ _ _, no_keep (by have := HN.out.2.2; omega) _, ?_, hN.2.set rfl _ _⟩
          rw [List.length_append]
          exact hb
      · gi_wp2_with fail
        exact ⟨set_from _ _ _, rfl, .inl ⟨pre, x, rfl, fun e => hke (HX.out e).2⟩⟩
    · gi_wp2_with fail
      exact ⟨set_from _ _ _, rfl, .inl ⟨pre, x, rfl, fun e => hpe (HX.out e).1⟩⟩
  case done =>
    rintro D ys Y hD rfl hI hKD
    obtain ⟨h1, h2, h3, h4, h5⟩ := HV.out
    have hw' := hI.2.heap h3 (by omega)
    have hq' : Boxed Y (w.heap.size + 2) 4 (.bool false) := hI.2.heap h5 (by omega)
    have w0 : Y.cell? ⟨w.heap.size, 0, none⟩ = some (.slice a1 n c1) := by simp [World.cell?, hw']
    have cn := hI.1.cell
    rw [List.length_range] at cn
    have cq := hq'.cell
    have fq := hq'.frozen
    have hsz := hI.2.size
    have z0 : w.heap.size < Y.heap.size := by omega
    have hSY : Stay w Y := hI.2.stay hS0 (fun k hk e => by omega)
    have hK3 := (KeepsOthers.setCell Y ⟨w.heap.size + 2, 0, none⟩ (.bool true)).same D _ hKD rfl
    have hfin := gi_end1 (Y.setCell ⟨w.heap.size + 2, 0, none⟩ (.bool true)) D (w.heap.size + 2) w hK3 (World.cell?_setCell_same' Y ⟨w.heap.size + 2, 0, none⟩ (.bool true) (by rw [cq]; rfl)) (Below.setCell hSY (p := ⟨w.heap.size + 2, 0, none⟩) (by show w.heap.size ≤ w.heap.size + 2; omega) _) (by omega)
    have HF : Hid _ := And.intro hK3 hfin
    clear hI h1 h2 h3 h4 h5 hw' hq' hsq hN0 hsz hSY hK3 hfin hS0 HV HK hKD hD
    gi_wp2
    refine ⟨by simp, .inl ⟨_, _, rfl, run_takeDeferred HF.out.1, ?_⟩⟩
    refine ⟨.bool true, ?_, rfl, HF.out.2.2⟩
    simp [results, Try.results10, go_sem, HF.out.2.1]
end Go.Proofs.Ytdnophgcdnghkaa.I
