/- IndexWalks: between two rounds of a walk in whose body steps are taken. No walk here. IndexWalks: what lies there all the while; how a walk begins and ends. No walk here. IndexWalks: what is told while a walk goes on; what loops put off. No walk here. -/
import Derived.Test.YtdnophgcdnghkaaJ4i
import Derived.Test.YtdnophgcdnghkaaJ4o
import Derived.Test.YtdnophgcdnghkaaJH
import Derived.Test.YtdnophgcdnghkaaJ4p
namespace Go.Proofs.Ytdnophgcdnghkaa.I
open Go.RowKit Go.Maps Go.Shelf Go.Proofs.Ytdnophgcdnghkaa

/-- The blocks that a step may turn. -/
def MW (bt br : Nat) (W : World) (k : Nat) : Prop := TF bt W k ∨ RF br W k
section
variable {w W W' V X : World} {fp : Nat × Nat × Int} {bt br n m N : Nat} {way : Int} {o o' oV : Nat → Nat} {ps : List (Int × Int)}
theorem TS.turn (h : TS W fp bt ps N n o) {S : Nat → Prop} (ht : Turn S W W') (hn : ∀ k, TF bt W k → ¬ S k) (hf : ∀ k, fnfoot fp k → ¬ S k) (ho : ∀ k, k < W.heap.size → o' k = o k) : TS W' fp bt ps N n o' := by
  obtain ⟨cv, pb, len, reach, came, places, hT, h1, h2, h3, h4⟩ := h
  exact ⟨cv, pb, len, reach, came, places, hT.turn ht (fun k hk => hn k ((tf_iff hT k).2 hk)) hf, h1, h2, h3, fun k hk => (ho k (hT.lt k (.inl hk))).trans (h4 k hk)⟩
theorem RS.turn (h : RS W br way ps N o) {S : Nat → Prop} (ht : Turn S W W') (hn : ∀ k, RF br W k → ¬ S k) (ho : ∀ k, k < W.heap.size → o' k = o k) : RS W' br way ps N o' := by
  obtain ⟨a, b, c, hR, h1⟩ := h
  exact ⟨a, b, c, hR.turn ht (fun k hk => hn k ((rf_iff hR k).2 hk)), fun k hk => (ho k (hR.lt k hk)).trans (h1 k hk)⟩
theorem Mt.turn (h : Mt W fp bt br way n o ps N) {S : Nat → Prop} (ht : Turn S W W') (hn : ∀ k, MW bt br W k ∨ fnfoot fp k → ¬ S k) (ho : ∀ k, k < W.heap.size → o' k = o k) : Mt W' fp bt br way n o' ps N := by
  have hfn := h.t.facts.2.2.2.2.2.2
  exact ⟨h.t.turn ht (fun k hk => hn k (.inl (.inl hk))) (fun k hk => hn k (.inr hk)) ho, h.r.turn ht (fun k hk => hn k (.inl (.inr hk))) ho, h.way, h.ne, fun k hk => (ho k (hfn.lt k hk)).trans (h.fn k hk), h.big⟩
theorem Mt.own (h : Mt W fp bt br way n o ps N) (k : Nat) (hk : MW bt br W k) : (o k = bt + 1 ∨ o k = br + 1) ∧ k < W.heap.size ∧ ∃ cs t f, W.heap[k]? = some (.cells cs t f) := by
  rcases hk with hk | hk
  · have := h.t.own k hk
    exact ⟨.inl this.1, this.2⟩
  · have := h.r.own k hk
    exact ⟨.inr this.1, this.2⟩
theorem Mt.fnCells (h : Mt W fp bt br way n o ps N) (k : Nat) (hk : fnfoot fp k) : ∃ cs t f, W.heap[k]? = some (.cells cs t f) := by
  obtain ⟨cv, pb, len, reach, came, places, hT, -⟩ := h.t
  exact hT.isCells k (.inr hk)
/-- A block that is nobody's and no function's own. -/
def Free1 (fp : Nat × Nat × Int) (o : Nat → Nat) (k : Nat) : Prop := o k = 0 ∧ ¬ fnfoot fp k
theorem Mt.set (h : Mt W fp bt br way n o ps N) {b : Nat} (hb : Free1 fp o b) (j : Nat) (v : Value) : Mt (W.setCell ⟨b, j, none⟩ v) fp bt br way n o ps N := by
  refine h.turn (S := fun k => k = b) ((Turn.refl (fun k => k = b) W).set rfl _ _) (fun k hk e => ?_) (fun _ _ => rfl)
  subst e
  rcases hk with hk | hk
  · have := (h.own k hk).1
    have := hb.1
    omega
  · exact hb.2 hk
theorem Mt.more (h : Mt W fp bt br way n o ps N) (hm : n ≤ m) (hb : m ≤ 1073741824) : Mt W fp bt br way m o ps N := ⟨h.t.more hm, h.r, h.way, h.ne, h.fn, hb⟩
theorem mw_iff {S : Nat → Prop} (ht : Turn S W W') (h1 : bt < W.heap.size) (h2 : br < W.heap.size) (h3 : ¬ S bt) (h4 : ¬ S br) (k : Nat) : MW bt br W' k ↔ MW bt br W k := by
  unfold MW
  rw [TF.turn ht h1 h3, RF.turn ht h2 h4]
theorem mw_alloc {A : World} (h1 : bt < A.heap.size) (h2 : br < A.heap.size) (ob : Obj) (k : Nat) (hk : MW bt br (A.alloc ob) k) : MW bt br A k :=
  (mw_iff (S := fun _ => False) (Turn.of_stay (Stay.new A ob)) h1 h2 (fun e => e) (fun e => e) k).1 hk
theorem mw_bump {B : Nat} (h1 : bt < B) (h2 : br < B) (A : World) (l : Nat) (ob ob' : Obj) (hl : B ≤ l) (h : A.heap[l]? = some ob) (hc : ob.isCells = false) (_ : ob.isWalk = false) : Keep B (MW bt br) A (A.putObj l ob') := by
  have hg := grownBy_putObj' A l ob'
  have ht : Turn (fun k => k = l) A (A.putObj l ob') := ⟨hg.os, hg.tape, hg.output, hg.size, fun k hk hn => hg.block k hk (fun e => hn (by cases e; rfl))⟩
  have hll := (Array.getElem?_eq_some_iff.1 h).1
  refine ⟨hg.size, fun k cs t f _ hk _ => (hg.block k (Array.getElem?_eq_some_iff.1 hk).1 (fun e => ?_)).trans hk, fun k hm => .inl ((mw_iff ht (by omega) (by omega) (by omega) (by omega) k).1 hm)⟩
  cases e; rw [hk] at h; simp only [Option.some.injEq] at h; subst h; simp [Obj.isCells] at hc
/-- What a store into a block ahead keeps. -/
theorem mw_set {B b : Nat} {A : World} (hb : b < B) (h1 : bt < A.heap.size) (h2 : br < A.heap.size) (n1 : b ≠ bt) (n2 : b ≠ br) (v : Value) : Keep B (MW bt br) A (A.setCell ⟨b, 0, none⟩ v) := by
  have ht : Turn (fun k => k = b) A (A.setCell ⟨b, 0, none⟩ v) := (Turn.refl (fun k => k = b) A).set rfl _ _
  exact ⟨ht.size, fun k cs t f hk hc _ => ht.heap hc (by omega), fun k hm => .inl ((mw_iff ht h1 h2 (fun e => n1 e.symm) (fun e => n2 e.symm) k).1 hm)⟩
/-- What a step keeps. -/
theorem Done.keep (M : Mt w fp bt br way n o ps N) (hd : Done w fp bt br way m o W) (B : Nat) : Keep B (MW bt br) w W ∧ KeepsFrom B w W := by
  obtain ⟨ps', N', o', hT, hR, tu, hg, ho⟩ := hd
  refine ⟨⟨tu.size, fun k cs t f _ hk hn => tu.heap hk hn, hg⟩, ⟨tu.size, fun k ob _ hk hob => tu.heap hk (fun hf => ?_)⟩⟩
  obtain ⟨cs, t, f, hc⟩ := (M.own k hf).2.2
  rw [hk] at hc
  simp only [Option.some.injEq] at hc
  subst hc
  simp [Obj.isCells] at hob
theorem Done.after (M : Mt w fp bt br way n o ps N) (hs : Stay w V) (hd : Done V fp bt br way m o W) : Done w fp bt br way m o W := by
  obtain ⟨ps', N', o', hT, hR, tu, hg, ho⟩ := hd
  have hz := hs.size
  have e := fun k => mw_iff (S := fun _ => False) (Turn.of_stay hs) M.t.facts.2.2.2.2.1 M.r.facts.1 (fun e => e) (fun e => e) k
  exact ⟨ps', N', o', hT, hR, (Turn.of_stay hs).trans (tu.mono fun k _ hk => (e k).1 hk), fun k hk => (hg k hk).imp (e k).1 (fun g => Nat.le_trans hz g), fun k hk => ho k (by omega)⟩
theorem Done.mt (M : Mt w fp bt br way n o ps N) (hd : Done w fp bt br way (n + 1) o W) (hb : n + 1 ≤ 1073741824) : ∃ ps' N' o', Mt W fp bt br way (n + 1) o' ps' N' ∧ Turn (fun k => o k = bt + 1 ∨ o k = br + 1) w W ∧ (∀ k, k < w.heap.size → o' k = o k) := by
  obtain ⟨ps', N', o', hT, hR, tu, hg, ho⟩ := hd
  have hfn := M.t.facts.2.2.2.2.2.2
  exact ⟨ps', N', o', ⟨hT, hR, M.way, M.ne, fun k hk => (ho k (hfn.lt k hk)).trans (M.fn k hk), hb⟩, tu.mono (fun k _ hk => (M.own k hk).1), ho⟩

/-- Between two rounds. -/
def RI (V X : World) (fp : Nat × Nat × Int) (bt br : Nat) (way : Int) (oV : Nat → Nat) (Bn Bt n0 a0 : Nat) (pre : List Nat) : Prop :=
  ∃ (o : Nat → Nat) (ps : List (Int × Int)) (N a : Nat), Mt X fp bt br way (n0 + pre.length) o ps N ∧ (∀ k, k < V.heap.size → o k = oV k) ∧ Turn (fun k => (oV k = bt + 1 ∨ oV k = br + 1) ∨ k = Bn ∨ k = Bt) V X ∧
    Boxed X Bn 3 (.int .i64 (pre.length : Int)) ∧ Boxed X Bt 3 (.int .i64 (a : Int)) ∧ a ≤ a0 + pre.length
theorem RI.own {Bn Bt n0 a0 : Nat} : OwnFrom V.heap.size (fun pre X => RI V X fp bt br way oV Bn Bt n0 a0 pre) := by
  rintro pre A A' row ⟨o, ps, N, a, M, ho, tu, b1, b2, ha⟩ hg hr
  have ht : Turn (fun k => some k = row) A A' := ⟨hg.os, hg.tape, hg.output, hg.size, fun k hk hn => hg.block k hk hn⟩
  have nc : ∀ k cs t f, A.heap[k]? = some (.cells cs t f) → ¬ some k = row := fun k cs t f h e => by
    obtain ⟨_, ob, hob, hic⟩ := hr k e.symm
    rw [h] at hob; simp only [Option.some.injEq] at hob; subst hob; simp [Obj.isCells] at hic
  refine ⟨o, ps, N, a, M.turn ht (fun k hk => ?_) (fun _ _ => rfl), ho, tu.then ht (fun k hk e => ?_), ht.heap b1 (nc _ _ _ _ b1), ht.heap b2 (nc _ _ _ _ b2), ha⟩
  · rcases hk with hk | hk
    · obtain ⟨cs, t, f, hc⟩ := (M.own k hk).2.2
      exact nc k cs t f hc
    · obtain ⟨cs, t, f, hc⟩ := M.fnCells k hk
      exact nc k cs t f hc
  · have := (hr k e.symm).1; omega
/-- A round, whole. -/
theorem ri_next {Bn Bt n0 a0 a : Nat} {pre : List Nat} {x : Nat} (M : Mt X fp bt br way (n0 + pre.length) o ps N) (ho : ∀ k, k < V.heap.size → o k = oV k) (tu : Turn (fun k => (oV k = bt + 1 ∨ oV k = br + 1) ∨ k = Bn ∨ k = Bt) V X)
    (b1 : Boxed X Bn 3 (.int .i64 (pre.length : Int))) (b2 : Boxed X Bt 3 (.int .i64 (a : Int))) (ha : a ≤ a0 + pre.length) (f1 : Free1 fp oV Bn) (f2 : Free1 fp oV Bt) (l1 : Bn < V.heap.size) (l2 : Bt < V.heap.size) (hne : Bn ≠ Bt) (hbig : n0 + pre.length + 1 ≤ 1073741824)
    (hd : Done (X.setCell ⟨Bn, 0, none⟩ (.int .i64 ((pre.length : Int) + 1))) fp bt br way (n0 + pre.length + 1) o W) :
    KeepsFrom V.heap.size X (W.setCell ⟨Bt, 0, none⟩ (.int .i64 ((a : Int) + 1))) ∧ Keep V.heap.size (MW bt br) X (W.setCell ⟨Bt, 0, none⟩ (.int .i64 ((a : Int) + 1))) ∧
      RI V (W.setCell ⟨Bt, 0, none⟩ (.int .i64 ((a : Int) + 1))) fp bt br way oV Bn Bt n0 a0 (pre ++ [x]) := by
  have fX1 : Free1 fp o Bn := ⟨(ho Bn l1).trans f1.1, f1.2⟩
  have fX2 : Free1 fp o Bt := ⟨(ho Bt l2).trans f2.1, f2.2⟩
  have M1 := M.set fX1 0 (.int .i64 ((pre.length : Int) + 1))
  have t1 : Turn (fun k => k = Bn) X (X.setCell ⟨Bn, 0, none⟩ (.int .i64 ((pre.length : Int) + 1))) := (Turn.refl (fun k => k = Bn) X).set rfl _ _
  obtain ⟨ps', N', o', M2, t2, ho2⟩ := hd.mt M1 hbig
  have hk := hd.keep M1 V.heap.size
  have z0 := tu.size
  have z1 := t1.size
  have z2 := t2.size
  have o1t := M.t.facts.2.2.2.2
  have o1r := M.r.facts
  have nb : ∀ b, o b = 0 → b ≠ bt ∧ b ≠ br := fun b hb => ⟨fun e => by subst e; have := o1t.2.1; omega, fun e => by subst e; have := o1r.2.1; omega⟩
  have e2 : ∀ k, k < V.heap.size → o' k = oV k := fun k hk => by rw [ho2 k (by omega), ho k hk]
  have fW : Free1 fp o' Bt := ⟨by rw [e2 Bt l2]; exact f2.1, f2.2⟩
  have M3 := M2.set fW 0 (.int .i64 ((a : Int) + 1))
  have t3 : Turn (fun k => k = Bt) W (W.setCell ⟨Bt, 0, none⟩ (.int .i64 ((a : Int) + 1))) := (Turn.refl (fun k => k = Bt) W).set rfl _ _
  have b1W : Boxed W Bn 3 (.int .i64 ((pre.length : Int) + 1)) := t2.heap (b1.set _) (by have := fX1.1; omega)
  have b2W : Boxed W Bt 3 (.int .i64 (a : Int)) := t2.heap (t1.heap b2 (fun e => hne e.symm)) (by have := fX2.1; omega)
  refine ⟨(set_from _ _ _).trans (hk.2.trans (set_from _ _ _)), (mw_set l1 o1t.1 o1r.1 (nb Bn fX1.1).1 (nb Bn fX1.1).2 _).trans (hk.1.trans (mw_set l2 (by omega) (by omega) (nb Bt fX2.1).1 (nb Bt fX2.1).2 _)), o', ps', N', a + 1, ?_, e2, ?_, ?_, ?_, ?_⟩
  · rw [List.length_append, List.length_singleton]
    exact M3
  · refine ((tu.then t1 (fun k _ e => .inr (.inl e))).then t2 (fun k hk e => ?_)).then t3 (fun k _ e => .inr (.inr e))
    rw [ho k hk] at e
    exact .inl e
  · rw [List.length_append, List.length_singleton]
    exact t3.heap b1W (by omega)
  · exact b2W.set _
  · rw [List.length_append, List.length_singleton]; omega
/-- Blocks that no round turns. -/
theorem RI.at {Bn Bt n0 a0 : Nat} {pre : List Nat} (h : RI V X fp bt br way oV Bn Bt n0 a0 pre) {k : Nat} (hk : k < V.heap.size) (h0 : oV k = 0) (h1 : k ≠ Bn) (h2 : k ≠ Bt) : X.heap[k]? = V.heap[k]? := by
  obtain ⟨o, ps, N, a, M, ho, tu, -⟩ := h
  exact tu.block k hk (by omega)
end
end Go.Proofs.Ytdnophgcdnghkaa.I
namespace Go.Proofs.Ytdnophgcdnghkaa.I
open Go.RowKit Go.Maps Go.Shelf Go.Proofs.Ytdnophgcdnghkaa

open Classical in
/-- The labels, of what the two tables own alone. -/
noncomputable def tid (bt br : Nat) (W : World) (o : Nat → Nat) (k : Nat) : Nat := if MW bt br W k then o k else 0
/-- What lies there through all of the walk. -/
structure WK (w X : World) (bt br : Nat) (o : Nat → Nat) (Bw wb Ba Bl Bt : Nat) (av : Value) : Prop where
  s : Boxed X w.heap.size 22 av
  q : Boxed X (w.heap.size + 1) 4 (.bool false)
  p : Boxed X Bw 23 (.pointer (some ⟨wb, 0, none⟩))
  b : X.heap[wb]? = some (.cells #[.pointer (some ⟨bt, 0, none⟩), .pointer (some ⟨bt, 0, none⟩), .pointer (some ⟨br, 0, none⟩), .pointer (some ⟨br, 0, none⟩), .slice none 0 0, .slice none 0 0] 31 (0, 0))
  a : Boxed X Ba 24 (.pointer (some ⟨bt, 0, none⟩))
  l : Boxed X Bl 24 (.pointer (some ⟨bt, 0, none⟩))
  own : ∀ k, k < w.heap.size + 2 ∨ k = Bw ∨ k = wb ∨ k = Ba ∨ k = Bl → o k = 0
  stay : Stay w X
  ne : Bt ≠ Bw ∧ Bt ≠ wb ∧ Bt ≠ Ba ∧ Bt ≠ Bl ∧ w.heap.size + 2 ≤ Bt
/-- A block that is a count's. -/
def Cnt (w : World) (Bw wb Ba Bl Bt Bn : Nat) : Prop := w.heap.size + 2 ≤ Bn ∧ Bn ≠ Bw ∧ Bn ≠ wb ∧ Bn ≠ Ba ∧ Bn ≠ Bl ∧ Bn ≠ Bt
section
variable {w V X Y Z W : World} {fp : Nat × Nat × Int} {bt br n m N Bw wb Ba Bl Bt Bn : Nat} {way : Int} {o o' oV : Nat → Nat} {ps : List (Int × Int)} {av : Value}
theorem tid_in {k : Nat} (h : MW bt br W k) : tid bt br W o k = o k := by unfold tid; rw [if_pos h]
theorem tid_out {k : Nat} (h : ¬ MW bt br W k) : tid bt br W o k = 0 := by unfold tid; rw [if_neg h]
theorem tid_zero {k : Nat} (h : o k = 0) : tid bt br W o k = 0 := by unfold tid; split <;> first | exact h | rfl
theorem Mt.tidy (h : Mt W fp bt br way n o ps N) : Mt W fp bt br way n (tid bt br W o) ps N := by
  obtain ⟨⟨cv, pb, len, reach, came, places, hT, h1, h2, h3, h4⟩, ⟨a, b, c, hR, h5⟩, q1, q2, q3, q4⟩ := h
  exact ⟨⟨cv, pb, len, reach, came, places, hT, h1, h2, h3, fun k hk => (tid_in (.inl ((tf_iff hT k).2 hk))).trans (h4 k hk)⟩, ⟨a, b, c, hR, fun k hk => (tid_in (.inr ((rf_iff hR k).2 hk))).trans (h5 k hk)⟩, q1, q2, fun k hk => tid_zero (q3 k hk), q4⟩
theorem Mt.not_mw (h : Mt W fp bt br way n o ps N) {k : Nat} (hk : o k = 0) : ¬ MW bt br W k := fun e => by
  have := (h.own k e).1
  omega
theorem WK.turn (h : WK w X bt br o Bw wb Ba Bl Bt av) {S : Nat → Prop} (ht : Turn S X Y) (hS : ∀ k, S k → k < X.heap.size → o k ≠ 0 ∨ k = Bt ∨ (w.heap.size + 2 ≤ k ∧ k ≠ Bw ∧ k ≠ wb ∧ k ≠ Ba ∧ k ≠ Bl)) (ho : ∀ k, k < X.heap.size → o k = 0 → o' k = 0) : WK w Y bt br o' Bw wb Ba Bl Bt av := by
  have hne := h.ne
  have hn : ∀ k, k < X.heap.size → (k < w.heap.size + 2 ∨ k = Bw ∨ k = wb ∨ k = Ba ∨ k = Bl) → ¬ S k := fun k hl hk e => by
    rcases hS k e hl with g | g | g
    · exact g (h.own k hk)
    · omega
    · omega
  have hz := h.stay.size
  have l1 := h.q.lt
  have l2 := h.p.lt
  have l3 := (Array.getElem?_eq_some_iff.1 h.b).1
  have l4 := h.a.lt
  have l5 := h.l.lt
  have f : ∀ k, k < X.heap.size → (k < w.heap.size + 2 ∨ k = Bw ∨ k = wb ∨ k = Ba ∨ k = Bl) → Y.heap[k]? = X.heap[k]? := fun k hl hk => ht.block k hl (hn k hl hk)
  refine ⟨(f _ (by omega) (by omega)).trans h.s, (f _ (by omega) (by omega)).trans h.q, (f _ l2 (by omega)).trans h.p, (f _ l3 (by omega)).trans h.b, (f _ l4 (by omega)).trans h.a, (f _ l5 (by omega)).trans h.l, fun k hk => ho k ?_ (h.own k hk), ht.stay h.stay (fun k hk => hn k (by omega) (by omega)), hne⟩
  omega
theorem mt_lt (M : Mt X fp bt br way n o ps N) : bt < X.heap.size ∧ br < X.heap.size := ⟨M.t.facts.2.2.2.2.1, M.r.facts.1⟩
theorem Mt.iff (M : Mt X fp bt br way n o ps N) {S : Nat → Prop} (ht : Turn S X Y) (hn : ∀ k, MW bt br X k → ¬ S k) (k : Nat) : MW bt br Y k ↔ MW bt br X k :=
  mw_iff ht (mt_lt M).1 (mt_lt M).2 (hn bt (.inl (.inl rfl))) (hn br (.inr (.inl rfl))) k
/-- A walk begins. -/
theorem ws_begin {a : Nat} (M : Mt X fp bt br way n o ps N) (K : WK w X bt br o Bw wb Ba Bl Bt av) (t : Boxed X Bt 3 (.int .i64 (a : Int))) (ft : Free1 fp o Bt) (ht : Turn (fun k => k = Bn) X V) (hn : ¬ MW bt br X Bn ∧ ¬ fnfoot fp Bn) (nb : Cnt w Bw wb Ba Bl Bt Bn) :
    Mt V fp bt br way n (tid bt br V o) ps N ∧ WK w V bt br (tid bt br V o) Bw wb Ba Bl Bt av ∧ Boxed V Bt 3 (.int .i64 (a : Int)) ∧ Free1 fp (tid bt br V o) Bt ∧ Free1 fp (tid bt br V o) Bn ∧ ∀ k, ¬ MW bt br X k → tid bt br V o k = 0 := by
  have hm : ∀ k, MW bt br X k → ¬ k = Bn := fun k hk e => hn.1 (e ▸ hk)
  have hi := fun k => M.iff ht hm k
  have M1 : Mt V fp bt br way n o ps N := M.turn ht (fun k hk e => hk.elim (fun g => hm k g e) (fun g => hn.2 (e ▸ g))) (fun _ _ => rfl)
  refine ⟨M1.tidy, K.turn ht (fun k hk _ => .inr (.inr ?_)) (fun k _ h0 => tid_zero h0), ht.heap t (fun e => nb.2.2.2.2.2 e.symm), ⟨tid_zero ft.1, ft.2⟩, ⟨tid_out (fun e => hn.1 ((hi _).1 e)), hn.2⟩, fun k hk => tid_out (fun e => hk ((hi k).1 e))⟩
  have := nb
  unfold Cnt at this
  omega
/-- Before the first round. -/
theorem ri_begin {a : Nat} (M : Mt V fp bt br way n oV ps N) (b1 : Boxed V Bn 3 (.int .i64 0)) (b2 : Boxed V Bt 3 (.int .i64 (a : Int))) : RI V V fp bt br way oV Bn Bt n a [] :=
  ⟨oV, ps, N, a, M, fun _ _ => rfl, Turn.refl _ _, b1, b2, by simp⟩
/-- A walk has ended. -/
theorem ri_end {n0 a0 : Nat} {pre : List Nat} (h : RI V Y fp bt br way oV Bn Bt n0 a0 pre) (K : WK w V bt br oV Bw wb Ba Bl Bt av) (ft : Free1 fp oV Bt) (fn : Free1 fp oV Bn) (lt : Bt < V.heap.size) (ln : Bn < V.heap.size) (nb : Cnt w Bw wb Ba Bl Bt Bn) :
    ∃ (o : Nat → Nat) (ps : List (Int × Int)) (N a : Nat), Mt Y fp bt br way (n0 + pre.length) o ps N ∧ WK w Y bt br o Bw wb Ba Bl Bt av ∧ Boxed Y Bt 3 (.int .i64 (a : Int)) ∧ Free1 fp o Bt ∧ Boxed Y Bn 3 (.int .i64 (pre.length : Int)) ∧ Free1 fp o Bn ∧ a ≤ a0 + pre.length := by
  obtain ⟨o, ps, N, a, M, ho, tu, b1, b2, ha⟩ := h
  refine ⟨o, ps, N, a, M, K.turn tu (fun k hk _ => ?_) (fun k hk h0 => (ho k hk).trans h0), b2, ⟨(ho _ lt).trans ft.1, ft.2⟩, b1, ⟨(ho _ ln).trans fn.1, fn.2⟩, ha⟩
  have := nb
  unfold Cnt at this
  rcases hk with hk | hk | hk
  · exact .inl (by omega)
  · exact .inr (.inr (by omega))
  · exact .inr (.inl hk)
/-- An object that is no row of cells goes through all rounds. -/
theorem RI.obj {n0 a0 : Nat} {pre : List Nat} (h : RI V Y fp bt br way oV Bn Bt n0 a0 pre) (hz : ∀ k, ¬ MW bt br V k → oV k = 0) (M : Mt V fp bt br way n oV ps N) {v1 v2 : Value} (b1 : Boxed V Bn 3 v1) (b2 : Boxed V Bt 3 v2) {k : Nat} {ob : Obj} (hk : V.heap[k]? = some ob) (hc : ob.isCells = false) : Y.heap[k]? = some ob := by
  have nc : ∀ j cs t f, V.heap[j]? = some (.cells cs t f) → k ≠ j := fun j cs t f hj e => by
    subst e; rw [hk] at hj; simp only [Option.some.injEq] at hj; subst hj; simp [Obj.isCells] at hc
  refine (h.at (Array.getElem?_eq_some_iff.1 hk).1 (hz k (fun e => ?_)) (nc _ _ _ _ b1) (nc _ _ _ _ b2)).trans hk
  obtain ⟨cs, t, f, hj⟩ := (M.own k e).2.2
  exact nc _ _ _ _ hj rfl
/-- Within a round: what a step is asked of. -/
theorem WK.ask (K : WK w X bt br o Bw wb Ba Bl Bt av) {on key val leave : Int} (hok : KeyOk on ∧ KeyOk key ∧ KeyOk val ∧ KeyOk leave) : ∃ i, Ask X wb i bt br on key val leave := by
  obtain ⟨i, hi, hi2⟩ : ∃ i : Nat, i < 2 ∧ on % 2 = (i : Int) := ⟨(on % 2).toNat, by omega, by omega⟩
  refine ⟨i, hi, hi2, ?_, ?_, hok⟩
  · match i, hi with
    | 0, _ => simp [World.cell?, K.b]
    | 1, _ => simp [World.cell?, K.b]
  · match i, hi with
    | 0, _ => simp [World.cell?, K.b]
    | 1, _ => simp [World.cell?, K.b]
/-- A step that no world aside is asked of. -/
theorem step_8 (M : Mt X fp bt br way n o ps N) {i : Nat} {kind on key val leave : Int} (A : Ask X wb i bt br on key val leave) (h8 : kind ≠ 8) :
    Calls Try.prog 9 #[.pointer (some ⟨wb, 0, none⟩), .agg #[.int .i64 kind, .int .i64 on, .int .i64 key, .int .i64 val, .int .i64 leave]] X fun e w' => e = .returned (.bool true) ∧ Done X fp bt br way (n + 1) o w' := by
  by_cases h1 : kind = 1
  · subst h1; exact step_put M A
  by_cases h2 : kind = 2
  · subst h2; exact step_get M A
  by_cases h3 : kind = 3
  · subst h3; exact step_take M A
  by_cases h4 : kind = 4
  · subst h4; exact step_size M A
  by_cases h5 : kind = 5
  · subst h5; exact step_place M A
  by_cases h6 : kind = 6
  · subst h6; exact step_all M A
  by_cases h7 : kind = 7
  · subst h7; exact step_lay M A
  exact step_rest M A (by omega)
/-- What a walk tells, and that its function tells it whatever the tables' blocks turn to. -/
def TeldA (Z : World) (fp : Nat × Nat × Int) (bt br n pf gf : Nat) : Prop := ∃ (f g : Nat → Int) (ks vs : List Int), (∀ V, Stay Z V → Calls Try.prog pf #[.pointer (some ⟨br, 0, none⟩)] V (TellO V ks vs)) ∧ vs.length = ks.length ∧ ks.length ≤ n ∧ (∀ i (h : i < ks.length), ks[i] = f i) ∧ (∀ i (h : i < vs.length), vs[i] = g i) ∧
  ∀ (S : Nat → Prop) (V : World) (Bx : Nat), Turn S Z V → (∀ k, MW bt br Z k ∨ fnfoot fp k → ¬ S k) → V.cell? ⟨Bx, 0, none⟩ = some (.pointer (some ⟨bt, 0, none⟩)) →
    SeqStopsK Fence.wide 8 Try.prog gf #[.pointer (some ⟨Bx, 0, none⟩)] (encF f g) (Keep V.heap.size (MW bt br)) (fun ys => ys = List.range ks.length) (fun pre => ∃ k, k ≤ ks.length ∧ pre = List.range k) ks.length V
theorem Mt.low (M : Mt Z fp bt br way n o ps N) {S : Nat → Prop} (ht : Turn S Z V) (hn : ∀ k, MW bt br Z k ∨ fnfoot fp k → ¬ S k) : (∀ W, Stay V W → ∀ k, MW bt br W k → k < V.heap.size) ∧ ∀ (W : World) (ob : Obj) (k : Nat), V.heap.size ≤ W.heap.size → MW bt br (W.alloc ob) k → MW bt br W k := by
  have l := mt_lt M
  have z := ht.size
  refine ⟨fun W hW k hk => ?_, fun W ob k hz hk => mw_alloc (by omega) (by omega) ob k hk⟩
  have h1 := (M.iff ht (fun k hk => hn k (.inl hk)) k).1 ((mw_iff (S := fun _ => False) (Turn.of_stay hW) (by omega) (by omega) (fun e => e) (fun e => e) k).1 hk)
  have := (M.own k h1).2.1
  omega
theorem teld_all (M : Mt Z fp bt br way n o ps N) : TeldA Z fp bt br n 12 35 := by
  have hlow := @Mt.low
  obtain ⟨cv, pb, len, reach, came, places, hT, h1, h2, h3, h4⟩ := M.t
  obtain ⟨a, b, c, hR, h5⟩ := M.r
  have hb := M.big
  have hll : (live came).length = (ps.map (·.1)).length := by rw [List.length_map, ← h1, List.length_map]
  have hle := live_length_le came
  refine ⟨fun x => ((live came)[x]?.getD gap).key, fun x => ((live came)[x]?.getD gap).val, ps.map (·.1), ps.map (·.2), fun V hV => pairs_anyO (hR.stay hV) (by rw [List.length_map] at hll; omega), by simp, by omega, fun i hi => ?_, fun i hi => ?_, fun S V Bx ht hn hc => ?_⟩
  · have hi2 : i < (live came).length := by omega
    simp only [List.getElem?_eq_getElem hi2, Option.getD_some, List.getElem_map]
    simp only [← h1, List.getElem_map]
    rfl
  · have hi2 : i < (live came).length := by rw [List.length_map] at hi hll; omega
    simp only [List.getElem?_eq_getElem hi2, Option.getD_some, List.getElem_map]
    simp only [← h1, List.getElem_map]
    rfl
  · rw [← hll]
    have hlw := M.low ht hn
    exact all_stops 8 (by decide) Bx (MW bt br) V hc (hT.turn ht (fun k hk => hn k (.inl (.inl ((tf_iff hT k).2 hk)))) (fun k hk => hn k (.inr hk))) (by omega) hlw.1 hlw.2
theorem teld_lay (M : Mt Z fp bt br way n o ps N) : TeldA Z fp bt br n 14 37 := by
  have hfa := M.t.facts
  have hw := M.way
  obtain ⟨cv, pb, len, reach, came, places, hT, h1, h2, h3, h4⟩ := M.t
  obtain ⟨a, b, c, hR, h5⟩ := M.r
  have hb := M.big
  have hll : (byPl (live came)).length = (((byPl (live came)).map pk2).map (·.1)).length := by simp
  have hle := live_length_le came
  have hbl := byPl_len (live came)
  refine ⟨fun x => (((byPl (live came))[x]?.getD gap).place : Int), fun x => ((byPl (live came))[x]?.getD gap).key, ((byPl (live came)).map pk2).map (·.1), ((byPl (live came)).map pk2).map (·.2), fun V hV => ?_, by simp, by omega, fun i hi => ?_, fun i hi => ?_, fun S V Bx ht hn hc => ?_⟩
  · refine (laid_anyO (hR.stay hV) (by omega) (by omega)).mono ?_
    rintro e w' ⟨came2, places2, hL, -, ht⟩
    rw [← hT.laid h1 hw hL] at ht
    exact ht
  · have hi2 : i < (byPl (live came)).length := by simpa using hi
    simp only [List.getElem?_eq_getElem hi2, Option.getD_some, List.getElem_map]
    rfl
  · have hi2 : i < (byPl (live came)).length := by simpa using hi
    simp only [List.getElem?_eq_getElem hi2, Option.getD_some, List.getElem_map]
    rfl
  · rw [← hll]
    have hlw := M.low ht hn
    exact lay_stops 8 (by decide) Bx (MW bt br) V hc (hT.turn ht (fun k hk => hn k (.inl (.inl ((tf_iff hT k).2 hk)))) (fun k hk => hn k (.inr hk))) (by omega) hlw.1 hlw.2
/-- Between two keys that are put. -/
def KI (X W : World) (fp : Nat × Nat × Int) (bt br : Nat) (way : Int) (oX : Nat → Nat) (i : Nat) : Prop := ∃ (o : Nat → Nat) (ps : List (Int × Int)) (N : Nat), Mt W fp bt br way i o ps N ∧ (∀ k, k < X.heap.size → o k = oX k) ∧ Turn (fun k => oX k = bt + 1 ∨ oX k = br + 1) X W
theorem KI.put {i : Nat} (h : KI X W fp bt br way oV i) (key val : Int) (hk : KeyOk key) (hv : KeyOk val) (hi : i + 1 ≤ 1073741824) : Calls Try.prog 18 #[.pointer (some ⟨bt, 0, none⟩), .int .i64 key, .int .i64 val] W fun e W1 => (∃ x, e = .returned x) ∧ Turn (fun k => oV k = bt + 1 ∨ oV k = br + 1) X W1 ∧
    Calls Try.prog 19 #[.pointer (some ⟨br, 0, none⟩), .int .i64 key, .int .i64 val] W1 fun e W2 => (∃ x, e = .returned x) ∧ KI X W2 fp bt br way oV (i + 1) := by
  obtain ⟨o, ps, N, M, ho, tu⟩ := h
  have hfa := M.t.facts
  have z := tu.size
  refine (t_put M.t M.way key val hk (by omega)).mono ?_
  rintro e W1 ⟨rfl, hT1, tu1, g1⟩
  have hR1 := M.mid tu1 (fun k hk => lab_old (L := bt + 1) hk)
  refine ⟨⟨_, rfl⟩, tu.then tu1 (fun k hk e => ?_), (r_put hR1 key val hk hv (by omega) (by omega)).mono ?_⟩
  · have := (M.t.own k e).1
    rw [ho k hk] at this
    exact .inl this
  rintro e W2 ⟨rfl, hR2, tu2, g2⟩
  have hd := M.done2 (Stay.refl W) hT1 tu1 g1 (fun k hk => lab_old hk) hR1 hR2 tu2 g2 (fun k hk => lab_old hk) (Stay.refl W2)
  obtain ⟨ps', N', o', M2, t2, ho2⟩ := hd.mt M hi
  refine ⟨⟨_, rfl⟩, o', ps', N', M2, fun k hk => (ho2 k (by omega)).trans (ho k hk), tu.then t2 (fun k hk e => ?_)⟩
  rw [ho k hk] at e
  exact e
/-- The world's box and those beside it are laid. -/
theorem wk_begin {A : World} (M : Mt X fp bt br way n o ps N) (hs : Boxed X w.heap.size 22 av) (hq : Boxed X (w.heap.size + 1) 4 (.bool false)) (hst : Stay w X) (hlow : w.heap.size + 2 ≤ X.heap.size) (ho : ∀ k, k < w.heap.size + 2 → o k = 0)
    (hA : ((((X.alloc (.cells #[.pointer (some ⟨bt, 0, none⟩)] 24)).alloc (.cells #[.pointer (some ⟨bt, 0, none⟩)] 24)).alloc (.cells #[.pointer (some ⟨bt, 0, none⟩), .pointer (some ⟨bt, 0, none⟩), .pointer (some ⟨br, 0, none⟩), .pointer (some ⟨br, 0, none⟩), .slice none 0 0, .slice none 0 0] 31)).alloc (.cells #[.pointer (some ⟨X.heap.size + 1 + 1, 0, none⟩)] 23)).alloc (.cells #[.int .i64 0] 3) = A) :
    A.heap.size = X.heap.size + 5 ∧ Mt A fp bt br way n (tid bt br A o) ps N ∧ WK w A bt br (tid bt br A o) (X.heap.size + 1 + 1 + 1) (X.heap.size + 1 + 1) X.heap.size (X.heap.size + 1) (X.heap.size + 1 + 1 + 1 + 1) av ∧ Boxed A (X.heap.size + 1 + 1 + 1 + 1) 3 (.int .i64 ((0 : Nat) : Int)) ∧ Free1 fp (tid bt br A o) (X.heap.size + 1 + 1 + 1 + 1) := by
  have hz : A.heap.size = X.heap.size + 5 := by rw [← hA]; simp
  have hsA : Stay X A := by rw [← hA]; exact ((((Stay.new _ _).alloc _).alloc _).alloc _).alloc _
  have hin := fun k => M.iff (S := fun _ => False) (Turn.of_stay hsA) (fun _ _ e => e) k
  have hnew : ∀ k, X.heap.size ≤ k → tid bt br A o k = 0 := fun k hk => tid_out (fun e => by have := (M.own k ((hin k).1 e)).2.1; omega)
  have hfn := M.t.facts.2.2.2.2.2.2
  have b0 : Boxed A X.heap.size 24 (.pointer (some ⟨bt, 0, none⟩)) := by
    rw [← hA]; exact ((((Boxed.new X _ _).alloc _).alloc _).alloc _).alloc _
  have b1 : Boxed A (X.heap.size + 1) 24 (.pointer (some ⟨bt, 0, none⟩)) := by
    have := (((Boxed.new (X.alloc (.cells #[.pointer (some ⟨bt, 0, none⟩)] 24)) 24 (.pointer (some ⟨bt, 0, none⟩))).alloc (.cells #[.pointer (some ⟨bt, 0, none⟩), .pointer (some ⟨bt, 0, none⟩), .pointer (some ⟨br, 0, none⟩), .pointer (some ⟨br, 0, none⟩), .slice none 0 0, .slice none 0 0] 31)).alloc (.cells #[.pointer (some ⟨X.heap.size + 1 + 1, 0, none⟩)] 23)).alloc (.cells #[.int .i64 0] 3)
    rw [World.size_alloc] at this
    rw [← hA]; exact this
  have b2 : A.heap[X.heap.size + 1 + 1]? = some (.cells #[.pointer (some ⟨bt, 0, none⟩), .pointer (some ⟨bt, 0, none⟩), .pointer (some ⟨br, 0, none⟩), .pointer (some ⟨br, 0, none⟩), .slice none 0 0, .slice none 0 0] 31 (0, 0)) := by
    have := heap_new ((X.alloc (.cells #[.pointer (some ⟨bt, 0, none⟩)] 24)).alloc (.cells #[.pointer (some ⟨bt, 0, none⟩)] 24)) (.cells #[.pointer (some ⟨bt, 0, none⟩), .pointer (some ⟨bt, 0, none⟩), .pointer (some ⟨br, 0, none⟩), .pointer (some ⟨br, 0, none⟩), .slice none 0 0, .slice none 0 0] 31)
    simp only [World.size_alloc] at this
    rw [← hA]
    exact (((Stay.new _ _).alloc _).block _ (by simp)).trans this
  have b3 : Boxed A (X.heap.size + 1 + 1 + 1) 23 (.pointer (some ⟨X.heap.size + 1 + 1, 0, none⟩)) := by
    have := (Boxed.new (((X.alloc (.cells #[.pointer (some ⟨bt, 0, none⟩)] 24)).alloc (.cells #[.pointer (some ⟨bt, 0, none⟩)] 24)).alloc (.cells #[.pointer (some ⟨bt, 0, none⟩), .pointer (some ⟨bt, 0, none⟩), .pointer (some ⟨br, 0, none⟩), .pointer (some ⟨br, 0, none⟩), .slice none 0 0, .slice none 0 0] 31)) 23 (.pointer (some ⟨X.heap.size + 1 + 1, 0, none⟩))).alloc (.cells #[.int .i64 0] 3)
    simp only [World.size_alloc] at this
    rw [← hA]; exact this
  have b4 : Boxed A (X.heap.size + 1 + 1 + 1 + 1) 3 (.int .i64 ((0 : Nat) : Int)) := by
    have := Boxed.new ((((X.alloc (.cells #[.pointer (some ⟨bt, 0, none⟩)] 24)).alloc (.cells #[.pointer (some ⟨bt, 0, none⟩)] 24)).alloc (.cells #[.pointer (some ⟨bt, 0, none⟩), .pointer (some ⟨bt, 0, none⟩), .pointer (some ⟨br, 0, none⟩), .pointer (some ⟨br, 0, none⟩), .slice none 0 0, .slice none 0 0] 31)).alloc (.cells #[.pointer (some ⟨X.heap.size + 1 + 1, 0, none⟩)] 23)) 3 (.int .i64 0)
    simp only [World.size_alloc] at this
    rw [← hA]; exact this
  refine ⟨hz, (M.stay hsA).tidy, ⟨(hsA.block _ (by omega)).trans hs, (hsA.block _ (by omega)).trans hq, b3, b2, b0, b1, fun k hk => ?_, hst.trans hsA, by omega, by omega, by omega, by omega, by omega⟩, b4, hnew _ (by omega), fun e => by have := hfn.lt _ e; omega⟩
  rcases hk with hk | hk
  · exact tid_zero (ho k hk)
  · exact hnew k (by omega)
end
end Go.Proofs.Ytdnophgcdnghkaa.I
namespace Go.Proofs.Ytdnophgcdnghkaa.I
open Go.RowKit Go.Maps Go.Shelf Go.Proofs.Ytdnophgcdnghkaa

/-- What must be told, in its box. -/
structure TL (V : World) (oV : Nat → Nat) (Bn Bt B1 m : Nat) (a1 a2 : Option Addr) (b1 b2 c1 c2 : Nat) (f g : Nat → Int) : Prop where
  box : V.heap[B1]? = some (.cells #[.slice a1 m c1, .slice a2 m c2] 49 (0, 0))
  at_ : 0 < m → a1 = some ⟨b1, 0, none⟩ ∧ a2 = some ⟨b2, 0, none⟩
  row : ∀ i, i < m → V.cell? ⟨b1, i, none⟩ = some (.int .i64 (f i)) ∧ V.cell? ⟨b2, i, none⟩ = some (.int .i64 (g i))
  free : ∀ k, k = B1 ∨ (0 < m ∧ (k = b1 ∨ k = b2)) → oV k = 0 ∧ k ≠ Bn ∧ k ≠ Bt
/-- What loops over functions have put off: nothing, each. -/
def Defs (w X : World) (l : List Nat) : Prop := (∀ d ∈ l, X.heap[d]? = some (.deferred (some [])) ∧ w.heap.size ≤ d) ∧ l.Pairwise (· ≠ ·)
section
variable {w V X Y Y1 Z W : World} {fp : Nat × Nat × Int} {bt br n n1 n0 a0 m N Bw wb Ba Bl Bt Bn B1 b1 b2 c1 c2 : Nat} {way : Int} {o o' oV : Nat → Nat} {ps : List (Int × Int)} {av : Value} {a1 a2 : Option Addr} {f g : Nat → Int} {pre : List Nat}
theorem tl_new {ks vs : List Int} (hz : ∀ k, X.heap.size ≤ k → oV k = 0) (hsY : Stay X Y) (hR1 : RecS 1 encN Y a1 b1 0 ks) (hR2 : RecS 1 encN Y a2 b2 0 vs) (hfr : ∀ k, a1 = some ⟨k, 0, none⟩ ∨ a2 = some ⟨k, 0, none⟩ → X.heap.size ≤ k) (hvl : vs.length = ks.length)
    (hkf : ∀ i (h : i < ks.length), ks[i] = f i) (hvg : ∀ i (h : i < vs.length), vs[i] = g i) (ht : Turn (fun k => k = Bn) (Y.alloc (.cells #[.slice a1 ks.length c1, .slice a2 ks.length c2] 49)) V) (hn : ∀ k, X.heap.size ≤ k → k ≤ Y.heap.size → k ≠ Bn) (lt : Bt < X.heap.size) :
    TL V oV Bn Bt Y.heap.size ks.length a1 a2 b1 b2 c1 c2 f g := by
  have z1 := hsY.size
  have r1 := recs_ints hR1
  have r2 := recs_ints hR2
  have hrow : ∀ i, i < ks.length → Y.cell? ⟨b1, i, none⟩ = some (.int .i64 (f i)) ∧ Y.cell? ⟨b2, i, none⟩ = some (.int .i64 (g i)) := fun i hi => by
    refine ⟨?_, ?_⟩
    · rw [← hkf i hi]; exact r1.2 i hi
    · rw [← hvg i (by omega)]; exact r2.2 i (by omega)
  have hl : ∀ i, i < ks.length → (X.heap.size ≤ b1 ∧ b1 < Y.heap.size) ∧ (X.heap.size ≤ b2 ∧ b2 < Y.heap.size) := fun i hi =>
    ⟨⟨hfr b1 (.inl (r1.1 (by omega))), World.block_lt_of_cell? Y _ (hrow i hi).1⟩, ⟨hfr b2 (.inr (r2.1 (by omega))), World.block_lt_of_cell? Y _ (hrow i hi).2⟩⟩
  refine ⟨ht.heap (heap_new Y _) (hn _ z1 (Nat.le_refl _)), fun h => ⟨r1.1 h, r2.1 (by omega)⟩, fun i hi => ?_, fun k hk => ?_⟩
  · obtain ⟨⟨l1, l2⟩, ⟨l3, l4⟩⟩ := hl i hi
    exact ⟨ht.cell ((Stay.new Y _).cell (hrow i hi).1) (hn _ l1 (by dsimp only; omega)), ht.cell ((Stay.new Y _).cell (hrow i hi).2) (hn _ l3 (by dsimp only; omega))⟩
  · have hk2 : X.heap.size ≤ k ∧ k ≤ Y.heap.size := by
      rcases hk with rfl | ⟨h0, rfl | rfl⟩
      · omega
      · have := hl 0 h0; omega
      · have := hl 0 h0; omega
    exact ⟨hz k hk2.1, hn k hk2.1 hk2.2, by omega⟩
theorem TL.see (h : TL V oV Bn Bt B1 m a1 a2 b1 b2 c1 c2 f g) (hI : RI V Y fp bt br way oV Bn Bt n0 a0 pre) (K : WK w V bt br oV Bw wb Ba Bl Bt av) (nb : Cnt w Bw wb Ba Bl Bt Bn) (hlt : pre.length < m) :
    (a1 = some ⟨b1, 0, none⟩ ∧ a2 = some ⟨b2, 0, none⟩) ∧ Y.cell? ⟨B1, 0, none⟩ = some (.slice a1 m c1) ∧ Y.cell? ⟨B1, 1, none⟩ = some (.slice a2 m c2) ∧ Y.cell? ⟨b1, pre.length, none⟩ = some (.int .i64 (f pre.length)) ∧ Y.cell? ⟨b2, pre.length, none⟩ = some (.int .i64 (g pre.length)) ∧ Boxed Y (w.heap.size + 1) 4 (.bool false) := by
  have hb : ∀ k, k < V.heap.size → k = B1 ∨ (0 < m ∧ (k = b1 ∨ k = b2)) → Y.heap[k]? = V.heap[k]? := fun k hl hk => by
    obtain ⟨h1, h2, h3⟩ := h.free k hk
    exact hI.at hl h1 h2 h3
  have e1 := (hb B1 (Array.getElem?_eq_some_iff.1 h.box).1 (.inl rfl)).trans h.box
  obtain ⟨r1, r2⟩ := h.row _ hlt
  have hz := K.stay.size
  have hne := K.ne
  have hq := K.q.lt
  have := nb.1
  refine ⟨h.at_ (by omega), by simp [World.cell?, e1], by simp [World.cell?, e1], (World.cell?_of_block (a := ⟨b1, _, none⟩) (hb b1 (World.block_lt_of_cell? V _ r1) (.inr ⟨by omega, .inl rfl⟩))).trans r1, (World.cell?_of_block (a := ⟨b2, _, none⟩) (hb b2 (World.block_lt_of_cell? V _ r2) (.inr ⟨by omega, .inr rfl⟩))).trans r2, ?_⟩
  exact (hI.at hq (K.own _ (.inl (by omega))) (by omega) (by omega)).trans K.q
theorem TL.last (h : TL V oV Bn Bt B1 m a1 a2 b1 b2 c1 c2 f g) (hI : RI V Y fp bt br way oV Bn Bt n0 a0 pre) : Y.cell? ⟨B1, 0, none⟩ = some (.slice a1 m c1) := by
  obtain ⟨h1, h2, h3⟩ := h.free B1 (.inl rfl)
  have e1 := (hI.at (Array.getElem?_eq_some_iff.1 h.box).1 h1 h2 h3).trans h.box
  simp [World.cell?, e1]
theorem ri_mid {a : Nat} {v : Value} (M : Mt Y fp bt br way n1 o ps N) (ho : ∀ k, k < V.heap.size → o k = oV k) (tu : Turn (fun k => (oV k = bt + 1 ∨ oV k = br + 1) ∨ k = Bn ∨ k = Bt) V Y) (K : WK w V bt br oV Bw wb Ba Bl Bt av) (ft : Free1 fp oV Bt) (lt : Bt < V.heap.size) (b2 : Boxed Y Bt 3 (.int .i64 (a : Int)))
    (f1 : Free1 fp oV Bn) (l1 : Bn < V.heap.size) (nb : Cnt w Bw wb Ba Bl Bt Bn) (hY : Y.setCell ⟨Bn, 0, none⟩ v = Y1) : Mt Y1 fp bt br way n1 o ps N ∧ WK w Y1 bt br o Bw wb Ba Bl Bt av ∧ Boxed Y1 Bt 3 (.int .i64 (a : Int)) ∧ Free1 fp o Bt := by
  have hnb := nb
  unfold Cnt at hnb
  have fY : Free1 fp o Bn := ⟨(ho _ l1).trans f1.1, f1.2⟩
  have t1 : Turn (fun k => k = Bn) Y Y1 := by rw [← hY]; exact (Turn.refl (fun k => k = Bn) Y).set rfl _ _
  have KY : WK w Y bt br o Bw wb Ba Bl Bt av := K.turn tu (fun k hk _ => by
    rcases hk with hk | hk | hk
    · exact .inl (by omega)
    · exact .inr (.inr (by omega))
    · exact .inr (.inl hk)) (fun k hk h0 => (ho k hk).trans h0)
  refine ⟨?_, KY.turn t1 (fun k hk _ => .inr (.inr (by omega))) (fun _ _ h => h), t1.heap b2 (by omega), (ho _ lt).trans ft.1, ft.2⟩
  rw [← hY]
  exact M.set fY 0 v
theorem done_see {a : Nat} (M : Mt Y1 fp bt br way n1 o ps N) (K : WK w Y1 bt br o Bw wb Ba Bl Bt av) (b : Boxed Y1 Bt 3 (.int .i64 (a : Int))) (ft : Free1 fp o Bt) (hs : Stay Y1 Z) (hd : Done Z fp bt br way m o W) :
    WK w W bt br o Bw wb Ba Bl Bt av ∧ Boxed W Bt 3 (.int .i64 (a : Int)) ∧ Done Y1 fp bt br way m o W := by
  have hd2 := hd.after M hs
  obtain ⟨ps', N', o', hT, hR, tu, hg, ho⟩ := id hd2
  refine ⟨K.turn tu (fun k hk _ => .inl (by have := (M.own k hk).1; omega)) (fun _ _ h => h), tu.heap b (fun e => ?_), hd2⟩
  have := (M.own _ e).1
  have := ft.1
  omega
theorem defs_next {l : List Nat} {D : Nat} {v1 v2 : Value} (hD : Defs w X l) (hw : Stay w X) (M : Mt X fp bt br way n o ps N) (ht : Turn (fun k => k = Bn) X V) (hno : ¬ MW bt br X Bn) (hb : X.heap[Bn]? = none ∨ ∃ v, Boxed X Bn 3 v) (M2 : Mt V fp bt br way n oV ps N) (hz : ∀ k, ¬ MW bt br X k → oV k = 0)
    (b1 : Boxed V Bn 3 v1) (b2 : Boxed V Bt 3 v2) (hI : RI V Y fp bt br way oV Bn Bt n0 a0 pre) (hDV : V.heap.size ≤ D) (hK : Y.heap[D]? = some (.deferred (some []))) : Defs w Y (D :: l) := by
  have z1 := hw.size
  have z2 := ht.size
  have hin := fun k => M.iff ht (fun k hk e => hno (e ▸ hk)) k
  refine ⟨fun d hd => ?_, List.pairwise_cons.2 ⟨fun d hd => ?_, hD.2⟩⟩
  · rcases List.mem_cons.1 hd with rfl | hd
    · exact ⟨hK, by omega⟩
    · obtain ⟨h1, h2⟩ := hD.1 d hd
      refine ⟨hI.obj (fun k hk => hz k (fun e => hk ((hin k).2 e))) M2 b1 b2 (ht.heap h1 (fun e => ?_)) rfl, h2⟩
      subst e
      rcases hb with hb | ⟨v, hb⟩
      · rw [hb] at h1; cases h1
      · unfold Boxed at hb; rw [hb] at h1; cases h1
  · have := (Array.getElem?_eq_some_iff.1 (hD.1 d hd).1).1
    omega
theorem defs_nil : Defs w X [] := ⟨fun d hd => by simp at hd, List.Pairwise.nil⟩
/-- The end of a function with four loops over functions. -/
theorem gi_end4 {D0 D1 D2 D3 Bq : Nat} (hD : Defs w X [D3, D2, D1, D0]) (hs : Stay X W) (hq : Boxed W Bq 4 (.bool false)) (hB : Stay w W) (hw : w.heap.size ≤ Bq) {v : Value} {W1 W2 W3 W4 W5 : World} (e1 : W.setCell ⟨Bq, 0, none⟩ v = W1) (e2 : W1.putObj D3 (.deferred none) = W2) (e3 : W2.putObj D2 (.deferred none) = W3) (e4 : W3.putObj D1 (.deferred none) = W4) (e5 : W4.putObj D0 (.deferred none) = W5) :
    W1.heap[D3]? = some (.deferred (some [])) ∧ W2.heap[D2]? = some (.deferred (some [])) ∧ W3.heap[D1]? = some (.deferred (some [])) ∧ W4.heap[D0]? = some (.deferred (some [])) ∧ W5.cell? ⟨Bq, 0, none⟩ = some v ∧ Stay w W5 := by
  obtain ⟨hd, hp⟩ := hD
  simp at hp
  obtain ⟨⟨p1, p2, p3⟩, ⟨p4, p5⟩, p6⟩ := hp
  have g : ∀ d ∈ [D3, D2, D1, D0], W.heap[d]? = some (.deferred (some [])) ∧ w.heap.size ≤ d ∧ d ≠ Bq := fun d hm => by
    obtain ⟨h1, h2⟩ := hd d hm
    have h3 := (hs.block d (Array.getElem?_eq_some_iff.1 h1).1).trans h1
    exact ⟨h3, h2, fun e => by subst e; unfold Boxed at hq; rw [hq] at h3; cases h3⟩
  obtain ⟨a3, l3, n3⟩ := g D3 (by simp)
  obtain ⟨a2, l2, n2⟩ := g D2 (by simp)
  obtain ⟨a1, l1, n1⟩ := g D1 (by simp)
  obtain ⟨a0, l0, n0⟩ := g D0 (by simp)
  have t1 : Turn (fun k => k = Bq) W W1 := by rw [← e1]; exact (Turn.refl (fun k => k = Bq) W).set rfl _ _
  have hq1 : Boxed W1 Bq 4 v := by rw [← e1]; exact hq.set v
  have t2 : Turn (fun k => k = D3) W1 W2 := by rw [← e2]; exact Turn.putObj1 _ _ _
  have t3 : Turn (fun k => k = D2) W2 W3 := by rw [← e3]; exact Turn.putObj1 _ _ _
  have t4 : Turn (fun k => k = D1) W3 W4 := by rw [← e4]; exact Turn.putObj1 _ _ _
  have t5 : Turn (fun k => k = D0) W4 W5 := by rw [← e5]; exact Turn.putObj1 _ _ _
  refine ⟨t1.heap a3 n3, t2.heap (t1.heap a2 n2) (fun e => p1 e.symm), t3.heap (t2.heap (t1.heap a1 n1) (fun e => p2 e.symm)) (fun e => p4 e.symm), t4.heap (t3.heap (t2.heap (t1.heap a0 n0) (fun e => p3 e.symm)) (fun e => p5 e.symm)) (fun e => p6 e.symm), ?_, ?_⟩
  · have : Boxed W5 Bq 4 v := t5.heap (t4.heap (t3.heap (t2.heap hq1 (fun e => n3 e.symm)) (fun e => n2 e.symm)) (fun e => n1 e.symm)) (fun e => n0 e.symm)
    exact this.cell
  · exact t5.stay (t4.stay (t3.stay (t2.stay (t1.stay hB (fun k hk e => by omega)) (fun k hk e => by omega)) (fun k hk e => by omega)) (fun k hk e => by omega)) (fun k hk e => by omega)
end
end Go.Proofs.Ytdnophgcdnghkaa.I
