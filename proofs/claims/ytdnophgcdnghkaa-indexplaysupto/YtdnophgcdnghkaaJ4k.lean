/- Two tables beside two of the document's, and those put aside: whose each block is. No walk here. A table is put aside, its clone goes on: whose each block is. No walk here. -/
import Derived.Test.YtdnophgcdnghkaaJ4e
import Derived.Test.YtdnophgcdnghkaaJ4d
namespace Go.Proofs.Ytdnophgcdnghkaa.I
open Go.RowKit Go.Maps Go.Proofs.Ytdnophgcdnghkaa

def encPt (b : Nat) : List Value := [.pointer (some ⟨b, 0, none⟩)]
theorem encPtOk : EncOk 1 encPt := ⟨fun _ => rfl, fun _ u hu => by simp [encPt] at hu; subst hu; rfl, by decide⟩
theorem infoTp : (Try.prog.info? 24).map (fun i => (i.zero, i.size, i.bytes)) = some (some (.pointer none), 1, 8) := by kernel_rfl
theorem infoRp : (Try.prog.info? 26).map (fun i => (i.zero, i.size, i.bytes)) = some (some (.pointer none), 1, 8) := by kernel_rfl
/-- A table and the document's, whatever is in them. -/
def MtE (W : World) (bt br : Nat) (way : Int) (n : Nat) (o : Nat → Nat) : Prop := ∃ fp ps N, Mt W fp bt br way n o ps N
/-- The box of the world. -/
def Bx (W : World) (wb t0 t1 r0 r1 : Nat) (vo vr : Value) : Prop :=
  W.heap[wb]? = some (.cells #[.pointer (some ⟨t0, 0, none⟩), .pointer (some ⟨t1, 0, none⟩), .pointer (some ⟨r0, 0, none⟩), .pointer (some ⟨r1, 0, none⟩), vo, vr] 31 (0, 0))
/-- The rows of those put aside. -/
structure WR (B : Nat) (W : World) (wb : Nat) (o : Nat → Nat) (vo vr : Value) (os rs : List Nat) : Prop where
  lo : OwnR 24 1 encPt B W vo os
  lr : OwnR 26 1 encPt B W vr rs
  own : ∀ k, k = wb ∨ vo.ownBlock = some k ∨ vr.ownBlock = some k → o k = wb + 1
  ap1 : vo.ownBlock ≠ some wb
  ap2 : vr.ownBlock ≠ some wb
  ap3 : ∀ k, vo.ownBlock = some k → vr.ownBlock ≠ some k
  low : ∀ k, k < B → o k = 0
  size : B ≤ W.heap.size ∧ wb < W.heap.size
/-- The two pairs in turns, and those put aside. -/
structure WC (B : Nat) (W : World) (wb : Nat) (way : Int) (n : Nat) (o : Nat → Nat) (t r t' r' : Nat) (vo vr : Value) (os rs : List Nat) : Prop where
  row : WR B W wb o vo vr os rs
  m : MtE W t r way n o
  m' : MtE W t' r' way n o
  ne : t ≠ t' ∧ t ≠ r' ∧ r ≠ t' ∧ r ≠ r'
  nw : wb ≠ t ∧ wb ≠ r ∧ wb ≠ t' ∧ wb ≠ r'
  len : os.length = rs.length
  old : ∀ (j x y : Nat), os[j]? = some x → rs[j]? = some y → MtE W x y way n o ∧ (x ≠ t ∧ x ≠ r ∧ x ≠ t' ∧ x ≠ r' ∧ x ≠ wb) ∧ (y ≠ t ∧ y ≠ r ∧ y ≠ t' ∧ y ≠ r' ∧ y ≠ wb)
section
variable {B wb t r t' r' n m : Nat} {W W' : World} {way : Int} {o o' : Nat → Nat} {vo vr : Value} {os rs : List Nat} {fp : Nat × Nat × Int} {ps : List (Int × Int)} {N bt br : Nat}
theorem Mt.frame (h : Mt W fp bt br way n o ps N) {S : Nat → Prop} (ht : Turn S W W') (hS : ∀ k, k < W.heap.size → S k → o k ≠ 0 ∧ o k ≠ bt + 1 ∧ o k ≠ br + 1) (ho : ∀ k, k < W.heap.size → o' k = o k) (hm : n ≤ m) (hb : m ≤ 1073741824) : Mt W' fp bt br way m o' ps N := by
  have hfn := h.t.facts.2.2.2.2.2.2
  exact ⟨(h.t.frame ht (fun k hk h1 h2 => (hS k hk h2).2.1 h1) (fun k hk h2 => (hS k (hfn.lt k hk) h2).1 (h.fn k hk)) ho).more hm, h.r.frame ht (fun k hk h1 h2 => (hS k hk h2).2.2 h1) ho, h.way, h.ne, fun k hk => (ho k (hfn.lt k hk)).trans (h.fn k hk), hb⟩
theorem MtE.frame (h : MtE W bt br way n o) {S : Nat → Prop} (ht : Turn S W W') (hS : ∀ k, k < W.heap.size → S k → o k ≠ 0 ∧ o k ≠ bt + 1 ∧ o k ≠ br + 1) (ho : ∀ k, k < W.heap.size → o' k = o k) (hm : n ≤ m) (hb : m ≤ 1073741824) : MtE W' bt br way m o' := by
  obtain ⟨fp, ps, N, h⟩ := h
  exact ⟨fp, ps, N, h.frame ht hS ho hm hb⟩
theorem MtE.lt (h : MtE W bt br way n o) : bt < W.heap.size ∧ br < W.heap.size ∧ o bt = bt + 1 ∧ o br = br + 1 ∧ bt ≠ br ∧ n ≤ 1073741824 := by
  obtain ⟨fp, ps, N, h⟩ := h
  exact ⟨h.t.facts.2.2.2.2.1, h.r.facts.1, h.t.facts.2.2.2.2.2.1, h.r.facts.2.1, h.ne, h.big⟩
theorem WR.frame (h : WR B W wb o vo vr os rs) {S : Nat → Prop} (ht : Turn S W W') (hS : ∀ k, k < W.heap.size → S k → o k ≠ wb + 1) (ho : ∀ k, k < W.heap.size → o' k = o k) : WR B W' wb o' vo vr os rs := by
  have hz := ht.size
  have hlo := h.lo.lt
  have hlr := h.lr.lt
  refine ⟨ht.row h.lo (fun k hk h2 => hS k (hlo k hk).2 h2 (h.own k (.inr (.inl hk)))), ht.row h.lr (fun k hk h2 => hS k (hlr k hk).2 h2 (h.own k (.inr (.inr hk)))), fun k hk => ?_, h.ap1, h.ap2, h.ap3, fun k hk => ?_, by have := h.size; omega, by have := h.size; omega⟩
  · have hkl : k < W.heap.size := by
      rcases hk with rfl | hk | hk
      · exact h.size.2
      · exact (hlo k hk).2
      · exact (hlr k hk).2
    rw [ho k hkl]
    exact h.own k hk
  · rw [ho k (by have := h.size; omega)]
    exact h.low k hk
theorem WC.swap (h : WC B W wb way n o t r t' r' vo vr os rs) : WC B W wb way n o t' r' t r vo vr os rs := by
  obtain ⟨h1, h2, h3, ⟨n1, n2, n3, n4⟩, ⟨w1, w2, w3, w4⟩, h6, h7⟩ := h
  refine ⟨h1, h3, h2, ⟨n1.symm, n3.symm, n2.symm, n4.symm⟩, ⟨w3, w4, w1, w2⟩, h6, fun j x y hx hy => ?_⟩
  obtain ⟨g1, ⟨a1, a2, a3, a4, a5⟩, ⟨b1, b2, b3, b4, b5⟩⟩ := h7 j x y hx hy
  exact ⟨g1, ⟨a3, a4, a1, a2, a5⟩, ⟨b3, b4, b1, b2, b5⟩⟩
/-- What is no one's of these turns: all goes on. -/
theorem WC.frame (h : WC B W wb way n o t r t' r' vo vr os rs) {S : Nat → Prop} (ht : Turn S W W') (hS : ∀ k, k < W.heap.size → ¬ S k) (ho : ∀ k, k < W.heap.size → o' k = o k) : WC B W' wb way n o' t r t' r' vo vr os rs := by
  have hb := h.m.lt.2.2.2.2.2
  exact ⟨h.row.frame ht (fun k hk h2 => absurd h2 (hS k hk)) ho, h.m.frame ht (fun k hk h2 => absurd h2 (hS k hk)) ho (Nat.le_refl _) hb, h.m'.frame ht (fun k hk h2 => absurd h2 (hS k hk)) ho (Nat.le_refl _) hb, h.ne, h.nw, h.len,
    fun j x y hx hy => ⟨(h.old j x y hx hy).1.frame ht (fun k hk h2 => absurd h2 (hS k hk)) ho (Nat.le_refl _) hb, (h.old j x y hx hy).2⟩⟩
theorem WC.stay (h : WC B W wb way n o t r t' r' vo vr os rs) (hs : Stay W W') : WC B W' wb way n o t r t' r' vo vr os rs :=
  h.frame (S := fun _ => False) (Turn.of_stay hs) (fun _ _ e => e) (fun _ _ => rfl)
/-- A step that is done with the first pair. -/
theorem WC.done (h : WC B W wb way n o t r t' r' vo vr os rs) (hm : Mt W fp t r way n o ps N) (hd : Done W fp t r way (n + 1) o W') (hb : n + 1 ≤ 1073741824) : ∃ o', WC B W' wb way (n + 1) o' t r t' r' vo vr os rs ∧ Turn (fun k => o k = t + 1 ∨ o k = r + 1) W W' := by
  obtain ⟨ps', N', o', hT, hR, tu, -, ho⟩ := hd
  have tu2 : Turn (fun k => o k = t + 1 ∨ o k = r + 1) W W' := tu.mono (fun k _ hk => hk.imp (fun g => (hm.t.own k g).1) (fun g => (hm.r.own k g).1))
  have fr : ∀ {x y : Nat}, x ≠ t → x ≠ r → y ≠ t → y ≠ r → MtE W x y way n o → MtE W' x y way (n + 1) o' := fun h1 h2 h3 h4 hx => hx.frame tu2 (fun k _ hk => by omega) ho (by omega) hb
  have hfn := hm.t.facts.2.2.2.2.2.2
  obtain ⟨n1, n2, n3, n4⟩ := h.ne
  obtain ⟨w1, w2, w3, w4⟩ := h.nw
  refine ⟨o', ⟨h.row.frame tu2 (fun k _ hk => by omega) ho, ⟨fp, ps', N', hT, hR, hm.way, hm.ne, fun k hk => (ho k (hfn.lt k hk)).trans (hm.fn k hk), hb⟩, fr n1.symm n3.symm n2.symm n4.symm h.m', h.ne, h.nw, h.len, fun j x y hx hy => ?_⟩, tu2⟩
  obtain ⟨g1, ⟨a1, a2, a3, a4, a5⟩, ⟨b1, b2, b3, b4, b5⟩⟩ := h.old j x y hx hy
  exact ⟨fr a1 a2 b1 b2 g1, ⟨a1, a2, a3, a4, a5⟩, ⟨b1, b2, b3, b4, b5⟩⟩
theorem Bx.turn {t0 t1 r0 r1 : Nat} (h : Bx W wb t0 t1 r0 r1 vo vr) {S : Nat → Prop} (ht : Turn S W W') (hS : ¬ S wb) : Bx W' wb t0 t1 r0 r1 vo vr := ht.heap h hS
theorem Bx.cells {t0 t1 r0 r1 : Nat} (h : Bx W wb t0 t1 r0 r1 vo vr) : W.cell? ⟨wb, 0, none⟩ = some (.pointer (some ⟨t0, 0, none⟩)) ∧ W.cell? ⟨wb, 1, none⟩ = some (.pointer (some ⟨t1, 0, none⟩)) ∧ W.cell? ⟨wb, 2, none⟩ = some (.pointer (some ⟨r0, 0, none⟩)) ∧ W.cell? ⟨wb, 3, none⟩ = some (.pointer (some ⟨r1, 0, none⟩)) ∧ W.cell? ⟨wb, 4, none⟩ = some vo ∧ W.cell? ⟨wb, 5, none⟩ = some vr ∧ (∀ k, W.frozen? ⟨wb, k, none⟩ = false) ∧ wb < W.heap.size := by
  unfold Bx at h
  refine ⟨by simp [World.cell?, h], by simp [World.cell?, h], by simp [World.cell?, h], by simp [World.cell?, h], by simp [World.cell?, h], by simp [World.cell?, h], fun k => by simp [World.frozen?, h], (Array.getElem?_eq_some_iff.1 h).1⟩
/-- What is put in a row of those put aside: the row goes on, the rest stays. -/
theorem push_pt {P : Program} {s ty : TypeId} (hu : P.underlying s = some (.slice ty)) (hinfo : (P.info? ty).map (fun i => (i.zero, i.size, i.bytes)) = some (some (.pointer none), 1, 8)) {w0 : Nat} {v : Value} {xs : List Nat} (hown : OwnR ty 1 encPt w0 W v xs) (x : Nat) (hl : xs.length ≤ 1048576) (hb : w0 ≤ W.heap.size) (u : TypeId) :
    ∃ a' c' W2, (Builtin.append_ #[s, s] u #[v, .slice (some ⟨W.heap.size, 0, none⟩) 1 1]).run P (W.alloc (.cells #[.pointer (some ⟨x, 0, none⟩)] ty)) = .ok (.slice a' (xs.length + 1) c') W2 ∧ OwnR ty 1 encPt w0 W2 (.slice a' (xs.length + 1) c') (xs ++ [x]) ∧
      Turn (fun k => v.ownBlock = some k) W W2 ∧ (∀ k, (Value.slice a' (xs.length + 1) c').ownBlock = some k → v.ownBlock = some k ∨ W.heap.size ≤ k) := by
  obtain ⟨a', b', c', W2, hr, hO, -, e1, e2, e3, hblk, hat, hsz⟩ := own_push1 encPtOk hu hinfo rfl hown x (by unfold maxLen; omega) (by omega) hb u
  refine ⟨a', c', W2, hr, hO, ⟨e1, e2, e3, Nat.le_of_lt hsz, fun k hk hn => hblk k hk hn⟩, fun k hk => ?_⟩
  rcases hat with g | g
  · exact .inl (g ▸ hk)
  · rw [g] at hk
    have := Option.some.inj hk
    exact .inr (by omega)
end
end Go.Proofs.Ytdnophgcdnghkaa.I
namespace Go.Proofs.Ytdnophgcdnghkaa.I
open Go.RowKit Go.Maps Go.Proofs.Ytdnophgcdnghkaa
section
variable {B wb t r t' r' n m : Nat} {w W W' : World} {way : Int} {o o' : Nat → Nat} {vo vr : Value} {os rs : List Nat} {fp : Nat × Nat × Int} {ps : List (Int × Int)} {N bt br : Nat}
theorem t_clone (h : TS W fp bt ps N n o) (hn : n ≤ 1073741824) : Calls Try.prog 34 #[.pointer (some ⟨bt, 0, none⟩)] W fun e w' => ∃ ct, e = .returned (.pointer (some ⟨ct, 0, none⟩)) ∧ W.heap.size ≤ ct ∧ TS w' fp ct ps N n (lab W o (ct + 1)) ∧ Stay W w' := by
  obtain ⟨cv, pb, len, reach, came, places, hT, h1, h2, h3, h4⟩ := h
  refine (clone_any hT (by omega)).mono ?_
  rintro e w' ⟨ct, cv', pb', rfl, hT', hf, hs⟩
  exact ⟨ct, rfl, hf ct (.inl rfl), ⟨cv', pb', len, reach, came, places, hT', h1, h2, h3, fun k hk => lab_new (hf k hk)⟩, hs⟩
theorem r_copy (h : RS W br way ps N o) (hn : ps.length ≤ 1099511627776) : Calls Try.prog 33 #[.pointer (some ⟨br, 0, none⟩)] W fun e w' => e = .returned (.pointer (some ⟨W.heap.size, 0, none⟩)) ∧ RS w' W.heap.size way ps N (lab W o (W.heap.size + 1)) ∧ Stay W w' := by
  obtain ⟨a, b, c, hR, h1⟩ := h
  refine (rCopy_any hR hn).mono ?_
  rintro e w' ⟨a', b', c', rfl, hR', hs, hf⟩
  refine ⟨rfl, ⟨a', b', c', hR', fun k hk => ?_⟩, hs⟩
  rcases hk with rfl | hk
  · exact lab_new (Nat.le_refl _)
  · exact lab_new (hf k hk)
/-- One more is put aside: the table. -/
theorem WR.pushO (h : WR B W wb o vo vr os rs) (x : Nat) (hl : os.length ≤ 1048576) : ∃ a' c' W2, (Builtin.append_ #[28, 28] 28 #[vo, .slice (some ⟨W.heap.size, 0, none⟩) 1 1]).run Try.prog (W.alloc (.cells #[.pointer (some ⟨x, 0, none⟩)] 24)) = .ok (.slice a' (os.length + 1) c') W2 ∧
    W2.heap[wb]? = W.heap[wb]? ∧ WR B (W2.setCell ⟨wb, 4, none⟩ (.slice a' (os.length + 1) c')) wb (lab W o (wb + 1)) (.slice a' (os.length + 1) c') vr (os ++ [x]) rs ∧ Turn (fun k => o k = wb + 1) W (W2.setCell ⟨wb, 4, none⟩ (.slice a' (os.length + 1) c')) := by
  have hlo := h.lo.lt
  have hlr := h.lr.lt
  have hz := h.size
  obtain ⟨a', c', W2, hr, hO, tu, hat⟩ := push_pt Try.underlying28 infoTp h.lo x hl hz.1 28
  have hz2 := tu.size
  have tb : Turn (fun k => k = wb) W2 (W2.setCell ⟨wb, 4, none⟩ (.slice a' (os.length + 1) c')) := (Turn.refl (fun k => k = wb) W2).set rfl _ _
  have tu' : Turn (fun k => o k = wb + 1) W W2 := tu.mono (fun k _ hk => h.own k (.inr (.inl hk)))
  have hne : ∀ k, (Value.slice a' (os.length + 1) c').ownBlock = some k → k ≠ wb := fun k hk e => by
    subst e
    rcases hat k hk with g | g
    · exact h.ap1 g
    · omega
  refine ⟨a', c', W2, hr, tu.block wb hz.2 h.ap1, ?_, tu'.then tb (fun k _ hk => by rw [hk]; exact h.own wb (.inl rfl))⟩
  have hsz := tb.size
  refine ⟨tb.row hO (fun k hk e => hne k hk e), tb.row (tu.row h.lr (fun k hk e => h.ap3 k e hk)) (fun k hk e => h.ap2 (e ▸ hk)), fun k hk => ?_, fun e => hne _ e rfl, h.ap2, fun k hk hr => ?_, fun k hk => ?_, by omega, by omega⟩
  · rcases hk with rfl | hk | hk
    · rw [lab_old hz.2]; exact h.own _ (.inl rfl)
    · rcases hat k hk with g | g
      · rw [lab_old (hlo k g).2]; exact h.own k (.inr (.inl g))
      · exact lab_new g
    · rw [lab_old (hlr k hk).2]; exact h.own k (.inr (.inr hk))
  · rcases hat k hk with g | g
    · exact h.ap3 k g hr
    · have := (hlr k hr).2; omega
  · rw [lab_old (by omega)]; exact h.low k hk
/-- One more is put aside: the document's. -/
theorem WR.pushR (h : WR B W wb o vo vr os rs) (x : Nat) (hl : rs.length ≤ 1048576) : ∃ a' c' W2, (Builtin.append_ #[29, 29] 29 #[vr, .slice (some ⟨W.heap.size, 0, none⟩) 1 1]).run Try.prog (W.alloc (.cells #[.pointer (some ⟨x, 0, none⟩)] 26)) = .ok (.slice a' (rs.length + 1) c') W2 ∧
    W2.heap[wb]? = W.heap[wb]? ∧ WR B (W2.setCell ⟨wb, 5, none⟩ (.slice a' (rs.length + 1) c')) wb (lab W o (wb + 1)) vo (.slice a' (rs.length + 1) c') os (rs ++ [x]) ∧ Turn (fun k => o k = wb + 1) W (W2.setCell ⟨wb, 5, none⟩ (.slice a' (rs.length + 1) c')) := by
  have hlo := h.lo.lt
  have hlr := h.lr.lt
  have hz := h.size
  obtain ⟨a', c', W2, hr, hO, tu, hat⟩ := push_pt Try.underlying29 infoRp h.lr x hl hz.1 29
  have hz2 := tu.size
  have tb : Turn (fun k => k = wb) W2 (W2.setCell ⟨wb, 5, none⟩ (.slice a' (rs.length + 1) c')) := (Turn.refl (fun k => k = wb) W2).set rfl _ _
  have tu' : Turn (fun k => o k = wb + 1) W W2 := tu.mono (fun k _ hk => h.own k (.inr (.inr hk)))
  have hne : ∀ k, (Value.slice a' (rs.length + 1) c').ownBlock = some k → k ≠ wb := fun k hk e => by
    subst e
    rcases hat k hk with g | g
    · exact h.ap2 g
    · omega
  refine ⟨a', c', W2, hr, tu.block wb hz.2 h.ap2, ?_, tu'.then tb (fun k _ hk => by rw [hk]; exact h.own wb (.inl rfl))⟩
  have hsz := tb.size
  refine ⟨tb.row (tu.row h.lo (fun k hk e => h.ap3 k hk e)) (fun k hk e => h.ap1 (e ▸ hk)), tb.row hO (fun k hk e => hne k hk e), fun k hk => ?_, h.ap1, fun e => hne _ e rfl, fun k hk hr => ?_, fun k hk => ?_, by omega, by omega⟩
  · rcases hk with rfl | hk | hk
    · rw [lab_old hz.2]; exact h.own _ (.inl rfl)
    · rw [lab_old (hlo k hk).2]; exact h.own k (.inr (.inl hk))
    · rcases hat k hk with g | g
      · rw [lab_old (hlr k g).2]; exact h.own k (.inr (.inr g))
      · exact lab_new g
  · rcases hat k hr with g | g
    · exact h.ap3 k hk g
    · have := (hlo k hk).2; omega
  · rw [lab_old (by omega)]; exact h.low k hk
/-- Ahead of the clone: all but the table that was put aside; it is there too. -/
structure Ahd (B : Nat) (w W : World) (wb : Nat) (way : Int) (n : Nat) (o o' : Nat → Nat) (r t' r' : Nat) (vo vr : Value) (os rs : List Nat) (fp : Nat × Nat × Int) (t : Nat) (ps : List (Int × Int)) (N : Nat) : Prop where
  row : WR B W wb o' vo vr os rs
  tu : Turn (fun k => o k = wb + 1) w W
  ho : ∀ k, k < w.heap.size → o' k = o k
  mt : TS W fp t ps N n o'
  mr : RS W r way ps N o'
  wy : fp.2.2 = way
  fn : ∀ k, fnfoot fp k → o' k = 0
  m' : MtE W t' r' way n o'
  ne : r ≠ t' ∧ r ≠ r'
  nw : wb ≠ r ∧ wb ≠ t' ∧ wb ≠ r'
  len : os.length = rs.length
  old : ∀ (j x y : Nat), os[j]? = some x → rs[j]? = some y → MtE W x y way n o' ∧ (x ≠ r ∧ x ≠ t' ∧ x ≠ r' ∧ x ≠ wb) ∧ (y ≠ r ∧ y ≠ t' ∧ y ≠ r' ∧ y ≠ wb)
theorem WC.ahd (h : WC B w wb way n o t r t' r' vo vr os rs) (hm : Mt w fp t r way n o ps N) (hs : Stay w W) : Ahd B w W wb way n o o r t' r' vo vr os rs fp t ps N := by
  have h' := h.stay hs
  have hm' := hm.stay hs
  exact ⟨h'.row, Turn.of_stay hs, fun _ _ => rfl, hm'.t, hm'.r, hm'.way, hm'.fn, h'.m', ⟨h.ne.2.2.1, h.ne.2.2.2⟩, ⟨h.nw.2.1, h.nw.2.2.1, h.nw.2.2.2⟩, h.len, fun j x y hx hy => by
    obtain ⟨g1, ⟨a1, a2, a3, a4, a5⟩, ⟨b1, b2, b3, b4, b5⟩⟩ := h'.old j x y hx hy
    exact ⟨g1, ⟨a2, a3, a4, a5⟩, ⟨b2, b3, b4, b5⟩⟩⟩
/-- The clone goes on. -/
theorem Ahd.done (h : Ahd B w W wb way n o o' r t' r' vo vr os rs fp t ps N) {ct : Nat} (hc : W.heap.size ≤ ct) (hT : TS W' fp ct ps N n (lab W o' (ct + 1))) (hs : Stay W W') (i : Nat) (hb : n + 1 ≤ 1073741824) :
    WC B (W'.setCell ⟨wb, i, none⟩ (.pointer (some ⟨ct, 0, none⟩))) wb way (n + 1) (lab W o' (ct + 1)) ct r t' r' vo vr os rs ∧ Turn (fun k => o k = wb + 1) w (W'.setCell ⟨wb, i, none⟩ (.pointer (some ⟨ct, 0, none⟩))) := by
  have hwl := h.row.size.2
  have hz := hs.size
  have hob := h.row.own wb (.inl rfl)
  have tb : Turn (fun k => k = wb) W' (W'.setCell ⟨wb, i, none⟩ (.pointer (some ⟨ct, 0, none⟩))) := (Turn.refl (fun k => k = wb) W').set rfl _ _
  have tw : Turn (fun k => k = wb) W (W'.setCell ⟨wb, i, none⟩ (.pointer (some ⟨ct, 0, none⟩))) := (Turn.of_stay hs).trans tb
  have hl : ∀ k, k < W.heap.size → lab W o' (ct + 1) k = o' k := fun k hk => lab_old hk
  have fr : ∀ {x y : Nat}, x ≠ wb → y ≠ wb → MtE W x y way n o' → MtE (W'.setCell ⟨wb, i, none⟩ (.pointer (some ⟨ct, 0, none⟩))) x y way (n + 1) (lab W o' (ct + 1)) := fun h1 h2 hx => hx.frame tw (fun k _ hk => by rw [hk, hob]; omega) hl (by omega) hb
  have hrl := h.mr.facts
  have hml := h.m'.lt
  have hct : ct < W'.heap.size := hT.facts.2.2.2.2.1
  have hTfn := hT.facts.2.2.2.2.2.2
  have hfl := h.mt.facts.2.2.2.2.2.2
  obtain ⟨n1, n2⟩ := h.ne
  obtain ⟨w1, w2, w3⟩ := h.nw
  have tg : Turn (fun k => o k = wb + 1) w (W'.setCell ⟨wb, i, none⟩ (.pointer (some ⟨ct, 0, none⟩))) := by
    refine h.tu.then tw (fun k hk e => ?_)
    rw [e] at hk ⊢
    rw [← h.ho wb hk]
    exact hob
  refine ⟨⟨?_, ?_, fr w2.symm w3.symm h.m', ⟨by omega, by omega, n1, n2⟩, ⟨by omega, w1, w2, w3⟩, h.len, fun j x y hx hy => ?_⟩, tg⟩
  · have hr1 := h.row.frame (o' := lab W o' (ct + 1)) (S := fun _ => False) (Turn.of_stay hs) (fun _ _ e => e.elim) hl
    have hlo := h.row.lo.lt
    have hlr := h.row.lr.lt
    exact ⟨tb.row hr1.lo (fun k hk e => h.row.ap1 (e ▸ hk)), tb.row hr1.lr (fun k hk e => h.row.ap2 (e ▸ hk)), hr1.own, hr1.ap1, hr1.ap2, hr1.ap3, hr1.low, by have := tb.size; have := h.row.size; omega, by have := tb.size; omega⟩
  · have hcw : lab W o' (ct + 1) wb = wb + 1 := by rw [hl wb hwl]; exact hob
    refine ⟨fp, ps, N, (hT.frame tb (fun k hk h1 h2 => by rw [h2, hcw] at h1; omega) (fun k hk h2 => ?_) (fun _ _ => rfl)).more (by omega), h.mr.frame tw (fun k hk h1 h2 => by rw [h2, hob] at h1; omega) hl, h.wy, by omega, fun k hk => ?_, hb⟩
    · have := h.fn k hk
      rw [h2, hob] at this
      omega
    · rw [hl k (hfl.lt k hk)]
      exact h.fn k hk
  · obtain ⟨g1, ⟨a1, a2, a3, a4⟩, ⟨b1, b2, b3, b4⟩⟩ := h.old j x y hx hy
    have gl := g1.lt
    exact ⟨fr a4 b4 g1, ⟨by omega, a1, a2, a3, a4⟩, ⟨by omega, b1, b2, b3, b4⟩⟩
/-- The table is put aside, with a copy of the document's. -/
theorem WC.aside (h : WC B w wb way n o t r t' r' vo vr os rs) (hm : Mt w fp t r way n o ps N) (hn : n ≤ 1073741824) {V1 V2 V3 : World} {o1 : Nat → Nat} {vo' vr' : Value} (hV1 : Turn (fun k => o k = wb + 1) w V1) (ho1 : ∀ k, k < w.heap.size → o1 k = o k)
    (hc : RS V2 V1.heap.size way ps N (lab V1 o1 (V1.heap.size + 1))) (hs2 : Stay V1 V2) (h3 : WR B V3 wb (lab V2 (lab V1 o1 (V1.heap.size + 1)) (wb + 1)) vo' vr' (os ++ [t]) (rs ++ [V1.heap.size])) (t3 : Turn (fun k => lab V1 o1 (V1.heap.size + 1) k = wb + 1) V2 V3) :
    Ahd B w V3 wb way n o (lab V2 (lab V1 o1 (V1.heap.size + 1)) (wb + 1)) r t' r' vo' vr' (os ++ [t]) (rs ++ [V1.heap.size]) fp t ps N := by
  have z1 := hV1.size
  have z2 := hs2.size
  have z3 := t3.size
  have hwl := h.row.size.2
  have e1 : ∀ k, k < w.heap.size → lab V1 o1 (V1.heap.size + 1) k = o k := fun k hk => by rw [lab_old (by omega)]; exact ho1 k hk
  have e2 : ∀ k, k < w.heap.size → lab V2 (lab V1 o1 (V1.heap.size + 1)) (wb + 1) k = o k := fun k hk => by rw [lab_old (by omega)]; exact e1 k hk
  have tg : Turn (fun k => o k = wb + 1) w V3 := (hV1.trans (Turn.of_stay hs2)).then t3 (fun k hk e => by rw [← e1 k hk]; exact e)
  obtain ⟨n1, n2, n3, n4⟩ := h.ne
  obtain ⟨w1, w2, w3, w4⟩ := h.nw
  have fr : ∀ {x y : Nat}, x ≠ wb → y ≠ wb → MtE w x y way n o → MtE V3 x y way n (lab V2 (lab V1 o1 (V1.heap.size + 1)) (wb + 1)) := fun h1 h2 hx => hx.frame tg (fun k _ hk => by rw [hk]; omega) e2 (Nat.le_refl _) hn
  have hfl := hm.t.facts.2.2.2.2.2.2
  have htl := hm.t.facts.2.2.2.2.1
  have hrl := hm.r.facts.1
  have hml := h.m'.lt
  have mt : TS V3 fp t ps N n (lab V2 (lab V1 o1 (V1.heap.size + 1)) (wb + 1)) := hm.t.frame tg (fun k hk h1 h2 => by rw [h2] at h1; omega) (fun k hk h2 => by have := hm.fn k hk; rw [h2] at this; omega) e2
  have mc : RS V3 V1.heap.size way ps N (lab V2 (lab V1 o1 (V1.heap.size + 1)) (wb + 1)) := hc.frame t3 (fun k hk h1 h2 => by rw [h2] at h1; omega) (fun k hk => lab_old hk)
  have fn2 : ∀ k, fnfoot fp k → lab V2 (lab V1 o1 (V1.heap.size + 1)) (wb + 1) k = 0 := fun k hk => by rw [e2 k (hfl.lt k hk)]; exact hm.fn k hk
  refine ⟨h3, tg, e2, mt, hm.r.frame tg (fun k hk h1 h2 => by rw [h2] at h1; omega) e2, hm.way, fn2, fr w3.symm w4.symm h.m', ⟨n3, n4⟩, ⟨w2, w3, w4⟩, by simp [h.len], fun j x y hx hy => ?_⟩
  by_cases hj : j < os.length
  · rw [List.getElem?_append_left hj] at hx
    rw [List.getElem?_append_left (by rw [← h.len]; exact hj)] at hy
    obtain ⟨g1, ⟨a1, a2, a3, a4, a5⟩, ⟨b1, b2, b3, b4, b5⟩⟩ := h.old j x y hx hy
    exact ⟨fr a5 b5 g1, ⟨a2, a3, a4, a5⟩, ⟨b2, b3, b4, b5⟩⟩
  · have hj2 : j = os.length := by have := (List.getElem?_eq_some_iff.1 hx).1; simp at this; omega
    subst hj2
    rw [List.getElem?_append_right (Nat.le_refl _), Nat.sub_self] at hx
    rw [h.len, List.getElem?_append_right (Nat.le_refl _), Nat.sub_self] at hy
    simp at hx hy
    subst hx
    subst hy
    exact ⟨⟨fp, ps, N, mt, mc, hm.way, by omega, fn2, hn⟩, ⟨hm.ne, n1, n2, w1.symm⟩, ⟨by omega, by omega, by omega, by omega⟩⟩
end
end Go.Proofs.Ytdnophgcdnghkaa.I
