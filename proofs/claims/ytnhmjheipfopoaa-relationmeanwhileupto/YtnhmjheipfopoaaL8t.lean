/- RelationMeanwhile: what lies there between two turns, and in a round. RelationMeanwhile: how far is gone, a drawn region (written by tools/l8t.py). -/
import Derived.Test.YtnhmjheipfopoaaL8r
namespace Go.Proofs.Ytnhmjheipfopoaa.L
open Go.RowKit Go.Maps Go.Shelf Go.Proofs.Ytnhmjheipfopoaa

/-- More tuples are added, one behind the other. -/
def foldA (ar : Nat) (T us : List (List Int)) : List (List Int) := us.foldl (addT ar) T
theorem foldA_snoc (ar : Nat) (T us : List (List Int)) (x : List Int) : foldA ar T (us ++ [x]) = addT ar (foldA ar T us) x := by
  unfold foldA
  rw [List.foldl_append]
  rfl
theorem addT_pre (ar : Nat) (T : List (List Int)) (t : List Int) : ∃ M, addT ar T t = T ++ M ∧ M.length ≤ 1 := by
  unfold addT
  split
  · exact ⟨[t], rfl, by simp⟩
  · exact ⟨[], by simp, by simp⟩
theorem foldA_pre (ar : Nat) (T us : List (List Int)) : ∃ M, foldA ar T us = T ++ M ∧ M.length ≤ us.length := by
  refine snoc_ind (p := fun us => ∃ M, foldA ar T us = T ++ M ∧ M.length ≤ us.length) ⟨[], by simp [foldA], by simp⟩ (fun l x ih => ?_) us
  obtain ⟨M, h1, h2⟩ := ih
  obtain ⟨N, h3, h4⟩ := addT_pre ar (T ++ M) x
  refine ⟨M ++ N, ?_, ?_⟩
  · rw [foldA_snoc, h1, h3, List.append_assoc]
  · rw [List.length_append, List.length_append, List.length_singleton]; omega

section
variable {B W w1 X Y V : World} {U Ur Us Bx : Nat → Prop} {rb qb ar : Nat} {T M : List (List Int)} {rs : List Nat} {bn : Nat}

theorem ints_nil (W : World) : IntsS W none 0 0 [] := ⟨fun h => absurd h (by simp), fun j h => absurd h (by simp)⟩

/-- Between two turns. -/
structure MwI (B : World) (U : Nat → Prop) (rb qb ar : Nat) (T : List (List Int)) (rs : List Nat) (Ur : Nat → Prop) (W : World) : Prop where
  st : St W Ur rb qb ar T qb 0
  sub : ∀ i, Ur i → U i ∨ (B.heap.size ≤ i ∧ i ∉ rs)
  turn : Turn U B W
  marks : ∀ m ∈ rs, B.heap.size ≤ m ∧ m < W.heap.size ∧ W.heap[m]? = some (.deferred (some []))
  nodup : rs.Nodup
  ul : ∀ i, U i → i < B.heap.size

theorem MwI.begin (h : St B U rb qb ar T qb 0) : MwI B U rb qb ar T [] U B :=
  ⟨h, fun _ hi => .inl hi, Turn.refl _ _, fun m hm => (by cases hm), List.nodup_nil, h.lt⟩

/-- What lay there at the beginning lies there in a round. -/
theorem MwI.old (h : MwI B U rb qb ar T rs Ur W) (hs : Stay W w1) (hbn : W.heap.size ≤ bn) (ht : Turn (fun i => Ur i ∨ i = bn) w1 X) : Turn (fun i => U i ∨ B.heap.size ≤ i) B X := by
  have hz := h.turn.size
  refine ((h.turn.mono (fun i _ q => .inl q)).trans (Turn.of_stay hs)).trans (ht.mono (fun i _ q => ?_))
  rcases q with q | q
  · exact (h.sub i q).imp id (fun p => p.1)
  · exact .inr (by omega)

theorem MwI.old0 (h : MwI B U rb qb ar T rs Ur W) : Turn (fun i => U i ∨ B.heap.size ≤ i) B W := h.turn.mono (fun _ _ q => .inl q)

theorem old_cell (ht : Turn (fun i => U i ∨ B.heap.size ≤ i) B X) {b o : Nat} {v : Value} (hc : B.cell? ⟨b, o, none⟩ = some v) (hn : ¬ U b) : X.cell? ⟨b, o, none⟩ = some v := by
  have hl := World.block_lt_of_cell? B _ hc
  exact ht.cell hc (fun q => q.elim hn (fun q => by have : b < B.heap.size := hl; omega))
theorem old_heap (ht : Turn (fun i => U i ∨ B.heap.size ≤ i) B X) {b : Nat} {o : Obj} (hc : B.heap[b]? = some o) (hn : ¬ U b) : X.heap[b]? = some o := by
  have hl := (Array.getElem?_eq_some_iff.1 hc).1
  exact ht.heap hc (fun q => q.elim hn (fun q => by omega))
theorem old_ints (ht : Turn (fun i => U i ∨ B.heap.size ≤ i) B X) {a : Option Addr} {b o : Nat} {l : List Int} (hI : IntsS B a b o l) (hn : 0 < l.length → ¬ U b) : IntsS X a b o l :=
  ints_turn hI ht (fun h0 q => q.elim (hn h0) (fun q => by have := ints_lt hI h0; omega))

/-- The loop's beginning: the box of what is told, the function, the counter's box. -/
theorem mw_in {W1 W2 W3 : World} {v : Value} {L' : List Nat} {gf : Nat} {lb : Array Value} {C K : List Int} {x y : Int} (h : MwI B U rb qb ar T rs Ur W) (hO : OwnI W.heap.size W1 v (intsN L')) (hs1 : Stay W W1) (h2 : W2 = W1.alloc (.cells #[v] 23)) (hs3 : Stay W2 W3) (hC : Clo gf lb rb ar C K x y Bx W3) (hB : ∀ i, Bx i → W2.heap.size ≤ i ∧ i < W3.heap.size) (hw : w1 = W3.alloc (.cells #[.int .i64 0] 3)) (hn : W3.heap.size = bn) :
    (St w1 Ur rb qb ar T qb 0 ∧ Clo gf lb rb ar C K x y Bx w1 ∧ (∀ i, Bx i → ¬ Ur i) ∧ ¬ Ur bn ∧ ¬ Bx bn ∧ Cnt0 w1 bn 0) ∧ Stay W w1 ∧ w1.heap.size = bn + 1 ∧ W.heap.size < bn ∧ W1.heap.size < bn ∧ ¬ Ur W1.heap.size ∧ w1.cell? ⟨W1.heap.size, 0, none⟩ = some v ∧ ∃ pa pb pc, v = .slice pa L'.length pc ∧ IntsS w1 pa pb 0 (intsN L') ∧ (0 < L'.length → ¬ Ur pb ∧ pb < bn) := by
  have hs2 : Stay W1 W2 := by rw [h2]; exact Stay.new _ _
  have hsw : Stay W3 w1 := by rw [hw]; exact Stay.new _ _
  have hz1 := hs1.size
  have hz2 : W2.heap.size = W1.heap.size + 1 := by rw [h2, World.size_alloc]
  have hz3 := hs3.size
  have hU := h.st.lt
  have hs : Stay W w1 := ((hs1.trans hs2).trans hs3).trans hsw
  refine ⟨⟨h.st.stay hs, hC.stay hsw, fun i hi q => ?_, fun q => ?_, fun q => ?_, ?_⟩, hs, by rw [hw, World.size_alloc, hn], by omega, by omega, fun q => ?_, ?_, ?_⟩
  · have := (hB i hi).1; have := hU i q; omega
  · have := hU _ q; omega
  · have := (hB _ q).2; omega
  · unfold Cnt0
    rw [hw, ← hn]; exact heap_new _ _
  · have := hU _ q; omega
  · refine (hs3.trans hsw).cell ?_
    rw [h2]
    exact cell_of (heap_new W1 (.cells #[v] 23)) rfl
  · obtain ⟨pa, pb, pc, rfl, hI⟩ := hO.ints
    rw [intsN_len]
    refine ⟨pa, pb, pc, rfl, hI.stay ((hs2.trans hs3).trans hsw), fun h0 => ?_⟩
    have e1 := hI.1 (by rw [intsN_len]; exact h0)
    have e2 := hO.lt pb (by rw [e1]; rfl)
    exact ⟨fun q => by have := hU pb q; omega, by omega⟩

/-- What a round finds: the place, the tuple of the document's, and what Same does. -/
theorem mw_same {s : Mark} (hS : St X Us rb qb ar (T ++ M) s.k s.n) {v : Value} {t : List Int} (hO : OwnI 0 X v t) {p : Nat} (hp : T[p]? = some t) :
    ∃ va vc a9 c9 g ua uc, v = .slice va t.length vc ∧ X.cell? ⟨qb, 1, none⟩ = some (.slice a9 (T ++ M).length c9) ∧ a9 = some ⟨g, 0, none⟩ ∧ p < (T ++ M).length ∧ X.cell? ⟨g, p, none⟩ = some (.slice ua t.length uc) ∧
      Calls Try.prog 13 #[.slice va t.length vc, .slice ua t.length uc] X fun e Y => e = .returned (.bool true) ∧ ∃ d, Y = X.drewN d := by
  obtain ⟨F, G, R, hN, ⟨lv, us, hQ⟩, hFG, hU, _⟩ := hS
  obtain ⟨a9, c9, rfl, hm, hcell⟩ := hQ.slice
  have hpl := (List.getElem?_eq_some_iff.1 hp).1
  have hp2 : (T ++ M)[p]? = some t := by rw [List.getElem?_append_left hpl]; exact hp
  have hpl2 := (List.getElem?_eq_some_iff.1 hp2).1
  obtain ⟨u, hu⟩ : ∃ u, us[p]? = some u := ⟨_, List.getElem?_eq_getElem (by rw [hQ.len]; exact hpl2)⟩
  have hux : u.xs = t := Option.some.inj ((hQ.at hu).symm.trans hp2)
  obtain ⟨g, hg, hc⟩ := hcell p u hu
  have htl : t.length ≤ 16 := by rw [hQ.rows t (List.mem_of_getElem? hp2)]; exact hQ.arle
  have hui := hQ.each u (List.mem_of_getElem? hu)
  unfold Tup.v at hc
  rw [hux] at hc hui
  obtain ⟨va, vb, vc, rfl, hvi⟩ := hO.ints
  refine ⟨va, vc, a9, c9, g, u.a, u.c, rfl, hQ.c1, hg, hpl2, hc, ?_⟩
  exact (y4Same_any X va u.a vb 0 u.b u.o vc u.c t t hvi hui (by unfold maxLen; omega) (by unfold maxLen; omega)).mono (by rintro e Y ⟨rfl, d, rfl⟩; exact ⟨by simp, d, rfl⟩)

/-- A round's end: the counter is raised. -/
def MwR (rb qb ar : Nat) (T' : List (List Int)) (s : Mark) (k bn : Nat) (Us : Nat → Prop) (v : Value) (X Z : World) : Prop :=
  Z.cell? ⟨bn, 0, none⟩ = some (.int .i64 (k : Int)) ∧ Z.frozen? ⟨bn, 0, none⟩ = false ∧ ∃ Us', St (Z.setCell ⟨bn, 0, none⟩ (.int .i64 ((k : Int) + 1))) Us' rb qb ar T' s.k s.n ∧ KeepC s.k s.n X (Z.setCell ⟨bn, 0, none⟩ (.int .i64 ((k : Int) + 1))) ∧ Turn (fun i => Us i ∨ i = bn ∨ v.ownBlock = some i) X (Z.setCell ⟨bn, 0, none⟩ (.int .i64 ((k : Int) + 1))) ∧ (∀ i, Us' i → Us i ∨ X.heap.size ≤ i) ∧ Cnt0 (Z.setCell ⟨bn, 0, none⟩ (.int .i64 ((k : Int) + 1))) bn (k + 1)

theorem MwR.of {s : Mark} {k : Nat} {v : Value} {Z : World} {T' : List (List Int)} {Us' : Nat → Prop} (hbU : ¬ Us bn) (hbs : ¬ (0 < s.n ∧ bn = s.k)) (hcn : Cnt0 X bn k) (z1 : St Z Us' rb qb ar T' s.k s.n) (z2 : KeepC s.k s.n X Z) (z3 : Turn Us X Z) (z4 : ∀ i, Us' i → Us i ∨ X.heap.size ≤ i) : MwR rb qb ar T' s k bn Us v X Z := by
  have hZ : Z.heap[bn]? = some (.cells #[.int .i64 (k : Int)] 3 (0, 0)) := z3.heap hcn hbU
  have hset : Turn (fun i => i = bn) Z (Z.setCell ⟨bn, 0, none⟩ (.int .i64 ((k : Int) + 1))) := by exact Turn.set (g := bn) (Turn.refl (fun i => i = bn) Z) rfl 0 _
  have hkZ : s.k < Z.heap.size := by obtain ⟨_, _, _, ⟨_, _, _, _, q⟩, _⟩ := z1; exact q.kr.2.2.2
  have hbX : bn < X.heap.size := (Array.getElem?_eq_some_iff.1 hcn).1
  refine ⟨cell_of hZ rfl, by simp [World.frozen?, hZ], Us', z1.turn hset (fun i hi q => ?_), fun j hj => ?_, ?_, z4, ?_⟩
  · subst q
    rcases z4 _ hi with q | q
    · exact hbU q
    · omega
  · have : s.k ≠ bn := fun e => hbs ⟨by omega, e.symm⟩
    exact (World.cell?_of_block (hset.block s.k hkZ this)).trans (z2 j hj)
  · exact (z3.mono (fun i _ q => .inl q)).trans (hset.mono (fun i _ q => .inr (.inl q)))
  · unfold Cnt0
    rw [heap_setCell_same _ _ _ _ _ _ hZ]
    simp

/-- Nothing more is added. -/
theorem mw_none {s : Mark} {k : Nat} {v : Value} {T' : List (List Int)} (hS : St X Us rb qb ar T' s.k s.n) (hbU : ¬ Us bn) (hbs : ¬ (0 < s.n ∧ bn = s.k)) (hcn : Cnt0 X bn k) (hs : Stay X Y) : MwR rb qb ar T' s k bn Us v X Y := by
  have hkX : s.k < X.heap.size := by obtain ⟨_, _, _, ⟨_, _, _, _, q⟩, _⟩ := hS; exact q.kr.2.2.2
  exact MwR.of hbU hbs hcn (hS.stay hs) (KeepC.stay hs hkX) (Turn.of_stay hs) (fun i hi => .inl hi)

/-- One tuple more is added. -/
theorem mw_adds {s : Mark} {k : Nat} {v : Value} {T' : List (List Int)} (hT0 : T' ≠ []) (hT : T'.length + 1 ≤ 68719476736) (hS : St X Us rb qb ar T' s.k s.n) (hbU : ¬ Us bn) (hbs : ¬ (0 < s.n ∧ bn = s.k)) (hcn : Cnt0 X bn k) (hs : Stay X Y) (a : Option Addr) (b o c : Nat) (t : List Int) (hI : IntsS X a b o t) (hl : t.length ≤ 1048576) (hn : 0 < t.length → ¬ Us b) :
    Calls Try.prog 14 #[.pointer (some ⟨rb, 0, none⟩), .pointer (some ⟨qb, 0, none⟩), .slice a t.length c] Y fun e Z => e = .returned (.bool true) ∧ Turn Us X Z ∧ MwR rb qb ar (addT ar T' t) s k bn Us v X Z := by
  have hkX : s.k < X.heap.size := by obtain ⟨_, _, _, ⟨_, _, _, _, q⟩, _⟩ := hS; exact q.kr.2.2.2
  have hz := hs.size
  refine (adds_any (hS.stay hs) (fun e => absurd e hT0) hT a b o c t (hI.stay hs) hl hn).mono ?_
  rintro e Z ⟨rfl, Us', z1, z2, z3, z4⟩
  have zt : Turn Us X Z := (Turn.of_stay (S := Us) hs).trans z3
  exact ⟨rfl, zt, MwR.of hbU hbs hcn z1 ((KeepC.stay hs hkX).trans z4) zt (fun i hi => (z2 i hi).imp id (fun q => by omega))⟩

/-- The next turn. -/
theorem mw_out {T' : List (List Int)} {U1 U2 : Nat → Prop} {V2 : World} (h : MwI B U rb qb ar T rs Ur W) (hs : Stay W w1) (hz : w1.heap.size = bn + 1) (hbn : W.heap.size < bn) (hS : St V2 U2 rb qb ar T' qb 0) (hsub : ∀ i, U1 i → Ur i ∨ w1.heap.size ≤ i) (ht : Turn (fun i => Ur i ∨ i = bn) w1 V) (hm : V.heap[w1.heap.size]? = some (.deferred (some []))) (hnm : ¬ U1 w1.heap.size) (h2 : ∀ i, U2 i → U1 i ∨ V.heap.size ≤ i) (ht2 : Turn U1 V V2) :
    MwI B U rb qb ar T' (w1.heap.size :: rs) U2 V2 := by
  have hzA := h.turn.size
  have hzX := ht.size
  have hz2 := ht2.size
  have hzs := hs.size
  have hml : w1.heap.size < V.heap.size := (Array.getElem?_eq_some_iff.1 hm).1
  have hno : ∀ i, i ∈ rs → ¬ (Ur i ∨ i = bn) ∧ ¬ U1 i := fun i e => by
    have hi2 := h.marks i e
    have hur : ¬ Ur i := fun q => by
      rcases h.sub i q with p | p
      · have := h.ul i p; omega
      · exact p.2 e
    refine ⟨fun q => q.elim hur (fun q => by omega), fun q => ?_⟩
    rcases hsub i q with p | p
    · exact hur p
    · omega
  refine ⟨hS, fun i hi => ?_, ?_, fun m hm' => ?_, List.nodup_cons.2 ⟨fun e => ?_, h.nodup⟩, h.ul⟩
  · rcases h2 i hi with p | p
    · have hne : i ≠ w1.heap.size := fun e => hnm (e ▸ p)
      rcases hsub i p with q | q
      · rcases h.sub i q with r | r
        · exact .inl r
        · have hlt := h.st.lt i q
          refine .inr ⟨r.1, fun e => ?_⟩
          rcases List.mem_cons.1 e with e | e
          · exact hne e
          · exact r.2 e
      · refine .inr ⟨by omega, fun e => ?_⟩
        rcases List.mem_cons.1 e with e | e
        · exact hne e
        · have := (h.marks i e).2.1; omega
    · refine .inr ⟨by omega, fun e => ?_⟩
      rcases List.mem_cons.1 e with e | e
      · omega
      · have := (h.marks i e).2.1; omega
  · refine ((h.turn.trans (Turn.of_stay hs)).then ht (fun i hi q => ?_)).then ht2 (fun i hi q => ?_)
    · rcases q with q | q
      · rcases h.sub i q with p | p
        · exact p
        · omega
      · omega
    · rcases hsub i q with q | q
      · rcases h.sub i q with p | p
        · exact p
        · omega
      · omega
  · rcases List.mem_cons.1 hm' with rfl | e
    · exact ⟨by omega, by omega, ht2.heap hm hnm⟩
    · have := h.marks m e
      exact ⟨this.1, by omega, ht2.heap (ht.heap (hs.heap this.2.2) (hno m e).1) (hno m e).2⟩
  · have := (h.marks _ e).2.1
    omega

/-- What lies there at the loop's beginning. -/
structure MwB (w B : World) (U : Nat → Prop) (rb qb b7 b10 b11 b12 : Nat) (v7 : Value) : Prop where
  stay : Stay w B
  ge : ∀ i, U i → w.heap.size ≤ i
  x7 : B.cell? ⟨b7, 0, none⟩ = some v7
  x10 : B.heap[b10]? = some (.cells #[.bool false] 4 (0, 0))
  x11 : B.cell? ⟨b11, 0, none⟩ = some (.pointer (some ⟨rb, 0, none⟩))
  x12 : B.cell? ⟨b12, 0, none⟩ = some (.pointer (some ⟨qb, 0, none⟩))
  n7 : ¬ U b7
  n10 : ¬ U b10
  n11 : ¬ U b11
  n12 : ¬ U b12
  g10 : w.heap.size ≤ b10

theorem MwB.later {w B' : World} {b7 b10 b11 b12 : Nat} {v7 : Value} (h : MwB w B U rb qb b7 b10 b11 b12 v7) (hs : Stay B B') : MwB w B' U rb qb b7 b10 b11 b12 v7 :=
  ⟨h.stay.trans hs, h.ge, hs.cell h.x7, hs.heap h.x10, hs.cell h.x11, hs.cell h.x12, h.n7, h.n10, h.n11, h.n12, h.g10⟩

theorem mw_base {w w1 A B0 : World} {v7 : Value} (hw : w1 = (w.alloc (.cells #[v7] 22)).alloc (.cells #[.bool false] 4)) (hF : FilI w1 rb qb ar T A) (hB0 : B0 = (A.alloc (.cells #[.pointer (some ⟨rb, 0, none⟩)] 24)).alloc (.cells #[.pointer (some ⟨qb, 0, none⟩)] 25)) (hB : Stay B0 B) :
    ∃ U, St B U rb qb ar T qb 0 ∧ MwB w B U rb qb w.heap.size (w.heap.size + 1) A.heap.size (A.heap.size + 1) v7 := by
  obtain ⟨U, hS, hU, hs⟩ := hF
  have hz1 : w1.heap.size = w.heap.size + 2 := by rw [hw, World.size_alloc, World.size_alloc]
  have hs1 : Stay w w1 := by rw [hw]; exact (Stay.new _ _).alloc _
  have hs20 : Stay A B0 := by rw [hB0]; exact (Stay.new _ _).alloc _
  have hs2 : Stay A B := hs20.trans hB
  have hlt := hS.lt
  have hzA := hs.size
  refine ⟨U, hS.stay hs2, (hs1.trans hs).trans hs2, fun i hi => by have := hU i hi; omega, (hs.trans hs2).cell ?_, (hs.trans hs2).heap ?_, hB.cell ?_, hB.cell ?_, fun q => by have := hU _ q; omega, fun q => by have := hU _ q; omega, fun q => by have := hlt _ q; omega, fun q => by have := hlt _ q; omega, by omega⟩
  · rw [hw]
    exact cell_of ((Stay.new _ _).heap (heap_new w _)) rfl
  · have := heap_new (w.alloc (.cells #[v7] 22)) (.cells #[.bool false] 4)
    rw [World.size_alloc] at this
    rw [hw]; exact this
  · rw [hB0]
    exact cell_of ((Stay.new _ _).heap (heap_new A _)) rfl
  · have := heap_new (A.alloc (.cells #[.pointer (some ⟨rb, 0, none⟩)] 24)) (.cells #[.pointer (some ⟨qb, 0, none⟩)] 25)
    rw [World.size_alloc] at this
    rw [hB0]
    exact cell_of this rfl

/-- The end. -/
theorem mw_fin {w : World} {b7 b10 b11 b12 : Nat} {v7 : Value} (h : MwI B U rb qb ar T rs Ur W) (HB : MwB w B U rb qb b7 b10 b11 b12 v7) (hs : Stay W Y) :
    (∀ m ∈ rs, (Y.setCell ⟨b10, 0, none⟩ (.bool true)).heap[m]? = some (.deferred (some []))) ∧ rs.Nodup ∧ Y.cell? ⟨b10, 0, none⟩ = some (.bool false) ∧ Y.frozen? ⟨b10, 0, none⟩ = false ∧
      ∀ w', Turn (fun i => i ∈ rs) (Y.setCell ⟨b10, 0, none⟩ (.bool true)) w' → w'.cell? ⟨b10, 0, none⟩ = some (.bool true) ∧ Stay w w' := by
  have hc := HB.x10
  have hl := (Array.getElem?_eq_some_iff.1 hc).1
  have hne : b10 ∉ rs := fun e => by have := (h.marks _ e).1; omega
  have hY : Y.heap[b10]? = some (.cells #[.bool false] 4 (0, 0)) := hs.heap (h.turn.heap hc HB.n10)
  have hset : Turn (fun i => i = b10) Y (Y.setCell ⟨b10, 0, none⟩ (.bool true)) := by exact Turn.set (g := b10) (Turn.refl (fun i => i = b10) Y) rfl 0 _
  have hsB := HB.stay.size
  have hst : Stay w (Y.setCell ⟨b10, 0, none⟩ (.bool true)) := stay_turn' ((stay_turn' HB.stay h.turn HB.ge).trans hs) hset (fun k e => by have := HB.g10; omega)
  exact ⟨fun m hm => hset.heap (hs.heap (h.marks m hm).2.2) (fun e => hne (e ▸ hm)), h.nodup, cell_of hY rfl, by simp [World.frozen?, hY], fun w' ht => ⟨ht.cell (cell_of (heap_setCell_same _ _ _ _ _ _ hY) rfl) hne, stay_turn' hst ht (fun k e => by have := (h.marks k e).1; omega)⟩⟩

/-- All that a round needs. -/
theorem mw_round {w : World} {b7 b10 b11 b12 b18 b2 o2 c2 pb pc : Nat} {a2 pa : Option Addr} {ms : List Tup} {L' : List Nat} (HG : MwI B U rb qb ar T rs Ur W) (HB : MwB w B U rb qb b7 b10 b11 b12 (.slice a2 ms.length c2)) (hm : TupsA w a2 b2 o2 ms) (hT : T.length ≤ 4194304)
    (hs : Stay W w1) (hz1 : w1.heap.size = bn + 1) (hbn : W.heap.size < bn) (h18 : ¬ Ur b18) (hl18 : b18 < bn) (hc18 : w1.cell? ⟨b18, 0, none⟩ = some (.slice pa L'.length pc)) (hP : IntsS w1 pa pb 0 (intsN L')) (hpU : 0 < L'.length → ¬ Ur pb ∧ pb < bn)
    {s : Mark} {k : Nat} (hk : k < L'.length) (hSt : St X Us rb qb ar (foldA ar T ((ms.take k).map Tup.xs)) s.k s.n) {v : Value} {t : List Int} (hO : OwnI 0 X v t) (hTp : T[L'[k]]? = some t) (hbU : ¬ Us bn) (hbs : ¬ (0 < s.n ∧ bn = s.k)) (hcn : Cnt0 X bn k) (htX : Turn (fun i => Ur i ∨ i = bn) w1 X) (hsub : ∀ i, Us i → Ur i ∨ w1.heap.size ≤ i) :
    ∃ va vc c9 g ua uc tl, v = .slice va t.length vc ∧ X.cell? ⟨qb, 1, none⟩ = some (.slice (some ⟨g, 0, none⟩) tl c9) ∧ L'[k] < tl ∧ X.cell? ⟨g, L'[k], none⟩ = some (.slice ua t.length uc) ∧
      X.cell? ⟨bn, 0, none⟩ = some (.int .i64 (k : Int)) ∧ X.cell? ⟨b18, 0, none⟩ = some (.slice (some ⟨pb, 0, none⟩) L'.length pc) ∧ X.cell? ⟨pb, 0 + k, none⟩ = some (.int .i64 (L'[k] : Int)) ∧ X.cell? ⟨b12, 0, none⟩ = some (.pointer (some ⟨qb, 0, none⟩)) ∧ X.cell? ⟨b11, 0, none⟩ = some (.pointer (some ⟨rb, 0, none⟩)) ∧ X.cell? ⟨b7, 0, none⟩ = some (.slice a2 ms.length c2) ∧
      Calls Try.prog 13 #[.slice va t.length vc, .slice ua t.length uc] X fun e Y => e = .returned (.bool true) ∧
        Y.cell? ⟨bn, 0, none⟩ = some (.int .i64 (k : Int)) ∧ Y.frozen? ⟨bn, 0, none⟩ = false ∧ Y.cell? ⟨b7, 0, none⟩ = some (.slice a2 ms.length c2) ∧ Y.cell? ⟨b11, 0, none⟩ = some (.pointer (some ⟨rb, 0, none⟩)) ∧ Y.cell? ⟨b12, 0, none⟩ = some (.pointer (some ⟨qb, 0, none⟩)) ∧
        (∀ hkm : k < ms.length, a2 = some ⟨b2, o2, none⟩ ∧ Y.cell? ⟨b2, o2 + k, none⟩ = some (.slice ms[k].a ms[k].xs.length ms[k].c) ∧
          Calls Try.prog 14 #[.pointer (some ⟨rb, 0, none⟩), .pointer (some ⟨qb, 0, none⟩), .slice ms[k].a ms[k].xs.length ms[k].c] Y.drew fun e Z => e = .returned (.bool true) ∧
            (Z.cell? ⟨bn, 0, none⟩ = some (.int .i64 (k : Int)) ∧ Z.cell? ⟨b7, 0, none⟩ = some (.slice (some ⟨b2, o2, none⟩) ms.length c2) ∧ Z.cell? ⟨b11, 0, none⟩ = some (.pointer (some ⟨rb, 0, none⟩)) ∧ Z.cell? ⟨b12, 0, none⟩ = some (.pointer (some ⟨qb, 0, none⟩)) ∧ Z.cell? ⟨b2, o2 + k, none⟩ = some (.slice ms[k].a ms[k].xs.length ms[k].c)) ∧
            MwR rb qb ar (foldA ar T ((ms.take (k + 1)).map Tup.xs)) s k bn Us v X Z) ∧
        (ms.length ≤ k → ∀ Z, Stay Y Z → MwR rb qb ar (foldA ar T ((ms.take (k + 1)).map Tup.xs)) s k bn Us v X Z) := by
  have hold := HG.old hs (by omega : W.heap.size ≤ bn) htX
  have hzW := HG.turn.size
  have hzs := hs.size
  have hzX := htX.size
  have hzB := HB.stay.size
  have hlen : (intsN L').length = L'.length := intsN_len L'
  obtain ⟨hpu1, hpu2⟩ := hpU (by omega)
  obtain rfl : pa = some ⟨pb, 0, none⟩ := hP.1 (by omega)
  have hno : ∀ b, ¬ Ur b → b < bn → ¬ (Ur b ∨ b = bn) := fun b h1 h2 q => q.elim h1 (fun q => by omega)
  have c18 := htX.cell hc18 (hno b18 h18 hl18)
  have cp : X.cell? ⟨pb, 0 + k, none⟩ = some (.int .i64 (L'[k] : Int)) := by
    have h2 : IntsS X (some ⟨pb, 0, none⟩) pb 0 (intsN L') := ints_turn hP htX (fun _ => hno pb hpu1 hpu2)
    have := h2.2 k (by omega)
    rw [this]
    simp [intsN]
  have c12 := old_cell hold HB.x12 HB.n12
  have c11 := old_cell hold HB.x11 HB.n11
  have c7 := old_cell hold HB.x7 HB.n7
  have hUw : ∀ b, b < w.heap.size → ¬ Us b := fun b hb q => by
    rcases hsub b q with q | q
    · rcases HG.sub b q with p | p
      · have := HB.ge b p; omega
      · omega
    · omega
  have hUo : ∀ b, ¬ U b → b < B.heap.size → ¬ Us b := fun b hb hl q => by
    rcases hsub b q with q | q
    · rcases HG.sub b q with p | p
      · exact hb p
      · omega
    · omega
  have hold0 : ∀ {b o : Nat} {u : Value}, w.cell? ⟨b, o, none⟩ = some u → b < w.heap.size → X.cell? ⟨b, o, none⟩ = some u := fun hc hb => old_cell hold (HB.stay.cell hc) (fun q => by have := HB.ge _ q; omega)
  obtain ⟨M, hM, hMl⟩ := foldA_pre ar T ((ms.take k).map Tup.xs)
  rw [List.length_map, List.length_take] at hMl
  have hml := hm.len
  have hT0 : T ≠ [] := fun e => by rw [e] at hTp; cases hTp
  have hSt0 := hSt
  rw [hM] at hSt
  obtain ⟨va, vc, a9, c9, g, ua, uc, rfl, cq, rfl, hpl, ct, hsame⟩ := mw_same hSt hO hTp
  have l11 : b11 < B.heap.size := World.block_lt_of_cell? B _ HB.x11
  have l12 : b12 < B.heap.size := World.block_lt_of_cell? B _ HB.x12
  have l7 : b7 < B.heap.size := World.block_lt_of_cell? B _ HB.x7
  refine ⟨va, vc, c9, g, ua, uc, (T ++ M).length, rfl, cq, hpl, ct, cell_of hcn rfl, c18, cp, c12, c11, c7, hsame.mono ?_⟩
  rintro e Y ⟨rfl, d, hd⟩
  have hXY : Stay X Y := by rw [hd]; exact Stay.drewN X d
  refine ⟨rfl, hXY.cell (cell_of hcn rfl), by simp [World.frozen?, hXY.heap hcn], hXY.cell c7, hXY.cell c11, hXY.cell c12, fun hkm => ?_, fun hkm Z hZ => ?_⟩
  · obtain ⟨hcm, hIm⟩ := hm.cells k hkm
    have hlb : b2 < w.heap.size := World.block_lt_of_cell? w _ hcm
    have hcm' := hold0 hcm hlb
    have ha2 := hm.at0 (by omega)
    rw [ha2] at c7
    refine ⟨ha2, hXY.cell hcm', ?_⟩
    have hIX : IntsS X ms[k].a ms[k].b ms[k].o ms[k].xs := old_ints hold (hIm.stay HB.stay) (fun h0 q => by have := ints_lt hIm h0; have := HB.ge _ q; omega)
    have e1 : foldA ar T ((ms.take (k + 1)).map Tup.xs) = addT ar (T ++ M) ms[k].xs := by
      rw [List.take_succ_eq_append_getElem hkm, List.map_append, List.map_singleton, foldA_snoc, hM]
    rw [e1]
    refine (mw_adds (v := .slice va t.length vc) (by simp [hT0]) (by rw [List.length_append]; omega) hSt hbU hbs hcn (hXY.trans (Stay.drew Y)) ms[k].a ms[k].b ms[k].o ms[k].c ms[k].xs hIX (hm.each _ (List.getElem_mem hkm)) (fun h0 => hUw _ (ints_lt hIm h0))).mono ?_
    rintro e Z ⟨rfl, ht, hR⟩
    exact ⟨rfl, ⟨ht.cell (cell_of hcn rfl) hbU, ht.cell c7 (hUo _ HB.n7 l7), ht.cell c11 (hUo _ HB.n11 l11), ht.cell c12 (hUo _ HB.n12 l12), ht.cell hcm' (hUw _ hlb)⟩, hR⟩
  · have e1 : (ms.take (k + 1)) = ms.take k := by rw [List.take_of_length_le (by omega), List.take_of_length_le hkm]
    rw [e1]
    exact mw_none hSt0 hbU hbs hcn (hXY.trans hZ)

/-- Behind the loop. -/
theorem mw_done {w : World} {b7 b10 b11 b12 b18 c : Nat} {v7 v : Value} {U1 : Nat → Prop} (HG : MwI B U rb qb ar T rs Ur W) (HB : MwB w B U rb qb b7 b10 b11 b12 v7) (hs : Stay W w1) (hz1 : w1.heap.size = bn + 1) (hbn : W.heap.size < bn) (h18 : ¬ Ur b18) (hl18 : b18 < bn) (hc18 : w1.cell? ⟨b18, 0, none⟩ = some v)
    (hsub : ∀ i, U1 i → Ur i ∨ w1.heap.size ≤ i) (htu : Turn (fun i => Ur i ∨ i = bn) w1 V) (hcn : Cnt0 V bn c) (hb : ¬ U1 bn) :
    (V.cell? ⟨bn, 0, none⟩ = some (.int .i64 (c : Int)) ∧ V.cell? ⟨b18, 0, none⟩ = some v ∧ V.cell? ⟨b11, 0, none⟩ = some (.pointer (some ⟨rb, 0, none⟩)) ∧ V.cell? ⟨b12, 0, none⟩ = some (.pointer (some ⟨qb, 0, none⟩))) ∧ (¬ U1 bn ∧ ¬ U1 b18 ∧ ¬ U1 b11 ∧ ¬ U1 b12) ∧ Turn (fun i => U i ∨ B.heap.size ≤ i) B V := by
  have hold := HG.old hs (by omega : W.heap.size ≤ bn) htu
  have hzW := HG.turn.size
  have hzs := hs.size
  have hUo : ∀ b, ¬ U b → b < B.heap.size → ¬ U1 b := fun b hb hl q => by
    rcases hsub b q with q | q
    · rcases HG.sub b q with p | p
      · exact hb p
      · omega
    · omega
  have l11 : b11 < B.heap.size := World.block_lt_of_cell? B _ HB.x11
  have l12 : b12 < B.heap.size := World.block_lt_of_cell? B _ HB.x12
  refine ⟨⟨cell_of hcn rfl, htu.cell hc18 (fun q => q.elim h18 (fun q => by have : b18 = bn := q; omega)), old_cell hold HB.x11 HB.n11, old_cell hold HB.x12 HB.n12⟩, ⟨hb, fun q => ?_, hUo _ HB.n11 l11, hUo _ HB.n12 l12⟩, hold⟩
  rcases hsub b18 q with q | q
  · exact h18 q
  · omega

/-- A list that was handed in, in whatever comes. -/
theorem MwB.ints {w : World} {b7 b10 b11 b12 : Nat} {v7 : Value} (HB : MwB w B U rb qb b7 b10 b11 b12 v7) (ht : Turn (fun i => U i ∨ B.heap.size ≤ i) B X) {a : Option Addr} {b o : Nat} {l : List Int} (hI : IntsS w a b o l) : IntsS X a b o l :=
  old_ints ht (hI.stay HB.stay) (fun h0 q => by have := ints_lt hI h0; have := HB.ge _ q; omega)
end
end Go.Proofs.Ytnhmjheipfopoaa.L
namespace Go.Proofs.Ytnhmjheipfopoaa.L
open Go.RowKit Go.Maps Go.Shelf Go.Proofs.Ytnhmjheipfopoaa

section
variable {G R : Nat → Prop} {qb ar : Nat} {T : List (List Int)} {lv : Value} {us : List Tup}
set_option maxRecDepth 100000 in
set_option maxHeartbeats 8000000 in
theorem mw4 {W : World} {b7 b12 ml mc : Nat} {ma : Option Addr} {s0 s1 s2 s3 s4 s5 s6 s8 s9 s10 s11 s13 s14 s15 s16 s17 s18 s19 s20 s21 s22 s23 s24 s25 s26 s27 s28 s29 s30 s31 s32 s33 s34 s35 s36 s37 s38 s39 s40 s41 s42 s43 s44 s45 s46 s47 s48 s49 s50 s51 s52 s53 s54 s55 s56 s57 s58 s59 s60 s61 s62 s63 s64 s65 s66 s67 s68 s69 s70 s71 s72 s73 s74 s75 s76 s77 s78 s79 s80 s81 s82 s83 s84 s85 s86 s87 s88 s89 s90 s91 s92 s93 s94 s95 s96 s97 s98 s99 s100 s101 s102 s103 s104 s105 s106 s107 s108 s109 s110 s111 s112 s113 s114 s115 s116 s117 s118 s119 s120 s121 s122 s123 s124 s125 s126 s127 s128 s129 s130 s131 s132 s133 s134 : Value} {KK : Act → World → Prop} {Q : Exit → Act → World → Prop}
    (hS0 : W.cell? ⟨b12, 0, none⟩ = some (.pointer (some ⟨qb, 0, none⟩)) ∧ W.cell? ⟨b7, 0, none⟩ = some (.slice ma ml mc)) (hQ : Rf W G R qb ar T lv us) (hT : T.length ≤ 1048576) (hml : ml ≤ 1048576)
    (hKK : ∀ (z40 z41 z42 z43 z44 : Value), KK ⟨#[s0, s1, s2, s3, s4, s5, s6, .pointer (some ⟨b7, 0, none⟩), s8, s9, s10, s11, .pointer (some ⟨b12, 0, none⟩), s13, .int .i64 ((T.length : Int) + (ml : Int)), s15, s16, s17, s18, s19, s20, s21, s22, s23, s24, s25, s26, s27, s28, s29, s30, s31, s32, s33, s34, s35, s36, s37, s38, s39, z40, z41, z42, z43, z44, s45, s46, s47, s48, s49, s50, s51, s52, s53, s54, s55, s56, s57, s58, s59, s60, s61, s62, s63, s64, s65, s66, s67, s68, s69, s70, s71, s72, s73, s74, s75, s76, s77, s78, s79, s80, s81, s82, s83, s84, s85, s86, s87, s88, s89, s90, s91, s92, s93, s94, s95, s96, s97, s98, s99, s100, s101, s102, s103, s104, s105, s106, s107, s108, s109, s110, s111, s112, s113, s114, s115, s116, s117, s118, s119, s120, s121, s122, s123, s124, s125, s126, s127, s128, s129, s130, s131, s132, s133, s134], []⟩ W.drew) :
    Code.wp Try.prog (Code.region 4 #[{ dst := some 40, op := Op.load 25 (Operand.tmp 12), type := 25, pos := "law.go:218", after := #[], guard := none },
      { dst := some 41, op := Op.call { callee := Callee.value (Operand.func 8), args := #[Operand.tmp 40], argTypes := #[25] }, type := 3, pos := "law.go:218", after := #[{ on := 0, ground := Ground.data }], guard := none },
      { dst := some 42, op := Op.load 22 (Operand.tmp 7), type := 22, pos := "law.go:218", after := #[], guard := none },
      { dst := some 43, op := Op.call { callee := Callee.builtin Builtin.len, args := #[Operand.tmp 42], argTypes := #[22] }, type := 3, pos := "law.go:218", after := #[{ on := 2, ground := Ground.data }], guard := none },
      { dst := some 44, op := Op.binOp BinOp.add 3 (Operand.tmp 41) (Operand.tmp 43) 3, type := 3, pos := "law.go:218", after := #[{ on := 1, ground := Ground.data }, { on := 3, ground := Ground.data }], guard := none },
      { dst := some 14, op := Op.assign (Operand.tmp 44), type := 3, pos := "law.go:218", after := #[{ on := 4, ground := Ground.data }, { on := 1, ground := Ground.chain }, { on := 0, ground := Ground.phase }, { on := 1, ground := Ground.phase }, { on := 2, ground := Ground.phase }, { on := 3, ground := Ground.phase }, { on := 4, ground := Ground.phase }], guard := none }] true) (Exit.then KK Q) ⟨#[s0, s1, s2, s3, s4, s5, s6, .pointer (some ⟨b7, 0, none⟩), s8, s9, s10, s11, .pointer (some ⟨b12, 0, none⟩), s13, s14, s15, s16, s17, s18, s19, s20, s21, s22, s23, s24, s25, s26, s27, s28, s29, s30, s31, s32, s33, s34, s35, s36, s37, s38, s39, s40, s41, s42, s43, s44, s45, s46, s47, s48, s49, s50, s51, s52, s53, s54, s55, s56, s57, s58, s59, s60, s61, s62, s63, s64, s65, s66, s67, s68, s69, s70, s71, s72, s73, s74, s75, s76, s77, s78, s79, s80, s81, s82, s83, s84, s85, s86, s87, s88, s89, s90, s91, s92, s93, s94, s95, s96, s97, s98, s99, s100, s101, s102, s103, s104, s105, s106, s107, s108, s109, s110, s111, s112, s113, s114, s115, s116, s117, s118, s119, s120, s121, s122, s123, s124, s125, s126, s127, s128, s129, s130, s131, s132, s133, s134], []⟩ W := by
  have hlen := y4Len_yes (hQ.stay (Stay.drew W))
  have hw64 : IntKind.i64.wrap ((T.length : Int) + (ml : Int)) = (T.length : Int) + (ml : Int) := by
    simp [IntKind.wrap, IntKind.signed, IntKind.bits]
    omega
  have eny4Len : ∀ args w, (callFunc 8 args).run Try.prog w = .ok (.enter 8 args) w := enters_of Try.func8 (by kernel_rfl) rfl
  refine region_wpH (S := fun Y => Y.cell? ⟨b12, 0, none⟩ = some (.pointer (some ⟨qb, 0, none⟩)) ∧ Y.cell? ⟨b7, 0, none⟩ = some (.slice ma ml mc)) rfl ?_
  have hS : W.drew.cell? ⟨b12, 0, none⟩ = some (.pointer (some ⟨qb, 0, none⟩)) ∧ W.drew.cell? ⟨b7, 0, none⟩ = some (.slice ma ml mc) := hS0
  clear hS0
  refine wpAnyH_take (i := 0) (v := .pointer (some ⟨qb, 0, none⟩)) rfl (by kernel_rfl) (by kernel_rfl) (by kernel_rfl) (fun _ _ _ h => h) (Or.inl ⟨by rfl, fun W hW => by obtain ⟨q0, q1⟩ := hW; first | (go_simp; done) | (go_simp; with_reducible rfl) | (go_simp; exact hw64)⟩) hS ?_
  refine wpAnyH_act (a' := ⟨#[s0, s1, s2, s3, s4, s5, s6, .pointer (some ⟨b7, 0, none⟩), s8, s9, s10, s11, .pointer (some ⟨b12, 0, none⟩), s13, s14, s15, s16, s17, s18, s19, s20, s21, s22, s23, s24, s25, s26, s27, s28, s29, s30, s31, s32, s33, s34, s35, s36, s37, s38, s39, .pointer (some ⟨qb, 0, none⟩), s41, s42, s43, s44, s45, s46, s47, s48, s49, s50, s51, s52, s53, s54, s55, s56, s57, s58, s59, s60, s61, s62, s63, s64, s65, s66, s67, s68, s69, s70, s71, s72, s73, s74, s75, s76, s77, s78, s79, s80, s81, s82, s83, s84, s85, s86, s87, s88, s89, s90, s91, s92, s93, s94, s95, s96, s97, s98, s99, s100, s101, s102, s103, s104, s105, s106, s107, s108, s109, s110, s111, s112, s113, s114, s115, s116, s117, s118, s119, s120, s121, s122, s123, s124, s125, s126, s127, s128, s129, s130, s131, s132, s133, s134], []⟩) (by kernel_rfl) ?_
  refine wpAnyH_take (i := 2) (v := .slice ma ml mc) rfl (by kernel_rfl) (by kernel_rfl) (by kernel_rfl) (fun _ _ _ h => h) (Or.inl ⟨by rfl, fun W hW => by obtain ⟨q0, q1⟩ := hW; first | (go_simp; done) | (go_simp; with_reducible rfl) | (go_simp; exact hw64)⟩) hS ?_
  refine wpAnyH_act (a' := ⟨#[s0, s1, s2, s3, s4, s5, s6, .pointer (some ⟨b7, 0, none⟩), s8, s9, s10, s11, .pointer (some ⟨b12, 0, none⟩), s13, s14, s15, s16, s17, s18, s19, s20, s21, s22, s23, s24, s25, s26, s27, s28, s29, s30, s31, s32, s33, s34, s35, s36, s37, s38, s39, .pointer (some ⟨qb, 0, none⟩), s41, .slice ma ml mc, s43, s44, s45, s46, s47, s48, s49, s50, s51, s52, s53, s54, s55, s56, s57, s58, s59, s60, s61, s62, s63, s64, s65, s66, s67, s68, s69, s70, s71, s72, s73, s74, s75, s76, s77, s78, s79, s80, s81, s82, s83, s84, s85, s86, s87, s88, s89, s90, s91, s92, s93, s94, s95, s96, s97, s98, s99, s100, s101, s102, s103, s104, s105, s106, s107, s108, s109, s110, s111, s112, s113, s114, s115, s116, s117, s118, s119, s120, s121, s122, s123, s124, s125, s126, s127, s128, s129, s130, s131, s132, s133, s134], []⟩) (by kernel_rfl) ?_
  refine wpAnyH_take (i := 3) (v := .int .i64 (ml : Int)) rfl (by kernel_rfl) (by kernel_rfl) (by kernel_rfl) (fun _ _ _ h => h) (Or.inl ⟨by rfl, fun W _ => by first | (go_simp; done) | (go_simp; with_reducible rfl) | (go_simp; exact hw64)⟩) hS ?_
  refine wpAnyH_act (a' := ⟨#[s0, s1, s2, s3, s4, s5, s6, .pointer (some ⟨b7, 0, none⟩), s8, s9, s10, s11, .pointer (some ⟨b12, 0, none⟩), s13, s14, s15, s16, s17, s18, s19, s20, s21, s22, s23, s24, s25, s26, s27, s28, s29, s30, s31, s32, s33, s34, s35, s36, s37, s38, s39, .pointer (some ⟨qb, 0, none⟩), s41, .slice ma ml mc, .int .i64 (ml : Int), s44, s45, s46, s47, s48, s49, s50, s51, s52, s53, s54, s55, s56, s57, s58, s59, s60, s61, s62, s63, s64, s65, s66, s67, s68, s69, s70, s71, s72, s73, s74, s75, s76, s77, s78, s79, s80, s81, s82, s83, s84, s85, s86, s87, s88, s89, s90, s91, s92, s93, s94, s95, s96, s97, s98, s99, s100, s101, s102, s103, s104, s105, s106, s107, s108, s109, s110, s111, s112, s113, s114, s115, s116, s117, s118, s119, s120, s121, s122, s123, s124, s125, s126, s127, s128, s129, s130, s131, s132, s133, s134], []⟩) (by kernel_rfl) ?_
  refine wpAnyH_ready (rs := [1]) (by kernel_rfl) (by simp) (AllReadyH.cons (o := { dst := some 41, op := Op.call { callee := Callee.value (Operand.func 8), args := #[Operand.tmp 40], argTypes := #[25] }, type := 3, pos := "law.go:218", after := #[{ on := 0, ground := Ground.data }], guard := none }) rfl (fun K hK => ?_) AllReadyH.nil)
  refine step_goG rfl 8 _ _ rfl (args := #[.pointer (some ⟨qb, 0, none⟩)]) (by first | rfl | (simp [Act.eval]; done) | simp [Act.eval, Act.put]) eny4Len ?_
  refine hlen.mono ?_
  rintro e U1 ⟨rfl, hw⟩
  have hw' := hw.symm
  subst hw'
  refine ⟨_, rfl, ?_⟩
  (try go_simp)
  refine hK.out _ _ hS (fun hS => ?_)
  clear hK K
  refine wpAnyH_act (a' := ⟨#[s0, s1, s2, s3, s4, s5, s6, .pointer (some ⟨b7, 0, none⟩), s8, s9, s10, s11, .pointer (some ⟨b12, 0, none⟩), s13, s14, s15, s16, s17, s18, s19, s20, s21, s22, s23, s24, s25, s26, s27, s28, s29, s30, s31, s32, s33, s34, s35, s36, s37, s38, s39, .pointer (some ⟨qb, 0, none⟩), .int .i64 (T.length : Int), .slice ma ml mc, .int .i64 (ml : Int), s44, s45, s46, s47, s48, s49, s50, s51, s52, s53, s54, s55, s56, s57, s58, s59, s60, s61, s62, s63, s64, s65, s66, s67, s68, s69, s70, s71, s72, s73, s74, s75, s76, s77, s78, s79, s80, s81, s82, s83, s84, s85, s86, s87, s88, s89, s90, s91, s92, s93, s94, s95, s96, s97, s98, s99, s100, s101, s102, s103, s104, s105, s106, s107, s108, s109, s110, s111, s112, s113, s114, s115, s116, s117, s118, s119, s120, s121, s122, s123, s124, s125, s126, s127, s128, s129, s130, s131, s132, s133, s134], []⟩) (by kernel_rfl) ?_
  refine wpAnyH_take (i := 4) (v := .int .i64 ((T.length : Int) + (ml : Int))) rfl (by kernel_rfl) (by kernel_rfl) (by kernel_rfl) (fun _ _ _ h => h) (Or.inl ⟨by rfl, fun W _ => by first | (go_simp; done) | (go_simp; with_reducible rfl) | (go_simp; exact hw64)⟩) hS ?_
  refine wpAnyH_act (a' := ⟨#[s0, s1, s2, s3, s4, s5, s6, .pointer (some ⟨b7, 0, none⟩), s8, s9, s10, s11, .pointer (some ⟨b12, 0, none⟩), s13, s14, s15, s16, s17, s18, s19, s20, s21, s22, s23, s24, s25, s26, s27, s28, s29, s30, s31, s32, s33, s34, s35, s36, s37, s38, s39, .pointer (some ⟨qb, 0, none⟩), .int .i64 (T.length : Int), .slice ma ml mc, .int .i64 (ml : Int), .int .i64 ((T.length : Int) + (ml : Int)), s45, s46, s47, s48, s49, s50, s51, s52, s53, s54, s55, s56, s57, s58, s59, s60, s61, s62, s63, s64, s65, s66, s67, s68, s69, s70, s71, s72, s73, s74, s75, s76, s77, s78, s79, s80, s81, s82, s83, s84, s85, s86, s87, s88, s89, s90, s91, s92, s93, s94, s95, s96, s97, s98, s99, s100, s101, s102, s103, s104, s105, s106, s107, s108, s109, s110, s111, s112, s113, s114, s115, s116, s117, s118, s119, s120, s121, s122, s123, s124, s125, s126, s127, s128, s129, s130, s131, s132, s133, s134], []⟩) (by kernel_rfl) ?_
  refine wpAnyH_take (i := 5) (v := .int .i64 ((T.length : Int) + (ml : Int))) rfl (by kernel_rfl) (by kernel_rfl) (by kernel_rfl) (fun _ _ _ h => h) (Or.inl ⟨by rfl, fun W _ => by first | (go_simp; done) | (go_simp; with_reducible rfl) | (go_simp; exact hw64)⟩) hS ?_
  refine wpAnyH_act (a' := ⟨#[s0, s1, s2, s3, s4, s5, s6, .pointer (some ⟨b7, 0, none⟩), s8, s9, s10, s11, .pointer (some ⟨b12, 0, none⟩), s13, .int .i64 ((T.length : Int) + (ml : Int)), s15, s16, s17, s18, s19, s20, s21, s22, s23, s24, s25, s26, s27, s28, s29, s30, s31, s32, s33, s34, s35, s36, s37, s38, s39, .pointer (some ⟨qb, 0, none⟩), .int .i64 (T.length : Int), .slice ma ml mc, .int .i64 (ml : Int), .int .i64 ((T.length : Int) + (ml : Int)), s45, s46, s47, s48, s49, s50, s51, s52, s53, s54, s55, s56, s57, s58, s59, s60, s61, s62, s63, s64, s65, s66, s67, s68, s69, s70, s71, s72, s73, s74, s75, s76, s77, s78, s79, s80, s81, s82, s83, s84, s85, s86, s87, s88, s89, s90, s91, s92, s93, s94, s95, s96, s97, s98, s99, s100, s101, s102, s103, s104, s105, s106, s107, s108, s109, s110, s111, s112, s113, s114, s115, s116, s117, s118, s119, s120, s121, s122, s123, s124, s125, s126, s127, s128, s129, s130, s131, s132, s133, s134], []⟩) (by kernel_rfl) ?_
  refine wpAnyH_done (by kernel_rfl) ?_ _
  unfold normQ
  exact hKK _ _ _ _ _ 

end
end Go.Proofs.Ytnhmjheipfopoaa.L
