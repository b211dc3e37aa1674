/- goes: a function tells these places, with their tuples, twice over. -/
import Derived.Test.YtnhmjheipfopoaaL8p
namespace Go.Proofs.Ytnhmjheipfopoaa.L
open Go.RowKit Go.Maps Go.Shelf Go.Proofs.Ytnhmjheipfopoaa
attribute [local go_sem] Oper.semAt_some

theorem eql_seq32 (g : Nat) (lb : Array Value) (w : World) : (binOp .eql 32 (.func (.func g) #[] lb) .nilFunc).run Try.prog w = .ok (.bool false) w := by kernel_rfl

section
variable {A A' w : World} {U Bx : Nat → Prop} {rb qb ar : Nat} {T : List (List Int)}

/-- Between two turns of goes: its boxes, the marks of the loops that went. -/
structure GoI (A : World) (U : Nat → Prop) (rb qb ar : Nat) (T : List (List Int)) (sv : Value) (b5 b6 b7 b8 b9 r : Nat) (rs : List Nat) (Ur : Nat → Prop) (W : World) : Prop where
  st : St W Ur rb qb ar T qb 0
  sub : ∀ i, Ur i → U i ∨ (A.heap.size ≤ i ∧ i ≠ b5 ∧ i ≠ b6 ∧ i ≠ b7 ∧ i ≠ b8 ∧ i ≠ b9 ∧ i ∉ rs)
  turn : Turn U A W
  x5 : W.heap[b5]? = some (.cells #[.pointer (some ⟨qb, 0, none⟩)] 25 (0, 0))
  x6 : W.heap[b6]? = some (.cells #[sv] 23 (0, 0))
  x7 : W.heap[b7]? = some (.cells #[.int .i64 0] 3 (0, 0))
  x8 : W.heap[b8]? = some (.cells #[.bool false] 4 (0, 0))
  x9 : Cnt0 W b9 r
  new : A.heap.size ≤ b5 ∧ A.heap.size ≤ b6 ∧ A.heap.size ≤ b7 ∧ A.heap.size ≤ b8 ∧ A.heap.size ≤ b9 ∧ b9 ≠ b5 ∧ b9 ≠ b6 ∧ b9 ≠ b7 ∧ b9 ≠ b8
  marks : ∀ m ∈ rs, A.heap.size ≤ m ∧ m < W.heap.size ∧ W.heap[m]? = some (.deferred (some []))
  nodup : rs.Nodup
  ul : ∀ i, U i → i < A.heap.size

theorem GoI.begin (h : St A U rb qb ar T qb 0) (sv : Value) {W : World} (hW : W = ((((A.alloc (.cells #[.pointer (some ⟨qb, 0, none⟩)] 25)).alloc (.cells #[sv] 23)).alloc (.cells #[.int .i64 0] 3)).alloc (.cells #[.bool false] 4)).alloc (.cells #[.int .i64 0] 3)) :
    GoI A U rb qb ar T sv A.heap.size (A.heap.size + 1) (A.heap.size + 1 + 1) (A.heap.size + 1 + 1 + 1) (A.heap.size + 1 + 1 + 1 + 1) 0 [] U W := by
  have hs : Stay A W := by rw [hW]; exact ((((Stay.new _ _).alloc _).alloc _).alloc _).alloc _
  have hul := h.lt
  refine ⟨h.stay hs, fun i hi => .inl hi, Turn.of_stay hs, ?_, ?_, ?_, ?_, ?_, by omega, fun m hm => (by cases hm), List.nodup_nil, hul⟩
  · rw [hW]; exact ((((Stay.new _ _).alloc _).alloc _).alloc _).heap (heap_new A _)
  · have := heap_new (A.alloc (.cells #[.pointer (some ⟨qb, 0, none⟩)] 25)) (.cells #[sv] 23)
    rw [World.size_alloc] at this
    rw [hW]; exact (((Stay.new _ _).alloc _).alloc _).heap this
  · have := heap_new ((A.alloc (.cells #[.pointer (some ⟨qb, 0, none⟩)] 25)).alloc (.cells #[sv] 23)) (.cells #[.int .i64 0] 3)
    rw [World.size_alloc, World.size_alloc] at this
    rw [hW]; exact ((Stay.new _ _).alloc _).heap this
  · have := heap_new (((A.alloc (.cells #[.pointer (some ⟨qb, 0, none⟩)] 25)).alloc (.cells #[sv] 23)).alloc (.cells #[.int .i64 0] 3)) (.cells #[.bool false] 4)
    rw [World.size_alloc, World.size_alloc, World.size_alloc] at this
    rw [hW]; exact (Stay.new _ _).heap this
  · have := heap_new ((((A.alloc (.cells #[.pointer (some ⟨qb, 0, none⟩)] 25)).alloc (.cells #[sv] 23)).alloc (.cells #[.int .i64 0] 3)).alloc (.cells #[.bool false] 4)) (.cells #[.int .i64 0] 3)
    rw [World.size_alloc, World.size_alloc, World.size_alloc, World.size_alloc] at this
    unfold Cnt0
    rw [hW]; exact this

theorem GoI.lt9 {sv : Value} {b5 b6 b7 b8 b9 r : Nat} {rs : List Nat} {Ur : Nat → Prop} {W : World} (h : GoI A U rb qb ar T sv b5 b6 b7 b8 b9 r rs Ur W) : b5 < W.heap.size ∧ b6 < W.heap.size ∧ b7 < W.heap.size ∧ b8 < W.heap.size ∧ b9 < W.heap.size :=
  ⟨(Array.getElem?_eq_some_iff.1 h.x5).1, (Array.getElem?_eq_some_iff.1 h.x6).1, (Array.getElem?_eq_some_iff.1 h.x7).1, (Array.getElem?_eq_some_iff.1 h.x8).1, (Array.getElem?_eq_some_iff.1 h.x9).1⟩

section
variable {sv : Value} {b5 b6 b7 b8 b9 r bn : Nat} {rs : List Nat} {Ur : Nat → Prop} {W w1 X : World} {gf : Nat} {lb : Array Value} {C K : List Int} {x y : Int} {L' : List Nat} {pa : Option Addr} {pb po pc : Nat}

/-- The counter's box is laid. -/
theorem goI_in (h : GoI A U rb qb ar T sv b5 b6 b7 b8 b9 r rs Ur W) (hC : Clo gf lb rb ar C K x y Bx A) (hB : ∀ i, Bx i → ¬ U i ∧ i < A.heap.size) (hw : w1 = W.alloc (.cells #[.int .i64 0] 3)) (hn : W.heap.size = bn) :
    St w1 Ur rb qb ar T qb 0 ∧ Clo gf lb rb ar C K x y Bx w1 ∧ (∀ i, Bx i → ¬ Ur i) ∧ ¬ Ur bn ∧ ¬ Bx bn ∧ Cnt0 w1 bn 0 ∧ Stay W w1 ∧ w1.heap.size = bn + 1 ∧ W.heap.size = bn := by
  have hs : Stay W w1 := by rw [hw]; exact Stay.new _ _
  have hz := h.turn.size
  refine ⟨h.st.stay hs, (hC.turn h.turn (fun i hi => (hB i hi).1)).stay hs, fun i hi q => ?_, fun q => ?_, fun q => ?_, ?_, hs, by rw [hw, World.size_alloc, hn], hn⟩
  · rcases h.sub i q with p | p
    · exact (hB i hi).1 p
    · have := (hB i hi).2; omega
  · have := h.st.lt _ q; omega
  · have := (hB _ q).2; omega
  · unfold Cnt0
    rw [hw, ← hn]; exact heap_new _ _

/-- What lies there in a round. -/
theorem goI_at (h : GoI A U rb qb ar T (.slice pa L'.length pc) b5 b6 b7 b8 b9 r rs Ur W) (hs : Stay W w1) (_hz : w1.heap.size = bn + 1) (hn : W.heap.size = bn) (ht : Turn (fun i => Ur i ∨ i = bn) w1 X) (hP : IntsS A pa pb po (intsN L')) (hpU : 0 < L'.length → ¬ U pb) :
    X.cell? ⟨b5, 0, none⟩ = some (.pointer (some ⟨qb, 0, none⟩)) ∧ X.cell? ⟨b6, 0, none⟩ = some (.slice pa L'.length pc) ∧ X.cell? ⟨b7, 0, none⟩ = some (.int .i64 0) ∧ X.cell? ⟨b9, 0, none⟩ = some (.int .i64 r) ∧ ∀ k (hk : k < L'.length), pa = some ⟨pb, po, none⟩ ∧ X.cell? ⟨pb, po + k, none⟩ = some (.int .i64 (L'[k] : Int)) := by
  have hl := h.lt9
  have hnew := h.new
  have hno : ∀ i, (i = b5 ∨ i = b6 ∨ i = b7 ∨ i = b9) → ¬ (Ur i ∨ i = bn) := fun i hi q => by
    rcases q with q | q
    · rcases h.sub i q with p | p
      · have := h.ul i p; omega
      · omega
    · omega
  refine ⟨ht.cell (hs.cell (cell_of h.x5 rfl)) (hno b5 (.inl rfl)), ht.cell (hs.cell (cell_of h.x6 rfl)) (hno b6 (.inr (.inl rfl))), ht.cell (hs.cell (cell_of h.x7 rfl)) (hno b7 (.inr (.inr (.inl rfl)))), ht.cell (hs.cell (cell_of h.x9 rfl)) (hno b9 (.inr (.inr (.inr rfl)))), fun k hk => ?_⟩
  have hlen : (intsN L').length = L'.length := intsN_len L'
  have hpb := ints_lt hP (by omega)
  have hu := hpU (by omega)
  have hA := h.turn.size
  have h1 : IntsS W pa pb po (intsN L') := ints_turn hP h.turn (fun _ => hu)
  have h2 : IntsS X pa pb po (intsN L') := ints_turn (h1.stay hs) ht (fun _ q => by
    rcases q with q | q
    · rcases h.sub pb q with p | p
      · exact hu p
      · omega
    · omega)
  refine ⟨h2.1 (by omega), ?_⟩
  have := h2.2 k (by omega)
  rw [this]
  simp [intsN]

/-- The end of a round: the counter is raised. -/
theorem go_last {Us : Nat → Prop} {s : Mark} {k : Nat} {v : Value} {Z : World} (hbU : ¬ Us bn) (hbs : ¬ (0 < s.n ∧ bn = s.k)) (hcn : Cnt0 X bn k) (hv : ∀ i, v.ownBlock = some i → i ≠ bn) (z1 : St Z Us rb qb ar T s.k s.n) (z2 : KeepC s.k s.n X Z) (z3 : Turn (fun i => v.ownBlock = some i) X Z)
    (d9 : X.cell? ⟨b9, 0, none⟩ = some (.int .i64 r)) (d7 : X.cell? ⟨b7, 0, none⟩ = some (.int .i64 0)) (hne : ∀ i, v.ownBlock = some i → i ≠ b9 ∧ i ≠ b7) :
    (Z.cell? ⟨bn, 0, none⟩ = some (.int .i64 (k : Int)) ∧ Z.frozen? ⟨bn, 0, none⟩ = false ∧ Z.cell? ⟨b9, 0, none⟩ = some (.int .i64 r) ∧ Z.cell? ⟨b7, 0, none⟩ = some (.int .i64 0)) ∧
      ∃ Us', St (Z.setCell ⟨bn, 0, none⟩ (.int .i64 ((k : Int) + 1))) Us' rb qb ar T s.k s.n ∧ KeepC s.k s.n X (Z.setCell ⟨bn, 0, none⟩ (.int .i64 ((k : Int) + 1))) ∧ Turn (fun i => Us i ∨ i = bn ∨ v.ownBlock = some i) X (Z.setCell ⟨bn, 0, none⟩ (.int .i64 ((k : Int) + 1))) ∧ (∀ i, Us' i → Us i ∨ X.heap.size ≤ i) ∧ Cnt0 (Z.setCell ⟨bn, 0, none⟩ (.int .i64 ((k : Int) + 1))) bn (k + 1) := by
  have hZ : Z.heap[bn]? = some (.cells #[.int .i64 (k : Int)] 3 (0, 0)) := z3.heap hcn (fun q => hv _ q rfl)
  have hset : Turn (fun i => i = bn) Z (Z.setCell ⟨bn, 0, none⟩ (.int .i64 ((k : Int) + 1))) := by exact Turn.set (g := bn) (Turn.refl (fun i => i = bn) Z) rfl 0 _
  have hkZ : s.k < Z.heap.size := by obtain ⟨_, _, _, ⟨_, _, _, _, q⟩, _⟩ := z1; exact q.kr.2.2.2
  refine ⟨⟨cell_of hZ rfl, by simp [World.frozen?, hZ], z3.cell d9 (fun q => (hne _ q).1 rfl), z3.cell d7 (fun q => (hne _ q).2 rfl)⟩, Us, z1.turn hset (fun i hi q => hbU (q ▸ hi)), fun j hj => ?_, ?_, fun i hi => .inl hi, ?_⟩
  · have : s.k ≠ bn := fun e => hbs ⟨by omega, e.symm⟩
    exact (World.cell?_of_block (hset.block s.k hkZ this)).trans (z2 j hj)
  · exact (z3.mono (fun i _ q => .inr (.inr q))).trans (hset.mono (fun i _ q => .inr (.inl q)))
  · unfold Cnt0
    rw [heap_setCell_same _ _ _ _ _ _ hZ]
    simp

/-- What lies there behind a loop. -/
theorem goI_end {c : Nat} (h : GoI A U rb qb ar T sv b5 b6 b7 b8 b9 r rs Ur W) (hs : Stay W w1) (_hz : w1.heap.size = bn + 1) (hn : W.heap.size = bn) (ht : Turn (fun i => Ur i ∨ i = bn) w1 X) (hc : Cnt0 X bn c) :
    X.cell? ⟨b6, 0, none⟩ = some sv ∧ X.cell? ⟨b7, 0, none⟩ = some (.int .i64 0) ∧ X.cell? ⟨b9, 0, none⟩ = some (.int .i64 r) ∧ X.cell? ⟨bn, 0, none⟩ = some (.int .i64 (c : Int)) := by
  have hl := h.lt9
  have hnew := h.new
  have hno : ∀ i, (i = b6 ∨ i = b7 ∨ i = b9) → ¬ (Ur i ∨ i = bn) := fun i hi q => by
    rcases q with q | q
    · rcases h.sub i q with p | p
      · have := h.ul i p; omega
      · omega
    · omega
  exact ⟨ht.cell (hs.cell (cell_of h.x6 rfl)) (hno b6 (.inl rfl)), ht.cell (hs.cell (cell_of h.x7 rfl)) (hno b7 (.inr (.inl rfl))), ht.cell (hs.cell (cell_of h.x9 rfl)) (hno b9 (.inr (.inr rfl))), cell_of hc rfl⟩

/-- The next turn: its number in a box of its own. -/
theorem goI_out {c : Nat} {U1 : Nat → Prop} {q9 : Int} (hq9 : q9 = (r : Int) + 1) (h : GoI A U rb qb ar T sv b5 b6 b7 b8 b9 r rs Ur W) (hs : Stay W w1) (hz : w1.heap.size = bn + 1) (hn : W.heap.size = bn) (hS : St X U1 rb qb ar T qb 0) (hsub : ∀ i, U1 i → Ur i ∨ w1.heap.size ≤ i) (ht : Turn (fun i => Ur i ∨ i = bn) w1 X) (_hc : Cnt0 X bn c) (_hb : ¬ U1 bn) (hm : X.heap[w1.heap.size]? = some (.deferred (some []))) (hnm : ¬ U1 w1.heap.size) :
    GoI A U rb qb ar T sv b5 b6 b7 b8 X.heap.size (r + 1) (w1.heap.size :: rs) U1 (X.alloc (.cells #[.int .i64 q9] 3)) := by
  have hl := h.lt9
  have hnew := h.new
  have hzA := h.turn.size
  have hzX := ht.size
  have hml : w1.heap.size < X.heap.size := (Array.getElem?_eq_some_iff.1 hm).1
  have hsX : Stay X (X.alloc (.cells #[.int .i64 q9] 3)) := Stay.new _ _
  have hU1l := hS.lt
  have hno : ∀ i, (i = b5 ∨ i = b6 ∨ i = b7 ∨ i = b8 ∨ i ∈ rs) → ¬ (Ur i ∨ i = bn) := fun i hi q => by
    have hi2 : i ∈ rs → A.heap.size ≤ i ∧ i < W.heap.size := fun e => ⟨(h.marks i e).1, (h.marks i e).2.1⟩
    rcases q with q | q
    · rcases h.sub i q with p | p
      · have := h.ul i p
        rcases hi with e | e | e | e | e
        · omega
        · omega
        · omega
        · omega
        · have := hi2 e; omega
      · rcases hi with e | e | e | e | e
        · omega
        · omega
        · omega
        · omega
        · exact p.2.2.2.2.2.2 e
    · rcases hi with e | e | e | e | e
      · omega
      · omega
      · omega
      · omega
      · have := hi2 e; omega
  refine ⟨hS.stay hsX, fun i hi => ?_, ?_, hsX.heap (ht.heap (hs.heap h.x5) (hno b5 (.inl rfl))), hsX.heap (ht.heap (hs.heap h.x6) (hno b6 (.inr (.inl rfl)))), hsX.heap (ht.heap (hs.heap h.x7) (hno b7 (.inr (.inr (.inl rfl))))), hsX.heap (ht.heap (hs.heap h.x8) (hno b8 (.inr (.inr (.inr (.inl rfl)))))), ?_, ?_, fun m hm' => ?_, ?_, h.ul⟩
  · have hne : i ≠ w1.heap.size := fun e => hnm (e ▸ hi)
    have hlt := hU1l i hi
    rcases hsub i hi with p | p
    · rcases h.sub i p with q | q
      · exact .inl q
      · refine .inr ⟨q.1, q.2.1, q.2.2.1, q.2.2.2.1, q.2.2.2.2.1, by omega, fun e => ?_⟩
        rcases List.mem_cons.1 e with e | e
        · exact hne e
        · exact q.2.2.2.2.2.2 e
    · refine .inr ⟨by omega, by omega, by omega, by omega, by omega, by omega, fun e => ?_⟩
      rcases List.mem_cons.1 e with e | e
      · exact hne e
      · have := (h.marks i e).2.1; omega
  · refine ((h.turn.trans (Turn.of_stay hs)).then ht (fun i hi q => ?_)).trans (Turn.of_stay hsX)
    rcases q with q | q
    · rcases h.sub i q with p | p
      · exact p
      · omega
    · omega
  · unfold Cnt0
    rw [heap_new, hq9]
    simp
  · omega
  · rcases List.mem_cons.1 hm' with rfl | e
    · exact ⟨by omega, by rw [World.size_alloc]; omega, hsX.heap hm⟩
    · have := h.marks m e
      exact ⟨this.1, by rw [World.size_alloc]; omega, hsX.heap (ht.heap (hs.heap this.2.2) (hno m (.inr (.inr (.inr (.inr e))))))⟩
  · refine List.nodup_cons.2 ⟨fun e => ?_, h.nodup⟩
    have := (h.marks _ e).2.1
    omega

/-- The end. -/
theorem goI_fin (h : GoI A U rb qb ar T sv b5 b6 b7 b8 b9 r rs Ur W) :
    (∀ m ∈ rs, (W.setCell ⟨b8, 0, none⟩ (.bool true)).heap[m]? = some (.deferred (some []))) ∧ rs.Nodup ∧ W.cell? ⟨b8, 0, none⟩ = some (.bool false) ∧ W.frozen? ⟨b8, 0, none⟩ = false ∧
      ∀ w', Turn (fun i => i ∈ rs) (W.setCell ⟨b8, 0, none⟩ (.bool true)) w' → w'.cell? ⟨b8, 0, none⟩ = some (.bool true) ∧ ∃ U', St w' U' rb qb ar T qb 0 ∧ (∀ i, U' i → U i ∨ A.heap.size ≤ i) ∧ Turn U A w' := by
  have hne : b8 ∉ rs := fun e => by have := (h.marks _ e).2.2; rw [h.x8] at this; cases this
  have hset : Turn (fun i => i = b8) W (W.setCell ⟨b8, 0, none⟩ (.bool true)) := by exact Turn.set (g := b8) (Turn.refl (fun i => i = b8) W) rfl 0 _
  have hnew := h.new
  refine ⟨fun m hm => hset.heap (h.marks m hm).2.2 (fun e => hne (e ▸ hm)), h.nodup, cell_of h.x8 rfl, by simp [World.frozen?, h.x8], fun w' ht => ⟨ht.cell (cell_of (heap_setCell_same _ _ _ _ _ _ h.x8) rfl) hne, Ur, (h.st.turn hset (fun i hi e => ?_)).turn ht (fun i hi e => ?_), fun i hi => (h.sub i hi).imp id (fun p => p.1), ?_⟩⟩
  · rcases h.sub i hi with p | p
    · have := h.ul i p; omega
    · exact p.2.2.2.2.1 e
  · rcases h.sub i hi with p | p
    · have := h.ul i p; have := (h.marks i e).1; omega
    · exact p.2.2.2.2.2.2 e
  · exact (h.turn.then hset (fun i hi e => by omega)).then ht (fun i hi e => by have := (h.marks i e).1; omega)
end

/-- What a round finds: the place, the tuple of the document's, and what Same and spoil do. -/
theorem go_round {X : World} {Us : Nat → Prop} {s : Mark} (hS : St X Us rb qb ar T s.k s.n) {v : Value} {t : List Int} (hO : OwnI 0 X v t) {p : Nat} (hp : T[p]? = some t) (hn : ∀ i, v.ownBlock = some i → ¬ Us i ∧ ¬ (0 < s.n ∧ i = s.k)) :
    ∃ va vc a9 c9 g ua uc, v = .slice va t.length vc ∧ X.cell? ⟨qb, 1, none⟩ = some (.slice a9 T.length c9) ∧ a9 = some ⟨g, 0, none⟩ ∧ p < T.length ∧ X.cell? ⟨g, p, none⟩ = some (.slice ua t.length uc) ∧
      Calls Try.prog 13 #[.slice va t.length vc, .slice ua t.length uc] X fun e Y => e = .returned (.bool true) ∧ Calls Try.prog 39 #[.slice va t.length vc] Y fun e Z => (∃ r, e = .returned r) ∧
        St Z Us rb qb ar T s.k s.n ∧ KeepC s.k s.n X Z ∧ Turn (fun i => v.ownBlock = some i) X Z := by
  have hS0 := hS
  obtain ⟨F, G, R, hN, ⟨lv, us, hQ⟩, hFG, hU, _⟩ := hS
  have hkl : s.k < X.heap.size := by obtain ⟨_, _, _, _, q⟩ := hN; exact q.kr.2.2.2
  obtain ⟨a9, c9, rfl, hm, hcell⟩ := hQ.slice
  have hpl := (List.getElem?_eq_some_iff.1 hp).1
  obtain ⟨u, hu⟩ : ∃ u, us[p]? = some u := ⟨_, List.getElem?_eq_getElem (by rw [hQ.len]; exact hpl)⟩
  have hux : u.xs = t := Option.some.inj ((hQ.at hu).symm.trans hp)
  obtain ⟨g, hg, hc⟩ := hcell p u hu
  have htl : t.length ≤ 16 := by rw [hQ.rows t (List.mem_of_getElem? hp)]; exact hQ.arle
  have hui := hQ.each u (List.mem_of_getElem? hu)
  unfold Tup.v at hc
  rw [hux] at hc hui
  have hrm := Rm.of_own hO
  obtain ⟨va, vb, vc, rfl, hvi⟩ := hO.ints
  refine ⟨va, vc, a9, c9, g, u.a, u.c, rfl, hQ.c1, hg, hpl, hc, ?_⟩
  refine (y4Same_any X va u.a vb 0 u.b u.o vc u.c t t hvi hui (by unfold maxLen; omega) (by unfold maxLen; omega)).mono ?_
  rintro e Y ⟨rfl, d, rfl⟩
  refine ⟨by simp, ?_⟩
  have hrm' : Rm (X.drewN d) (.slice va t.length vc) t.length := hrm
  refine (spoil_any (X.drewN d) _ _ hrm' (by omega)).mono ?_
  rintro e Z ⟨hr, ht⟩
  have htX : Turn (fun i => (Value.slice va t.length vc).ownBlock = some i) X Z := (Turn.of_stay (S := fun i => (Value.slice va t.length vc).ownBlock = some i) (Stay.drewN X d)).trans ht
  refine ⟨hr, hS0.turn htX (fun i hi q => (hn i q).1 hi), fun j hj => World.cell?_of_block (htX.block s.k hkl (fun q => (hn _ q).2 ⟨by omega, rfl⟩)), htX⟩

set_option maxRecDepth 100000 in
set_option maxHeartbeats 4000000 in
theorem goes_any (h : St A U rb qb ar T qb 0) {gf : Nat} {lb : Array Value} {C K : List Int} {x y : Int} (hC : Clo gf lb rb ar C K x y Bx A) (hB : ∀ i, Bx i → ¬ U i ∧ i < A.heap.size) (hT : T.length ≤ 68719476736) (hx : x ≤ 68719476736) (hlK : K.length ≤ maxLen)
    (pa : Option Addr) (pb po pc : Nat) (hP : IntsS A pa pb po (intsN (mtL ar T C K x y))) (hpU : 0 < (mtL ar T C K x y).length → ¬ U pb) :
    Calls Try.prog 15 #[.func (.func gf) #[] lb, .pointer (some ⟨qb, 0, none⟩), .slice pa (mtL ar T C K x y).length pc, .int .i64 0] A fun e A' => e = .returned (.bool true) ∧ ∃ U', St A' U' rb qb ar T qb 0 ∧ (∀ i, U' i → U i ∨ A.heap.size ≤ i) ∧ Turn U A A' := by
  have hne := eql_seq32 gf lb
  have H0 : Hid (St A U rb qb ar T qb 0 ∧ Clo gf lb rb ar C K x y Bx A ∧ (∀ i, Bx i → ¬ U i ∧ i < A.heap.size) ∧ IntsS A pa pb po (intsN (mtL ar T C K x y)) ∧ (0 < (mtL ar T C K x y).length → ¬ U pb)) := ⟨h, hC, hB, hP, hpU⟩
  clear h hC hB hP hpU
  have hLl : (mtL ar T C K x y).length ≤ 68719476736 := by
    unfold mtL
    split
    · have := mtP_len T C K x y T.length; omega
    · simp
  generalize hL : mtL ar T C K x y = L' at H0 hLl ⊢
  refine (callsIn_wide (n := 9)).1 (callsIn_of_wp_marks Try.func15 rfl trivial ?_ rfl)
  simp only [Try.ntmps15, List.size_toArray, List.length_cons, List.length_nil, Nat.reduceAdd, Nat.reduceSub, Array.replicate_succ, Array.replicate_zero, List.push_toArray, List.append_toArray, List.nil_append, List.cons_append]
  gi_wp2_with fail
  obtain ⟨W0, hW0⟩ : ∃ W0, W0 = ((((A.alloc (.cells #[.pointer (some ⟨qb, 0, none⟩)] 25)).alloc (.cells #[.slice pa L'.length pc] 23)).alloc (.cells #[.int .i64 0] 3)).alloc (.cells #[.bool false] 4)).alloc (.cells #[.int .i64 0] 3) := ⟨_, rfl⟩
  rw [← hW0]
  have HG0 : Hid (GoI A U rb qb ar T (.slice pa L'.length pc) A.heap.size (A.heap.size + 1) (A.heap.size + 1 + 1) (A.heap.size + 1 + 1 + 1) (A.heap.size + 1 + 1 + 1 + 1) 0 [] U W0) := GoI.begin H0.out.1 _ hW0
  clear hW0
  obtain ⟨b5, e5⟩ : ∃ b, A.heap.size = b := ⟨_, rfl⟩
  rw [e5] at HG0
  simp only [e5]
  obtain ⟨b6, e6⟩ : ∃ b, b5 + 1 = b := ⟨_, rfl⟩
  rw [e6] at HG0
  simp only [e6]
  obtain ⟨b7, e7⟩ : ∃ b, b6 + 1 = b := ⟨_, rfl⟩
  rw [e7] at HG0
  simp only [e7]
  obtain ⟨b8, e8⟩ : ∃ b, b7 + 1 = b := ⟨_, rfl⟩
  rw [e8] at HG0
  simp only [e8]
  obtain ⟨b9, e9⟩ : ∃ b, b8 + 1 = b := ⟨_, rfl⟩
  rw [e9] at HG0
  simp only [e9]
  have cx9 : W0.cell? ⟨b9, 0, none⟩ = some (.int .i64 0) := cell_of HG0.out.x9 rfl
  refine wpIn_loop_rounds 3 ?_
  rw [roundsIn_succ]
  gi_wp2_with fail
  --@@
  obtain ⟨w0, hw0⟩ : ∃ w', w' = W0.alloc (.cells #[.int .i64 0] 3) := ⟨_, rfl⟩
  obtain ⟨n0, hn0⟩ : ∃ b, W0.heap.size = b := ⟨_, rfl⟩
  rw [← hw0]
  simp only [hn0]
  have HP0 : Hid (St w0 U rb qb ar T qb 0 ∧ Clo gf lb rb ar C K x y Bx w0 ∧ (∀ i, Bx i → ¬ U i) ∧ ¬ U n0 ∧ ¬ Bx n0 ∧ Cnt0 w0 n0 0 ∧ Stay W0 w0 ∧ w0.heap.size = n0 + 1 ∧ W0.heap.size = n0) := goI_in HG0.out H0.out.2.1 H0.out.2.2.1 hw0 hn0
  clear hw0 hn0 cx9
  refine' range_rel (n := 9) (by decide) (gf := gf) (lb := lb) rfl HP0.out.1 HP0.out.2.1 HP0.out.2.2.1 hT hx hlK hL n0 HP0.out.2.2.2.1 HP0.out.2.2.2.2.1 HP0.out.2.2.2.2.2.1 rfl (fun _ => T) rfl (fun k _ => ⟨[], by simp, by simpa using hT⟩) _ ?assign0 ?body0 ?done0
  case assign0 =>
    intro l' k v W' K' hK
    unfold mkR
    gi_wp2
    exact hK
  case body0 =>
    intro l' s k hk Us v t X hSt hO hTp hnv hbU hbs hcn htX hsub
    have hp0 : L'.getD k 0 = L'[k] := by simp [hk]
    have hp1 : (L'[k]?).getD 0 = L'[k] := by simp [hk]
    obtain ⟨va, vc, a9, c9, g, ua, uc, rfl, cq, rfl, hpl, ct, hsame⟩ := go_round hSt hO hTp (fun i hi => ⟨(hnv i hi).1, (hnv i hi).2.2.2⟩)
    obtain ⟨d5, d6, d7, d9, dp⟩ := goI_at HG0.out HP0.out.2.2.2.2.2.2.1 HP0.out.2.2.2.2.2.2.2.1 HP0.out.2.2.2.2.2.2.2.2 htX (H0.out.2.2.2.1) H0.out.2.2.2.2
    obtain ⟨rfl, cp⟩ := dp k hk
    have c10 : X.cell? ⟨n0, 0, none⟩ = some (.int .i64 (k : Int)) := cell_of hcn rfl
    have HZ : Hid (∀ Z, St Z Us rb qb ar T s.k s.n → KeepC s.k s.n X Z → Turn (fun i => (Value.slice va t.length vc).ownBlock = some i) X Z → (Z.cell? ⟨n0, 0, none⟩ = some (.int .i64 (k : Int)) ∧ Z.frozen? ⟨n0, 0, none⟩ = false ∧ Z.cell? ⟨b9, 0, none⟩ = some (.int .i64 0) ∧ Z.cell? ⟨b7, 0, none⟩ = some (.int .i64 0)) ∧
        ∃ Us', St (Z.setCell ⟨n0, 0, none⟩ (.int .i64 ((k : Int) + 1))) Us' rb qb ar T s.k s.n ∧ KeepC s.k s.n X (Z.setCell ⟨n0, 0, none⟩ (.int .i64 ((k : Int) + 1))) ∧ Turn (fun i => Us i ∨ i = n0 ∨ (Value.slice va t.length vc).ownBlock = some i) X (Z.setCell ⟨n0, 0, none⟩ (.int .i64 ((k : Int) + 1))) ∧ (∀ i, Us' i → Us i ∨ X.heap.size ≤ i) ∧ Cnt0 (Z.setCell ⟨n0, 0, none⟩ (.int .i64 ((k : Int) + 1))) n0 (k + 1)) := fun Z z1 z2 z3 => go_last hbU hbs hcn (fun i hi => (hnv i hi).2.1) z1 z2 z3 d9 d7 (fun i hi => by have := (hnv i hi).2.2.1; have := HP0.out.2.2.2.2.2.2.2.1; have := HP0.out.2.2.2.2.2.2.2.2; have := HG0.out.lt9; omega)
    have hnb9 : ¬ n0 = b9 := by have := HP0.out.2.2.2.2.2.2.2.2; have := HG0.out.lt9; omega
    have hnb9' : ¬ b9 = n0 := fun e => hnb9 e.symm
    have hnb7 : ¬ n0 = b7 := by have := HP0.out.2.2.2.2.2.2.2.2; have := HG0.out.lt9; omega
    have hnb7' : ¬ b7 = n0 := fun e => hnb7 e.symm
    have hkb : (k : Int) ≤ 68719476736 := by omega
    have hge : decide ((L'.length : Int) ≤ (k : Int)) = false := by rw [decide_eq_false_iff_not]; omega
    have hge' : decide (L'.length ≤ k) = false := by rw [decide_eq_false_iff_not]; omega
    have hki : (k : Int) < (L'.length : Int) := by omega
    have hk1 : ((k : Int) + 1 == 0) = false := by rw [beq_eq_false_iff_ne]; omega
    have hpi : (L'[k] : Int) < (T.length : Int) := by omega
    obtain ⟨p, hp⟩ : ∃ p, p = L'[k] := ⟨_, rfl⟩
    rw [← hp] at cp ct hpi hp1
    simp only [hp1]
    clear hSt hO hTp hnv hbU hbs hcn htX hsub hpl hp0 hp1 hp dp
    gi_wp2_with (first
      | (refine ⟨trivial, ?_⟩; gi_at_call 13; refine (CallsIn.inRound l' (callsIn_wide.2 hsame)).mono ?_; rintro e Y ⟨rfl, hsp⟩; clear hsame)
      | (refine ⟨trivial, ?_⟩; gi_at_call 39; refine (CallsIn.inRound l' (callsIn_wide.2 hsp)).mono ?_; rintro e Z ⟨⟨r9, rfl⟩, z1, z2, z3⟩; obtain ⟨⟨g1, g2, g3, g4⟩, hz⟩ := HZ.out Z z1 z2 z3; have HF : Hid _ := hz; clear hsp z1 z2 z3 hz HZ))
    exact HF.out
  case done0 =>
    intro U1 V0 hSt hsub htu hcn hb hm hnm
    have HN0 : Hid _ := goI_out (q9 := 1) (by decide) HG0.out HP0.out.2.2.2.2.2.2.1 HP0.out.2.2.2.2.2.2.2.1 HP0.out.2.2.2.2.2.2.2.2 hSt hsub htu hcn hb hm hnm
    obtain ⟨d6, d7, d9, d10⟩ := goI_end HG0.out HP0.out.2.2.2.2.2.2.1 HP0.out.2.2.2.2.2.2.2.1 HP0.out.2.2.2.2.2.2.2.2 htu hcn
    clear hSt hsub htu hcn hb hm hnm
    gi_wp2_with fail
    obtain ⟨G1, hG1⟩ : ∃ G, G = V0.alloc (.cells #[.int .i64 1] 3) := ⟨_, rfl⟩
    obtain ⟨c91, hc91⟩ : ∃ b, V0.heap.size = b := ⟨_, rfl⟩
    obtain ⟨m0, hm0⟩ : ∃ m, w0.heap.size = m := ⟨_, rfl⟩
    have HG1 : Hid (GoI A U rb qb ar T (.slice pa L'.length pc) b5 b6 b7 b8 c91 1 [m0] U1 G1) := by rw [hG1, ← hc91, ← hm0]; exact HN0.out
    rw [← hG1]
    simp only [hc91, hm0]
    have cx91 : G1.cell? ⟨c91, 0, none⟩ = some (.int .i64 1) := cell_of HG1.out.x9 rfl
    clear hG1 hc91 hm0 HN0 HP0 d6 d7 d9 d10
    rw [roundsIn_succ]
    gi_wp2_with fail
    obtain ⟨w1, hw1⟩ : ∃ w', w' = G1.alloc (.cells #[.int .i64 0] 3) := ⟨_, rfl⟩
    obtain ⟨n1, hn1⟩ : ∃ b, G1.heap.size = b := ⟨_, rfl⟩
    rw [← hw1]
    simp only [hn1]
    have HP1 : Hid (St w1 U1 rb qb ar T qb 0 ∧ Clo gf lb rb ar C K x y Bx w1 ∧ (∀ i, Bx i → ¬ U1 i) ∧ ¬ U1 n1 ∧ ¬ Bx n1 ∧ Cnt0 w1 n1 0 ∧ Stay G1 w1 ∧ w1.heap.size = n1 + 1 ∧ G1.heap.size = n1) := goI_in HG1.out H0.out.2.1 H0.out.2.2.1 hw1 hn1
    clear hw1 hn1 cx91
    refine' range_rel (n := 9) (by decide) (gf := gf) (lb := lb) rfl HP1.out.1 HP1.out.2.1 HP1.out.2.2.1 hT hx hlK hL n1 HP1.out.2.2.2.1 HP1.out.2.2.2.2.1 HP1.out.2.2.2.2.2.1 rfl (fun _ => T) rfl (fun k _ => ⟨[], by simp, by simpa using hT⟩) _ ?assign1 ?body1 ?done1
    case assign1 =>
      intro l' k v W' K' hK
      unfold mkR
      gi_wp2
      exact hK
    case body1 =>
      intro l' s k hk Us v t X hSt hO hTp hnv hbU hbs hcn htX hsub
      have hp0 : L'.getD k 0 = L'[k] := by simp [hk]
      have hp1 : (L'[k]?).getD 0 = L'[k] := by simp [hk]
      obtain ⟨va, vc, a9, c9, g, ua, uc, rfl, cq, rfl, hpl, ct, hsame⟩ := go_round hSt hO hTp (fun i hi => ⟨(hnv i hi).1, (hnv i hi).2.2.2⟩)
      obtain ⟨d5, d6, d7, d9, dp⟩ := goI_at HG1.out HP1.out.2.2.2.2.2.2.1 HP1.out.2.2.2.2.2.2.2.1 HP1.out.2.2.2.2.2.2.2.2 htX (H0.out.2.2.2.1) H0.out.2.2.2.2
      obtain ⟨rfl, cp⟩ := dp k hk
      have c10 : X.cell? ⟨n1, 0, none⟩ = some (.int .i64 (k : Int)) := cell_of hcn rfl
      have HZ : Hid (∀ Z, St Z Us rb qb ar T s.k s.n → KeepC s.k s.n X Z → Turn (fun i => (Value.slice va t.length vc).ownBlock = some i) X Z → (Z.cell? ⟨n1, 0, none⟩ = some (.int .i64 (k : Int)) ∧ Z.frozen? ⟨n1, 0, none⟩ = false ∧ Z.cell? ⟨c91, 0, none⟩ = some (.int .i64 1) ∧ Z.cell? ⟨b7, 0, none⟩ = some (.int .i64 0)) ∧
          ∃ Us', St (Z.setCell ⟨n1, 0, none⟩ (.int .i64 ((k : Int) + 1))) Us' rb qb ar T s.k s.n ∧ KeepC s.k s.n X (Z.setCell ⟨n1, 0, none⟩ (.int .i64 ((k : Int) + 1))) ∧ Turn (fun i => Us i ∨ i = n1 ∨ (Value.slice va t.length vc).ownBlock = some i) X (Z.setCell ⟨n1, 0, none⟩ (.int .i64 ((k : Int) + 1))) ∧ (∀ i, Us' i → Us i ∨ X.heap.size ≤ i) ∧ Cnt0 (Z.setCell ⟨n1, 0, none⟩ (.int .i64 ((k : Int) + 1))) n1 (k + 1)) := fun Z z1 z2 z3 => go_last hbU hbs hcn (fun i hi => (hnv i hi).2.1) z1 z2 z3 d9 d7 (fun i hi => by have := (hnv i hi).2.2.1; have := HP1.out.2.2.2.2.2.2.2.1; have := HP1.out.2.2.2.2.2.2.2.2; have := HG1.out.lt9; omega)
      have hnb9 : ¬ n1 = c91 := by have := HP1.out.2.2.2.2.2.2.2.2; have := HG1.out.lt9; omega
      have hnb9' : ¬ c91 = n1 := fun e => hnb9 e.symm
      have hnb7 : ¬ n1 = b7 := by have := HP1.out.2.2.2.2.2.2.2.2; have := HG1.out.lt9; omega
      have hnb7' : ¬ b7 = n1 := fun e => hnb7 e.symm
      have hkb : (k : Int) ≤ 68719476736 := by omega
      have hge : decide ((L'.length : Int) ≤ (k : Int)) = false := by rw [decide_eq_false_iff_not]; omega
      have hge' : decide (L'.length ≤ k) = false := by rw [decide_eq_false_iff_not]; omega
      have hki : (k : Int) < (L'.length : Int) := by omega
      have hk1 : ((k : Int) + 1 == 0) = false := by rw [beq_eq_false_iff_ne]; omega
      have hpi : (L'[k] : Int) < (T.length : Int) := by omega
      obtain ⟨p, hp⟩ : ∃ p, p = L'[k] := ⟨_, rfl⟩
      rw [← hp] at cp ct hpi hp1
      simp only [hp1]
      clear hSt hO hTp hnv hbU hbs hcn htX hsub hpl hp0 hp1 hp dp
      gi_wp2_with (first
        | (refine ⟨trivial, ?_⟩; gi_at_call 13; refine (CallsIn.inRound l' (callsIn_wide.2 hsame)).mono ?_; rintro e Y ⟨rfl, hsp⟩; clear hsame)
        | (refine ⟨trivial, ?_⟩; gi_at_call 39; refine (CallsIn.inRound l' (callsIn_wide.2 hsp)).mono ?_; rintro e Z ⟨⟨r9, rfl⟩, z1, z2, z3⟩; obtain ⟨⟨g1, g2, g3, g4⟩, hz⟩ := HZ.out Z z1 z2 z3; have HF : Hid _ := hz; clear hsp z1 z2 z3 hz HZ))
      exact HF.out
    case done1 =>
      intro U2 V1 hSt hsub htu hcn hb hm hnm
      have HN1 : Hid _ := goI_out (q9 := 2) (by decide) HG1.out HP1.out.2.2.2.2.2.2.1 HP1.out.2.2.2.2.2.2.2.1 HP1.out.2.2.2.2.2.2.2.2 hSt hsub htu hcn hb hm hnm
      obtain ⟨d6, d7, d9, d10⟩ := goI_end HG1.out HP1.out.2.2.2.2.2.2.1 HP1.out.2.2.2.2.2.2.2.1 HP1.out.2.2.2.2.2.2.2.2 htu hcn
      clear hSt hsub htu hcn hb hm hnm
      gi_wp2_with fail
      obtain ⟨G2, hG2⟩ : ∃ G, G = V1.alloc (.cells #[.int .i64 2] 3) := ⟨_, rfl⟩
      obtain ⟨c92, hc92⟩ : ∃ b, V1.heap.size = b := ⟨_, rfl⟩
      obtain ⟨m1, hm1⟩ : ∃ m, w1.heap.size = m := ⟨_, rfl⟩
      have HG2 : Hid (GoI A U rb qb ar T (.slice pa L'.length pc) b5 b6 b7 b8 c92 2 [m1, m0] U2 G2) := by rw [hG2, ← hc92, ← hm1]; exact HN1.out
      rw [← hG2]
      simp only [hc92, hm1]
      have cx92 : G2.cell? ⟨c92, 0, none⟩ = some (.int .i64 2) := cell_of HG2.out.x9 rfl
      clear hG2 hc92 hm1 HN1 HP1 d6 d7 d9 d10
      rw [roundsIn_succ]
      have hfin := goI_fin HG2.out
      have HF : Hid _ := hfin
      have cf8 := hfin.2.2.1
      have ff8 := hfin.2.2.2.1
      clear hfin
      gi_wp2
      refine leaves_turn [m1, m0] _ HF.out.2.1 HF.out.1 fun w' hw' => ?_
      obtain ⟨h8, h9⟩ := HF.out.2.2.2.2 w' hw'
      exact ⟨.bool true, by simp [results, Try.results15, go_sem, h8], rfl, h9⟩
end
end Go.Proofs.Ytnhmjheipfopoaa.L
