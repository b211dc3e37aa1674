/- LexEach's walk. -/
import Derived.Test.YtioafeckaeaopaaDoorU1
import Derived.Test.YtioafeckaeaopaaDoorV4
import Derived.Test.YtioafeckaeaopaaDoorQR
namespace Go.Proofs.YtioafeckaeaopaaDoor
open Go.RowKit Go.Maps Go.Shelf
attribute [local go_sem] Oper.semAt_some

theorem eql_seqT (g : Nat) (lb : Array Value) (w : World) : (binOp .eql 36 (.func (.func g) #[] lb) .nilFunc).run Tryd.prog w = .ok (.bool false) w := by kernel_rfl
/-- What lies there all the while: how many rounds the first loop goes, the answer, the list that is wanted, the text. -/
structure EA (w A : World) (z : Int) (s : ByteArray) (aw : Option Addr) (bw cw : Nat) (l : List Tok) (Bw Bx lim : Nat) : Prop where
  lv : A.heap[w.heap.size]? = some (.cells #[.int .i64 z] 3 (0, 0))
  rs : A.heap[w.heap.size + 1]? = some (.cells #[.bool false] 4 (0, 0))
  wt : A.heap[Bw]? = some (.cells #[.slice aw l.length cw] 22 (0, 0))
  tx : A.heap[Bx]? = some (.cells #[.string s] 9 (0, 0))
  tk : TkS A aw bw l
  st : Stay w A
  hl : w.heap.size + 1 < lim ∧ Bw < lim ∧ Bx < lim ∧ (aw = some ⟨bw, 0, none⟩ → bw < lim) ∧ lim ≤ A.heap.size
theorem EA.turn {w A A' : World} {z : Int} {s : ByteArray} {aw : Option Addr} {bw cw : Nat} {l : List Tok} {Bw Bx lim : Nat} {S : Nat → Prop} (h : EA w A z s aw bw cw l Bw Bx lim) (ht : Turn S A A') (hS : ∀ k, S k → lim ≤ k) : EA w A' z s aw bw cw l Bw Bx lim := by
  obtain ⟨h1, h2, h3, h4, h5⟩ := h.hl
  have f : ∀ k, k < lim → A'.heap[k]? = A.heap[k]? := fun k hk => ht.block k (by omega) (fun e => by have := hS k e; omega)
  exact ⟨(f _ (by omega)).trans h.lv, (f _ h1).trans h.rs, (f _ h2).trans h.wt, (f _ h3).trans h.tx, h.tk.keep (fun e => f _ (h4 e)), Below.trans h.st (below_turn (W := w) ht (fun k hk => by have := hS k hk; omega) h.st.size), h1, h2, h3, h4, Nat.le_trans h5 ht.size⟩
theorem prefix_next {l pre : List Tok} {x : Tok} (h : pre <+: l) (hk : pre.length < l.length) : (pre ++ [x] <+: l) ↔ x = l[pre.length] := by
  obtain ⟨t, rfl⟩ := h
  cases t with
  | nil => simp at hk
  | cons y t => simp
/-- A step of the loop: how many have come lies in a box. -/
def EI (V : World) (Bn : Nat) (pre : List Tok) (A : World) : Prop := Turn (fun k => k = Bn ∨ V.heap.size ≤ k) V A ∧ A.heap[Bn]? = some (.cells #[.int .i64 (pre.length : Int)] 3 (0, 0))
theorem EI.below {V A A' : World} {Bn : Nat} {pre : List Tok} (h : EI V Bn pre A) (hb : Below V.heap.size A A') (hn : Bn < V.heap.size) : EI V Bn pre A' :=
  ⟨h.1.trans ⟨hb.os, hb.tape, hb.output, hb.size, fun k hk hne => hb.block k (by omega)⟩, (hb.block Bn hn).trans h.2⟩
theorem one_cell {A : World} {B : Nat} {v : Value} {t : TypeId} (h : A.heap[B]? = some (.cells #[v] t (0, 0))) : A.cell? ⟨B, 0, none⟩ = some v ∧ A.frozen? ⟨B, 0, none⟩ = false ∧ B < A.heap.size :=
  ⟨by simp [World.cell?, h], by simp [World.frozen?, h], (Array.getElem?_eq_some_iff.1 h).1⟩
/-- The end: the answer is laid, and what the two loops put off is taken up (nothing). -/
theorem each_end {w W : World} {D0 D1 : Nat} (hS : Stay w W) (hr : W.heap[w.heap.size + 1]? = some (.cells #[.bool false] 4 (0, 0))) (h0 : W.heap[D0]? = some (.deferred (some []))) (h1 : W.heap[D1]? = some (.deferred (some []))) (hne : D0 ≠ D1) (l0 : w.heap.size + 1 < D0) (l1 : w.heap.size + 1 < D1) :
    (W.setCell ⟨w.heap.size + 1, 0, none⟩ (.bool true)).heap[D1]? = some (.deferred (some [])) ∧ ((W.setCell ⟨w.heap.size + 1, 0, none⟩ (.bool true)).putObj D1 (.deferred none)).heap[D0]? = some (.deferred (some [])) ∧
      (((W.setCell ⟨w.heap.size + 1, 0, none⟩ (.bool true)).putObj D1 (.deferred none)).putObj D0 (.deferred none)).cell? ⟨w.heap.size + 1, 0, none⟩ = some (.bool true) ∧ Stay w (((W.setCell ⟨w.heap.size + 1, 0, none⟩ (.bool true)).putObj D1 (.deferred none)).putObj D0 (.deferred none)) := by
  have k0 : (W.setCell ⟨w.heap.size + 1, 0, none⟩ (.bool true)).heap[D0]? = some (.deferred (some [])) := (Below.heap_setCell _ _ _ _ (by show D0 ≠ w.heap.size + 1; omega)).trans h0
  have k1 : (W.setCell ⟨w.heap.size + 1, 0, none⟩ (.bool true)).heap[D1]? = some (.deferred (some [])) := (Below.heap_setCell _ _ _ _ (by show D1 ≠ w.heap.size + 1; omega)).trans h1
  have kr : (W.setCell ⟨w.heap.size + 1, 0, none⟩ (.bool true)).heap[w.heap.size + 1]? = some (.cells #[.bool true] 4 (0, 0)) := (show Boxed W (w.heap.size + 1) 4 _ from hr).set (.bool true)
  refine ⟨k1, (World.putObj_heap_other hne).trans k0, (one_cell ((World.putObj_heap_other (by omega)).trans ((World.putObj_heap_other (by omega)).trans kr))).1, ?_⟩
  have s0 : Stay w (W.setCell ⟨w.heap.size + 1, 0, none⟩ (.bool true)) := stay_set hS (by show w.heap.size ≤ w.heap.size + 1; omega) _
  exact Below.trans s0 (Below.trans (below_putObj _ _ _ _ (by omega)) (below_putObj _ _ _ _ (by omega)))

set_option maxRecDepth 100000 in
set_option maxHeartbeats 8000000 in
theorem lexEach_walk (s : ByteArray) (z : Int) (w : World) (hT : Tabs w) (hs : s.size ≤ 1048576) : Calls Tryd.prog 4 #[.string s, .int .i64 z] w fun e w' => e = .returned (.bool true) ∧ Stay w w' := by
  have h2 := hT.lt
  have rT := fun W => y_Tokens s W hs
  have n1 := lex_len s.data.toList
  rw [show s.data.toList.length = s.size by simp] at n1
  have hlt : (lexT s.data.toList).1 = (tokT s.data.toList).1 := by unfold lexT; split <;> rfl
  obtain ⟨U, hU⟩ : ∃ U, lexT s.data.toList = U := ⟨_, rfl⟩
  rw [hU] at rT n1 hlt
  obtain ⟨l, ⟨y1, y2, y3, y4⟩, far, er⟩ := U
  dsimp only [Tok.val, Tok.cells] at rT n1 hlt
  have HL : Hid (l = (tokT s.data.toList).1 ∧ l.length ≤ 1048576 ∧ s.size ≤ 16777216 ∧ Tabs w) := ⟨hlt, by omega, by omega, hT⟩
  clear hU hT hs n1 hlt
  refine (callsIn_wide (n := 9)).1 ?_
  refine callsIn_of_wp_marks Tryd.func4 rfl trivial ?_ rfl
  simp only [Tryd.ntmps4, List.size_toArray, List.length_cons, List.length_nil, Nat.reduceAdd, Nat.reduceSub, Array.replicate_succ, Array.replicate_zero, List.push_toArray, List.append_toArray, List.nil_append, List.cons_append]
  gi_wp2_with fail
  refine ⟨trivial, ?_⟩
  refine CallsIn.mono (callsIn_wide.2 (rT _)) ?_
  rintro e W1 ⟨vw, rfl, hOw, hs1⟩
  have q0 : W1.heap[w.heap.size]? = some (.cells #[.int .i64 z] 3 (0, 0)) := (hs1.block _ (by simp; omega)).trans ((Below.heap_alloc _ _ _ (by simp)).trans (heap_new _ _))
  have q1 : W1.heap[w.heap.size + 1]? = some (.cells #[.bool false] 4 (0, 0)) := (hs1.block _ (by simp)).trans (by have := heap_new (w.alloc (.cells #[.int .i64 z] 3)) (.cells #[.bool false] 4); rwa [World.size_alloc] at this)
  have q2 : Stay w W1 := ((Stay.new _ _).alloc _).trans hs1
  obtain ⟨aw, bw, cw, rfl, kw⟩ := hOw.form
  have q3 : aw = some ⟨bw, 0, none⟩ → bw < W1.heap.size := fun e => (World.ownsRow.lt hOw bw (by rw [e]; rfl)).2
  have H1 : Hid (W1.heap[w.heap.size]? = some (.cells #[.int .i64 z] 3 (0, 0)) ∧ W1.heap[w.heap.size + 1]? = some (.cells #[.bool false] 4 (0, 0)) ∧ Stay w W1 ∧ (aw = some ⟨bw, 0, none⟩ → bw < W1.heap.size) ∧ TkS W1 aw bw l) := ⟨q0, q1, q2, q3, kw⟩
  clear hs1 hOw kw rT q0 q1 q2 q3
  have hq := eql_seqT
  gi_wp2_with fail
  refine ⟨trivial, ?_⟩
  refine CallsIn.mono (callsIn_wide.2 (each_any _ _)) ?_
  rintro e w' ⟨rfl, rfl⟩
  gi_wp2_with fail
  clear hq
  obtain ⟨A, hA⟩ : ∃ A, A = (((W1.alloc (.cells #[.slice aw l.length cw] 22)).alloc (.cells #[.int .i64 y1, .string ⟨y2.toArray⟩, .int .i64 (y3 : Int), .int .i64 (y4 : Int)] 25)).alloc (.cells #[.string s] 9)).alloc (.cells #[.int .i64 0] 3) := ⟨_, rfl⟩
  rw [← hA]
  have sA : Stay W1 A := by rw [hA]; exact ((((Stay.new _ _).alloc _).alloc _).alloc _)
  have zA : A.heap.size = W1.heap.size + 4 := by rw [hA]; simp
  have eA : EA w A z s aw bw cw l W1.heap.size (W1.heap.size + 1 + 1) (W1.heap.size + 3) ∧ A.heap[W1.heap.size + 1 + 1 + 1]? = some (.cells #[.int .i64 0] 3 (0, 0)) := by
    obtain ⟨h1, h2, h3, h4, h5⟩ := H1.out
    have l2 := (Array.getElem?_eq_some_iff.1 h2).1
    refine ⟨⟨(sA.block _ (by omega)).trans h1, (sA.block _ l2).trans h2, ?_, ?_, h5.stay sA, h3.trans sA, by omega, by omega, by omega, fun e => by have := h4 e; omega, by omega⟩, ?_⟩
    · rw [hA]; exact (Below.heap_alloc _ _ _ (by simp only [World.size_alloc]; omega)).trans ((Below.heap_alloc _ _ _ (by simp only [World.size_alloc]; omega)).trans ((Below.heap_alloc _ _ _ (by simp only [World.size_alloc]; omega)).trans (heap_new _ _)))
    · rw [hA]; refine (Below.heap_alloc _ _ _ (by simp only [World.size_alloc]; omega)).trans ?_
      have := heap_new ((W1.alloc (.cells #[.slice aw l.length cw] 22)).alloc (.cells #[.int .i64 y1, .string ⟨y2.toArray⟩, .int .i64 (y3 : Int), .int .i64 (y4 : Int)] 25)) (.cells #[.string s] 9)
      rwa [World.size_alloc, World.size_alloc] at this
    · rw [hA]
      have := heap_new (((W1.alloc (.cells #[.slice aw l.length cw] 22)).alloc (.cells #[.int .i64 y1, .string ⟨y2.toArray⟩, .int .i64 (y3 : Int), .int .i64 (y4 : Int)] 25)).alloc (.cells #[.string s] 9)) (.cells #[.int .i64 0] 3)
      rwa [World.size_alloc, World.size_alloc, World.size_alloc] at this
  clear hA sA H1
  obtain ⟨Bt, hBt⟩ : ∃ Bt, Bt = W1.heap.size + 1 + 1 + 1 := ⟨_, rfl⟩
  obtain ⟨Bx, hBx⟩ : ∃ Bx, Bx = W1.heap.size + 1 + 1 := ⟨_, rfl⟩
  obtain ⟨lim, hlim⟩ : ∃ lim, lim = Bt := ⟨_, rfl⟩
  rw [← hBt] at eA ⊢
  rw [← hBx] at eA ⊢
  have HE0 : Hid (EA w A z s aw bw cw l W1.heap.size Bx lim ∧ A.heap[Bt]? = some (.cells #[.int .i64 0] 3 (0, 0)) ∧ lim ≤ Bt ∧ Bt < A.heap.size) := ⟨by rw [hlim]; exact eA.1, eA.2, by omega, by omega⟩
  clear eA zA hBx hlim hBt
  refine wpIn_loop_rounds 3 ?_
  rw [roundsIn_succ]
  obtain ⟨cT, fT, lT⟩ := one_cell HE0.out.2.1
  gi_wp2_with fail
  clear cT fT lT
  obtain ⟨V0, hV⟩ : ∃ V0, V0 = A.alloc (.cells #[.int .i64 0] 3) := ⟨_, rfl⟩
  rw [← hV]
  have zV : V0.heap.size = A.heap.size + 1 := by rw [hV]; simp
  have tV : Turn (fun k => A.heap.size ≤ k) A V0 := by rw [hV]; exact Turn.of_stay (Stay.new _ _)
  have nV : V0.heap[A.heap.size]? = some (.cells #[.int .i64 0] 3 (0, 0)) := by rw [hV]; exact heap_new _ _
  have eV := HE0.out.1.turn tV (fun k hk => by have := HE0.out.1.hl; omega)
  have bV : V0.heap[Bt]? = some (.cells #[.int .i64 0] 3 (0, 0)) := (tV.block _ HE0.out.2.2.2 (fun h => by have := HE0.out.2.2.2; omega)).trans HE0.out.2.1
  obtain ⟨N0, hNn⟩ : ∃ N0, N0 = A.heap.size := ⟨_, rfl⟩
  rw [← hNn] at nV ⊢
  have HV0 : Hid (EA w V0 z s aw bw cw l W1.heap.size Bx lim ∧ V0.heap[Bt]? = some (.cells #[.int .i64 0] 3 (0, 0)) ∧ V0.heap[N0]? = some (.cells #[.int .i64 0] 3 (0, 0)) ∧ lim ≤ Bt ∧ Bt < N0 ∧ V0.heap.size = N0 + 1 ∧ Turn (fun k => A.heap.size ≤ k) A V0) := ⟨eV, bV, nV, HE0.out.2.2.1, by have := HE0.out.2.2.2; omega, by omega, tV⟩
  clear hV zV tV nV eV bV hNn
  refine' range_new (α := Tok) rfl (by decide) (gf := 33) (lb := #[.pointer (some ⟨Bx, 0, none⟩)]) rfl trivial (enters_of Tryd.func33 (by kernel_rfl) rfl)
    (each_seq s HL.out.2.2.1 Bx V0 (HL.out.2.2.2.stay HV0.out.1.st) HV0.out.1.tx l.length (by rw [← HL.out.1]; exact Nat.le_refl _)) (fun k hk => ?hHs0) (fun _ => rfl)
    (fun pre X => EI V0 N0 pre X ∧ pre <+: l ∧ (z ≤ 0 ∨ (pre.length : Int) < z)) (fun c pre X => (c = .ret ∧ ¬ pre <+: l) ∨ (c = .exit 2 ∧ EI V0 N0 pre X ∧ pre <+: l ∧ (pre.length : Int) = z ∧ 0 < z)) (fun pre X X' hX hb => ?hI0) (fun c pre X X' hX hb => ?hIx0) ?h00 (fun x => .cells #[.int .i64 x.kind, .string ⟨x.text.toArray⟩, .int .i64 (x.at_ : Int), .int .i64 (x.fin : Int)] 25) _ ?assign0 ?body0 ?done0 ?stop0
  case hHs0 => have := HV0.out.1.st.size; omega
  case hI0 => exact ⟨hX.1.below hb (by have := HV0.out; omega), hX.2⟩
  case hIx0 =>
    rcases hX with h | ⟨h1, h2, h3⟩
    · exact .inl h
    · exact .inr ⟨h1, h2.below hb (by have := HV0.out; omega), h3⟩
  case h00 => exact ⟨⟨Turn.refl _ _, HV0.out.2.2.1⟩, List.nil_prefix, by simp; omega⟩
  case assign0 =>
    intro l' x W' K hK
    dsimp only [tokVal]
    gi_wp2
    exact hK
  case body0 =>
    as_aux_lemma =>
    intro l' pre x W' X hX ho hWs hl hlt
    have hx8 : X.heap[W'.heap.size]? = some (.cells #[.int .i64 x.kind, .string ⟨x.text.toArray⟩, .int .i64 (x.at_ : Int), .int .i64 (x.fin : Int)] 25 (0, 0)) := by
      obtain ⟨o', rfl⟩ := ho
      exact (World.putObj_heap_other (by omega)).trans (heap_new _ _)
    have hxz : W'.heap.size < X.heap.size := (Array.getElem?_eq_some_iff.1 hx8).1
    obtain ⟨x0, x1, x2, x3, -⟩ := four hx8
    have hEX := HV0.out.1.turn hX.1.1 (fun k hk => by have := HV0.out; omega)
    have bX : X.heap[Bt]? = some (.cells #[.int .i64 0] 3 (0, 0)) := (hX.1.1.block _ (by have := HV0.out; omega) (fun h => by have := HV0.out; omega)).trans HV0.out.2.1
    obtain ⟨cL, fL, lL⟩ := one_cell hEX.lv
    obtain ⟨cR, fR, lR⟩ := one_cell hEX.rs
    obtain ⟨cW, fW, lW⟩ := one_cell hEX.wt
    obtain ⟨cT, fT, lT⟩ := one_cell bX
    obtain ⟨cN, fN, lN⟩ := one_cell hX.1.2
    obtain rfl := hEX.tk.1 (by omega)
    obtain ⟨p0, p1, p2, p3⟩ := hEX.tk.2 pre.length hlt
    have hpx := prefix_next (x := x) hX.2.1 hlt
    have HX : Hid (EI V0 N0 pre X ∧ (z ≤ 0 ∨ (pre.length : Int) < z) ∧ W'.heap.size < X.heap.size ∧ V0.heap.size ≤ X.heap.size) := ⟨hX.1, hX.2.2, hxz, hX.1.1.size⟩
    have hki : (pre.length : Int) < (l.length : Int) := by omega
    have hl6 := HL.out.2.1
    have hgl : decide (l.length ≤ pre.length) = false := by simp; omega
    have hg := guardK
    have wn : IntKind.i64.wrap ((pre.length : Int) + 1) = ((pre ++ [x]).length : Int) := by rw [IntKind.wrap_i64]; simp; omega
    have HZ : Hid (N0 < V0.heap.size ∧ w.heap.size + 1 < lim ∧ lim ≤ Bt ∧ Bt < N0 ∧ 2 ≤ w.heap.size) := by have := HV0.out; have := this.1.hl; exact ⟨by omega, by omega, by omega, by omega, h2⟩
    have ne1 : Bt ≠ N0 := by have := HZ.out; omega
    have ne2 : w.heap.size ≠ N0 := by have := HZ.out; omega
    clear hX ho hx8 hEX bX
    by_cases hx : x = l[pre.length]
    · rw [← hx] at p0 p1 p2 p3
      have hpre := hpx.2 hx
      have HP : Hid (pre ++ [x] <+: l) := hpre
      have hn := neqK0 x
      generalize hm : (pre ++ [x]).length = m at wn
      have HM : Hid ((pre ++ [x]).length = m ∧ m = pre.length + 1) := ⟨hm, by rw [← hm]; simp⟩
      clear hpx hx hpre hm
      obtain ⟨k1, k2, k3, k4⟩ := x
      dsimp only at *
      by_cases hb : (m : Int) = z
      · have hbq : ((m : Int) == z) = true := by simpa using hb
        have HB : Hid ((m : Int) = z) := hb
        clear hb
        gi_wp2
        refine round_quiet_lit (F := Fence.wide) rfl (by kernel_rfl) (by kernel_rfl) (by kernel_rfl) ?_
        repeat (gi_big_quiet_step (fail))
        refine wpQuietIn_nil ?_
        intro _ hw'
        obtain ⟨nq, hw''⟩ := hw'
        subst hw''
        gi_wp2
        have hT1 : Turn (fun k => k = N0) X ((X.drewN nq).setCell ⟨N0, 0, none⟩ (.int .i64 (m : Int))) := ((Turn.of_stay (Stay.drewN X nq)) : Turn (fun k => k = N0) X _).set (g := N0) rfl 0 _
        have hb1 : ((X.drewN nq).setCell ⟨N0, 0, none⟩ (.int .i64 (m : Int))).heap[N0]? = some (.cells #[.int .i64 (m : Int)] 3 (0, 0)) := (show Boxed (X.drewN nq) N0 3 _ from HX.out.1.2).set (.int .i64 (m : Int))
        have hEI : EI V0 N0 (pre ++ [⟨k1, k2, k3, k4⟩]) ((X.drewN nq).setCell ⟨N0, 0, none⟩ (.int .i64 (m : Int))) := ⟨HX.out.1.1.trans (hT1.mono (fun k _ h => .inl h)), by rw [HM.out.1]; exact hb1⟩
        have hHo : Holds (fun k => k < 2 ∨ V0.heap.size ≤ k ∧ k < X.heap.size) X ((X.drewN nq).setCell ⟨N0, 0, none⟩ (.int .i64 (m : Int))) := fun k hk => hT1.block k (by have := HX.out; omega) (fun h => by have := HZ.out; omega)
        exact ⟨hHo, hT1.size, .inr ⟨rfl, hEI, HP.out, by rw [HM.out.1]; exact HB.out, by have h3 := HM.out.2; have h4 := HB.out; omega⟩⟩
      · have hbq : ((m : Int) == z) = false := by simpa using hb
        have HB : Hid (¬ (m : Int) = z) := hb
        clear hb
        gi_wp2
        refine round_quiet_lit (F := Fence.wide) rfl (by kernel_rfl) (by kernel_rfl) (by kernel_rfl) ?_
        repeat (gi_big_quiet_step (fail))
        refine wpQuietIn_nil ?_
        intro _ hw'
        obtain ⟨nq, hw''⟩ := hw'
        subst hw''
        gi_wp2
        have hT1 : Turn (fun k => k = N0) X ((X.drewN nq).setCell ⟨N0, 0, none⟩ (.int .i64 (m : Int))) := ((Turn.of_stay (Stay.drewN X nq)) : Turn (fun k => k = N0) X _).set (g := N0) rfl 0 _
        have hb1 : ((X.drewN nq).setCell ⟨N0, 0, none⟩ (.int .i64 (m : Int))).heap[N0]? = some (.cells #[.int .i64 (m : Int)] 3 (0, 0)) := (show Boxed (X.drewN nq) N0 3 _ from HX.out.1.2).set (.int .i64 (m : Int))
        have hEI : EI V0 N0 (pre ++ [⟨k1, k2, k3, k4⟩]) ((X.drewN nq).setCell ⟨N0, 0, none⟩ (.int .i64 (m : Int))) := ⟨HX.out.1.1.trans (hT1.mono (fun k _ h => .inl h)), by rw [HM.out.1]; exact hb1⟩
        have hHo : Holds (fun k => k < 2 ∨ V0.heap.size ≤ k ∧ k < X.heap.size) X ((X.drewN nq).setCell ⟨N0, 0, none⟩ (.int .i64 (m : Int))) := fun k hk => hT1.block k (by have := HX.out; omega) (fun h => by have := HZ.out; omega)
        exact ⟨hHo, hT1.size, hEI, HP.out, by rw [HM.out.1]; have h1 := HX.out.2.1; have h3 := HM.out.2; have h4 := HB.out; omega⟩
    · have hnp : ¬ (pre ++ [x] <+: l) := fun h => hx (hpx.1 h)
      have HNP : Hid (¬ (pre ++ [x] <+: l)) := hnp
      have hn := neqQ x l[pre.length]
      rw [decide_eq_true (p := ¬ x = l[pre.length]) hx] at hn
      clear hpx hnp
      generalize l[pre.length] = y at *
      obtain ⟨k1, k2, k3, k4⟩ := x
      obtain ⟨j1, j2, j3, j4⟩ := y
      dsimp only at *
      gi_wp2
      refine round_quiet_lit (F := Fence.wide) rfl (by kernel_rfl) (by kernel_rfl) (by kernel_rfl) ?_
      repeat (gi_big_quiet_step (fail))
      refine wpQuietIn_nil ?_
      intro _ hw'
      obtain ⟨nq, hw''⟩ := hw'
      subst hw''
      gi_wp2
      have hT1 : Turn (fun k => k = w.heap.size + 1) X ((X.drewN nq).setCell ⟨w.heap.size + 1, 0, none⟩ (.bool false)) := ((Turn.of_stay (Stay.drewN X nq)) : Turn (fun k => k = w.heap.size + 1) X _).set (g := w.heap.size + 1) rfl 0 _
      exact ⟨fun k hk => hT1.block k (by have := HX.out; omega) (fun h => by have := HZ.out; omega), hT1.size, .inl ⟨rfl, HNP.out⟩⟩
  case done0 =>
    rintro xs X hxs hX hdd
    rw [hxs.trans HL.out.1.symm] at hX
    clear hxs xs
    have hX1 := hX.1
    have hzc := hX.2.2
    clear hX
    have hEX := HV0.out.1.turn hX1.1 (fun k hk => by have := HV0.out; omega)
    have bX : X.heap[Bt]? = some (.cells #[.int .i64 0] 3 (0, 0)) := (hX1.1.block _ (by have := HV0.out; omega) (fun h => by have := HV0.out; omega)).trans HV0.out.2.1
    obtain ⟨cL, fL, lL⟩ := one_cell hEX.lv
    obtain ⟨cW, fW, lW⟩ := one_cell hEX.wt
    obtain ⟨cT, fT, lT⟩ := one_cell bX
    obtain ⟨cN, fN, lN⟩ := one_cell hX1.2
    have hl6 := HL.out.2.1
    have HX : Hid (EA w X z s aw bw cw l W1.heap.size Bx lim ∧ X.heap[V0.heap.size]? = some (.deferred (some [])) ∧ V0.heap.size < X.heap.size ∧ lim ≤ V0.heap.size) := ⟨hEX, hdd, (Array.getElem?_eq_some_iff.1 hdd).1, by have := HV0.out; omega⟩
    clear hEX bX hX1 hdd
    have e0 : ((l.length : Int) != (l.length : Int)) = false := by simp
    by_cases hz0 : 0 < z
    · have hz1 : (l.length : Int) < z := by omega
      have hmn : min z (l.length : Int) = (l.length : Int) := by omega
      gi_wp2_with fail
      obtain ⟨A1, hA1⟩ : ∃ A1, A1 = X.alloc (.cells #[.int .i64 1] 3) := ⟨_, rfl⟩
      rw [← hA1]
      have tA : Turn (fun k => X.heap.size ≤ k) X A1 := by rw [hA1]; exact Turn.of_stay (Stay.new _ _)
      have zA : A1.heap.size = X.heap.size + 1 := by rw [hA1]; simp
      have bA : A1.heap[X.heap.size]? = some (.cells #[.int .i64 1] 3 (0, 0)) := by rw [hA1]; exact heap_new _ _
      have eA := HX.out.1.turn tA (fun k hk => by have := HX.out; omega)
      have dA : A1.heap[V0.heap.size]? = some (.deferred (some [])) := (tA.block _ HX.out.2.2.1 (fun h => by have := HX.out; omega)).trans HX.out.2.1
      obtain ⟨B1, hB1⟩ : ∃ B1, B1 = X.heap.size := ⟨_, rfl⟩
      rw [← hB1] at bA ⊢
      have HE1 : Hid (EA w A1 z s aw bw cw l W1.heap.size Bx lim ∧ A1.heap[B1]? = some (.cells #[.int .i64 1] 3 (0, 0)) ∧ lim ≤ B1 ∧ B1 < A1.heap.size) := ⟨eA, bA, by have := HX.out; omega, by omega⟩
      have HD0 : Hid (A1.heap[V0.heap.size]? = some (.deferred (some [])) ∧ V0.heap.size < A1.heap.size ∧ lim ≤ V0.heap.size) := ⟨dA, by have := HX.out; omega, HX.out.2.2.2⟩
      clear hA1 tA zA bA eA dA hB1 HX cL fL lL cW fW lW cT fT lT cN fN lN
      rw [roundsIn_succ]
      obtain ⟨cT, fT, lT⟩ := one_cell HE1.out.2.1
      gi_wp2_with fail
      clear cT fT lT
      obtain ⟨V1, hV⟩ : ∃ V1, V1 = A1.alloc (.cells #[.int .i64 0] 3) := ⟨_, rfl⟩
      rw [← hV]
      have zV : V1.heap.size = A1.heap.size + 1 := by rw [hV]; simp
      have tV : Turn (fun k => A1.heap.size ≤ k) A1 V1 := by rw [hV]; exact Turn.of_stay (Stay.new _ _)
      have nV : V1.heap[A1.heap.size]? = some (.cells #[.int .i64 0] 3 (0, 0)) := by rw [hV]; exact heap_new _ _
      have eV := HE1.out.1.turn tV (fun k hk => by have := HE1.out.1.hl; omega)
      have bV : V1.heap[B1]? = some (.cells #[.int .i64 1] 3 (0, 0)) := (tV.block _ HE1.out.2.2.2 (fun h => by have := HE1.out.2.2.2; omega)).trans HE1.out.2.1
      obtain ⟨N1, hNn⟩ : ∃ N1, N1 = A1.heap.size := ⟨_, rfl⟩
      rw [← hNn] at nV ⊢
      have HV1 : Hid (EA w V1 z s aw bw cw l W1.heap.size Bx lim ∧ V1.heap[B1]? = some (.cells #[.int .i64 1] 3 (0, 0)) ∧ V1.heap[N1]? = some (.cells #[.int .i64 0] 3 (0, 0)) ∧ lim ≤ B1 ∧ B1 < N1 ∧ V1.heap.size = N1 + 1 ∧ Turn (fun k => A1.heap.size ≤ k) A1 V1) := ⟨eV, bV, nV, HE1.out.2.2.1, by have := HE1.out.2.2.2; omega, by omega, tV⟩
      clear hV zV tV nV eV bV hNn
      refine' range_new (α := Tok) rfl (by decide) (gf := 33) (lb := #[.pointer (some ⟨Bx, 0, none⟩)]) rfl trivial (enters_of Tryd.func33 (by kernel_rfl) rfl)
        (each_seq s HL.out.2.2.1 Bx V1 (HL.out.2.2.2.stay HV1.out.1.st) HV1.out.1.tx l.length (by rw [← HL.out.1]; exact Nat.le_refl _)) (fun k hk => ?hHs1) (fun _ => rfl)
        (fun pre X => EI V1 N1 pre X ∧ pre <+: l) (fun c pre X => (c = .ret ∧ ¬ pre <+: l)) (fun pre X X' hX hb => ?hI1) (fun c pre X X' hX hb => ?hIx1) ?h01 (fun x => .cells #[.int .i64 x.kind, .string ⟨x.text.toArray⟩, .int .i64 (x.at_ : Int), .int .i64 (x.fin : Int)] 25) _ ?assign1 ?body1 ?done1 ?stop1
      case hHs1 => have := HV1.out.1.st.size; omega
      case hI1 => exact ⟨hX.1.below hb (by have := HV1.out; omega), hX.2⟩
      case hIx1 => exact hX
      case h01 => exact ⟨⟨Turn.refl _ _, HV1.out.2.2.1⟩, List.nil_prefix⟩
      case assign1 =>
        intro l' x W' K hK
        dsimp only [tokVal]
        gi_wp2
        exact hK
      case body1 =>
        as_aux_lemma =>
        intro l' pre x W' X hX ho hWs hl hlt
        have hx8 : X.heap[W'.heap.size]? = some (.cells #[.int .i64 x.kind, .string ⟨x.text.toArray⟩, .int .i64 (x.at_ : Int), .int .i64 (x.fin : Int)] 25 (0, 0)) := by
          obtain ⟨o', rfl⟩ := ho
          exact (World.putObj_heap_other (by omega)).trans (heap_new _ _)
        have hxz : W'.heap.size < X.heap.size := (Array.getElem?_eq_some_iff.1 hx8).1
        obtain ⟨x0, x1, x2, x3, -⟩ := four hx8
        have hEX := HV1.out.1.turn hX.1.1 (fun k hk => by have := HV1.out; omega)
        have bX : X.heap[B1]? = some (.cells #[.int .i64 1] 3 (0, 0)) := (hX.1.1.block _ (by have := HV1.out; omega) (fun h => by have := HV1.out; omega)).trans HV1.out.2.1
        obtain ⟨cL, fL, lL⟩ := one_cell hEX.lv
        obtain ⟨cR, fR, lR⟩ := one_cell hEX.rs
        obtain ⟨cW, fW, lW⟩ := one_cell hEX.wt
        obtain ⟨cT, fT, lT⟩ := one_cell bX
        obtain ⟨cN, fN, lN⟩ := one_cell hX.1.2
        obtain rfl := hEX.tk.1 (by omega)
        obtain ⟨p0, p1, p2, p3⟩ := hEX.tk.2 pre.length hlt
        have hpx := prefix_next (x := x) hX.2 hlt
        have HX : Hid (EI V1 N1 pre X ∧ W'.heap.size < X.heap.size ∧ V1.heap.size ≤ X.heap.size) := ⟨hX.1, hxz, hX.1.1.size⟩
        have hki : (pre.length : Int) < (l.length : Int) := by omega
        have hl6 := HL.out.2.1
        have hgl : decide (l.length ≤ pre.length) = false := by simp; omega
        have hg := guardK
        have wn : IntKind.i64.wrap ((pre.length : Int) + 1) = ((pre ++ [x]).length : Int) := by rw [IntKind.wrap_i64]; simp; omega
        have HZ : Hid (N1 < V1.heap.size ∧ w.heap.size + 1 < lim ∧ lim ≤ B1 ∧ B1 < N1 ∧ 2 ≤ w.heap.size) := by have := HV1.out; have := this.1.hl; exact ⟨by omega, by omega, by omega, by omega, h2⟩
        have ne1 : B1 ≠ N1 := by have := HZ.out; omega
        have ne2 : w.heap.size ≠ N1 := by have := HZ.out; omega
        clear hX ho hx8 hEX bX
        by_cases hx : x = l[pre.length]
        · rw [← hx] at p0 p1 p2 p3
          have hpre := hpx.2 hx
          have HP : Hid (pre ++ [x] <+: l) := hpre
          have hn := neqK0 x
          generalize hm : (pre ++ [x]).length = m at wn
          have HM : Hid ((pre ++ [x]).length = m ∧ m = pre.length + 1) := ⟨hm, by rw [← hm]; simp⟩
          clear hpx hx hpre hm
          obtain ⟨k1, k2, k3, k4⟩ := x
          dsimp only at *
          gi_wp2
          refine round_quiet_lit (F := Fence.wide) rfl (by kernel_rfl) (by kernel_rfl) (by kernel_rfl) ?_
          repeat (gi_big_quiet_step (fail))
          refine wpQuietIn_nil ?_
          intro _ hw'
          obtain ⟨nq, hw''⟩ := hw'
          subst hw''
          gi_wp2
          have hT1 : Turn (fun k => k = N1) X ((X.drewN nq).setCell ⟨N1, 0, none⟩ (.int .i64 (m : Int))) := ((Turn.of_stay (Stay.drewN X nq)) : Turn (fun k => k = N1) X _).set (g := N1) rfl 0 _
          have hb1 : ((X.drewN nq).setCell ⟨N1, 0, none⟩ (.int .i64 (m : Int))).heap[N1]? = some (.cells #[.int .i64 (m : Int)] 3 (0, 0)) := (show Boxed (X.drewN nq) N1 3 _ from HX.out.1.2).set (.int .i64 (m : Int))
          have hEI : EI V1 N1 (pre ++ [⟨k1, k2, k3, k4⟩]) ((X.drewN nq).setCell ⟨N1, 0, none⟩ (.int .i64 (m : Int))) := ⟨HX.out.1.1.trans (hT1.mono (fun k _ h => .inl h)), by rw [HM.out.1]; exact hb1⟩
          have hHo : Holds (fun k => k < 2 ∨ V1.heap.size ≤ k ∧ k < X.heap.size) X ((X.drewN nq).setCell ⟨N1, 0, none⟩ (.int .i64 (m : Int))) := fun k hk => hT1.block k (by have := HX.out; omega) (fun h => by have := HZ.out; omega)
          exact ⟨hHo, hT1.size, hEI, HP.out⟩
        · have hnp : ¬ (pre ++ [x] <+: l) := fun h => hx (hpx.1 h)
          have HNP : Hid (¬ (pre ++ [x] <+: l)) := hnp
          have hn := neqQ x l[pre.length]
          rw [decide_eq_true (p := ¬ x = l[pre.length]) hx] at hn
          clear hpx hnp
          generalize l[pre.length] = y at *
          obtain ⟨k1, k2, k3, k4⟩ := x
          obtain ⟨j1, j2, j3, j4⟩ := y
          dsimp only at *
          gi_wp2
          refine round_quiet_lit (F := Fence.wide) rfl (by kernel_rfl) (by kernel_rfl) (by kernel_rfl) ?_
          repeat (gi_big_quiet_step (fail))
          refine wpQuietIn_nil ?_
          intro _ hw'
          obtain ⟨nq, hw''⟩ := hw'
          subst hw''
          gi_wp2
          have hT1 : Turn (fun k => k = w.heap.size + 1) X ((X.drewN nq).setCell ⟨w.heap.size + 1, 0, none⟩ (.bool false)) := ((Turn.of_stay (Stay.drewN X nq)) : Turn (fun k => k = w.heap.size + 1) X _).set (g := w.heap.size + 1) rfl 0 _
          exact ⟨fun k hk => hT1.block k (by have := HX.out; omega) (fun h => by have := HZ.out; omega), hT1.size, ⟨rfl, HNP.out⟩⟩
      case done1 =>
        rintro xs Y hxs hX hdd
        rw [hxs.trans HL.out.1.symm] at hX
        clear hxs xs
        have hX1 := hX.1
        clear hX
        have hEX := HV1.out.1.turn hX1.1 (fun k hk => by have := HV1.out; omega)
        have bX : Y.heap[B1]? = some (.cells #[.int .i64 1] 3 (0, 0)) := (hX1.1.block _ (by have := HV1.out; omega) (fun h => by have := HV1.out; omega)).trans HV1.out.2.1
        obtain ⟨cL, fL, lL⟩ := one_cell hEX.lv
        obtain ⟨cW, fW, lW⟩ := one_cell hEX.wt
        obtain ⟨cT, fT, lT⟩ := one_cell bX
        obtain ⟨cN, fN, lN⟩ := one_cell hX1.2
        have hl6 := HL.out.2.1
        have dV : V1.heap[V0.heap.size]? = some (.deferred (some [])) := (HV1.out.2.2.2.2.2.2.block _ HD0.out.2.1 (fun h => by have := HD0.out; omega)).trans HD0.out.1
        have dY : Y.heap[V0.heap.size]? = some (.deferred (some [])) := (hX1.1.block _ (Array.getElem?_eq_some_iff.1 dV).1 (fun h => by
          rcases h with h | h
          · rw [h, HV1.out.2.2.1] at dV; cases dV
          · have := (Array.getElem?_eq_some_iff.1 dV).1; omega)).trans dV
        have HY : Hid (EA w Y z s aw bw cw l W1.heap.size Bx lim ∧ Y.heap[V1.heap.size]? = some (.deferred (some [])) ∧ Y.heap[V0.heap.size]? = some (.deferred (some [])) ∧ V0.heap.size ≠ V1.heap.size ∧ lim ≤ V0.heap.size ∧ lim ≤ V1.heap.size) := ⟨hEX, hdd, dY, by have := (Array.getElem?_eq_some_iff.1 dV).1; omega, HD0.out.2.2, by have := HV1.out; omega⟩
        have e1 : ((l.length : Int) != (l.length : Int)) = false := by simp
        clear hEX bX hX1 hdd dV dY
        gi_wp2_with fail
        rw [roundsIn_succ]
        gi_wp2_with fail
        refine ⟨trivial, ?_⟩
        have sY : Stay Y (Y.alloc (.cells #[.int .i64 2] 3)) := Stay.new _ _
        refine CallsIn.mono (callsIn_wide.2 (known_any _ (HL.out.2.2.2.stay (HY.out.1.st.trans sY)))) ?_
        rintro e9 W2 ⟨rfl, hS2⟩
        have sW := sY.trans hS2
        have rW := (sW.block _ (Array.getElem?_eq_some_iff.1 HY.out.1.rs).1).trans HY.out.1.rs
        have g1 := (sW.block _ (Array.getElem?_eq_some_iff.1 HY.out.2.1).1).trans HY.out.2.1
        have g0 := (sW.block _ (Array.getElem?_eq_some_iff.1 HY.out.2.2.1).1).trans HY.out.2.2.1
        obtain ⟨cR, fR, lR⟩ := one_cell rW
        have HF : Hid _ := each_end (HY.out.1.st.trans sW) rW g0 g1 HY.out.2.2.2.1 (by have := HY.out; have := this.1.hl; omega) (by have := HY.out; have := this.1.hl; omega)
        clear sW sY rW g0 g1 hS2 cL fL lL cW fW lW cT fT lT cN fN lN
        gi_wp2
        refine ⟨by simp, .inl ⟨_, _, rfl, run_takeDeferred HF.out.1, ⟨by simp, .inl ⟨_, _, rfl, run_takeDeferred HF.out.2.1, ?_⟩⟩⟩⟩
        refine ⟨.bool true, ?_, rfl, HF.out.2.2.2⟩
        simp [results, Tryd.results4, go_sem, HF.out.2.2.1]
      case stop1 =>
        rintro c pre Y hpre hX hdd
        rw [← HL.out.1] at hpre
        exact absurd hpre hX.2
    · have hz1 : z ≤ 0 := by omega
      gi_wp2_with fail
      obtain ⟨A1, hA1⟩ : ∃ A1, A1 = X.alloc (.cells #[.int .i64 1] 3) := ⟨_, rfl⟩
      rw [← hA1]
      have tA : Turn (fun k => X.heap.size ≤ k) X A1 := by rw [hA1]; exact Turn.of_stay (Stay.new _ _)
      have zA : A1.heap.size = X.heap.size + 1 := by rw [hA1]; simp
      have bA : A1.heap[X.heap.size]? = some (.cells #[.int .i64 1] 3 (0, 0)) := by rw [hA1]; exact heap_new _ _
      have eA := HX.out.1.turn tA (fun k hk => by have := HX.out; omega)
      have dA : A1.heap[V0.heap.size]? = some (.deferred (some [])) := (tA.block _ HX.out.2.2.1 (fun h => by have := HX.out; omega)).trans HX.out.2.1
      obtain ⟨B1, hB1⟩ : ∃ B1, B1 = X.heap.size := ⟨_, rfl⟩
      rw [← hB1] at bA ⊢
      have HE1 : Hid (EA w A1 z s aw bw cw l W1.heap.size Bx lim ∧ A1.heap[B1]? = some (.cells #[.int .i64 1] 3 (0, 0)) ∧ lim ≤ B1 ∧ B1 < A1.heap.size) := ⟨eA, bA, by have := HX.out; omega, by omega⟩
      have HD0 : Hid (A1.heap[V0.heap.size]? = some (.deferred (some [])) ∧ V0.heap.size < A1.heap.size ∧ lim ≤ V0.heap.size) := ⟨dA, by have := HX.out; omega, HX.out.2.2.2⟩
      clear hA1 tA zA bA eA dA hB1 HX cL fL lL cW fW lW cT fT lT cN fN lN
      rw [roundsIn_succ]
      obtain ⟨cT, fT, lT⟩ := one_cell HE1.out.2.1
      gi_wp2_with fail
      clear cT fT lT
      obtain ⟨V1, hV⟩ : ∃ V1, V1 = A1.alloc (.cells #[.int .i64 0] 3) := ⟨_, rfl⟩
      rw [← hV]
      have zV : V1.heap.size = A1.heap.size + 1 := by rw [hV]; simp
      have tV : Turn (fun k => A1.heap.size ≤ k) A1 V1 := by rw [hV]; exact Turn.of_stay (Stay.new _ _)
      have nV : V1.heap[A1.heap.size]? = some (.cells #[.int .i64 0] 3 (0, 0)) := by rw [hV]; exact heap_new _ _
      have eV := HE1.out.1.turn tV (fun k hk => by have := HE1.out.1.hl; omega)
      have bV : V1.heap[B1]? = some (.cells #[.int .i64 1] 3 (0, 0)) := (tV.block _ HE1.out.2.2.2 (fun h => by have := HE1.out.2.2.2; omega)).trans HE1.out.2.1
      obtain ⟨N1, hNn⟩ : ∃ N1, N1 = A1.heap.size := ⟨_, rfl⟩
      rw [← hNn] at nV ⊢
      have HV1 : Hid (EA w V1 z s aw bw cw l W1.heap.size Bx lim ∧ V1.heap[B1]? = some (.cells #[.int .i64 1] 3 (0, 0)) ∧ V1.heap[N1]? = some (.cells #[.int .i64 0] 3 (0, 0)) ∧ lim ≤ B1 ∧ B1 < N1 ∧ V1.heap.size = N1 + 1 ∧ Turn (fun k => A1.heap.size ≤ k) A1 V1) := ⟨eV, bV, nV, HE1.out.2.2.1, by have := HE1.out.2.2.2; omega, by omega, tV⟩
      clear hV zV tV nV eV bV hNn
      refine' range_new (α := Tok) rfl (by decide) (gf := 33) (lb := #[.pointer (some ⟨Bx, 0, none⟩)]) rfl trivial (enters_of Tryd.func33 (by kernel_rfl) rfl)
        (each_seq s HL.out.2.2.1 Bx V1 (HL.out.2.2.2.stay HV1.out.1.st) HV1.out.1.tx l.length (by rw [← HL.out.1]; exact Nat.le_refl _)) (fun k hk => ?hHs1) (fun _ => rfl)
        (fun pre X => EI V1 N1 pre X ∧ pre <+: l) (fun c pre X => (c = .ret ∧ ¬ pre <+: l)) (fun pre X X' hX hb => ?hI1) (fun c pre X X' hX hb => ?hIx1) ?h01 (fun x => .cells #[.int .i64 x.kind, .string ⟨x.text.toArray⟩, .int .i64 (x.at_ : Int), .int .i64 (x.fin : Int)] 25) _ ?assign1 ?body1 ?done1 ?stop1
      case hHs1 => have := HV1.out.1.st.size; omega
      case hI1 => exact ⟨hX.1.below hb (by have := HV1.out; omega), hX.2⟩
      case hIx1 => exact hX
      case h01 => exact ⟨⟨Turn.refl _ _, HV1.out.2.2.1⟩, List.nil_prefix⟩
      case assign1 =>
        intro l' x W' K hK
        dsimp only [tokVal]
        gi_wp2
        exact hK
      case body1 =>
        as_aux_lemma =>
        intro l' pre x W' X hX ho hWs hl hlt
        have hx8 : X.heap[W'.heap.size]? = some (.cells #[.int .i64 x.kind, .string ⟨x.text.toArray⟩, .int .i64 (x.at_ : Int), .int .i64 (x.fin : Int)] 25 (0, 0)) := by
          obtain ⟨o', rfl⟩ := ho
          exact (World.putObj_heap_other (by omega)).trans (heap_new _ _)
        have hxz : W'.heap.size < X.heap.size := (Array.getElem?_eq_some_iff.1 hx8).1
        obtain ⟨x0, x1, x2, x3, -⟩ := four hx8
        have hEX := HV1.out.1.turn hX.1.1 (fun k hk => by have := HV1.out; omega)
        have bX : X.heap[B1]? = some (.cells #[.int .i64 1] 3 (0, 0)) := (hX.1.1.block _ (by have := HV1.out; omega) (fun h => by have := HV1.out; omega)).trans HV1.out.2.1
        obtain ⟨cL, fL, lL⟩ := one_cell hEX.lv
        obtain ⟨cR, fR, lR⟩ := one_cell hEX.rs
        obtain ⟨cW, fW, lW⟩ := one_cell hEX.wt
        obtain ⟨cT, fT, lT⟩ := one_cell bX
        obtain ⟨cN, fN, lN⟩ := one_cell hX.1.2
        obtain rfl := hEX.tk.1 (by omega)
        obtain ⟨p0, p1, p2, p3⟩ := hEX.tk.2 pre.length hlt
        have hpx := prefix_next (x := x) hX.2 hlt
        have HX : Hid (EI V1 N1 pre X ∧ W'.heap.size < X.heap.size ∧ V1.heap.size ≤ X.heap.size) := ⟨hX.1, hxz, hX.1.1.size⟩
        have hki : (pre.length : Int) < (l.length : Int) := by omega
        have hl6 := HL.out.2.1
        have hgl : decide (l.length ≤ pre.length) = false := by simp; omega
        have hg := guardK
        have wn : IntKind.i64.wrap ((pre.length : Int) + 1) = ((pre ++ [x]).length : Int) := by rw [IntKind.wrap_i64]; simp; omega
        have HZ : Hid (N1 < V1.heap.size ∧ w.heap.size + 1 < lim ∧ lim ≤ B1 ∧ B1 < N1 ∧ 2 ≤ w.heap.size) := by have := HV1.out; have := this.1.hl; exact ⟨by omega, by omega, by omega, by omega, h2⟩
        have ne1 : B1 ≠ N1 := by have := HZ.out; omega
        have ne2 : w.heap.size ≠ N1 := by have := HZ.out; omega
        clear hX ho hx8 hEX bX
        by_cases hx : x = l[pre.length]
        · rw [← hx] at p0 p1 p2 p3
          have hpre := hpx.2 hx
          have HP : Hid (pre ++ [x] <+: l) := hpre
          have hn := neqK0 x
          generalize hm : (pre ++ [x]).length = m at wn
          have HM : Hid ((pre ++ [x]).length = m ∧ m = pre.length + 1) := ⟨hm, by rw [← hm]; simp⟩
          clear hpx hx hpre hm
          obtain ⟨k1, k2, k3, k4⟩ := x
          dsimp only at *
          gi_wp2
          refine round_quiet_lit (F := Fence.wide) rfl (by kernel_rfl) (by kernel_rfl) (by kernel_rfl) ?_
          repeat (gi_big_quiet_step (fail))
          refine wpQuietIn_nil ?_
          intro _ hw'
          obtain ⟨nq, hw''⟩ := hw'
          subst hw''
          gi_wp2
          have hT1 : Turn (fun k => k = N1) X ((X.drewN nq).setCell ⟨N1, 0, none⟩ (.int .i64 (m : Int))) := ((Turn.of_stay (Stay.drewN X nq)) : Turn (fun k => k = N1) X _).set (g := N1) rfl 0 _
          have hb1 : ((X.drewN nq).setCell ⟨N1, 0, none⟩ (.int .i64 (m : Int))).heap[N1]? = some (.cells #[.int .i64 (m : Int)] 3 (0, 0)) := (show Boxed (X.drewN nq) N1 3 _ from HX.out.1.2).set (.int .i64 (m : Int))
          have hEI : EI V1 N1 (pre ++ [⟨k1, k2, k3, k4⟩]) ((X.drewN nq).setCell ⟨N1, 0, none⟩ (.int .i64 (m : Int))) := ⟨HX.out.1.1.trans (hT1.mono (fun k _ h => .inl h)), by rw [HM.out.1]; exact hb1⟩
          have hHo : Holds (fun k => k < 2 ∨ V1.heap.size ≤ k ∧ k < X.heap.size) X ((X.drewN nq).setCell ⟨N1, 0, none⟩ (.int .i64 (m : Int))) := fun k hk => hT1.block k (by have := HX.out; omega) (fun h => by have := HZ.out; omega)
          exact ⟨hHo, hT1.size, hEI, HP.out⟩
        · have hnp : ¬ (pre ++ [x] <+: l) := fun h => hx (hpx.1 h)
          have HNP : Hid (¬ (pre ++ [x] <+: l)) := hnp
          have hn := neqQ x l[pre.length]
          rw [decide_eq_true (p := ¬ x = l[pre.length]) hx] at hn
          clear hpx hnp
          generalize l[pre.length] = y at *
          obtain ⟨k1, k2, k3, k4⟩ := x
          obtain ⟨j1, j2, j3, j4⟩ := y
          dsimp only at *
          gi_wp2
          refine round_quiet_lit (F := Fence.wide) rfl (by kernel_rfl) (by kernel_rfl) (by kernel_rfl) ?_
          repeat (gi_big_quiet_step (fail))
          refine wpQuietIn_nil ?_
          intro _ hw'
          obtain ⟨nq, hw''⟩ := hw'
          subst hw''
          gi_wp2
          have hT1 : Turn (fun k => k = w.heap.size + 1) X ((X.drewN nq).setCell ⟨w.heap.size + 1, 0, none⟩ (.bool false)) := ((Turn.of_stay (Stay.drewN X nq)) : Turn (fun k => k = w.heap.size + 1) X _).set (g := w.heap.size + 1) rfl 0 _
          exact ⟨fun k hk => hT1.block k (by have := HX.out; omega) (fun h => by have := HZ.out; omega), hT1.size, ⟨rfl, HNP.out⟩⟩
      case done1 =>
        rintro xs Y hxs hX hdd
        rw [hxs.trans HL.out.1.symm] at hX
        clear hxs xs
        have hX1 := hX.1
        clear hX
        have hEX := HV1.out.1.turn hX1.1 (fun k hk => by have := HV1.out; omega)
        have bX : Y.heap[B1]? = some (.cells #[.int .i64 1] 3 (0, 0)) := (hX1.1.block _ (by have := HV1.out; omega) (fun h => by have := HV1.out; omega)).trans HV1.out.2.1
        obtain ⟨cL, fL, lL⟩ := one_cell hEX.lv
        obtain ⟨cW, fW, lW⟩ := one_cell hEX.wt
        obtain ⟨cT, fT, lT⟩ := one_cell bX
        obtain ⟨cN, fN, lN⟩ := one_cell hX1.2
        have hl6 := HL.out.2.1
        have dV : V1.heap[V0.heap.size]? = some (.deferred (some [])) := (HV1.out.2.2.2.2.2.2.block _ HD0.out.2.1 (fun h => by have := HD0.out; omega)).trans HD0.out.1
        have dY : Y.heap[V0.heap.size]? = some (.deferred (some [])) := (hX1.1.block _ (Array.getElem?_eq_some_iff.1 dV).1 (fun h => by
          rcases h with h | h
          · rw [h, HV1.out.2.2.1] at dV; cases dV
          · have := (Array.getElem?_eq_some_iff.1 dV).1; omega)).trans dV
        have HY : Hid (EA w Y z s aw bw cw l W1.heap.size Bx lim ∧ Y.heap[V1.heap.size]? = some (.deferred (some [])) ∧ Y.heap[V0.heap.size]? = some (.deferred (some [])) ∧ V0.heap.size ≠ V1.heap.size ∧ lim ≤ V0.heap.size ∧ lim ≤ V1.heap.size) := ⟨hEX, hdd, dY, by have := (Array.getElem?_eq_some_iff.1 dV).1; omega, HD0.out.2.2, by have := HV1.out; omega⟩
        have e1 : ((l.length : Int) != (l.length : Int)) = false := by simp
        clear hEX bX hX1 hdd dV dY
        gi_wp2_with fail
        rw [roundsIn_succ]
        gi_wp2_with fail
        refine ⟨trivial, ?_⟩
        have sY : Stay Y (Y.alloc (.cells #[.int .i64 2] 3)) := Stay.new _ _
        refine CallsIn.mono (callsIn_wide.2 (known_any _ (HL.out.2.2.2.stay (HY.out.1.st.trans sY)))) ?_
        rintro e9 W2 ⟨rfl, hS2⟩
        have sW := sY.trans hS2
        have rW := (sW.block _ (Array.getElem?_eq_some_iff.1 HY.out.1.rs).1).trans HY.out.1.rs
        have g1 := (sW.block _ (Array.getElem?_eq_some_iff.1 HY.out.2.1).1).trans HY.out.2.1
        have g0 := (sW.block _ (Array.getElem?_eq_some_iff.1 HY.out.2.2.1).1).trans HY.out.2.2.1
        obtain ⟨cR, fR, lR⟩ := one_cell rW
        have HF : Hid _ := each_end (HY.out.1.st.trans sW) rW g0 g1 HY.out.2.2.2.1 (by have := HY.out; have := this.1.hl; omega) (by have := HY.out; have := this.1.hl; omega)
        clear sW sY rW g0 g1 hS2 cL fL lL cW fW lW cT fT lT cN fN lN
        gi_wp2
        refine ⟨by simp, .inl ⟨_, _, rfl, run_takeDeferred HF.out.1, ⟨by simp, .inl ⟨_, _, rfl, run_takeDeferred HF.out.2.1, ?_⟩⟩⟩⟩
        refine ⟨.bool true, ?_, rfl, HF.out.2.2.2⟩
        simp [results, Tryd.results4, go_sem, HF.out.2.2.1]
      case stop1 =>
        rintro c pre Y hpre hX hdd
        rw [← HL.out.1] at hpre
        exact absurd hpre hX.2
  case stop0 =>
    rintro c pre X hpre hX hdd
    rw [← HL.out.1] at hpre
    rcases hX with ⟨_, h⟩ | ⟨rfl, hX1, hX2, hzc, hzp⟩
    · exact absurd hpre h
    have hpl := hX2.length_le
    have hEX := HV0.out.1.turn hX1.1 (fun k hk => by have := HV0.out; omega)
    have bX : X.heap[Bt]? = some (.cells #[.int .i64 0] 3 (0, 0)) := (hX1.1.block _ (by have := HV0.out; omega) (fun h => by have := HV0.out; omega)).trans HV0.out.2.1
    obtain ⟨cL, fL, lL⟩ := one_cell hEX.lv
    obtain ⟨cW, fW, lW⟩ := one_cell hEX.wt
    obtain ⟨cT, fT, lT⟩ := one_cell bX
    obtain ⟨cN, fN, lN⟩ := one_cell hX1.2
    have hl6 := HL.out.2.1
    have HX : Hid (EA w X z s aw bw cw l W1.heap.size Bx lim ∧ X.heap[V0.heap.size]? = some (.deferred (some [])) ∧ V0.heap.size < X.heap.size ∧ lim ≤ V0.heap.size) := ⟨hEX, hdd, (Array.getElem?_eq_some_iff.1 hdd).1, by have := HV0.out; omega⟩
    clear hEX bX hX1 hdd
    generalize pre.length = m at *
    have e0 : ((m : Int) != (m : Int)) = false := by simp
    have hmn : min (m : Int) (l.length : Int) = (m : Int) := by omega
    subst hzc
    have hzm : 0 < m := by omega
    clear hX2 hpre
    gi_wp2_with fail
    obtain ⟨A1, hA1⟩ : ∃ A1, A1 = X.alloc (.cells #[.int .i64 1] 3) := ⟨_, rfl⟩
    rw [← hA1]
    have tA : Turn (fun k => X.heap.size ≤ k) X A1 := by rw [hA1]; exact Turn.of_stay (Stay.new _ _)
    have zA : A1.heap.size = X.heap.size + 1 := by rw [hA1]; simp
    have bA : A1.heap[X.heap.size]? = some (.cells #[.int .i64 1] 3 (0, 0)) := by rw [hA1]; exact heap_new _ _
    have eA := HX.out.1.turn tA (fun k hk => by have := HX.out; omega)
    have dA : A1.heap[V0.heap.size]? = some (.deferred (some [])) := (tA.block _ HX.out.2.2.1 (fun h => by have := HX.out; omega)).trans HX.out.2.1
    obtain ⟨B1, hB1⟩ : ∃ B1, B1 = X.heap.size := ⟨_, rfl⟩
    rw [← hB1] at bA ⊢
    have HE1 : Hid (EA w A1 (m : Int) s aw bw cw l W1.heap.size Bx lim ∧ A1.heap[B1]? = some (.cells #[.int .i64 1] 3 (0, 0)) ∧ lim ≤ B1 ∧ B1 < A1.heap.size) := ⟨eA, bA, by have := HX.out; omega, by omega⟩
    have HD0 : Hid (A1.heap[V0.heap.size]? = some (.deferred (some [])) ∧ V0.heap.size < A1.heap.size ∧ lim ≤ V0.heap.size) := ⟨dA, by have := HX.out; omega, HX.out.2.2.2⟩
    clear hA1 tA zA bA eA dA hB1 HX cL fL lL cW fW lW cT fT lT cN fN lN
    rw [roundsIn_succ]
    obtain ⟨cT, fT, lT⟩ := one_cell HE1.out.2.1
    gi_wp2_with fail
    clear cT fT lT
    obtain ⟨V1, hV⟩ : ∃ V1, V1 = A1.alloc (.cells #[.int .i64 0] 3) := ⟨_, rfl⟩
    rw [← hV]
    have zV : V1.heap.size = A1.heap.size + 1 := by rw [hV]; simp
    have tV : Turn (fun k => A1.heap.size ≤ k) A1 V1 := by rw [hV]; exact Turn.of_stay (Stay.new _ _)
    have nV : V1.heap[A1.heap.size]? = some (.cells #[.int .i64 0] 3 (0, 0)) := by rw [hV]; exact heap_new _ _
    have eV := HE1.out.1.turn tV (fun k hk => by have := HE1.out.1.hl; omega)
    have bV : V1.heap[B1]? = some (.cells #[.int .i64 1] 3 (0, 0)) := (tV.block _ HE1.out.2.2.2 (fun h => by have := HE1.out.2.2.2; omega)).trans HE1.out.2.1
    obtain ⟨N1, hNn⟩ : ∃ N1, N1 = A1.heap.size := ⟨_, rfl⟩
    rw [← hNn] at nV ⊢
    have HV1 : Hid (EA w V1 (m : Int) s aw bw cw l W1.heap.size Bx lim ∧ V1.heap[B1]? = some (.cells #[.int .i64 1] 3 (0, 0)) ∧ V1.heap[N1]? = some (.cells #[.int .i64 0] 3 (0, 0)) ∧ lim ≤ B1 ∧ B1 < N1 ∧ V1.heap.size = N1 + 1 ∧ Turn (fun k => A1.heap.size ≤ k) A1 V1) := ⟨eV, bV, nV, HE1.out.2.2.1, by have := HE1.out.2.2.2; omega, by omega, tV⟩
    clear hV zV tV nV eV bV hNn
    refine' range_new (α := Tok) rfl (by decide) (gf := 33) (lb := #[.pointer (some ⟨Bx, 0, none⟩)]) rfl trivial (enters_of Tryd.func33 (by kernel_rfl) rfl)
      (each_seq s HL.out.2.2.1 Bx V1 (HL.out.2.2.2.stay HV1.out.1.st) HV1.out.1.tx l.length (by rw [← HL.out.1]; exact Nat.le_refl _)) (fun k hk => ?hHs1) (fun _ => rfl)
      (fun pre X => EI V1 N1 pre X ∧ pre <+: l) (fun c pre X => (c = .ret ∧ ¬ pre <+: l)) (fun pre X X' hX hb => ?hI1) (fun c pre X X' hX hb => ?hIx1) ?h01 (fun x => .cells #[.int .i64 x.kind, .string ⟨x.text.toArray⟩, .int .i64 (x.at_ : Int), .int .i64 (x.fin : Int)] 25) _ ?assign1 ?body1 ?done1 ?stop1
    case hHs1 => have := HV1.out.1.st.size; omega
    case hI1 => exact ⟨hX.1.below hb (by have := HV1.out; omega), hX.2⟩
    case hIx1 => exact hX
    case h01 => exact ⟨⟨Turn.refl _ _, HV1.out.2.2.1⟩, List.nil_prefix⟩
    case assign1 =>
      intro l' x W' K hK
      dsimp only [tokVal]
      gi_wp2
      exact hK
    case body1 =>
      as_aux_lemma =>
      intro l' pre x W' X hX ho hWs hl hlt
      have hx8 : X.heap[W'.heap.size]? = some (.cells #[.int .i64 x.kind, .string ⟨x.text.toArray⟩, .int .i64 (x.at_ : Int), .int .i64 (x.fin : Int)] 25 (0, 0)) := by
        obtain ⟨o', rfl⟩ := ho
        exact (World.putObj_heap_other (by omega)).trans (heap_new _ _)
      have hxz : W'.heap.size < X.heap.size := (Array.getElem?_eq_some_iff.1 hx8).1
      obtain ⟨x0, x1, x2, x3, -⟩ := four hx8
      have hEX := HV1.out.1.turn hX.1.1 (fun k hk => by have := HV1.out; omega)
      have bX : X.heap[B1]? = some (.cells #[.int .i64 1] 3 (0, 0)) := (hX.1.1.block _ (by have := HV1.out; omega) (fun h => by have := HV1.out; omega)).trans HV1.out.2.1
      obtain ⟨cL, fL, lL⟩ := one_cell hEX.lv
      obtain ⟨cR, fR, lR⟩ := one_cell hEX.rs
      obtain ⟨cW, fW, lW⟩ := one_cell hEX.wt
      obtain ⟨cT, fT, lT⟩ := one_cell bX
      obtain ⟨cN, fN, lN⟩ := one_cell hX.1.2
      obtain rfl := hEX.tk.1 (by omega)
      obtain ⟨p0, p1, p2, p3⟩ := hEX.tk.2 pre.length hlt
      have hpx := prefix_next (x := x) hX.2 hlt
      have HX : Hid (EI V1 N1 pre X ∧ W'.heap.size < X.heap.size ∧ V1.heap.size ≤ X.heap.size) := ⟨hX.1, hxz, hX.1.1.size⟩
      have hki : (pre.length : Int) < (l.length : Int) := by omega
      have hl6 := HL.out.2.1
      have hgl : decide (l.length ≤ pre.length) = false := by simp; omega
      have hg := guardK
      have wn : IntKind.i64.wrap ((pre.length : Int) + 1) = ((pre ++ [x]).length : Int) := by rw [IntKind.wrap_i64]; simp; omega
      have HZ : Hid (N1 < V1.heap.size ∧ w.heap.size + 1 < lim ∧ lim ≤ B1 ∧ B1 < N1 ∧ 2 ≤ w.heap.size) := by have := HV1.out; have := this.1.hl; exact ⟨by omega, by omega, by omega, by omega, h2⟩
      have ne1 : B1 ≠ N1 := by have := HZ.out; omega
      have ne2 : w.heap.size ≠ N1 := by have := HZ.out; omega
      clear hX ho hx8 hEX bX
      by_cases hx : x = l[pre.length]
      · rw [← hx] at p0 p1 p2 p3
        have hpre := hpx.2 hx
        have HP : Hid (pre ++ [x] <+: l) := hpre
        have hn := neqK0 x
        generalize hm : (pre ++ [x]).length = m at wn
        have HM : Hid ((pre ++ [x]).length = m ∧ m = pre.length + 1) := ⟨hm, by rw [← hm]; simp⟩
        clear hpx hx hpre hm
        obtain ⟨k1, k2, k3, k4⟩ := x
        dsimp only at *
        gi_wp2
        refine round_quiet_lit (F := Fence.wide) rfl (by kernel_rfl) (by kernel_rfl) (by kernel_rfl) ?_
        repeat (gi_big_quiet_step (fail))
        refine wpQuietIn_nil ?_
        intro _ hw'
        obtain ⟨nq, hw''⟩ := hw'
        subst hw''
        gi_wp2
        have hT1 : Turn (fun k => k = N1) X ((X.drewN nq).setCell ⟨N1, 0, none⟩ (.int .i64 (m : Int))) := ((Turn.of_stay (Stay.drewN X nq)) : Turn (fun k => k = N1) X _).set (g := N1) rfl 0 _
        have hb1 : ((X.drewN nq).setCell ⟨N1, 0, none⟩ (.int .i64 (m : Int))).heap[N1]? = some (.cells #[.int .i64 (m : Int)] 3 (0, 0)) := (show Boxed (X.drewN nq) N1 3 _ from HX.out.1.2).set (.int .i64 (m : Int))
        have hEI : EI V1 N1 (pre ++ [⟨k1, k2, k3, k4⟩]) ((X.drewN nq).setCell ⟨N1, 0, none⟩ (.int .i64 (m : Int))) := ⟨HX.out.1.1.trans (hT1.mono (fun k _ h => .inl h)), by rw [HM.out.1]; exact hb1⟩
        have hHo : Holds (fun k => k < 2 ∨ V1.heap.size ≤ k ∧ k < X.heap.size) X ((X.drewN nq).setCell ⟨N1, 0, none⟩ (.int .i64 (m : Int))) := fun k hk => hT1.block k (by have := HX.out; omega) (fun h => by have := HZ.out; omega)
        exact ⟨hHo, hT1.size, hEI, HP.out⟩
      · have hnp : ¬ (pre ++ [x] <+: l) := fun h => hx (hpx.1 h)
        have HNP : Hid (¬ (pre ++ [x] <+: l)) := hnp
        have hn := neqQ x l[pre.length]
        rw [decide_eq_true (p := ¬ x = l[pre.length]) hx] at hn
        clear hpx hnp
        generalize l[pre.length] = y at *
        obtain ⟨k1, k2, k3, k4⟩ := x
        obtain ⟨j1, j2, j3, j4⟩ := y
        dsimp only at *
        gi_wp2
        refine round_quiet_lit (F := Fence.wide) rfl (by kernel_rfl) (by kernel_rfl) (by kernel_rfl) ?_
        repeat (gi_big_quiet_step (fail))
        refine wpQuietIn_nil ?_
        intro _ hw'
        obtain ⟨nq, hw''⟩ := hw'
        subst hw''
        gi_wp2
        have hT1 : Turn (fun k => k = w.heap.size + 1) X ((X.drewN nq).setCell ⟨w.heap.size + 1, 0, none⟩ (.bool false)) := ((Turn.of_stay (Stay.drewN X nq)) : Turn (fun k => k = w.heap.size + 1) X _).set (g := w.heap.size + 1) rfl 0 _
        exact ⟨fun k hk => hT1.block k (by have := HX.out; omega) (fun h => by have := HZ.out; omega), hT1.size, ⟨rfl, HNP.out⟩⟩
    case done1 =>
      rintro xs Y hxs hX hdd
      rw [hxs.trans HL.out.1.symm] at hX
      clear hxs xs
      have hX1 := hX.1
      clear hX
      have hEX := HV1.out.1.turn hX1.1 (fun k hk => by have := HV1.out; omega)
      have bX : Y.heap[B1]? = some (.cells #[.int .i64 1] 3 (0, 0)) := (hX1.1.block _ (by have := HV1.out; omega) (fun h => by have := HV1.out; omega)).trans HV1.out.2.1
      obtain ⟨cL, fL, lL⟩ := one_cell hEX.lv
      obtain ⟨cW, fW, lW⟩ := one_cell hEX.wt
      obtain ⟨cT, fT, lT⟩ := one_cell bX
      obtain ⟨cN, fN, lN⟩ := one_cell hX1.2
      have hl6 := HL.out.2.1
      have dV : V1.heap[V0.heap.size]? = some (.deferred (some [])) := (HV1.out.2.2.2.2.2.2.block _ HD0.out.2.1 (fun h => by have := HD0.out; omega)).trans HD0.out.1
      have dY : Y.heap[V0.heap.size]? = some (.deferred (some [])) := (hX1.1.block _ (Array.getElem?_eq_some_iff.1 dV).1 (fun h => by
        rcases h with h | h
        · rw [h, HV1.out.2.2.1] at dV; cases dV
        · have := (Array.getElem?_eq_some_iff.1 dV).1; omega)).trans dV
      have HY : Hid (EA w Y (m : Int) s aw bw cw l W1.heap.size Bx lim ∧ Y.heap[V1.heap.size]? = some (.deferred (some [])) ∧ Y.heap[V0.heap.size]? = some (.deferred (some [])) ∧ V0.heap.size ≠ V1.heap.size ∧ lim ≤ V0.heap.size ∧ lim ≤ V1.heap.size) := ⟨hEX, hdd, dY, by have := (Array.getElem?_eq_some_iff.1 dV).1; omega, HD0.out.2.2, by have := HV1.out; omega⟩
      have e1 : ((l.length : Int) != (l.length : Int)) = false := by simp
      clear hEX bX hX1 hdd dV dY
      gi_wp2_with fail
      rw [roundsIn_succ]
      gi_wp2_with fail
      refine ⟨trivial, ?_⟩
      have sY : Stay Y (Y.alloc (.cells #[.int .i64 2] 3)) := Stay.new _ _
      refine CallsIn.mono (callsIn_wide.2 (known_any _ (HL.out.2.2.2.stay (HY.out.1.st.trans sY)))) ?_
      rintro e9 W2 ⟨rfl, hS2⟩
      have sW := sY.trans hS2
      have rW := (sW.block _ (Array.getElem?_eq_some_iff.1 HY.out.1.rs).1).trans HY.out.1.rs
      have g1 := (sW.block _ (Array.getElem?_eq_some_iff.1 HY.out.2.1).1).trans HY.out.2.1
      have g0 := (sW.block _ (Array.getElem?_eq_some_iff.1 HY.out.2.2.1).1).trans HY.out.2.2.1
      obtain ⟨cR, fR, lR⟩ := one_cell rW
      have HF : Hid _ := each_end (HY.out.1.st.trans sW) rW g0 g1 HY.out.2.2.2.1 (by have := HY.out; have := this.1.hl; omega) (by have := HY.out; have := this.1.hl; omega)
      clear sW sY rW g0 g1 hS2 cL fL lL cW fW lW cT fT lT cN fN lN
      gi_wp2
      refine ⟨by simp, .inl ⟨_, _, rfl, run_takeDeferred HF.out.1, ⟨by simp, .inl ⟨_, _, rfl, run_takeDeferred HF.out.2.1, ?_⟩⟩⟩⟩
      refine ⟨.bool true, ?_, rfl, HF.out.2.2.2⟩
      simp [results, Tryd.results4, go_sem, HF.out.2.2.1]
    case stop1 =>
      rintro c pre Y hpre hX hdd
      rw [← HL.out.1] at hpre
      exact absurd hpre hX.2
end Go.Proofs.YtioafeckaeaopaaDoor
