/- tokens: the function over which one goes. -/
import Derived.Test.YtioafeckaeaopaaDoorXT
import Derived.Test.YtioafeckaeaopaaDoorXR
import Derived.Test.YtioafeckaeaopaaDoorXQc
namespace Go.Proofs.YtioafeckaeaopaaDoor
open Go.RowKit Go.Maps Go.Shelf
attribute [local go_sem] Oper.semAt_some

/-- The blocks of the walk: its own, that of its pointer, the package's tables. -/
def WS (b Bn : Nat) (k : Nat) : Prop := k = b ∨ k = Bn ∨ k < 2
theorem tokens_any (w : World) (b : Nat) : Calls Tryd.prog 29 #[.pointer (some ⟨b, 0, none⟩)] w fun e w' => e = .returned (.func (.func 44) #[] #[.pointer (some ⟨w.heap.size, 0, none⟩)]) ∧ w' = w.alloc (.cells #[.pointer (some ⟨b, 0, none⟩)] 65) := by
  go_enter Tryd.func29, Tryd.ntmps29
  go_wp2
  go_ret
  exact ⟨rfl, rfl⟩
/-- What it leaves. -/
def WSd (w : World) (s : ByteArray) (b : Nat) (f far : Nat) (o : Tok) (xs : List Tok) (W : World) : Prop :=
  xs = (tokF s.data.toList f far o).1 ∧ WalkAt W b s (tokF s.data.toList f far o).2.1 (tokF s.data.toList f far o).2.2 ∧ W.heap[0]? = w.heap[0]? ∧ W.heap[1]? = w.heap[1]?
def tokVal (t : Tok) : Array Value := #[.agg #[.int .i64 t.kind, .string ⟨t.text.toArray⟩, .int .i64 (t.at_ : Int), .int .i64 (t.fin : Int)]]
theorem two_tabs {w W : World} (h : Tabs w) (h0 : W.heap[0]? = w.heap[0]?) (h1 : W.heap[1]? = w.heap[1]?) : Tabs W := by
  refine h.keep (fun p hp v hv => ?_)
  obtain ⟨pb, po, pp⟩ := p
  dsimp only at hp
  refine (World.cell?_of_block (a := ⟨pb, po, pp⟩) ?_).trans hv
  dsimp only
  rcases pb with _ | _ | pb
  · exact h0
  · exact h1
  · omega

/-- How much of the text is ahead of the walk, as its block tells it. -/
def walkLeft (W : World) (b : Nat) (s : ByteArray) : Nat := match W.cell? ⟨b, 1, none⟩ with
  | some (.int _ z) => s.size + 1 - z.toNat
  | _ => 0
theorem walkLeft_eq {W : World} {b : Nat} {s : ByteArray} {far : Nat} {o : Tok} (h : WalkAt W b s far o) : walkLeft W b s = s.size + 1 - far := by
  unfold walkLeft
  rw [(six h).2.1]
  simp

set_option maxRecDepth 100000 in
set_option maxHeartbeats 2000000 in
theorem tokens1_in (n : Nat) (hn : 1 ≤ n) (l : Nat) (s : ByteArray) (hs : s.size ≤ 140737488355328) (b Bn far f : Nat) (o : Tok) (w W : World) (hW : Stay w W) (hT : Tabs w) (hA : WalkAt w b s far o) (hBn : w.heap[Bn]? = some (.cells #[.pointer (some ⟨b, 0, none⟩)] 65 (0, 0))) (hb : 2 ≤ b) (hne : b ≠ Bn) (hf : far ≤ s.size) (hfu : s.size - far < f) (N : Nat) (hN : (tokF s.data.toList f far o).1.length ≤ N)
    (J Jx : List Tok → World → Prop) (hJ : ∀ pre A A', J pre A → Turn (WS b Bn) A A' → J pre A')
    (hY : ∀ pre x A, J pre A → pre.length < N → YieldAt Fence.wide (n - 1) Tryd.prog l (tokVal x) A fun e A' =>
      (e = .returned (.bool true) ∧ J (pre ++ [x]) A' ∧ Holds (WS b Bn) A A') ∨ (e = .returned (.bool false) ∧ Jx (pre ++ [x]) A')) (h0 : J [] W) :
    CallsIn Fence.wide n Tryd.prog 44 #[.func (.yield l) #[] #[], .pointer (some ⟨Bn, 0, none⟩)] W fun e A => (∃ v, e = .returned v) ∧
      ((∃ xs, WSd w s b f far o xs A ∧ J xs A) ∨ (∃ pre, pre <+: (tokF s.data.toList f far o).1 ∧ Jx pre A)) := by
  refine callsIn_of_wp Tryd.func44 rfl trivial ?_ rfl
  simp only [Tryd.ntmps44, List.size_toArray, List.length_cons, List.length_nil, Nat.reduceAdd, Nat.reduceSub, Array.replicate_succ, Array.replicate_zero, List.push_toArray, List.append_toArray, List.nil_append, List.cons_append]
  have hWlt : Bn < w.heap.size := (Array.getElem?_eq_some_iff.1 hBn).1
  have hblt : b < w.heap.size := (Array.getElem?_eq_some_iff.1 hA).1
  have HI : Hid (J [] W ∧ WalkAt W b s far o ∧ W.heap[Bn]? = some (.cells #[.pointer (some ⟨b, 0, none⟩)] 65 (0, 0)) ∧ W.heap[0]? = w.heap[0]? ∧ W.heap[1]? = w.heap[1]?) := ⟨h0, (hW.block b hblt).trans hA, (hW.block Bn hWlt).trans hBn, hW.block 0 (by have := hT.lt; omega), hW.block 1 (by have := hT.lt; omega)⟩
  clear hA hBn hW h0
  gi_wp2
  gi_loopw [3, 4] (fun _u _v wr => ∃ (pre : List Tok) (fr k : Nat) (op : Tok), fr ≤ s.size ∧ s.size - fr < k ∧ J pre wr ∧ WalkAt wr b s fr op ∧ wr.heap[Bn]? = some (.cells #[.pointer (some ⟨b, 0, none⟩)] 65 (0, 0)) ∧ (wr.heap[0]? = w.heap[0]? ∧ wr.heap[1]? = w.heap[1]?) ∧ pre ++ (tokF s.data.toList k fr op).1 = (tokF s.data.toList f far o).1 ∧ (tokF s.data.toList k fr op).2 = (tokF s.data.toList f far o).2) (fun _u _v wr => walkLeft wr b s)
  case atStart => exact ⟨[], far, f, o, hf, hfu, HI.out.1, HI.out.2.1, HI.out.2.2.1, HI.out.2.2.2, rfl, rfl⟩
  case round =>
    obtain ⟨pre, fr, k, op, hfr, hk, hJr, hAr, hBr, hTr, hp, hq⟩ := hrel
    obtain ⟨k, rfl⟩ : ∃ j, k = j + 1 := ⟨k - 1, by omega⟩
    have cB : wr.cell? ⟨Bn, 0, none⟩ = some (.pointer (some ⟨b, 0, none⟩)) := by simp [World.cell?, hBr]
    have hnx := next_any s wr b fr op hAr hfr hs (two_tabs hT hTr.1 hTr.2) hb
    have hsf := stepT_far s.data.toList fr op (by simpa using hfr)
    rw [show s.data.toList.length = s.size by simp] at hsf
    have hbr : b < wr.heap.size := (Array.getElem?_eq_some_iff.1 hAr).1
    have hBnr : Bn < wr.heap.size := (Array.getElem?_eq_some_iff.1 hBr).1
    have h2r : 2 ≤ wr.heap.size := (two_tabs hT hTr.1 hTr.2).lt
    have HA : Hid (WalkAt wr b s fr op) := hAr
    have HBn : Hid (wr.heap[Bn]? = some (.cells #[.pointer (some ⟨b, 0, none⟩)] 65 (0, 0))) := hBr
    have HTr : Hid (wr.heap[0]? = w.heap[0]? ∧ wr.heap[1]? = w.heap[1]?) := hTr
    have HJr : Hid (J pre wr) := hJr
    clear HI hAr hBr hTr hJr
    cases hok : (stepT s.data.toList fr op).2.1
    · rw [tokF_no hok] at hp hq
      rw [hok] at hnx
      clear hok
      generalize stepT s.data.toList fr op = T at *
      obtain ⟨⟨t1, t2, t3, t4⟩, t5, far', op'⟩ := T
      dsimp only [Tok.val, Tok.cells] at *
      have HP : Hid (pre ++ [] = (tokF s.data.toList f far o).1 ∧ (far', op') = (tokF s.data.toList f far o).2) := ⟨hp, hq⟩
      clear hp hq hY
      gi_wp2_with (refine ⟨trivial, ?_⟩; gi_at_call 45; refine CallsIn.mono (callsIn_wide.2 hnx) ?_; rintro e w' ⟨rfl, hz⟩)
      refine ⟨fun _ h => (by cases h), ?_⟩
      gi_wp2
      refine bodyPost_ret (results_none rfl _ _ _) rfl ?_
      have htu : Turn (WS b Bn) wr (w'.alloc (.cells #[.int .i64 t1, .string ⟨t2.toArray⟩, .int .i64 (t3 : Int), .int .i64 (t4 : Int)] 25)) := (hz.2.mono (fun _ _ h => .inl h)).trans (Turn.of_stay (Stay.new _ _))
      have hbb : ∀ j, j < wr.heap.size → j ≠ b → (w'.alloc (.cells #[.int .i64 t1, .string ⟨t2.toArray⟩, .int .i64 (t3 : Int), .int .i64 (t4 : Int)] 25)).heap[j]? = wr.heap[j]? := fun j hj hjb => (Below.heap_alloc w' _ j (by have := hz.2.size; omega)).trans (hz.2.block j hj hjb)
      have hpp := HP.out
      rw [List.append_nil] at hpp
      refine ⟨⟨_, rfl⟩, .inl ⟨pre, ⟨hpp.1, ?_, (hbb 0 (by omega) (by omega)).trans HTr.out.1, (hbb 1 (by omega) (by omega)).trans HTr.out.2⟩, hJ pre wr _ HJr.out htu⟩⟩
      rw [← hpp.2]
      exact (Below.heap_alloc w' _ b (by have := hz.2.size; omega)).trans hz.1
    · have hpos := hsf.2.2 hok
      rw [tokF_yes hok] at hp hq
      rw [hok] at hnx
      clear hok
      generalize stepT s.data.toList fr op = T at *
      obtain ⟨⟨t1, t2, t3, t4⟩, t5, far', op'⟩ := T
      dsimp only [Tok.val, Tok.cells] at *
      have HP : Hid (pre ++ (⟨t1, t2, t3, t4⟩ :: (tokF s.data.toList k far' op').1) = (tokF s.data.toList f far o).1 ∧ (tokF s.data.toList k far' op').2 = (tokF s.data.toList f far o).2) := ⟨hp, hq⟩
      have hlen : pre.length < N := by
        have := congrArg List.length hp
        simp at this; omega
      clear hp hq
      have key : ∀ w', Nz wr w' b s far' op' → J pre (w'.alloc (.cells #[.int .i64 t1, .string ⟨t2.toArray⟩, .int .i64 (t3 : Int), .int .i64 (t4 : Int)] 25)) ∧ (w'.alloc (.cells #[.int .i64 t1, .string ⟨t2.toArray⟩, .int .i64 (t3 : Int), .int .i64 (t4 : Int)] 25)).heap[b]? = w'.heap[b]? ∧ ∀ j, j < wr.heap.size → j ≠ b → (w'.alloc (.cells #[.int .i64 t1, .string ⟨t2.toArray⟩, .int .i64 (t3 : Int), .int .i64 (t4 : Int)] 25)).heap[j]? = wr.heap[j]? := fun w' hz =>
        ⟨hJ pre wr _ HJr.out ((hz.2.mono (fun _ _ h => .inl h)).trans (Turn.of_stay (Stay.new _ _))), Below.heap_alloc w' _ b (by have := hz.2.size; omega), fun j hj hjb => (Below.heap_alloc w' _ j (by have := hz.2.size; omega)).trans (hz.2.block j hj hjb)⟩
      gi_wp2_with (refine ⟨trivial, ?_⟩; gi_at_call 45; refine CallsIn.mono (callsIn_wide.2 hnx) ?_; rintro e w' ⟨rfl, hz⟩; obtain ⟨fn, tmps, assign, body, hy, hR⟩ := hY pre ⟨t1, t2, t3, t4⟩ (w'.alloc (.cells #[.int .i64 t1, .string ⟨t2.toArray⟩, .int .i64 (t3 : Int), .int .i64 (t4 : Int)] 25)) (key w' hz).1 hlen; dsimp only [tokVal] at hy; have HZ : Hid (Nz wr w' b s far' op') := hz; clear hz hY)
      refine hR.mono ?_
      rintro e9 W3 (⟨rfl, hJ3, hk3⟩ | ⟨rfl, hJx3⟩)
      · have hkk := (key w' HZ.out).2
        have HR : Hid (J (pre ++ [⟨t1, t2, t3, t4⟩]) W3 ∧ WalkAt W3 b s far' op' ∧ W3.heap[Bn]? = some (.cells #[.pointer (some ⟨b, 0, none⟩)] 65 (0, 0)) ∧ W3.heap[0]? = w.heap[0]? ∧ W3.heap[1]? = w.heap[1]?) :=
          ⟨hJ3, (hk3 b (.inl rfl)).trans (hkk.1.trans HZ.out.1), (hk3 Bn (.inr (.inl rfl))).trans ((hkk.2 Bn hBnr (Ne.symm hne)).trans HBn.out), (hk3 0 (.inr (.inr (by omega)))).trans ((hkk.2 0 (by omega) (by omega)).trans HTr.out.1), (hk3 1 (.inr (.inr (by omega)))).trans ((hkk.2 1 (by omega) (by omega)).trans HTr.out.2)⟩
        clear hkk hJ3 hk3 key hR
        gi_wp2
        go_roundw
        case rel => exact ⟨pre ++ [⟨t1, t2, t3, t4⟩], far', k, op', hsf.2.1, by omega, HR.out.1, HR.out.2.1, HR.out.2.2.1, HR.out.2.2.2, by rw [List.append_assoc]; exact HP.out.1, HP.out.2⟩
        case measure => rw [walkLeft_eq HR.out.2.1, walkLeft_eq HA.out]; omega
      · clear key hR
        gi_wp2
        refine bodyPost_ret (results_none rfl _ _ _) rfl ?_
        refine ⟨⟨_, rfl⟩, .inr ⟨_, ?_, hJx3⟩⟩
        exact ⟨(tokF s.data.toList k far' op').1, by rw [List.append_assoc]; exact HP.out.1⟩
end Go.Proofs.YtioafeckaeaopaaDoor
