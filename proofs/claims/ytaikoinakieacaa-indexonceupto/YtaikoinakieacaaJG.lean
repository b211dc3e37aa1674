/- IndexOnce, walked. -/
import Derived.Test.YtaikoinakieacaaJK
import Derived.Sort.CutIn
namespace Go.Proofs.Ytaikoinakieacaa.I
open Go.RowKit Go.Maps Go.Shelf Go.Proofs.Ytaikoinakieacaa
attribute [local go_sem] Oper.semAt_some

theorem eql_seqf (g : Nat) (lb : Array Value) (w : World) : (binOp .eql 45 (.func (.func g) #[] lb) .nilFunc).run Try.prog w = .ok (.bool false) w := by kernel_rfl

theorem sm_way {fp fp' : Nat × Nat × Int} (h : fp.2.2 = fp'.2.2) (a b : Int) : sm fp a b = sm fp' a b := by unfold sm; rw [h]
theorem hf_way {fp fp' : Nat × Nat × Int} (h : fp.2.2 = fp'.2.2) (a : Int) : hf fp a = hf fp' a := by unfold hf; rw [h]

theorem live_keys {W : World} {bt pb N len reach : Nat} {fp : Nat × Nat × Int} {cv : Value} {came : List E} {places : List Nat} (h : Tab W bt fp cv pb N len reach came places) (x : Nat) : KeyOk ((live came)[x]?.getD gap).key := by
  cases hx : (live came)[x]? with
  | none => show KeyOk 0; unfold KeyOk; omega
  | some e =>
    obtain ⟨t, h1, h2, _⟩ := rank_ex hx
    exact (h.keys t e h1 h2).2
theorem live_dist {W : World} {bt pb N len reach : Nat} {fp : Nat × Nat × Int} {cv : Value} {came : List E} {places : List Nat} (h : Tab W bt fp cv pb N len reach came places) (i j : Nat) (a b : E) (ha : (live came)[i]? = some a) (hb : (live came)[j]? = some b) (hs : sm fp a.key b.key = true) : i = j := by
  obtain ⟨t, h1, h2, h3⟩ := rank_ex ha
  obtain ⟨t', k1, k2, k3⟩ := rank_ex hb
  rw [← h3, ← k3, h.uniq t a t' b h1 h2 k1 k2 hs]

theorem Turn.putObj1 (W : World) (D : Nat) (o : Obj) : Turn (fun k => k = D) W (W.putObj D o) := by
  have h := grownBy_putObj' W D o
  exact ⟨h.os, h.tape, h.output, h.size, fun k hk hn => h.block k hk (fun e => hn (by cases e; rfl))⟩

/-- The end of a function with one loop over a function. -/
theorem gi_end1 (W : World) (D Bq : Nat) (w : World) (h1 : W.heap[D]? = some (.deferred (some []))) {v : Value} (hc : W.cell? ⟨Bq, 0, none⟩ = some v) (hB : Stay w W) (hd : w.heap.size ≤ D) :
    (W.putObj D (.deferred none)).cell? ⟨Bq, 0, none⟩ = some v ∧ Stay w (W.putObj D (.deferred none)) := by
  have t1 := Turn.putObj1 W D (.deferred none)
  have hb1 : Bq ≠ D := fun e => by subst e; simp [World.cell?, h1] at hc
  exact ⟨t1.cell hc hb1, t1.stay hB (fun k hk e => by omega)⟩

theorem sizes_le {Nu Nt len : Nat} (hu : Pow Nu) (ht : Pow Nt) (h8 : 8 ≤ Nt) (hs : Nu = 8 ∨ 3 * Nu < 8 * len) (hf : 4 * len ≤ 3 * Nt) : Nu ≤ Nt := by
  apply Nat.le_of_not_lt
  intro hlt
  obtain ⟨a, rfl, _⟩ := ht
  obtain ⟨b, rfl, _⟩ := hu
  have := pow_gap hlt
  omega

theorem row_ints {X : World} {base : Nat} {v : Value} {ps : List Int} (h : X.ownsRow base 3 1 v ps.length (ints ps)) : ∃ a b cap, v = .slice a ps.length cap ∧ IntsS X a b 0 ps := by
  rcases h.2 with ⟨rfl, h0⟩ | ⟨g, cap, cur, rfl, hb, hh, rest⟩
  · exact ⟨none, 0, 0, by rw [h0], fun h => by omega, fun j hj => by omega⟩
  · refine ⟨some ⟨g, 0, none⟩, g, cap, rfl, fun _ => rfl, fun j hj => ?_⟩
    rw [Nat.zero_add]
    exact row_cell h j _ (by simp [ints, hj])

/-- The end of a function with three loops over functions. -/
theorem gi_end3 (W : World) (D D2 D3 Bq : Nat) (w : World) (h1 : W.heap[D]? = some (.deferred (some []))) (h2 : W.heap[D2]? = some (.deferred (some []))) (h3 : W.heap[D3]? = some (.deferred (some []))) (n1 : D ≠ D2) (n2 : D ≠ D3) (n3 : D2 ≠ D3) {v : Value} (hc : W.cell? ⟨Bq, 0, none⟩ = some v) (hB : Stay w W) (hd : w.heap.size ≤ D) (hd2 : w.heap.size ≤ D2) (hd3 : w.heap.size ≤ D3) :
    W.heap[D3]? = some (.deferred (some [])) ∧ (W.putObj D3 (.deferred none)).heap[D2]? = some (.deferred (some [])) ∧ ((W.putObj D3 (.deferred none)).putObj D2 (.deferred none)).heap[D]? = some (.deferred (some [])) ∧
      (((W.putObj D3 (.deferred none)).putObj D2 (.deferred none)).putObj D (.deferred none)).cell? ⟨Bq, 0, none⟩ = some v ∧ Stay w (((W.putObj D3 (.deferred none)).putObj D2 (.deferred none)).putObj D (.deferred none)) := by
  have t1 := Turn.putObj1 W D3 (.deferred none)
  have t2 := Turn.putObj1 (W.putObj D3 (.deferred none)) D2 (.deferred none)
  have t3 := Turn.putObj1 ((W.putObj D3 (.deferred none)).putObj D2 (.deferred none)) D (.deferred none)
  have k2 := t1.heap h2 n3
  have k1 := t2.heap (t1.heap h1 n2) n1
  have b1 : Bq ≠ D := fun e => by subst e; simp [World.cell?, h1] at hc
  have b2 : Bq ≠ D2 := fun e => by subst e; simp [World.cell?, h2] at hc
  have b3 : Bq ≠ D3 := fun e => by subst e; simp [World.cell?, h3] at hc
  refine ⟨h3, k2, k1, t3.cell (t2.cell (t1.cell hc b3) b2) b1, ?_⟩
  exact t3.stay (t2.stay (t1.stay hB (fun k hk e => by omega)) (fun k hk e => by omega)) (fun k hk e => by omega)

/-- The state of the last loop. -/
def NI (V X : World) (Bn : Nat) (pre : List Nat) : Prop := Boxed X Bn 3 (.int .i64 (pre.length : Int)) ∧ Turn (fun k => k = Bn) V X
theorem NI.own {V : World} {Bn : Nat} : OwnFrom V.heap.size (fun pre X => NI V X Bn pre) := by
  intro pre W W' row h hg hr
  have ht : Turn (fun k => some k = row) W W' := ⟨hg.os, hg.tape, hg.output, hg.size, fun k hk hn => hg.block k hk hn⟩
  refine ⟨ht.heap h.1 (fun e => ?_), h.2.then ht (fun k hk e => ?_)⟩
  · obtain ⟨_, o, ho, hic⟩ := hr Bn e.symm
    rw [show W.heap[Bn]? = _ from h.1] at ho; simp only [Option.some.injEq] at ho; subst ho; simp [Obj.isCells] at hic
  · have := (hr k e.symm).1; omega
theorem no_bump {B : Nat} (W : World) (l : Nat) (o o' : Obj) (_ : B ≤ l) (h : W.heap[l]? = some o) (hc : o.isCells = false) (_ : o.isWalk = false) : Keep B (fun _ _ => False) W (W.putObj l o') := by
  have hg := grownBy_putObj' W l o'
  refine ⟨hg.size, fun k cs t f _ hk _ => (hg.block k (Array.getElem?_eq_some_iff.1 hk).1 (fun e => ?_)).trans hk, fun k hm => hm.elim⟩
  cases e; rw [hk] at h; simp only [Option.some.injEq] at h; subst h; simp [Obj.isCells] at hc
theorem no_keep {B : Nat} {W : World} {b : Nat} (hb : b < B) (v : Value) : Keep B (fun _ _ => False) W (W.setCell ⟨b, 0, none⟩ v) :=
  ⟨by simp [World.setCell], fun k cs t f hk hc _ => (Below.heap_setCell _ _ _ _ (by show k ≠ b; omega)).trans hc, fun k hm => hm.elim⟩
theorem set_from {B : Nat} (W : World) (b : Nat) (v : Value) : KeepsFrom B W (W.setCell ⟨b, 0, none⟩ v) := (KeepsOthers.setCell W ⟨b, 0, none⟩ v).from B

/-- Two new tables: what there is behind them. -/
structure Two (w W : World) (bt pt bu pu : Nat) (fpt fpu : Nat × Nat × Int) (way : Int) (Bq Bu : Nat) : Prop where
  t : Tab W bt fpt (.slice none 0 0) pt 8 0 0 [] (List.replicate 8 0)
  u : Tab W bu fpu (.slice none 0 0) pu 8 0 0 [] (List.replicate 8 0)
  ways : fpt.2.2 = way ∧ fpu.2.2 = way
  q : Boxed W Bq 4 (.bool false)
  b : Boxed W Bu 24 (.pointer (some ⟨bu, 0, none⟩))
  stay : Stay w W
  new : w.heap.size ≤ bt ∧ w.heap.size ≤ pt ∧ w.heap.size ≤ bu ∧ w.heap.size ≤ pu ∧ w.heap.size ≤ Bq ∧ w.heap.size ≤ Bu
  ne : bt ≠ bu ∧ bt ≠ pu ∧ pt ≠ bu ∧ pt ≠ pu ∧ bt ≠ Bq ∧ pt ≠ Bq ∧ bt ≠ Bu ∧ pt ≠ Bu ∧ bu ≠ Bq ∧ pu ≠ Bq ∧ bu ≠ Bu ∧ pu ≠ Bu ∧ Bq ≠ Bu
  fn : ∀ k, (fnfoot fpt k ∨ fnfoot fpu k) → k ≠ bt ∧ k ≠ pt ∧ k ≠ bu ∧ k ≠ pu ∧ k ≠ Bq ∧ k ≠ Bu

set_option maxRecDepth 100000 in
set_option maxHeartbeats 4000000 in
theorem once_any (w : World) (way : Int) (hw : KeyOk way) (ka : Option Addr) (kb ko kc : Nat) (keys : List Int) (hK : IntsS w ka kb ko keys) (hKo : ∀ k ∈ keys, KeyOk k) (ga : Option Addr) (gb go' gc : Nat) (gone : List Int) (hG : IntsS w ga gb go' gone) (hGo : ∀ k ∈ gone, KeyOk k)
    (hkl : keys.length ≤ 1048576) (hgl : gone.length ≤ 1048576) :
    CallsIn Fence.wide 9 Try.prog 7 #[.int .i64 way, .slice ka keys.length kc, .slice ga gone.length gc] w fun e w' => e = .returned (.bool true) ∧ Stay w w' := by
  have hfn := eql_seqf
  refine callsIn_of_wp_marks Try.func7 rfl trivial ?_ rfl
  simp only [Try.ntmps7, List.size_toArray, List.length_cons, List.length_nil, Nat.reduceAdd, Nat.reduceSub, Array.replicate_succ, Array.replicate_zero, List.push_toArray, List.append_toArray, List.nil_append, List.cons_append]
  gi_wp2_with fail
  refine ⟨trivial, ?_⟩
  refine CallsIn.mono (callsIn_wide.2 (hashes_any _ _)) ?_
  rintro e9 w2 ⟨rfl, rfl⟩
  gi_wp2_with fail
  refine ⟨trivial, ?_⟩
  refine CallsIn.mono (callsIn_wide.2 (sames_any _ _)) ?_
  rintro e9 w3 ⟨rfl, rfl⟩
  have hFA := fns_new (w.alloc (.cells #[.bool false] 4)) way hw
  have hSA : Stay w (((w.alloc (.cells #[.bool false] 4)).alloc (.cells #[.int .i64 way] 3)).alloc (.cells #[.int .i64 way] 3)) := ((Stay.new w _).alloc _).alloc _
  have hqA : Boxed (((w.alloc (.cells #[.bool false] 4)).alloc (.cells #[.int .i64 way] 3)).alloc (.cells #[.int .i64 way] 3)) w.heap.size 4 (.bool false) := ((Boxed.new w 4 (.bool false)).alloc _).alloc _
  have hzA : (((w.alloc (.cells #[.bool false] 4)).alloc (.cells #[.int .i64 way] 3)).alloc (.cells #[.int .i64 way] 3)).heap.size = w.heap.size + 3 := by simp
  simp only [World.size_alloc] at hFA ⊢
  generalize ((w.alloc (.cells #[.bool false] 4)).alloc (.cells #[.int .i64 way] 3)).alloc (.cells #[.int .i64 way] 3) = wA at hFA hSA hqA hzA ⊢
  have hnA := new_any hFA
  dsimp only at hnA
  have HA : Hid (Stay w wA ∧ Boxed wA w.heap.size 4 (.bool false) ∧ wA.heap.size = w.heap.size + 3) := ⟨hSA, hqA, hzA⟩
  clear hFA hSA hqA hzA
  gi_wp2_with fail
  refine ⟨trivial, ?_⟩
  refine CallsIn.mono (callsIn_wide.2 hnA) ?_
  rintro e9 w4 ⟨rfl, hT4, hS4⟩
  have H4 : Hid _ := And.intro hT4 hS4
  clear hnA hT4 hS4
  gi_wp2_with fail
  refine ⟨trivial, ?_⟩
  refine CallsIn.mono (callsIn_wide.2 (hashes_any _ _)) ?_
  rintro e9 w5 ⟨rfl, rfl⟩
  gi_wp2_with fail
  refine ⟨trivial, ?_⟩
  refine CallsIn.mono (callsIn_wide.2 (sames_any _ _)) ?_
  rintro e9 w6 ⟨rfl, rfl⟩
  have hFB := fns_new w4 way hw
  have hSB : Stay w4 ((w4.alloc (.cells #[.int .i64 way] 3)).alloc (.cells #[.int .i64 way] 3)) := (Stay.new w4 _).alloc _
  have hzB : ((w4.alloc (.cells #[.int .i64 way] 3)).alloc (.cells #[.int .i64 way] 3)).heap.size = w4.heap.size + 2 := by simp
  simp only [World.size_alloc]
  generalize (w4.alloc (.cells #[.int .i64 way] 3)).alloc (.cells #[.int .i64 way] 3) = wB at hFB hSB hzB ⊢
  have hnB := new_any hFB
  dsimp only at hnB
  have HB : Hid (Stay w4 wB ∧ wB.heap.size = w4.heap.size + 2) := ⟨hSB, hzB⟩
  clear hFB hSB hzB
  gi_wp2_with fail
  refine ⟨trivial, ?_⟩
  refine CallsIn.mono (callsIn_wide.2 hnB) ?_
  rintro e9 w7 ⟨rfl, hT7, hS7⟩
  have H7 : Hid (Two w (w7.alloc (.cells #[.pointer (some ⟨wB.heap.size + 1, 0, none⟩)] 24)) (wA.heap.size + 1) wA.heap.size (wB.heap.size + 1) wB.heap.size (w.heap.size + 1, w.heap.size + 1 + 1, way) (w4.heap.size, w4.heap.size + 1, way) way w.heap.size w7.heap.size) := by
    obtain ⟨hSA, hqA, hzA⟩ := HA.out
    obtain ⟨hT4, hS4⟩ := H4.out
    obtain ⟨hSB, hzB⟩ := HB.out
    have l1 := hT4.box.lt
    have l2 := hT7.box.lt
    have hS47 : Stay w4 (w7.alloc (.cells #[.pointer (some ⟨wB.heap.size + 1, 0, none⟩)] 24)) := (hSB.trans hS7).alloc _
    have hSw := (hSA.trans hS4).trans hS47
    refine ⟨hT4.turn (S := fun _ => False) (Turn.of_stay hS47) (fun _ _ e => e) (fun _ _ e => e), hT7.turn (S := fun _ => False) (Turn.of_stay (Stay.new _ _)) (fun _ _ e => e) (fun _ _ e => e), ⟨rfl, rfl⟩, ?_, Boxed.new w7 _ _, hSw, by refine ⟨?_, ?_, ?_, ?_, ?_, ?_⟩ <;> omega, by refine ⟨?_, ?_, ?_, ?_, ?_, ?_, ?_, ?_, ?_, ?_, ?_, ?_, ?_⟩ <;> omega, ?_⟩
    · exact ((hS4.trans hS47).block _ (by omega)).trans hqA
    · rintro k ((rfl | rfl) | (rfl | rfl)) <;> (refine ⟨?_, ?_, ?_, ?_, ?_, ?_⟩ <;> (dsimp only; omega))
  clear hnB hT7 hS7 HA H4 HB
  gi_wp2_with fail
  generalize w7.alloc (.cells #[.pointer (some ⟨wB.heap.size + 1, 0, none⟩)] 24) = W0 at H7 ⊢
  generalize wA.heap.size + 1 = bt at H7 ⊢
  generalize wA.heap.size = pt at H7 ⊢
  generalize wB.heap.size + 1 = bu at H7 ⊢
  generalize wB.heap.size = pu at H7 ⊢
  generalize (w.heap.size + 1, w.heap.size + 1 + 1, way) = fpt at H7 ⊢
  generalize (w4.heap.size, w4.heap.size + 1, way) = fpu at H7 ⊢
  generalize w7.heap.size = Bu at H7 ⊢
  have hkcell : ∀ (W : World), Turn (fun k => k = bt ∨ k = pt) W0 W → ∀ i (h : i < keys.length), W.cell? ⟨kb, ko + i, none⟩ = some (.int .i64 keys[i]) := fun W hT i h => by
    have h1 := hK.2 i h
    have h2 := World.block_lt_of_cell? w _ h1
    have := H7.out.new
    exact hT.cell (H7.out.stay.cell h1) (by rintro (h0 | h0) <;> (dsimp only at h0 h2; omega))
  have hgcell : ∀ (W : World), Turn (fun k => k = bt ∨ k = pt) W0 W → ∀ i (h : i < gone.length), W.cell? ⟨gb, go' + i, none⟩ = some (.int .i64 gone[i]) := fun W hT i h => by
    have h1 := hG.2 i h
    have h2 := World.block_lt_of_cell? w _ h1
    have := H7.out.new
    exact hT.cell (H7.out.stay.cell h1) (by rintro (h0 | h0) <;> (dsimp only at h0 h2; omega))
  have HKC : Hid _ := And.intro hkcell hgcell
  have HKA : Hid ((0 < keys.length → ka = some ⟨kb, ko, none⟩) ∧ (0 < gone.length → ga = some ⟨gb, go', none⟩)) := ⟨hK.1, hG.1⟩
  have HKO : Hid ((∀ k ∈ keys, KeyOk k) ∧ (∀ k ∈ gone, KeyOk k)) := ⟨hKo, hGo⟩
  clear hkcell hgcell hK hG hKo hGo
  gi_loopw [11] (fun ui wr => ∃ i : Nat, i ≤ keys.length ∧ ui = .int .i64 (i : Int) ∧ TabI W0 wr bt pt fpt i) (fun ui _ => keys.length - (intOf ui).toNat)
  case atStart =>
    refine ⟨0, Nat.zero_le _, rfl, _, _, _, _, _, _, _, H7.out.t, Nat.zero_le _, Turn.refl _ _, ?_⟩
    rintro k (h0 | h0 | h0)
    · exact .inl h0
    · exact .inr (.inl h0)
    · simp [Value.ownBlock] at h0
  case round =>
    obtain ⟨i, hi, rfl, hI⟩ := hrel
    by_cases hlt : i < keys.length
    · obtain rfl := HKA.out.1 (by omega)
      have hput := hI.put keys[i] (i : Int) (HKO.out.1 _ (List.getElem_mem hlt)) (by omega)
      have hTu : Turn (fun k => k = bt ∨ k = pt) W0 wr := by obtain ⟨_, _, _, _, _, _, _, _, _, h, _⟩ := hI; exact h
      have hcell := HKC.out.1 wr hTu i hlt
      have hil : (i : Int) < (keys.length : Int) := by omega
      clear hI hTu
      gi_wp2_with fail
      refine ⟨trivial, ?_⟩
      refine CallsIn.mono (callsIn_wide.2 hput) ?_
      rintro e9 w9 ⟨⟨x, rfl⟩, hI9⟩
      clear hput hcell
      gi_wp2_with fail
      go_roundw
      case rel => exact ⟨i + 1, by omega, by simp, hI9⟩
      case measure => simp [intOf]; omega
    · obtain rfl : i = keys.length := by omega
      have HI1 : Hid (TabI W0 wr bt pt fpt keys.length) := hI
      clear hI
      gi_wp2_with fail
      gi_loopw [12] (fun ui wr => ∃ i : Nat, i ≤ gone.length ∧ ui = .int .i64 (i : Int) ∧ TabI W0 wr bt pt fpt keys.length) (fun ui _ => gone.length - (intOf ui).toNat)
      case atStart => exact ⟨0, Nat.zero_le _, rfl, HI1.out⟩
      case round =>
        obtain ⟨i, hi, rfl, hI⟩ := hrel
        by_cases hlt : i < gone.length
        · obtain rfl := HKA.out.2 (by omega)
          have htk := hI.take gone[i] (HKO.out.2 _ (List.getElem_mem hlt))
          have hTu : Turn (fun k => k = bt ∨ k = pt) W0 wr := by obtain ⟨_, _, _, _, _, _, _, _, _, h, _⟩ := hI; exact h
          have hcell := HKC.out.2 wr hTu i hlt
          have hil : (i : Int) < (gone.length : Int) := by omega
          clear hI hTu
          gi_wp2_with fail
          refine ⟨trivial, ?_⟩
          refine CallsIn.mono (callsIn_wide.2 htk) ?_
          rintro e9 w9 ⟨⟨x, rfl⟩, hI9⟩
          clear htk hcell
          gi_wp2_with fail
          go_roundw
          case rel => exact ⟨i + 1, by omega, by simp, hI9⟩
          case measure => simp [intOf]; omega
        · obtain rfl : i = gone.length := by omega
          have HI2 : Hid (TabI W0 wr bt pt fpt keys.length) := hI
          clear hI HI1 HKC HKA HKO
          gi_wp2_with fail
          refine ⟨trivial, ?_⟩
          refine CallsIn.mono (callsIn_wide.2 (all_any _ _)) ?_
          rintro e9 w9 ⟨rfl, rfl⟩
          gi_wp2_with fail
          obtain ⟨cvt, pbt, Nt, lent, rt, camet, plt, hTt, hltc, hTut, hft⟩ := HI2.out
          clear HI2
          obtain ⟨V0, hV0⟩ : ∃ V0, wr.alloc (.cells #[.pointer (some ⟨bt, 0, none⟩)] 24) = V0 := ⟨_, rfl⟩
          have hSV : Stay wr V0 := by rw [← hV0]; exact Stay.new _ _
          have hba : Boxed V0 wr.heap.size 24 (.pointer (some ⟨bt, 0, none⟩)) := by rw [← hV0]; exact Boxed.new wr _ _
          have hzV : V0.heap.size = wr.heap.size + 1 := by rw [← hV0]; simp
          rw [hV0]
          have hTt0 := hTt.turn (S := fun _ => False) (Turn.of_stay hSV) (fun _ _ e => e) (fun _ _ e => e)
          have hTW : Turn (fun k => k = bt ∨ k = pt) W0 V0 := hTut.trans (Turn.of_stay hSV)
          have hX := H7.out
          have hne := hX.ne
          have hTu0 := hX.u.turn hTW (fun k hk h0 => by
            rcases hk with rfl | rfl | hk
            · rcases h0 with h0 | h0 <;> omega
            · rcases h0 with h0 | h0 <;> omega
            · simp [Value.ownBlock] at hk) (fun k hk h0 => by
            have := hX.fn k (.inr hk)
            rcases h0 with h0 | h0 <;> omega)
          have hq0 : Boxed V0 w.heap.size 4 (.bool false) := hTW.heap hX.q (by rintro (h0 | h0) <;> omega)
          have hb0 : Boxed V0 Bu 24 (.pointer (some ⟨bu, 0, none⟩)) := hTW.heap hX.b (by rintro (h0 | h0) <;> omega)
          have hSw : Stay w V0 := hTW.stay hX.stay (fun k hk h0 => by have := hX.new; rcases h0 with h0 | h0 <;> omega)
          have hUI0 : UI V0 V0 bu pu fpu (live camet) [] := by
            refine ⟨_, _, _, _, _, _, _, hTu0, fun e he => by simp at he, .inl rfl, Nat.le_refl _, fun _ => rfl, Turn.refl _ _, ?_⟩
            rintro k (h0 | h0 | h0)
            · exact .inl h0
            · exact .inr (.inl h0)
            · simp [Value.ownBlock] at h0
          have hbul : bu < V0.heap.size := hTu0.box.lt
          have hfu : ∀ k, foot bt pbt cvt k → k ≠ bu ∧ k ≠ pu := fun k hk => by
            have l3 := hX.u.box.lt
            have l4 := hX.u.spots.lt
            rcases hft k hk with h0 | h0 | h0 <;> omega
          have hway : fpu.2.2 = fpt.2.2 := hX.ways.2.trans hX.ways.1.symm
          have HV : Hid (Tab V0 bt fpt cvt pbt Nt lent rt camet plt ∧ Boxed V0 w.heap.size 4 (.bool false) ∧ Boxed V0 Bu 24 (.pointer (some ⟨bu, 0, none⟩)) ∧ Stay w V0 ∧ (∀ k, foot bt pbt cvt k → k ≠ bu ∧ k ≠ pu) ∧ fpu.2.2 = fpt.2.2 ∧ (∀ k, fnfoot fpt k → k ≠ bu ∧ k ≠ pu) ∧ w.heap.size ≤ bu ∧ w.heap.size ≤ pu ∧ w.heap.size ≠ bu ∧ w.heap.size ≠ pu ∧ Bu ≠ bu ∧ Bu ≠ pu ∧ w.heap.size ≤ Bu ∧ w.heap.size ≠ Bu) := by
            refine ⟨hTt0, hq0, hb0, hSw, hfu, hway, fun k hk => ?_, hX.new.2.2.1, hX.new.2.2.2.1, by omega, by omega, by omega, by omega, hX.new.2.2.2.2.2, by omega⟩
            have := hX.fn k (.inl hk)
            omega
          have hlcam : camet.length ≤ 1048576 := by omega
          clear hTt hTut hft hSV hTW hX hne hq0 hb0 hSw hfu hway hTu0 H7
          have hll := live_length_le camet
          refine' wpIn_rangeFunc_ownG (α := Nat) rfl (by decide) (gf := 47) (lb := #[.pointer (some ⟨wr.heap.size, 0, none⟩)]) rfl trivial (enters_of Try.func47 (by kernel_rfl) rfl)
            (all_stops (9 - 1) (by decide) wr.heap.size (Mu bu) V0 hba.cell hTt0 (by omega) (fun W hS k hm => ?m0) (fun W o k hle hm => mu_alloc (by omega) o k hm)) (fun h k => h.trans k) (keep_bump hbul) (Below.refl _ _) (fun _ => rfl)
            (fun pre W => UI V0 W bu pu fpu (live camet) pre) (fun _ _ _ => False) UI.own (fun _ _ _ _ _ hs _ _ => hs) hUI0 _ ?assign ?body ?done ?stop
          case m0 =>
            obtain ⟨_, _, _, _, _, _, _, hTu0, _⟩ := hUI0
            exact mu_stay hTu0 W hS k hm
          case assign =>
            intro l x W K hK
            dsimp only [encsL]
            gi_wp2
            exact hK
          case stop =>
            rintro _ _ _ _ _ _ h _
            exact h.elim
          case body =>
            intro l pre x W hI hlt2
            have hput := hI.put x hbul (live_keys hTt0 x) (fun i j a b ha hb hs => live_dist hTt0 i j a b ha hb (by rw [← sm_way HV.out.2.2.2.2.2.1]; exact hs)) hlt2 (by omega)
            have hTuW : Turn (fun k => k = bu ∨ k = pu) V0 W := by obtain ⟨_, _, _, _, _, _, _, _, _, _, _, _, h, _⟩ := hI; exact h
            have hcu : W.cell? ⟨Bu, 0, none⟩ = some (.pointer (some ⟨bu, 0, none⟩)) := hTuW.cell HV.out.2.2.1.cell (by have := HV.out; rintro (h0 | h0) <;> (dsimp only at h0; omega))
            clear hI hTuW hTt0 hUI0 hba
            have hfw : ∀ f, Fence.wide.fn f := fun _ => trivial
            generalize ((live camet)[x]?.getD gap).key = kx at hput ⊢
            generalize ((live camet)[x]?.getD gap).val = vx at hput ⊢
            gi_wp2_with (gi_at_call 22; refine (CallsIn.inRound l (callsIn_wide.2 hput)).mono ?_; rintro e9 w9 ⟨⟨y, rfl⟩, hI9, hK9, hF9⟩)
            exact ⟨hF9, hK9, hI9⟩
          case done =>
            rintro D ys W hD rfl hI hKD
            clear hTt0 hUI0 hba
            have hsz0 := HV.out.2.2.2.1.size
            obtain ⟨cvu, pbu, Nu, lenu, ru, cameu, plu, hTu, hall, hsmall, hlu, hkv0, hTuW, hfu⟩ := hI
            have hkv : cameu.map kv = (live camet).map kv := by
              rw [hkv0 (by simp), List.length_range, List.take_length]
            have hTt := HV.out.1.turn hTuW (fun k hk h0 => by have := HV.out.2.2.2.2.1 k hk; rcases h0 with h0 | h0 <;> omega) (fun k hk h0 => by have := HV.out.2.2.2.2.2.2.1 k hk; rcases h0 with h0 | h0 <;> omega)
            have hlive : live cameu = cameu := by unfold live; rw [List.filter_eq_self]; exact hall
            have hlen : lenu = lent := by
              rw [hTu.cnt, hlive, hTt.cnt]
              have := congrArg List.length hkv
              simpa using this
            subst hlen
            have hle := sizes_le hTu.pow hTt.pow hTt.eight hsmall hTt.few
            have hq : Boxed W w.heap.size 4 (.bool false) := hTuW.heap HV.out.2.1 (by have := HV.out; rintro (h0 | h0) <;> omega)
            have hb : Boxed W Bu 24 (.pointer (some ⟨bu, 0, none⟩)) := hTuW.heap HV.out.2.2.1 (by have := HV.out; rintro (h0 | h0) <;> omega)
            have hSw : Stay w W := hTuW.stay HV.out.2.2.2.1 (fun k hk h0 => by have := HV.out; rcases h0 with h0 | h0 <;> omega)
            have hL1 := len_yes hTu
            have hL2 := len_yes hTt
            have hZ1 := size_yes hTu
            have hZ2 := size_yes hTt
            have cu := hb.cell
            have HW : Hid (Tab W bu fpu cvu pbu Nu lenu ru cameu plu ∧ Tab W bt fpt cvt pbt Nt lenu rt camet plt ∧ cameu.map kv = (live camet).map kv ∧ live cameu = cameu ∧ Boxed W w.heap.size 4 (.bool false) ∧ Boxed W Bu 24 (.pointer (some ⟨bu, 0, none⟩)) ∧ Stay w W ∧ W.heap[D]? = some (.deferred (some []))) := ⟨hTu, hTt, hkv, hlive, hq, hb, hSw, hKD⟩
            have hbN := hTt.pow.bd
            clear hTu hTt hkv hlive hq hb hSw hKD hall hsmall hlu hkv0 hTuW hfu
            have hgt : ¬ (Nt : Int) < (Nu : Int) := by omega
            gi_wp2_with fail
            refine ⟨trivial, ?_⟩
            refine CallsIn.mono (callsIn_wide.2 hL1) ?_
            rintro e9 w9 ⟨rfl, hw9⟩
            have hw' := hw9.symm; subst hw'
            gi_wp2_with fail
            refine ⟨trivial, ?_⟩
            refine CallsIn.mono (callsIn_wide.2 hL2) ?_
            rintro e9 w9 ⟨rfl, hw9⟩
            have hw' := hw9.symm; subst hw'
            gi_wp2_with fail
            refine ⟨trivial, ?_⟩
            refine CallsIn.mono (callsIn_wide.2 hZ1) ?_
            rintro e9 w9 ⟨rfl, hw9⟩
            have hw' := hw9.symm; subst hw'
            gi_wp2_with fail
            refine ⟨trivial, ?_⟩
            refine CallsIn.mono (callsIn_wide.2 hZ2) ?_
            rintro e9 w9 ⟨rfl, hw9⟩
            have hw' := hw9.symm; subst hw'
            gi_wp2_with fail
            refine ⟨trivial, ?_⟩
            refine CallsIn.mono (callsIn_wide.2 hZ1) ?_
            rintro e9 w9 ⟨rfl, hw9⟩
            have hw' := hw9.symm; subst hw'
            gi_wp2_with fail
            refine ⟨trivial, ?_⟩
            refine CallsIn.mono (callsIn_wide.2 hZ2) ?_
            rintro e9 w9 ⟨rfl, hw9⟩
            have hw' := hw9.symm; subst hw'
            clear hL1 hL2 hZ1 hZ2 hgt
            by_cases hlt3 : Nu < Nt
            · have hli : (Nu : Int) < (Nt : Int) := by omega
              gi_wp2_with fail
              refine ⟨trivial, ?_⟩
              refine CallsIn.mono (callsIn_wide.2 (known_any _)) ?_
              rintro e9 W2 ⟨rfl, hS2⟩
              have hq2 : Boxed W2 w.heap.size 4 (.bool false) := (hS2.block _ (HW.out.2.2.2.2.1.lt)).trans HW.out.2.2.2.2.1
              have hK2 : W2.heap[D]? = some (.deferred (some [])) := (hS2.block D (Array.getElem?_eq_some_iff.1 HW.out.2.2.2.2.2.2.2).1).trans HW.out.2.2.2.2.2.2.2
              have hSw2 := HW.out.2.2.2.2.2.2.1.trans hS2
              have cq := hq2.cell
              have fq := hq2.frozen
              have hK3 := (KeepsOthers.setCell W2 ⟨w.heap.size, 0, none⟩ (.bool true)).same D _ hK2 rfl
              have hfin := gi_end1 (W2.setCell ⟨w.heap.size, 0, none⟩ (.bool true)) D w.heap.size w hK3 (World.cell?_setCell_same' W2 ⟨w.heap.size, 0, none⟩ (.bool true) (by rw [cq]; rfl)) (Below.setCell hSw2 (p := ⟨w.heap.size, 0, none⟩) (Nat.le_refl _) _) (by omega)
              have HF : Hid _ := And.intro hK3 hfin
              clear hq2 hK2 hSw2 hK3 hfin hS2
              gi_wp2
              refine ⟨by simp, .inl ⟨_, _, rfl, run_takeDeferred HF.out.1, ?_⟩⟩
              refine ⟨.bool true, ?_, rfl, HF.out.2.2⟩
              simp [results, Try.results7, go_sem, HF.out.2.1]
            · obtain rfl : Nu = Nt := by omega
              gi_wp2_with fail
              refine ⟨trivial, ?_⟩
              refine CallsIn.mono (callsIn_wide.2 (layout_any _ _)) ?_
              rintro e9 w9 ⟨rfl, rfl⟩
              gi_wp2_with fail
              obtain ⟨V1, hV1⟩ : ∃ V1, ((W.alloc (.cells #[.slice none 0 0] 47)).alloc (.cells #[.slice none 0 0] 47)).alloc (.cells #[.pointer (some ⟨bt, 0, none⟩)] 24) = V1 := ⟨_, rfl⟩
              have hS1 : Stay W V1 := by rw [← hV1]; exact ((Stay.new _ _).alloc _).alloc _
              have hp1 : Boxed V1 W.heap.size 47 (.slice none 0 0) := by rw [← hV1]; exact ((Boxed.new W _ _).alloc _).alloc _
              have hr1 : Boxed V1 (W.heap.size + 1) 47 (.slice none 0 0) := by
                have := (Boxed.new (W.alloc (.cells #[.slice none 0 0] 47)) 47 (.slice none 0 0)).alloc (.cells #[.pointer (some ⟨bt, 0, none⟩)] 24)
                rw [World.size_alloc] at this
                rw [← hV1]; exact this
              have hi1 : Boxed V1 (W.heap.size + 1 + 1) 24 (.pointer (some ⟨bt, 0, none⟩)) := by
                have := Boxed.new ((W.alloc (.cells #[.slice none 0 0] 47)).alloc (.cells #[.slice none 0 0] 47)) 24 (.pointer (some ⟨bt, 0, none⟩))
                simp only [World.size_alloc] at this
                rw [← hV1]; exact this
              have hz1 : V1.heap.size = W.heap.size + 3 := by rw [← hV1]; simp
              try simp only [World.size_alloc] at ⊢
              rw [hV1]
              have hTt1 := HW.out.2.1.turn (S := fun _ => False) (Turn.of_stay hS1) (fun _ _ e => e) (fun _ _ e => e)
              have hC0 : CI V1 V1 W.heap.size (W.heap.size + 1) (byPl (live camet)) [] :=
                ⟨.slice none 0 0, .slice none 0 0, ⟨rfl, .inl ⟨rfl, rfl⟩⟩, ⟨rfl, .inl ⟨rfl, rfl⟩⟩, hp1, hr1, fun k h => by simp [Value.ownBlock] at h, Turn.refl _ _, by omega, by omega, by omega⟩
              have HV1 : Hid (Stay W V1 ∧ V1.heap.size = W.heap.size + 3) := ⟨hS1, hz1⟩
              have hbl : (byPl (live camet)).length ≤ 1048576 := by rw [byPl_len]; omega
              clear hV1 hS1 hp1 hr1
              have hz1a : W.heap.size + 2 < V1.heap.size := by omega
              clear hz1
              refine' wpIn_rangeFunc_ownG (α := Nat) rfl (by decide) (gf := 49) (lb := #[.pointer (some ⟨W.heap.size + 1 + 1, 0, none⟩)]) rfl trivial (enters_of Try.func49 (by kernel_rfl) rfl)
                (lay_stops (9 - 1) (by decide) (W.heap.size + 1 + 1) (M2 W.heap.size (W.heap.size + 1)) V1 hi1.cell hTt1 (by omega) (fun X hS k hm => ?m1) (fun X o k hle hm => m2_alloc (by omega) (by omega) o k hm)) (fun h k => h.trans k) (m2_bump (by omega) (by omega)) (Below.refl _ _) (fun _ => rfl)
                (fun pre X => CI V1 X W.heap.size (W.heap.size + 1) (byPl (live camet)) pre) (fun _ _ _ => False) CI.own (fun _ _ _ _ _ hs _ _ => hs) hC0 _ ?assign1 ?body1 ?done1 ?stop1
              case m1 =>
                obtain ⟨vp, vt, hc⟩ := hC0
                unfold M2 at hm
                rw [hS.cell hc.box1.cell, hS.cell hc.box2.cell] at hm
                simp only [Option.some.injEq, exists_eq_left'] at hm
                rcases hm with hm | hm
                · exact (hc.row1.lt k hm).2
                · exact (hc.row2.lt k hm).2
              case assign1 =>
                intro l x X K hK
                dsimp only [encsP]
                gi_wp2
                exact hK
              case stop1 =>
                rintro _ _ _ _ _ _ h _
                exact h.elim
              case body1 =>
                intro l pre x X hI hlt4
                obtain ⟨vp, vt, hC⟩ := hI
                obtain ⟨i0, hi, hz0, hz1, hz2⟩ := info_parts infoInt
                have c1 := hC.box1.cell
                have hpl4 : pre.length ≤ 1048576 := by omega
                have hxs := hC.turn.size
                have HE : Hid ((pre ++ [x]).map (fun x => (((byPl (live camet))[x]?.getD gap).place : Int)) = pre.map (fun x => (((byPl (live camet))[x]?.getD gap).place : Int)) ++ [(((byPl (live camet))[x]?.getD gap).place : Int)] ∧ (pre ++ [x]).map (fun x => ((byPl (live camet))[x]?.getD gap).key) = pre.map (fun x => ((byPl (live camet))[x]?.getD gap).key) ++ [((byPl (live camet))[x]?.getD gap).key]) := ⟨by simp, by simp⟩
                generalize hps : pre.map (fun x => (((byPl (live camet))[x]?.getD gap).place : Int)) = ps at hC HE
                generalize hts : pre.map (fun x => ((byPl (live camet))[x]?.getD gap).key) = ts at hC HE
                have hpsl : ps.length ≤ 1048576 := by rw [← hps]; simpa using hpl4
                have htsl : ts.length ≤ 1048576 := by rw [← hts]; simpa using hpl4
                clear hps hts
                generalize (((byPl (live camet))[x]?.getD gap).place : Int) = px at HE ⊢
                generalize ((byPl (live camet))[x]?.getD gap).key = kx at HE ⊢
                have hownA := hC.row1.alloc (.cells #[.int .i64 px] 3)
                have h63 : ps.length + 1 ≤ maxLen := by unfold maxLen; omega
                have hby : (ps.length + 1) * 8 ≤ 140737488355328 := by omega
                have hbs : V1.heap.size ≤ (X.alloc (.cells #[.int .i64 px] 3)).heap.size := by simp; omega
                have HC : Hid (ColS V1 X W.heap.size (W.heap.size + 1) vp vt ps ts) := hC
                clear hC hTt1 hC0 hi1
                have hfw : ∀ f, Fence.wide.fn f := fun _ => trivial
                gi_upto_region 29 with (gi_at_builtin; refine wpListIn_append_own_at _ rfl _ _ 47 rfl V1.heap.size 3 i0 (.int .i64 0) 1 8 Try.underlying47 hi hz0 hz1 hz2 rfl (by decide) _ _ _ rfl hownA ⟨X.heap.size, 0, none⟩ 1 1 [.int .i64 px] rfl rfl (cell_one_new _ _ _) (by simp [Value.oneCell']) h63 hby hbs ?_; intro v1 w1 hown1 hgrow1 hnil1 hloc1; have hap := HC.out.app _ px hown1 hgrow1 hloc1; have d1 := hap.1; have f1 := hap.2.1; have H1 : Hid _ := hap; obtain ⟨g', cap', rfl⟩ := ownsRow_succ hown1; clear hap hown1 hgrow1 hnil1 hloc1 hownA)
                obtain ⟨_, _, hCY, t1, l1⟩ := H1.out
                generalize (Value.slice (some ⟨g', 0, none⟩) (ps.length + 1) cap') = v1 at hCY l1 t1 ⊢
                generalize w1.setCell ⟨W.heap.size, 0, none⟩ v1 = Y at hCY t1 ⊢
                have HY : Hid (ColS V1 Y W.heap.size (W.heap.size + 1) v1 vt (ps ++ [px]) ts ∧ Turn (fun k => k = W.heap.size ∨ vp.ownBlock = some k) X Y ∧ (v1.ownBlock = vp.ownBlock ∨ ∃ k, v1.ownBlock = some k ∧ X.heap.size ≤ k)) := ⟨hCY, t1, l1⟩
                have c2 := hCY.box2.cell
                have hownB := hCY.row2.alloc (.cells #[.int .i64 kx] 3)
                have h63b : ts.length + 1 ≤ maxLen := by unfold maxLen; omega
                have hbyb : (ts.length + 1) * 8 ≤ 140737488355328 := by omega
                have hbsb : V1.heap.size ≤ (Y.alloc (.cells #[.int .i64 kx] 3)).heap.size := by have := hCY.turn.size; simp; omega
                clear H1 hCY t1 l1 d1 f1 c1
                gi_wp2_with (gi_at_builtin; refine wpListIn_append_own_at _ rfl _ _ 47 rfl V1.heap.size 3 i0 (.int .i64 0) 1 8 Try.underlying47 hi hz0 hz1 hz2 rfl (by decide) _ _ _ rfl hownB ⟨Y.heap.size, 0, none⟩ 1 1 [.int .i64 kx] rfl rfl (cell_one_new _ _ _) (by simp [Value.oneCell']) h63b hbyb hbsb ?_; intro v2 w2 hown2 hgrow2 hnil2 hloc2; have hap := HY.out.1.swap.app _ kx hown2 hgrow2 hloc2; have d2 := hap.1; have f2 := hap.2.1; have H2 : Hid _ := hap; obtain ⟨g2, cap2, rfl⟩ := ownsRow_succ hown2; clear hap hown2 hgrow2 hnil2 hloc2 hownB)
                obtain ⟨_, _, hCZ, t2, l2⟩ := H2.out
                have hrd := HC.out.round hCZ.swap HY.out.1 HY.out.2.1 t2 HY.out.2.2 l2
                refine ⟨hrd.2, hrd.1, ?_⟩
                have hcs := hCZ.swap
                rw [← HE.out.1, ← HE.out.2] at hcs
                exact ⟨_, _, hcs⟩
              case done1 =>
                rintro D2 ys X hD2 rfl hI hKD2
                clear hTt1 hC0 hi1
                obtain ⟨vp, vt, hC⟩ := hI
                obtain ⟨hS1, hz1⟩ := HV1.out
                have hSX : Stay W X := hC.turn.stay hS1 (fun k hk e => by rcases e with e | e <;> omega)
                have hTuX := HW.out.1.turn (S := fun _ => False) (Turn.of_stay hSX) (fun _ _ e => e) (fun _ _ e => e)
                have hbX : Boxed X Bu 24 (.pointer (some ⟨bu, 0, none⟩)) := (hSX.block _ HW.out.2.2.2.2.2.1.lt).trans HW.out.2.2.2.2.2.1
                have cuX := hbX.cell
                have hpk := layout_same HW.out.1 HW.out.2.1 (by rw [HW.out.2.2.2.1]; exact HW.out.2.2.1) HV.out.2.2.2.2.2.1
                have hnn : (byPl (live cameu)).length = (byPl (live camet)).length := by simpa using congrArg List.length hpk
                obtain ⟨ap, bp, cpp, hvp, hIp⟩ := row_ints hC.row1
                obtain ⟨at', bt', cpt, hvt, hIt⟩ := row_ints hC.row2
                have hcp := hC.box1.cell
                have hct := hC.box2.cell
                simp only [List.length_map, List.length_range] at hvp hvt
                generalize hn : (byPl (live camet)).length = n at hvp hvt hnn hbl hIp hIt hC
                have HX : Hid (Stay W X ∧ X.heap[D2]? = some (.deferred (some [])) ∧ W.heap.size ≤ D2 ∧ (byPl (live cameu)).map pk = (byPl (live camet)).map pk ∧ (byPl (live camet)).length = n) := ⟨hSX, hKD2, by omega, hpk, hn⟩
                have HI : Hid (IntsS X ap bp 0 ((List.range n).map fun x => (((byPl (live camet))[x]?.getD gap).place : Int)) ∧ IntsS X at' bt' 0 ((List.range n).map fun x => ((byPl (live camet))[x]?.getD gap).key)) := ⟨hIp, hIt⟩
                subst hvp
                subst hvt
                have hWl : W.heap.size + 1 < X.heap.size := by have := hC.turn.size; omega
                have hcu : cameu.length ≤ 68719476736 := by
                  have h1 := congrArg List.length HW.out.2.2.1
                  simp at h1; omega
                have hBuX : Bu < X.heap.size := hbX.lt
                clear hC hIp hIt hpk hKD2 hn hSX hbX hS1 hz1
                gi_wp2_with fail
                refine ⟨trivial, ?_⟩
                refine CallsIn.mono (callsIn_wide.2 (layout_any _ _)) ?_
                rintro e9 w9 ⟨rfl, rfl⟩
                gi_wp2_with fail
                obtain ⟨V2, hV2⟩ : ∃ V2, (X.alloc (.cells #[.int .i64 0] 3)).alloc (.cells #[.pointer (some ⟨bu, 0, none⟩)] 24) = V2 := ⟨_, rfl⟩
                have hS2 : Stay X V2 := by rw [← hV2]; exact (Stay.new _ _).alloc _
                have hn2 : Boxed V2 X.heap.size 3 (.int .i64 0) := by rw [← hV2]; exact (Boxed.new X _ _).alloc _
                have hi2 : Boxed V2 (X.heap.size + 1) 24 (.pointer (some ⟨bu, 0, none⟩)) := by
                  have := Boxed.new (X.alloc (.cells #[.int .i64 0] 3)) 24 (.pointer (some ⟨bu, 0, none⟩))
                  simp only [World.size_alloc] at this
                  rw [← hV2]; exact this
                have hz2 : V2.heap.size = X.heap.size + 2 := by rw [← hV2]; simp
                try simp only [World.size_alloc] at ⊢
                rw [hV2]
                have hTu2 := hTuX.turn (S := fun _ => False) (Turn.of_stay hS2) (fun _ _ e => e) (fun _ _ e => e)
                have hN0 : NI V2 V2 X.heap.size [] := ⟨hn2, Turn.refl _ _⟩
                have HV2 : Hid (Stay X V2) := hS2
                have hcp2 := hS2.cell hcp
                have hct2 := hS2.cell hct
                clear hV2 hS2 hn2 hTuX hcp hct cuX
                refine' wpIn_rangeFunc_ownG (α := Nat) rfl (by decide) (gf := 49) (lb := #[.pointer (some ⟨X.heap.size + 1, 0, none⟩)]) rfl trivial (enters_of Try.func49 (by kernel_rfl) rfl)
                  (lay_stops (9 - 1) (by decide) (X.heap.size + 1) (fun _ _ => False) V2 hi2.cell hTu2 hcu (fun _ _ _ hm => hm.elim) (fun _ _ _ _ hm => hm)) (fun h k => h.trans k) no_bump (Below.refl _ _) (fun _ => rfl)
                  (fun pre Y => NI V2 Y X.heap.size pre) (fun c pre _ => c = .ret ∧ ∃ q x, pre = q ++ [x] ∧ x ≠ q.length) NI.own (fun _ _ _ _ _ hs _ _ => hs) hN0 _ ?assign2 ?body2 ?done2 ?stop2
                case assign2 =>
                  intro l x Y K hK
                  dsimp only [encsP]
                  gi_wp2
                  exact hK
                case stop2 =>
                  rintro D3 c pre Y hD3 ⟨k, hk, hpre⟩ ⟨rfl, q, x, hq, hx⟩ hK3
                  exfalso
                  rw [hpre] at hq
                  cases k with
                  | zero => simp at hq
                  | succ k =>
                    rw [List.range_succ] at hq
                    have := List.append_inj' hq rfl
                    have h1 := congrArg List.length this.1
                    have h2 := this.2
                    simp at h1 h2
                    omega
                case body2 =>
                  intro l pre x Y hI hlt5
                  rw [hnn] at hlt5
                  have hq1 := HW.out.2.2.2.2.1
                  have lq := hq1.lt
                  have hWX := HX.out.1.size
                  have hqY : Boxed Y w.heap.size 4 (.bool false) := hI.2.heap ((HV2.out.block _ (by omega)).trans ((HX.out.1.block _ lq).trans hq1)) (by omega)
                  have hcpY := hI.2.cell hcp2 (by dsimp only; omega)
                  have hctY := hI.2.cell hct2 (by dsimp only; omega)
                  have hap := HI.out.1.1 (by simp; omega)
                  have hat := HI.out.2.1 (by simp; omega)
                  subst hap
                  subst hat
                  have hp1 := HI.out.1.2 pre.length (by simpa using hlt5)
                  have hk1 := HI.out.2.2 pre.length (by simpa using hlt5)
                  simp only [List.getElem_map, List.getElem_range, Nat.zero_add] at hp1 hk1
                  have hpY := hI.2.cell (HV2.out.cell hp1) (by have := World.block_lt_of_cell? X _ hp1; dsimp only at this ⊢; omega)
                  have hkY := hI.2.cell (HV2.out.cell hk1) (by have := World.block_lt_of_cell? X _ hk1; dsimp only at this ⊢; omega)
                  have cn := hI.1.cell
                  have fn := hI.1.frozen
                  have cq := hqY.cell
                  have fq := hqY.frozen
                  have hat5 := pk_at HX.out.2.2.2.1 x
                  have hil : (pre.length : Int) < (n : Int) := by omega
                  have hil2 : ¬ (n : Int) ≤ (pre.length : Int) := by omega
                  have HN : Hid (NI V2 Y X.heap.size pre ∧ (x = pre.length → ((byPl (live cameu))[x]?.getD gap).place = ((byPl (live camet))[pre.length]?.getD gap).place ∧ ((byPl (live cameu))[x]?.getD gap).key = ((byPl (live camet))[pre.length]?.getD gap).key)) := ⟨hI, fun e => by rw [← e]; exact ⟨Int.ofNat.inj hat5.1, hat5.2⟩⟩
                  clear hI hp1 hk1 hat5 hq1 hqY hi2 hTu2 hN0 hcp2 hct2
                  try dsimp only [encsP] at ⊢
                  generalize ((byPl (live cameu))[x]?.getD gap).place = pu1 at HN ⊢
                  generalize ((byPl (live cameu))[x]?.getD gap).key = ku1 at HN ⊢
                  generalize ((byPl (live camet))[pre.length]?.getD gap).place = pt1 at HN hpY ⊢
                  generalize ((byPl (live camet))[pre.length]?.getD gap).key = kt1 at HN hkY ⊢
                  by_cases hpe : pu1 = pt1
                  · subst hpe
                    by_cases hke : ku1 = kt1
                    · subst hke
                      gi_wp2_with fail
                      refine ⟨set_from _ _ _, no_keep (by omega) _, ?_⟩
                      have hN := HN.out.1
                      have hb := hN.1.set (.int .i64 ((pre.length : Int) + 1))
                      refine ⟨?_, hN.2.set rfl _ _⟩
                      rw [List.length_append]
                      exact hb
                    · gi_wp2_with fail
                      exact ⟨set_from _ _ _, rfl, pre, x, rfl, fun e => hke (HN.out.2 e).2⟩
                  · have hpi : ¬ (pu1 : Int) = (pt1 : Int) := by omega
                    gi_wp2_with fail
                    exact ⟨set_from _ _ _, rfl, pre, x, rfl, fun e => hpe (HN.out.2 e).1⟩
                case done2 =>
                  rintro D3 ys Y hD3 rfl hI hKD3
                  have hq1 := HW.out.2.2.2.2.1
                  have lq := hq1.lt
                  have hWX := HX.out.1.size
                  have hSY : Stay W Y := hI.2.stay (HX.out.1.trans HV2.out) (fun k hk e => by omega)
                  have hqY : Boxed Y w.heap.size 4 (.bool false) := (hSY.block _ lq).trans hq1
                  have hDW := HW.out.2.2.2.2.2.2.2
                  have hDl := (Array.getElem?_eq_some_iff.1 hDW).1
                  have hDY : Y.heap[D]? = some (.deferred (some [])) := (hSY.block D hDl).trans hDW
                  have hD2l := (Array.getElem?_eq_some_iff.1 HX.out.2.1).1
                  have hD2Y : Y.heap[D2]? = some (.deferred (some [])) := hI.2.heap ((HV2.out.block D2 hD2l).trans HX.out.2.1) (by omega)
                  have hcpY := hI.2.cell hcp2 (by dsimp only; omega)
                  have cn := hI.1.cell
                  rw [List.length_range, hnn] at cn
                  have hSwY := HW.out.2.2.2.2.2.2.1.trans hSY
                  have HY2 : Hid (Boxed Y w.heap.size 4 (.bool false) ∧ Stay w Y ∧ Y.heap[D]? = some (.deferred (some [])) ∧ Y.heap[D2]? = some (.deferred (some [])) ∧ Y.heap[D3]? = some (.deferred (some []))) := ⟨hqY, hSwY, hDY, hD2Y, hKD3⟩
                  have hd2g := HX.out.2.2.1
                  clear hI hq1 hSY hqY hDW hDY hD2Y hSwY hKD3 hi2 hTu2 hN0 hcp2 hct2
                  gi_wp2_with fail
                  refine ⟨trivial, ?_⟩
                  refine CallsIn.mono (callsIn_wide.2 (known_any _)) ?_
                  rintro e9 W2 ⟨rfl, hS2⟩
                  obtain ⟨hqY, hSwY, hDY, hD2Y, hD3Y⟩ := HY2.out
                  have hq2 : Boxed W2 w.heap.size 4 (.bool false) := (hS2.block _ hqY.lt).trans hqY
                  have g1 := (hS2.block D (Array.getElem?_eq_some_iff.1 hDY).1).trans hDY
                  have g2 := (hS2.block D2 (Array.getElem?_eq_some_iff.1 hD2Y).1).trans hD2Y
                  have g3 := (hS2.block D3 (Array.getElem?_eq_some_iff.1 hD3Y).1).trans hD3Y
                  have hSw2 := hSwY.trans hS2
                  have cq := hq2.cell
                  have fq := hq2.frozen
                  have k1 := (KeepsOthers.setCell W2 ⟨w.heap.size, 0, none⟩ (.bool true)).same D _ g1 rfl
                  have k2 := (KeepsOthers.setCell W2 ⟨w.heap.size, 0, none⟩ (.bool true)).same D2 _ g2 rfl
                  have k3 := (KeepsOthers.setCell W2 ⟨w.heap.size, 0, none⟩ (.bool true)).same D3 _ g3 rfl
                  have hfin := gi_end3 (W2.setCell ⟨w.heap.size, 0, none⟩ (.bool true)) D D2 D3 w.heap.size w k1 k2 k3 (by omega) (by omega) (by omega) (World.cell?_setCell_same' W2 ⟨w.heap.size, 0, none⟩ (.bool true) (by rw [cq]; rfl)) (Below.setCell hSw2 (p := ⟨w.heap.size, 0, none⟩) (Nat.le_refl _) _) (by omega) (by omega) (by omega)
                  have HF : Hid _ := hfin
                  clear hq2 hqY hSwY hDY hD2Y hD3Y g1 g2 g3 k1 k2 k3 hfin hS2 hSw2
                  gi_wp2
                  refine ⟨by simp, .inl ⟨_, _, rfl, run_takeDeferred HF.out.1, ⟨by simp, .inl ⟨_, _, rfl, run_takeDeferred HF.out.2.1, ⟨by simp, .inl ⟨_, _, rfl, run_takeDeferred HF.out.2.2.1, ?_⟩⟩⟩⟩⟩⟩
                  refine ⟨.bool true, ?_, rfl, HF.out.2.2.2.2⟩
                  simp [results, Try.results7, go_sem, HF.out.2.2.2.1]
end Go.Proofs.Ytaikoinakieacaa.I
