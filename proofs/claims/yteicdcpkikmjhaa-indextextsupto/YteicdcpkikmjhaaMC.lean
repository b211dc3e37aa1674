/- IndexTexts, walked. -/
import Derived.Test.YteicdcpkikmjhaaMD
import Derived.Test.YteicdcpkikmjhaaJBs
import Derived.Test.YteicdcpkikmjhaaIS
import Derived.Test.YteicdcpkikmjhaaQR
import Derived.Sort.CutIn
import Derived.Sort.QuietIn
import Derived.Lib.Builder
namespace Go.Proofs.Yteicdcpkikmjhaa.S
open Go.RowKit Go.Maps Go.Shelf Go.Proofs.Yteicdcpkikmjhaa
attribute [local go_sem] Oper.semAt_some

/-- A list of texts in memory; one of bools. -/
def StrsS (w : World) (a : Option Addr) (b off : Nat) (l : List ByteArray) : Prop :=
  (0 < l.length → a = some ⟨b, off, none⟩) ∧ ∀ j (h : j < l.length), w.cell? ⟨b, off + j, none⟩ = some (.string l[j])
def BoolsS (w : World) (a : Option Addr) (b off : Nat) (l : List Bool) : Prop :=
  (0 < l.length → a = some ⟨b, off, none⟩) ∧ ∀ j (h : j < l.length), w.cell? ⟨b, off + j, none⟩ = some (.bool l[j])

def plainly (Q : Exit → Act → World → Prop) : Exit → Act → World → Prop
  | .normal, a, w => Q .normal a w
  | _, _, _ => False
theorem wp_plainly {F : Fence} {n : Nat} {P : Program} {c : Code} {Q : Exit → Act → World → Prop} {a : Act} {w : World} (h : c.wpIn F n P (plainly Q) a w) : c.wpIn F n P Q a w :=
  wpIn_mono h (fun e a w h => by cases e <;> first | exact h | exact h.elim)

/-- What stands between two rounds. -/
def TI (w wr : World) (bt Bq Bn Bl : Nat) (i : Nat) : Prop := ∃ Fo vN vL P, TX w wr bt Bq Bn Bl Fo vN vL P (P.map (·.1)) (P.map (·.2)) i ∧ ∀ x ∈ P, KeyOk x.1

theorem neq_same (b : Nat) (W : World) : (binOp .neq 72 (.pointer (some ⟨b, 0, none⟩)) (.pointer (some ⟨b, 0, none⟩))).run Try.prog W = .ok (.bool false) W := by
  obtain ⟨i0, hi, _⟩ := info_parts infoInt
  exact Go.Lib.run_neq_ptr_same W _ Try.underlying72 hi
theorem infoStr : (Try.prog.info? 9).map (fun i => (i.zero, i.size, i.bytes)) = some (some (.string ⟨#[]⟩), 1, 16) := by kernel_rfl
theorem infoList : (Try.prog.info? 47).map (fun i => (i.zero, i.size, i.bytes)) = some (some (.slice none 0 0), 1, 24) := by kernel_rfl

theorem eql_seqs (g : Nat) (lb : Array Value) (w : World) : (binOp .eql 76 (.func (.func g) #[] lb) .nilFunc).run Try.prog w = .ok (.bool false) w := by kernel_rfl

theorem Turn.putObj1 (W : World) (D : Nat) (o : Obj) : Turn (fun k => k = D) W (W.putObj D o) := by
  have h := grownBy_putObj' W D o
  exact ⟨h.os, h.tape, h.output, h.size, fun k hk hn => h.block k hk (fun e => hn (by cases e; rfl))⟩
/-- The end of a function with one loop over a function. -/
theorem gi_end1 (W : World) (D Bq : Nat) (w : World) (h1 : W.heap[D]? = some (.deferred (some []))) {v : Value} (hc : W.cell? ⟨Bq, 0, none⟩ = some v) (hB : Stay w W) (hd : w.heap.size ≤ D) :
    (W.putObj D (.deferred none)).cell? ⟨Bq, 0, none⟩ = some v ∧ Stay w (W.putObj D (.deferred none)) := by
  have t1 := Turn.putObj1 W D (.deferred none)
  have hb1 : Bq ≠ D := fun e => by subst e; simp [World.cell?, h1] at hc
  exact ⟨t1.cell hc hb1, t1.stay hB (fun k hk e => by omega)⟩
/-- The state of the last loop. -/
def NI (V X : World) (Bn : Nat) (pre : List Nat) : Prop := Boxed X Bn 3 (.int .i64 (pre.length : Int)) ∧ Turn (fun k => k = Bn) V X
theorem NI.own {V : World} {Bn : Nat} : OwnFrom V.heap.size (fun pre X => NI V X Bn pre) := by
  intro pre W W' row h hg hr
  have ht : Turn (fun k => some k = row) W W' := ⟨hg.os, hg.tape, hg.output, hg.size, fun k hk hn => hg.block k hk hn⟩
  refine ⟨ht.heap h.1 (fun e => ?_), h.2.then ht (fun k hk e => ?_)⟩
  · obtain ⟨_, o, ho, hic⟩ := hr Bn e.symm
    rw [show W.heap[Bn]? = _ from h.1] at ho; simp only [Option.some.injEq] at ho; subst ho; simp [Obj.isCells] at hic
  · have := (hr k e.symm).1; omega
theorem no_bump {B : Nat} (W : World) (l : Nat) (o o' : Obj) (_ : B ≤ l) (h : W.heap[l]? = some o) (hc : o.isCells = false) (_ : o.isWalk = false) : Keep B (fun _ _ => False) W (W.putObj l o') := by
  have hg := grownBy_putObj' W l o'
  refine ⟨hg.size, fun k cs t f _ hk _ => (hg.block k (Array.getElem?_eq_some_iff.1 hk).1 (fun e => ?_)).trans hk, fun k hm => hm.elim⟩
  cases e; rw [hk] at h; simp only [Option.some.injEq] at h; subst h; simp [Obj.isCells] at hc
theorem turn_keep {B : Nat} {S : Nat → Prop} {W W' : World} (h : Turn S W W') (hb : ∀ k, S k → k < B) : KeepsFrom B W W' ∧ Keep B (fun _ _ => False) W W' :=
  ⟨⟨h.size, fun k o hk hc _ => h.heap hc (fun e => by have := hb k e; omega)⟩, ⟨h.size, fun k cs t f hk hc _ => h.heap hc (fun e => by have := hb k e; omega), fun k hm => hm.elim⟩⟩

theorem TX.up {w wr : World} {bt Bq Bn Bl : Nat} {Fo : Nat → Prop} {vN vL : Value} {P : List Pr} {A : List ByteArray} {C : List Vl} {c : Nat} (h : TX w wr bt Bq Bn Bl Fo vN vL P A C c) : TX w wr bt Bq Bn Bl Fo vN vL P A C (c + 1) := by
  obtain ⟨cv, pb, N, len, reach, came, places, h1, h2, h3, h4⟩ := h.pt
  exact { h with pt := ⟨cv, pb, N, len, reach, came, places, h1, by omega, h3, h4⟩ }

set_option maxRecDepth 100000 in
set_option maxHeartbeats 4000000 in
theorem texts_any (w : World) (ka : Option Addr) (kb ko kc : Nat) (keys : List ByteArray) (hK : StrsS w ka kb ko keys) (hKo : ∀ k ∈ keys, KeyOk k) (ga : Option Addr) (gb go' gc : Nat) (gone : List Bool) (hG : BoolsS w ga gb go' gone)
    (hkl : keys.length ≤ 1048576) :
    CallsIn Fence.wide 9 Try.prog 5 #[.slice ka keys.length kc, .slice ga gone.length gc] w fun e w' => e = .returned (.bool true) ∧ Stay w w' := by
  refine callsIn_of_wp_marks Try.func5 rfl trivial ?_ rfl
  simp only [Try.ntmps5, List.size_toArray, List.length_cons, List.length_nil, Nat.reduceAdd, Nat.reduceSub, Array.replicate_succ, Array.replicate_zero, List.push_toArray, List.append_toArray, List.nil_append, List.cons_append]
  gi_wp2_with fail
  refine ⟨trivial, ?_⟩
  have hnw := new_any (w := w.alloc (.cells #[.bool false] 4)) (fp := ()) trivial
  simp only [World.size_alloc] at hnw
  refine CallsIn.mono (callsIn_wide.2 hnw) ?_
  rintro e9 w4 ⟨rfl, hT4, hS4⟩
  have HA : Hid (Tab w4 (w.heap.size + 1 + 1) () (.slice none 0 0) (w.heap.size + 1) 8 0 0 [] (List.replicate 8 0) ∧ Stay (w.alloc (.cells #[.bool false] 4)) w4) := ⟨hT4, hS4⟩
  clear hnw hT4 hS4
  gi_wp2_with fail
  have H0 : Hid (TX w ((w4.alloc (.cells #[.slice none 0 0] 62)).alloc (.cells #[.slice none 0 0] 69)) (w.heap.size + 1 + 1) w.heap.size w4.heap.size (w4.heap.size + 1) (foot (w.heap.size + 1 + 1) (w.heap.size + 1) (.slice none 0 0)) (.slice none 0 0) (.slice none 0 0) [] [] [] 0) := by
    obtain ⟨hT4, hS4⟩ := HA.out
    have hz := hS4.size
    simp only [World.size_alloc] at hz
    have l1 := hT4.box.lt
    have l2 := hT4.lt (w.heap.size + 1) (.inl (.inr (.inl rfl)))
    have hS5 : Stay w4 ((w4.alloc (.cells #[.slice none 0 0] 62)).alloc (.cells #[.slice none 0 0] 69)) := (Stay.new _ _).alloc _
    refine ⟨⟨_, _, _, _, _, _, _, hT4.turn (S := fun _ => False) (Turn.of_stay hS5) (fun _ _ e => e) (fun _ _ e => e), Nat.le_refl _, rfl, fun k => Iff.rfl⟩, ⟨rfl, .inl ⟨rfl, rfl⟩⟩, ⟨rfl, .inl ⟨rfl, rfl⟩⟩, ?_, (Boxed.new w4 _ _).alloc _, ?_, fun k h => by simp [Value.ownBlock] at h, ?_, by omega, fun k h => by simp [Value.ownBlock] at h, ((Stay.new w _).trans hS4).trans hS5, fun x hx => by simp at hx⟩
    · exact ((hS4.trans hS5).block _ (by simp)).trans (Boxed.new w _ _)
    · have := Boxed.new (w4.alloc (.cells #[.slice none 0 0] 62)) 69 (.slice none 0 0)
      simpa using this
    · rintro k (rfl | rfl | hk)
      · refine ⟨by omega, by omega, by omega, by omega, by simp [Value.ownBlock], by simp [Value.ownBlock]⟩
      · refine ⟨by omega, by omega, by omega, by omega, by simp [Value.ownBlock], by simp [Value.ownBlock]⟩
      · simp [Value.ownBlock] at hk
  generalize (w4.alloc (.cells #[.slice none 0 0] 62)).alloc (.cells #[.slice none 0 0] 69) = W0 at H0 ⊢
  generalize foot (w.heap.size + 1 + 1) (w.heap.size + 1) (.slice none 0 0) = Fo0 at H0
  generalize hBt : w.heap.size + 1 + 1 = bt at H0 ⊢
  generalize w4.heap.size + 1 = Bl at H0 ⊢
  generalize w4.heap.size = Bn at H0 ⊢
  have hkcell : ∀ (W : World), Stay w W → ∀ i (h : i < keys.length), W.cell? ⟨kb, ko + i, none⟩ = some (.string keys[i]) := fun W hT i h => hT.cell (hK.2 i h)
  have hgcell : ∀ (W : World), Stay w W → ∀ i (h : i < gone.length), W.cell? ⟨gb, go' + i, none⟩ = some (.bool gone[i]) := fun W hT i h => hT.cell (hG.2 i h)
  have HKC : Hid _ := And.intro hkcell hgcell
  have HKA : Hid ((0 < keys.length → ka = some ⟨kb, ko, none⟩) ∧ (0 < gone.length → ga = some ⟨gb, go', none⟩)) := ⟨hK.1, hG.1⟩
  have HKO : Hid (∀ k ∈ keys, KeyOk k) := hKo
  clear hkcell hgcell hK hG hKo HA hBt
  gi_loopw [9] (fun ui wr => ∃ i : Nat, i ≤ keys.length ∧ ui = .int .i64 (i : Int) ∧ TI w wr bt w.heap.size Bn Bl i) (fun ui _ => keys.length - (intOf ui).toNat)
  case atStart => exact ⟨0, Nat.zero_le _, rfl, _, _, _, [], H0.out, fun x hx => by simp at hx⟩
  case round =>
    obtain ⟨i, hi, rfl, hI⟩ := hrel
    rename World => w1
    by_cases hlt : i < keys.length
    · obtain rfl := HKA.out.1 (by omega)
      obtain ⟨Fo, vN, vL, P, hX, hPk⟩ := hI
      have hkc := HKC.out.1 w1 hX.stay i hlt
      have hil : (i : Int) < (keys.length : Int) := by omega
      have HX : Hid (TX w w1 bt w.heap.size Bn Bl Fo vN vL P (P.map (·.1)) (P.map (·.2)) i ∧ ∀ x ∈ P, KeyOk x.1) := ⟨hX, hPk⟩
      have hpl : P.length ≤ 1048576 := by have := hX.pt.few; omega
      clear hX hPk
      gi_wp2_with fail
      gi_loopw [10, 11] (fun ua uk wx => ∃ k : Nat, k ≤ P.length ∧ uk = .int .i64 (k : Int) ∧ Stay w1 wx ∧ ((ua = .int .i64 (-1) ∧ ∀ (j : Nat) (x : Pr), j < k → P[j]? = some x → x.1 ≠ keys[i]) ∨ ∃ (j : Nat) (x : Pr), j < k ∧ P[j]? = some x ∧ x.1 = keys[i] ∧ ua = .int .i64 (j : Int))) (fun _ uk _ => P.length - (intOf uk).toNat)
      case atStart => exact ⟨0, Nat.zero_le _, rfl, Stay.refl _, .inl ⟨rfl, fun j x h => by omega⟩⟩
      case round =>
        obtain ⟨k, hk, rfl, hSx, hat⟩ := hrel
        by_cases hkl2 : k < P.length
        · have hcn := hSx.cell HX.out.1.boxN.cell
          obtain ⟨g, cap, hvN⟩ : ∃ g cap, vN = .slice (some ⟨g, 0, none⟩) P.length cap := by
            rcases HX.out.1.rowN.2 with ⟨_, h0⟩ | ⟨g, cap, _, h0, _⟩
            · simp at h0; rw [h0] at hkl2; simp at hkl2
            · exact ⟨g, cap, by simpa using h0⟩
          have hrow := HX.out.1.rowN
          rw [hvN] at hcn hrow
          have hnc : wr.cell? ⟨g, k, none⟩ = some (.string (P[k]).1) := hSx.cell (row_cell (n := P.length) (by simpa using hrow) k _ (by simp [hkl2]))
          have hkx := hSx.cell hkc
          have hki : (k : Int) < (P.length : Int) := by omega
          have HS : Hid (Stay w1 wr) := hSx
          have HAT : Hid _ := hat
          clear hrow hSx hat
          have hfw : ∀ f, Fence.wide.fn f := fun _ => trivial
          by_cases heq : (P[k]).1 = keys[i]
          · have hbeq : ((P[k]).1.toList == keys[i].toList) = true := by rw [heq]; simp
            gi_wp2_with fail
            gi_quiet ((fail))
            gi_wp2_with fail
            go_roundw
            case rel => exact ⟨k + 1, by omega, by simp, HS.out.trans (Stay.drewN _ _), .inr ⟨k, P[k], by omega, List.getElem?_eq_getElem hkl2, heq, rfl⟩⟩
            case measure => simp [intOf]; omega
          · have hbeq : ((P[k]).1.toList == keys[i].toList) = false := by
              cases h0 : ((P[k]).1.toList == keys[i].toList) with
              | false => rfl
              | true => exact (heq (sm_eq (fp := ()) h0)).elim
            gi_wp2_with fail
            gi_quiet ((fail))
            gi_wp2_with fail
            go_roundw
            case rel =>
              refine ⟨k + 1, by omega, by simp, HS.out.trans (Stay.drewN _ _), ?_⟩
              rcases HAT.out with ⟨h1, h2⟩ | ⟨j, x, h1, h2, h3, h4⟩
              · refine .inl ⟨h1, fun j x hj hx => ?_⟩
                by_cases hjk : j = k
                · subst hjk
                  rw [List.getElem?_eq_getElem hkl2] at hx
                  simp only [Option.some.injEq] at hx
                  rw [← hx]; exact heq
                · exact h2 j x (by omega) hx
              · exact .inr ⟨j, x, by omega, h2, h3, h4⟩
            case measure => simp [intOf]; omega
        · obtain rfl : k = P.length := by omega
          have hX := HX.out.1.go hSx
          have hPk := HX.out.2
          clear HX hkc
          have hcn := hX.boxN.cell
          obtain ⟨aN, cN, hvN⟩ : ∃ a cN, vN = .slice a P.length cN := by
            rcases hX.rowN.2 with ⟨h1, h0⟩ | ⟨g, cap, _, h0, _⟩
            · exact ⟨none, 0, by rw [h1, show P.length = 0 by simpa using h0]⟩
            · exact ⟨_, cap, by simpa using h0⟩
          have hki : ¬ (P.length : Int) < (P.length : Int) := by omega
          have hkc := HKC.out.1 wr hX.stay i hlt
          have HX : Hid (TX w wr bt w.heap.size Bn Bl Fo vN vL P (P.map (·.1)) (P.map (·.2)) i ∧ ∀ x ∈ P, KeyOk x.1) := ⟨hX, hPk⟩
          have HAT : Hid _ := hat
          have HPK : Hid (∀ x ∈ P, KeyOk x.1) := HX.out.2
          have hz := HX.out.1.stay.size
          clear hX hPk hat hSx
          rename World => w2
          by_cases hgo : ∃ h : i < gone.length, gone[i] = true
          · obtain ⟨hgl, hgv⟩ := hgo
            obtain rfl := HKA.out.2 (by omega)
            have hgc := HKC.out.2 w2 HX.out.1.stay i hgl
            rw [hgv] at hgc
            have hig : (i : Int) < (gone.length : Int) := by omega
            rcases HAT.out with ⟨rfl, hno⟩ | ⟨j, x, hj, hPj, hxk, rfl⟩
            · have htk := HX.out.1.pt.take_no keys[i] (HKO.out _ (List.getElem_mem hlt)) (fun j x h => hno j x (List.getElem?_eq_some_iff.1 h).1 h)
              clear hno HAT
              gi_wp2_with fail
              refine ⟨trivial, ?_⟩
              refine CallsIn.mono (callsIn_wide.2 htk) ?_
              rintro e9 w9 ⟨rfl, n9, rfl⟩
              have hfw : ∀ f, Fence.wide.fn f := fun _ => trivial
              have hS9 : Stay w2 (w2.drewN n9) := Stay.drewN _ _
              generalize w2.drewN n9 = w9 at hS9 ⊢
              clear htk hgc hkc hcn
              gi_wp2_with fail
              gi_quiet ((fail))
              gi_wp2_with fail
              go_roundw
              case rel => exact ⟨i + 1, by omega, by simp, _, _, _, P, ((HX.out.1.go hS9).go (Stay.drewN _ _)).up, HX.out.2⟩
              case measure => simp [intOf]; omega
            · have htk := HX.out.1.pt.take_at hPj (HX.out.2 x (List.mem_of_getElem? hPj))
              obtain ⟨b, hb⟩ := HX.out.1.vals x.2 (List.mem_map_of_mem (List.mem_of_getElem? hPj))
              rw [hxk, hb] at htk
              dsimp only at htk
              gi_wp2_with fail
              refine ⟨trivial, ?_⟩
              refine CallsIn.mono (callsIn_wide.2 htk) ?_
              rintro e9 w9 ⟨rfl, Fo', hp9, ht9, hf9⟩
              have hfw : ∀ f, Fence.wide.fn f := fun _ => trivial
              have hX9 := HX.out.1.tab hp9 ht9 hf9
              obtain ⟨gL, cL, hvL⟩ : ∃ g cap, vL = .slice (some ⟨g, 0, none⟩) P.length cap := by
                rcases hX9.rowL.2 with ⟨_, h0⟩ | ⟨g, cap, _, h0, _⟩
                · simp at h0; rw [h0] at hPj; simp at hPj
                · exact ⟨g, cap, by simpa using h0⟩
              have hcl := hX9.boxL.cell
              have hrow := hX9.rowL
              rw [hvL] at hcl hrow
              have hlc : w9.cell? ⟨gL, j, none⟩ = some (slv x.2) := row_cell (n := P.length) (by simpa using hrow) j _ (by simp [hPj])
              rw [hb] at hlc
              dsimp only [slv] at hlc
              have HX9 : Hid (TX w w9 bt w.heap.size Bn Bl Fo' vN vL (P.take j ++ P.drop (j + 1)) (P.map (·.1)) (P.map (·.2)) (i + 1)) := hX9
              have hj0 : (0 : Int) ≤ (j : Int) := by omega
              have hj1 : decide ((j : Int) < 0) = false := decide_eq_false (by omega)
              have hj2 : (j : Int) < (P.length : Int) := by omega
              clear htk hgc hkc hcn hp9 ht9 hf9 hX9 hrow HAT
              have hpp := neq_same b
              gi_wp2_with fail
              gi_quiet ((fail))
              have hX10 := HX9.out.go (Stay.drewN w9 nq)
              generalize w9.drewN nq = w10 at hX10 ⊢
              obtain ⟨gN, cN', hvN'⟩ : ∃ g cap, vN = .slice (some ⟨g, 0, none⟩) P.length cap := by
                rcases hX10.rowN.2 with ⟨_, h0⟩ | ⟨g, cap, _, h0, _⟩
                · simp at h0; rw [h0] at hPj; simp at hPj
                · exact ⟨g, cap, by simpa using h0⟩
              have HX10 : Hid (TX w w10 bt w.heap.size Bn Bl Fo' vN vL (P.take j ++ P.drop (j + 1)) (P.map (·.1)) (P.map (·.2)) (i + 1)) := hX10
              have hcn10 := hX10.boxN.cell
              have hrow := hX10.rowN
              rw [hvN'] at hcn10 hrow
              simp only [List.length_map] at hrow
              obtain ⟨iS, hi, hz0, hz1, hz2⟩ := info_parts infoStr
              obtain ⟨ad2, v1, wA, a2, n2, c2, wB, hs1, hs2, hr1, hr2, hSA, hAp⟩ := cut_app w w10 Try.underlying62 hi hz0 hz1 hz2 rfl hrow hj (fun u hu => by obtain ⟨x, _, rfl⟩ := List.mem_map.1 hu; rfl) (by omega) (by decide) hX10.stay.size
              have hdA := hSA.cell hcn10
              have hset := hX10.setN (w' := wB) (v1 := .slice a2 n2 c2) (A' := (P.take j ++ P.drop (j + 1)).map (·.1)) ((Turn.of_stay hAp.stay)) (by have := hAp.row; simpa [List.map_take, List.map_drop] using this) (fun k hk => .inr (hAp.new k hk))
              have hdB := hset.1
              have hfB := hset.2.1
              have HB : Hid _ := hset.2.2
              rw [hvN'] at hdB
              clear hX10 hrow hcl hlc HX9 HX hpp hi hz0 hz1 hz2 hSA hAp hset hj2
              have hwr : IntKind.i64.wrap ((j : Int) + 1) = (j : Int) + 1 := by
                rw [IntKind.wrap_i64]; omega
              have hrB1 := and_value hr1
              have hrB2 := and_value hr2
              have HR : Hid _ := And.intro hrB1 hrB2
              clear hr1 hr2 hrB1 hrB2
              gi_wp2_with fail
              gi_cut [] from 999 (fun wx => wx = wB.setCell ⟨Bn, 0, none⟩ (.slice a2 n2 c2))
              case first =>
                refine wp_plainly ?_
                gi_region_with (first | (refine uponIn_of (Eq.trans ?_ HR.out.1) ?_; · symm; go_simp) | (refine uponIn_of (Eq.trans ?_ HR.out.2) ?_; · symm; go_simp))
                all_goals dsimp only [plainly]
                all_goals gi_wp2
                all_goals gi_meet
                all_goals rfl
              case rest =>
                have hX11 := HB.out
                rw [← hcut] at hX11
                clear hcut HB HR hdA hdB hfB hs1 hs2 hcn10
                have hcl11 := hX11.boxL.cell
                have hrow := hX11.rowL
                rw [hvL] at hcl11 hrow
                simp only [List.length_map] at hrow
                obtain ⟨iL, hi, hz0, hz1, hz2⟩ := info_parts infoList
                obtain ⟨ad3, v3, wD, a4, n4, c4, wE, hs1, hs2, hr1, hr2, hSD, hAp⟩ := cut_app w wc Try.underlying69 hi hz0 hz1 hz2 rfl hrow hj (fun u hu => by obtain ⟨x, _, rfl⟩ := List.mem_map.1 hu; rfl) (by omega) (by decide) hX11.stay.size
                have hdD := hSD.cell hcl11
                have hset := hX11.setL (w' := wE) (v1 := .slice a4 n4 c4) (C' := (P.take j ++ P.drop (j + 1)).map (·.2)) ((Turn.of_stay hAp.stay)) (by have := hAp.row; simpa [List.map_take, List.map_drop] using this) (fun k hk => .inr (hAp.new k hk)) (fun y hy => hX11.vals y (by
                  obtain ⟨z, hz, rfl⟩ := List.mem_map.1 hy
                  refine List.mem_map_of_mem ?_
                  rcases List.mem_append.1 hz with h0 | h0
                  · exact List.mem_of_mem_take h0
                  · exact List.mem_of_mem_drop h0))
                have hdB := hset.1
                have hfB := hset.2.1
                have HB : Hid _ := hset.2.2
                rw [hvL] at hdB
                clear hX11 hrow hi hz0 hz1 hz2 hSD hAp hset
                have hrB1 := and_value hr1
                have hrB2 := and_value hr2
                have HR : Hid _ := And.intro hrB1 hrB2
                clear hr1 hr2 hrB1 hrB2
                gi_wp2_with fail
                gi_cut [] from 999 (fun wx => wx = wE.setCell ⟨Bl, 0, none⟩ (.slice a4 n4 c4))
                case first =>
                  refine wp_plainly ?_
                  gi_region_with (first | (refine uponIn_of (Eq.trans ?_ HR.out.1) ?_; · symm; go_simp) | (refine uponIn_of (Eq.trans ?_ HR.out.2) ?_; · symm; go_simp))
                  all_goals dsimp only [plainly]
                  all_goals gi_wp2
                  all_goals gi_meet
                  all_goals rfl
                case rest =>
                  rename World => wc2
                  have hX12 := HB.out
                  rw [← hcut] at hX12
                  clear hcut HB HR hdD hdB hfB hs1 hs2 hcl11
                  have HX12 : Hid _ := hX12
                  clear hX12
                  gi_wp2_with fail
                  go_roundw
                  case rel =>
                    refine ⟨i + 1, by omega, by simp, _, _, _, _, HX12.out, fun y hy => ?_⟩
                    rcases List.mem_append.1 hy with h0 | h0
                    · exact HPK.out y (List.mem_of_mem_take h0)
                    · exact HPK.out y (List.mem_of_mem_drop h0)
                  case measure => simp [intOf]; omega
          · have hnot : ∀ h : i < gone.length, gone[i] = false := fun h => by
              cases h0 : gone[i] with
              | false => rfl
              | true => exact (hgo ⟨h, h0⟩).elim
            gi_upto_region 15 with fail
            gi_cut [63] from 999 (fun u63 wx => u63 = .bool false ∧ wx = w2)
            case first =>
              by_cases hgl : i < gone.length
              · obtain rfl := HKA.out.2 (by omega)
                have hgc := HKC.out.2 w2 HX.out.1.stay i hgl
                rw [hnot hgl] at hgc
                have hig : (i : Int) < (gone.length : Int) := by omega
                gi_wp2
                gi_meet
                exact ⟨rfl, rfl⟩
              · have hig : ¬ (i : Int) < (gone.length : Int) := by omega
                gi_wp2
                gi_meet
                exact ⟨rfl, rfl⟩
            case rest =>
              obtain ⟨rfl, rfl⟩ := hcut
              have hX3 := HX.out.1.go (Stay.new wc (.cells #[.int .i64 (i : Int), .int .i64 (-(i : Int))] 3))
              have hkc3 := HKC.out.1 _ hX3.stay i hlt
              have HV : Hid (two (some ⟨wc.heap.size, 0, none⟩, 2, 2)) := ⟨_, rfl⟩
              rcases HAT.out with ⟨rfl, hno⟩ | ⟨j, x, hj, hPj, hxk, rfl⟩
              · have hput := hX3.pt.put_no keys[i] (HKO.out _ (List.getElem_mem hlt)) (fun j x h => hno j x (List.getElem?_eq_some_iff.1 h).1 h) (some ⟨wc.heap.size, 0, none⟩, 2, 2) (by omega)
                dsimp only at hput
                clear hno HAT
                have HX3 : Hid (TX w (wc.alloc (.cells #[.int .i64 (i : Int), .int .i64 (-(i : Int))] 3)) bt w.heap.size Bn Bl Fo vN vL P (P.map (·.1)) (P.map (·.2)) i) := hX3
                clear hX3
                gi_wp2_with fail
                refine ⟨trivial, ?_⟩
                refine CallsIn.mono (callsIn_wide.2 hput) ?_
                rintro e9 w9 ⟨rfl, Fo', hp9, ht9, hf9⟩
                have hfw : ∀ f, Fence.wide.fn f := fun _ => trivial
                generalize wc.heap.size = bv at HV hp9 ⊢
                have HX9 : Hid (TX w w9 bt w.heap.size Bn Bl Fo' vN vL (P ++ [(keys[i], some ⟨bv, 0, none⟩, 2, 2)]) (P.map (·.1)) (P.map (·.2)) (i + 1)) := HX3.out.tab hp9 ht9 hf9
                clear hput hkc3 hp9 ht9 hf9 HX HX3
                gi_wp2_with fail
                gi_quiet ((fail))
                have hX10 := (HX9.out.go (Stay.drewN w9 nq))
                generalize w9.drewN nq = w10 at hX10 ⊢
                have hX10d : TX w w10.drew bt w.heap.size Bn Bl Fo' vN vL (P ++ [(keys[i], some ⟨bv, 0, none⟩, 2, 2)]) (P.map (·.1)) (P.map (·.2)) (i + 1) := hX10.go (Stay.drewN w10 1)
                have hkc10 := HKC.out.1 w10 hX10.stay i hlt
                have lkb := World.block_lt_of_cell? w10 _ hkc10
                have hcn10 := hX10.boxN.cell
                have lBn := hX10.boxN.lt
                have hrow := hX10d.rowN
                simp only [List.length_map] at hrow
                rw [hvN] at hcn10 hrow
                obtain ⟨iS, hi, hz0, hz1, hz2⟩ := info_parts infoStr
                obtain ⟨g1, c1, wA, hr1, ho1, ht1, hl1⟩ := app_one w w10.drew Try.underlying62 hi hz0 hz1 hz2 rfl hrow (.string keys[i]) rfl (by omega) (by decide) hX10d.stay.size
                rw [← hvN] at ht1 hl1
                have hset := hX10d.setN (w' := wA) (A' := (P ++ [((keys[i], (some ⟨bv, 0, none⟩, 2, 2)) : Pr)]).map (fun x : Pr => x.1)) ht1 (by simpa using ho1) hl1
                have hdA := hset.1
                have hfA := hset.2.1
                rw [hvN] at hdA
                have HB : Hid _ := hset.2.2
                have HR : Hid _ := and_value hr1
                clear HX9 hX10 hX10d hrow hi hz0 hz1 hz2 hr1 ho1 ht1 hl1 hset
                gi_wp2_with fail
                gi_cut [] from 999 (fun wx => wx = wA.setCell ⟨Bn, 0, none⟩ (.slice (some ⟨g1, 0, none⟩) (P.length + 1) c1))
                case first =>
                  refine wp_plainly ?_
                  gi_region_with (refine uponIn_of (Eq.trans ?_ HR.out) ?_; · symm; go_simp)
                  all_goals dsimp only [plainly]
                  all_goals gi_wp2
                  all_goals gi_meet
                  all_goals rfl
                case rest =>
                  rename World => wd
                  have hX11 := HB.out
                  rw [← hcut] at hX11
                  clear hcut HB HR hdA hfA hcn10 lBn hkc10 lkb
                  have hcl := hX11.boxL.cell
                  have hrow := hX11.rowL
                  simp only [List.length_map] at hrow
                  obtain ⟨aL, cL, hvL⟩ : ∃ a cL, vL = .slice a P.length cL := by
                    rcases hrow.2 with ⟨h1, h0⟩ | ⟨g, cap, _, h0, _⟩
                    · exact ⟨none, 0, by rw [h1, h0]⟩
                    · exact ⟨_, cap, h0⟩
                  rw [hvL] at hcl hrow
                  obtain ⟨iL, hi, hz0, hz1, hz2⟩ := info_parts infoList
                  have hown := hrow.alloc (.cells #[.slice (some ⟨bv, 0, none⟩) 2 2] 47)
                  have h63 : P.length + 1 ≤ maxLen := by unfold maxLen; omega
                  have hby : (P.length + 1) * 24 ≤ 140737488355328 := by omega
                  have hbs : w.heap.size ≤ (wd.alloc (.cells #[.slice (some ⟨bv, 0, none⟩) 2 2] 47)).heap.size := by have := hX11.stay.size; simp; omega
                  have HX11 : Hid _ := hX11
                  clear hX11 hrow
                  gi_wp2_with (gi_at_builtin; refine wpListIn_append_own_at _ rfl _ _ 69 rfl w.heap.size 47 iL (.slice none 0 0) 1 24 Try.underlying69 hi hz0 hz1 hz2 rfl (by decide) _ _ _ rfl hown ⟨wd.heap.size, 0, none⟩ 1 1 [.slice (some ⟨bv, 0, none⟩) 2 2] rfl rfl (cell_one_new _ _ _) (by simp [Value.oneCell']) h63 hby hbs ?_; intro v4 w4' hown4 hgrow4 hnil4 hloc4; obtain ⟨g4, c4, rfl⟩ := ownsRow_succ hown4; have hset := HX11.out.setL (w' := w4') (C' := (P ++ [((keys[i], (some ⟨bv, 0, none⟩, 2, 2)) : Pr)]).map (fun x : Pr => x.2)) (by rw [hvL]; exact (Turn.of_stay (Stay.new wd _)).trans (grown_turn hgrow4)) (by simpa [slv] using hown4) (by rw [hvL]; exact own_or hloc4 (by simp)) (by intro y hy; exact two_app HX11.out.vals HV.out y (by simpa using hy)); have d4 := hset.1; have f4 := hset.2.1; have H4 : Hid _ := hset.2.2; rw [hvL] at d4; clear hset hown4 hgrow4 hnil4 hloc4 hown)
                  go_roundw
                  case rel =>
                    refine ⟨i + 1, by omega, by simp, _, _, _, _, H4.out, fun y hy => ?_⟩
                    rcases List.mem_append.1 hy with h0 | h0
                    · exact HPK.out y h0
                    · simp only [List.mem_singleton] at h0
                      rw [h0]; exact HKO.out _ (List.getElem_mem hlt)
                  case measure => simp [intOf]; omega
              · have hput := hX3.pt.put_at hPj (HPK.out x (List.mem_of_getElem? hPj)) (some ⟨wc.heap.size, 0, none⟩, 2, 2)
                obtain ⟨b, hb⟩ := hX3.vals x.2 (List.mem_map_of_mem (List.mem_of_getElem? hPj))
                rw [hxk, hb] at hput
                dsimp only at hput
                have HX3 : Hid (TX w (wc.alloc (.cells #[.int .i64 (i : Int), .int .i64 (-(i : Int))] 3)) bt w.heap.size Bn Bl Fo vN vL P (P.map (·.1)) (P.map (·.2)) i) := hX3
                clear hX3 HAT
                gi_wp2_with fail
                refine ⟨trivial, ?_⟩
                refine CallsIn.mono (callsIn_wide.2 hput) ?_
                rintro e9 w9 ⟨rfl, Fo', hp9, ht9, hf9⟩
                have hfw : ∀ f, Fence.wide.fn f := fun _ => trivial
                generalize wc.heap.size = bv at HV hp9 ⊢
                have hX9 := HX3.out.tab hp9 ht9 hf9
                have HX9 : Hid (TX w w9 bt w.heap.size Bn Bl Fo' vN vL (P.set j (keys[i], some ⟨bv, 0, none⟩, 2, 2)) (P.map (·.1)) (P.map (·.2)) (i + 1)) := hX9
                obtain ⟨gL, cL, hvL⟩ : ∃ g cap, vL = .slice (some ⟨g, 0, none⟩) P.length cap := by
                  rcases hX9.rowL.2 with ⟨_, h0⟩ | ⟨g, cap, _, h0, _⟩
                  · simp at h0; rw [h0] at hPj; simp at hPj
                  · exact ⟨g, cap, by simpa using h0⟩
                have hcl := hX9.boxL.cell
                have hrow := hX9.rowL
                rw [hvL] at hcl hrow
                have hlc : w9.cell? ⟨gL, j, none⟩ = some (slv x.2) := row_cell (n := P.length) (by simpa using hrow) j _ (by simp [hPj])
                rw [hb] at hlc
                dsimp only [slv] at hlc
                have hj0 : (0 : Int) ≤ (j : Int) := by omega
                have hj1 : decide ((j : Int) < 0) = false := decide_eq_false (by omega)
                have hj2 : (j : Int) < (P.length : Int) := by omega
                have hpp := neq_same b
                clear hput hkc3 hp9 ht9 hf9 HX HX3 hX9 hrow
                gi_wp2_with fail
                gi_quiet ((fail))
                have hX10 := HX9.out.go (Stay.drewN w9 nq)
                have hcl10 : (w9.drewN nq).cell? _ = _ := hcl
                have hlc10 : (w9.drewN nq).cell? _ = _ := hlc
                generalize w9.drewN nq = w10 at hX10 hcl10 hlc10 ⊢
                have hpl2 := hX10.putL (g := gL) (cap := cL) (by rw [hvL]; simp) j (some ⟨bv, 0, none⟩, 2, 2) HV.out
                have hfz := hpl2.1
                have HP2 : Hid _ := hpl2.2
                clear HX9 hX10 hpl2 hcl hlc hpp
                gi_wp2_with fail
                go_roundw
                case rel =>
                  refine ⟨i + 1, by omega, by simp, Fo', vN, vL, P.set j (keys[i], some ⟨bv, 0, none⟩, 2, 2), ?_, fun y hy => ?_⟩
                  · have e1 : (P.set j (keys[i], (some ⟨bv, 0, none⟩, 2, 2))).map (·.1) = P.map (·.1) := by
                      rw [List.map_set]
                      apply List.ext_getElem?
                      intro q
                      by_cases hq : j = q
                      · subst hq
                        rw [List.getElem?_set_self (by simpa using hj), List.getElem?_map, hPj]
                        simp [hxk]
                      · rw [List.getElem?_set_ne hq]
                    rw [e1, List.map_set]
                    exact HP2.out
                  · rcases List.mem_or_eq_of_mem_set hy with h1 | h1
                    · exact HPK.out y h1
                    · rw [h1]; exact HKO.out _ (List.getElem_mem hlt)
                case measure => simp [intOf]; omega
    · obtain rfl : i = keys.length := by omega
      obtain ⟨Fo, vN, vL, P, hX, hPk⟩ := hI
      have HX0 : Hid (TX w w1 bt w.heap.size Bn Bl Fo vN vL P (P.map (·.1)) (P.map (·.2)) keys.length) := hX
      have hfn := eql_seqs
      clear hX hPk HKC HKA HKO
      gi_wp2_with fail
      refine ⟨trivial, ?_⟩
      refine CallsIn.mono (callsIn_wide.2 (all_any _ _)) ?_
      rintro e9 w9 ⟨rfl, rfl⟩
      have hX := HX0.out.go (Stay.new w1 (.cells #[.pointer (some ⟨bt, 0, none⟩)] 64))
      have hba : Boxed (w1.alloc (.cells #[.pointer (some ⟨bt, 0, none⟩)] 64)) w1.heap.size 64 (.pointer (some ⟨bt, 0, none⟩)) := Boxed.new w1 _ _
      have hlw : w.heap.size ≤ w1.heap.size := HX0.out.stay.size
      generalize w1.heap.size = Ba at hba hlw ⊢
      generalize w1.alloc (.cells #[.pointer (some ⟨bt, 0, none⟩)] 64) = X at hX hba ⊢
      obtain ⟨cv, pb, N, len, reach, came, places, hT, hcl0, hkv, hFo⟩ := hX.pt
      have hlen : len = P.length := by rw [hT.cnt, ← hkv, List.length_map]
      have hlnX : ∀ k, Calls Try.prog 30 #[.pointer (some ⟨bt, 0, none⟩)] (X.drewN k) fun e w' => e = .returned (.int .i64 (P.length : Int)) ∧ w' = X.drewN k := fun k => by rw [← hlen]; exact len_yes (hT.drew k)
      have hcn := hX.boxN.cell
      obtain ⟨aN, cN, hvN⟩ : ∃ a cN, vN = .slice a P.length cN := by
        rcases hX.rowN.2 with ⟨h1, h0⟩ | ⟨g, cap, _, h0, _⟩
        · exact ⟨none, 0, by rw [h1, show P.length = 0 by simpa using h0]⟩
        · exact ⟨_, cap, by simpa using h0⟩
      rw [hvN] at hcn
      have hfw : ∀ f, Fence.wide.fn f := fun _ => trivial
      have HX : Hid (TX w X bt w.heap.size Bn Bl Fo vN vL P (P.map (·.1)) (P.map (·.2)) keys.length ∧ Boxed X Ba 64 (.pointer (some ⟨bt, 0, none⟩)) ∧ Tab X bt () cv pb N len reach came places ∧ (live came).map kv = P) := ⟨hX, hba, hT, hkv⟩
      have hpl : P.length ≤ 1048576 := by have := hX.pt.few; omega
      have hcam : came.length ≤ 68719476736 := by omega
      clear hX hba hT hlen HX0 hkv hFo hcl0
      gi_wp2_with fail
      gi_quiet ((gi_at_call 30; exact CallsIn.quiet_of_same (callsIn_wide.2 (hlnX _))))
      have hXY := HX.out.1.go (Stay.drewN X nq)
      have hbY : Boxed (X.drewN nq) Ba 64 (.pointer (some ⟨bt, 0, none⟩)) := HX.out.2.1
      have hTY := HX.out.2.2.1.drew nq
      have hkv := HX.out.2.2.2
      clear hlnX hcn HX
      generalize X.drewN nq = Y at hXY hbY hTY ⊢
      have hXV := hXY.go (Stay.new Y (.cells #[.int .i64 0] 3))
      have hTV := hTY.turn (S := fun _ => False) (Turn.of_stay (Stay.new Y (.cells #[.int .i64 0] 3))) (fun _ _ e => e) (fun _ _ e => e)
      have hbV : Boxed (Y.alloc (.cells #[.int .i64 0] 3)) Ba 64 (.pointer (some ⟨bt, 0, none⟩)) := hbY.alloc _
      have hnV : Boxed (Y.alloc (.cells #[.int .i64 0] 3)) Y.heap.size 3 (.int .i64 0) := Boxed.new Y _ _
      have hzV : (Y.alloc (.cells #[.int .i64 0] 3)).heap.size = Y.heap.size + 1 := by simp
      have hlY : w.heap.size ≤ Y.heap.size := hXY.stay.size
      have HE : Hid (TX w (Y.alloc (.cells #[.int .i64 0] 3)) bt w.heap.size Bn Bl Fo vN vL P (P.map (·.1)) (P.map (·.2)) keys.length ∧ ¬ Fo Y.heap.size ∧ Y.heap.size ≠ w.heap.size ∧ Y.heap.size ≠ Bn ∧ Y.heap.size ≠ Bl ∧ vN.ownBlock ≠ some Y.heap.size ∧ vL.ownBlock ≠ some Y.heap.size) :=
        ⟨hXV, fun h => Nat.lt_irrefl _ (hXY.pt.lt _ h), Nat.ne_of_gt hXY.q.lt, Nat.ne_of_gt hXY.boxN.lt, Nat.ne_of_gt hXY.boxL.lt, fun e => by have := (hXY.rowN.lt _ e).2; omega, fun e => by have := (hXY.rowL.lt _ e).2; omega⟩
      have HKV : Hid ((live came).map kv = P) := hkv
      clear hXY hbY hTY hXV hkv
      gi_wp2_with fail
      generalize Y.alloc (.cells #[.int .i64 0] 3) = V at hTV hbV hnV hzV HE ⊢
      generalize Y.heap.size = B3 at hnV hzV hlY HE ⊢
      have hN0 : NI V V B3 [] := ⟨hnV, Turn.refl _ _⟩
      have hB3 : B3 < V.heap.size := by omega
      have hll : (live came).length = P.length := by rw [← HKV.out, List.length_map]
      refine' wpIn_rangeFunc_ownG (α := Nat) rfl (by decide) (gf := 66) (lb := #[.pointer (some ⟨Ba, 0, none⟩)]) rfl trivial (enters_of Try.func66 (by kernel_rfl) rfl)
        (all_stops (9 - 1) (by decide) Ba (fun _ _ => False) V hbV.cell hTV hcam (fun _ _ _ hm => hm.elim) (fun _ _ _ _ hm => hm)) (fun h k => h.trans k) no_bump (Below.refl _ _) (fun _ => rfl)
        (fun pre X => NI V X B3 pre) (fun c pre _ => c = .ret ∧ ∃ q x, pre = q ++ [x] ∧ x ≠ q.length) NI.own (fun _ _ _ _ _ hs _ _ => hs) hN0 _ ?assign ?body ?done ?stop
      case assign =>
        intro l x X K hK
        dsimp only [encsL]
        gi_wp2
        exact hK
      case stop =>
        rintro D3 c pre X hD3 ⟨k, hk, hpre⟩ ⟨rfl, q, x, hq, hx⟩ hK3
        exfalso
        rw [hpre] at hq
        cases k with
        | zero => simp at hq
        | succ k =>
          rw [List.range_succ] at hq
          have := List.append_inj' hq rfl
          have h1 := congrArg List.length this.1
          have h2 := this.2
          simp at h1 h2
          omega
      case body =>
        intro l pre x X hI hlt5
        rw [hll] at hlt5
        have hXX := HE.out.1.turn hI.2 (fun k hk e => by
          have e' : k = B3 := e
          have hE := HE.out
          subst e'
          exact ⟨by omega, hE.2.1, hE.2.2.1, hE.2.2.2.1, hE.2.2.2.2.1, hE.2.2.2.2.2.1, hE.2.2.2.2.2.2⟩)
        obtain ⟨gN, cN', hvN'⟩ : ∃ g cap, vN = .slice (some ⟨g, 0, none⟩) P.length cap := by
          rcases hXX.rowN.2 with ⟨_, h0⟩ | ⟨g, cap, _, h0, _⟩
          · simp at h0; rw [h0] at hlt5; simp at hlt5
          · exact ⟨g, cap, by simpa using h0⟩
        obtain ⟨gL, cL, hvL⟩ : ∃ g cap, vL = .slice (some ⟨g, 0, none⟩) P.length cap := by
          rcases hXX.rowL.2 with ⟨_, h0⟩ | ⟨g, cap, _, h0, _⟩
          · simp at h0; rw [h0] at hlt5; simp at hlt5
          · exact ⟨g, cap, by simpa using h0⟩
        have hcn := hXX.boxN.cell
        have hrN := hXX.rowN
        rw [hvN'] at hcn hrN
        have hnc : X.cell? ⟨gN, pre.length, none⟩ = some (.string (P[pre.length]).1) := row_cell (n := P.length) (by simpa using hrN) _ _ (by simp [hlt5])
        have hclx := hXX.boxL.cell
        have hrL := hXX.rowL
        rw [hvL] at hclx hrL
        have hlc : X.cell? ⟨gL, pre.length, none⟩ = some (slv (P[pre.length]).2) := row_cell (n := P.length) (by simpa using hrL) _ _ (by simp [hlt5])
        obtain ⟨b, hb⟩ := hXX.vals (P[pre.length]).2 (List.mem_map_of_mem (List.getElem_mem hlt5))
        rw [hb] at hlc
        dsimp only [slv] at hlc
        have cn3 := hI.1.cell
        have fn3 := hI.1.frozen
        have cq := hXX.q.cell
        have fq := hXX.q.frozen
        have hge : decide ((P.length : Int) ≤ (pre.length : Int)) = false := decide_eq_false (by omega)
        have hge3 : decide (P.length ≤ pre.length) = false := decide_eq_false (by omega)
        have hge2 : (pre.length : Int) < (P.length : Int) := by omega
        have hpp := neq_same b
        have HXE : Hid ((x = pre.length → kv ((live came)[x]?.getD gap) = P[pre.length]) ∧ (x ≠ pre.length → ((live came)[x]?.getD gap).key = (P[pre.length]).1 → ((live came)[x]?.getD gap).val = (none, 0, 0))) := by
          have hPx : ∀ y (h : y < P.length), kv ((live came)[y]?.getD gap) = P[y] := fun y h => by
            have h1 : ((live came).map kv)[y]? = P[y]? := by rw [HKV.out]
            rw [List.getElem?_map, List.getElem?_eq_getElem h, List.getElem?_eq_getElem (by omega)] at h1
            rw [List.getElem?_eq_getElem (by omega), Option.getD_some]
            simpa using h1
          refine ⟨fun e => by subst e; exact hPx _ hlt5, fun hne hk => ?_⟩
          by_cases hxl : x < P.length
          · exfalso
            apply hne
            have h2 := hPx x hxl
            exact hXX.pt.uniq (List.getElem?_eq_getElem hxl) (List.getElem?_eq_getElem hlt5) (by rw [← h2]; exact hk)
          · rw [List.getElem?_eq_none (by omega)]
            rfl
        have HNI : Hid (NI V X B3 pre) := hI
        have hqV : w.heap.size < V.heap.size := by omega
        try dsimp only [encsL] at ⊢
        generalize ((live came)[x]?.getD gap) = ent at HXE ⊢
        obtain ⟨ek, ev, eh, ep, et⟩ := ent
        dsimp only [kv] at HXE ⊢
        generalize P[pre.length] = px at hnc hb HXE
        obtain ⟨pk, pv⟩ := px
        dsimp only at hnc hb HXE
        subst hb
        clear hXX hrN hrL hI hvN hvN' hvL hTV hbV hnV hN0
        have hfin : ∀ (nq : Nat) (v : Value), KeepsFrom V.heap.size X ((X.drewN nq).setCell ⟨w.heap.size, 0, none⟩ v) := fun nq v => (turn_keep (((Turn.of_stay (Stay.drewN X nq)) : Turn (fun k => k = w.heap.size) X _).set (g := w.heap.size) rfl 0 v) (fun k hk => by omega)).1
        by_cases hx : x = pre.length
        · have he := HXE.out.1 hx
          simp only [Prod.mk.injEq] at he
          obtain ⟨rfl, rfl⟩ := he
          have hbeq : (ek.toList == ek.toList) = true := by simp
          gi_wp2
          refine round_quiet_lit (F := Fence.wide) rfl (by kernel_rfl) (by kernel_rfl) (by kernel_rfl) ?_
          repeat (gi_big_quiet_step (fail))
          refine wpQuietIn_nil ?_
          intro _ hw'
          obtain ⟨nq, hw''⟩ := hw'
          subst hw''
          gi_wp2
          have hN := HNI.out
          have hT1 : Turn (fun k => k = B3) X ((X.drewN nq).setCell ⟨B3, 0, none⟩ (.int .i64 ((pre.length : Int) + 1))) := ((Turn.of_stay (Stay.drewN X nq)) : Turn (fun k => k = B3) X _).set (g := B3) rfl 0 _
          have hk := turn_keep (B := V.heap.size) hT1 (fun k hk => by omega)
          refine ⟨hk.1, hk.2, ?_, hN.2.trans hT1⟩
          have hb := (show Boxed (X.drewN nq) B3 3 _ from hN.1).set (.int .i64 ((pre.length : Int) + 1))
          rw [List.length_append]
          exact hb
        · by_cases hke : ek = pk
          · have hev := HXE.out.2 hx hke
            subst hke
            subst hev
            have hbeq : (ek.toList == ek.toList) = true := by simp
            gi_wp2
            refine round_quiet_lit (F := Fence.wide) rfl (by kernel_rfl) (by kernel_rfl) (by kernel_rfl) ?_
            repeat (gi_big_quiet_step (fail))
            refine wpQuietIn_nil ?_
            intro _ hw'
            obtain ⟨nq, hw''⟩ := hw'
            subst hw''
            gi_wp2
            exact ⟨hfin _ _, rfl, pre, x, rfl, hx⟩
          · have hbeq : (ek.toList == pk.toList) = false := by
              cases h0 : (ek.toList == pk.toList) with
              | false => rfl
              | true => exact (hke (sm_eq (fp := ()) h0)).elim
            gi_wp2
            refine round_quiet_lit (F := Fence.wide) rfl (by kernel_rfl) (by kernel_rfl) (by kernel_rfl) ?_
            repeat (gi_big_quiet_step (fail))
            refine wpQuietIn_nil ?_
            intro _ hw'
            obtain ⟨nq, hw''⟩ := hw'
            subst hw''
            gi_wp2
            exact ⟨hfin _ _, rfl, pre, x, rfl, hx⟩
      case done =>
        rintro D ys X hD rfl hI hKD
        have hXX := HE.out.1.turn hI.2 (fun k hk e => by
          have e' : k = B3 := e
          have hE := HE.out
          subst e'
          exact ⟨by omega, hE.2.1, hE.2.2.1, hE.2.2.2.1, hE.2.2.2.2.1, hE.2.2.2.2.2.1, hE.2.2.2.2.2.2⟩)
        have cn3 := hI.1.cell
        rw [List.length_range, hll] at cn3
        have hcn := hXX.boxN.cell
        rw [hvN] at hcn
        have HXX : Hid _ := And.intro hXX hKD
        clear hXX hKD hI hTV hbV hnV hN0 hfw
        gi_wp2_with fail
        refine ⟨trivial, ?_⟩
        refine CallsIn.mono (callsIn_wide.2 (I.known_any _)) ?_
        rintro e9 W2 ⟨rfl, hS2⟩
        obtain ⟨hXX, hKD⟩ := HXX.out
        have hq2 : Boxed W2 w.heap.size 4 (.bool false) := (hS2.block _ hXX.q.lt).trans hXX.q
        have hK2 : W2.heap[D]? = some (.deferred (some [])) := (hS2.block D (Array.getElem?_eq_some_iff.1 hKD).1).trans hKD
        have hSw2 := hXX.stay.trans hS2
        have cq := hq2.cell
        have fq := hq2.frozen
        have hK3 := (KeepsOthers.setCell W2 ⟨w.heap.size, 0, none⟩ (.bool true)).same D _ hK2 rfl
        have hfin := gi_end1 (W2.setCell ⟨w.heap.size, 0, none⟩ (.bool true)) D w.heap.size w hK3 (World.cell?_setCell_same' W2 ⟨w.heap.size, 0, none⟩ (.bool true) (by rw [cq]; rfl)) (Below.setCell hSw2 (p := ⟨w.heap.size, 0, none⟩) (Nat.le_refl _) _) (by omega)
        have HF : Hid _ := And.intro hK3 hfin
        clear hXX hKD hq2 hK2 hSw2 hK3 hfin hS2 hcn cn3
        gi_wp2
        refine ⟨by simp, .inl ⟨_, _, rfl, run_takeDeferred HF.out.1, ?_⟩⟩
        refine ⟨.bool true, ?_, rfl, HF.out.2.2⟩
        simp [results, Try.results5, go_sem, HF.out.2.1]
end Go.Proofs.Yteicdcpkikmjhaa.S
