/- next. -/
import Derived.Test.YtioafeckaeaopaaDoorXQa
import Derived.Test.YtioafeckaeaopaaDoorXQb
namespace Go.Proofs.YtioafeckaeaopaaDoor
open Go.RowKit Go.Maps

theorem wp_of_normal {P : Program} {c : Code} {Q : Exit → Act → World → Prop} {a : Act} {w : World} (h : c.wp P (Exit.then (fun a' w' => Q .normal a' w') fun _ _ _ => False) a w) : c.wp P Q a w :=
  wp_mono h fun e a' w' hq => by
    cases e with
    | normal => exact hq
    | _ => exact hq.elim
section
variable {W X : World} {b : Nat} {s : ByteArray} {far : Nat} {o : Tok} {B : Nat} {t : Tok}
theorem Nt.at2 (h : Nt W X b s far o B t) (hb : b < W.heap.size) (v : Nat) : Nt W (X.setCell ⟨B, 2, none⟩ (.int .i64 (v : Int))) b s far o B ⟨t.kind, t.text, v, t.fin⟩ := by
  refine ⟨h.1.store h.2.1 hb 2 _, h.2.1, ?_⟩
  rw [heap_setCell_same X B 2 _ _ _ h.2.2]
  rfl
theorem Nt.fin3 (h : Nt W X b s far o B t) (hb : b < W.heap.size) (v : Nat) : Nt W (X.setCell ⟨B, 3, none⟩ (.int .i64 (v : Int))) b s far o B ⟨t.kind, t.text, t.at_, v⟩ := by
  refine ⟨h.1.store h.2.1 hb 3 _, h.2.1, ?_⟩
  rw [heap_setCell_same X B 3 _ _ _ h.2.2]
  rfl
theorem Nt.draw (h : Nt W X b s far o B t) (n : Nat) : Nt W (X.drewN n) b s far o B t := ⟨h.1.draw n, h.2.1, h.2.2⟩
theorem Nt.goFar (h : Nt W X b s far o B t) (hb : b < W.heap.size) (f : Nat) : Nt W (X.setCell ⟨b, 1, none⟩ (.int .i64 (f : Int))) b s f o B t :=
  ⟨h.1.far hb f, h.2.1, (Below.heap_setCell _ _ _ _ (by show B ≠ b; have := h.2.1; omega)).trans h.2.2⟩
/-- What next leaves: its walk, all else as it was. -/
def Nz (W X : World) (b : Nat) (s : ByteArray) (far : Nat) (o : Tok) : Prop := WalkAt X b s far o ∧ Turn (fun k => k = b) W X
theorem Nx.z (h : Nx W X b s far o) : Nz W X b s far o := ⟨h.at_, h.turn⟩
theorem Nz.res (h : Nz W X b s far o) (hb : b < W.heap.size) (j : Nat) (v : Value) : Nz W (X.setCell ⟨W.heap.size, j, none⟩ v) b s far o :=
  ⟨(Below.heap_setCell _ _ _ _ (by show b ≠ W.heap.size; omega)).trans h.1, h.2.os, h.2.tape, h.2.output, by simp only [World.setCell, Array.size_modify]; exact h.2.size,
    fun k hk hn => (Below.heap_setCell _ _ _ _ (by show k ≠ W.heap.size; omega)).trans (h.2.block k hk hn)⟩
theorem Nz.open_ (h : Nz W X b s far o) (t : Tok) : Nz W ((((X.setCell ⟨b, 2, none⟩ (.int .i64 t.kind)).setCell ⟨b, 3, none⟩ (.string ⟨t.text.toArray⟩)).setCell ⟨b, 4, none⟩ (.int .i64 (t.at_ : Int))).setCell ⟨b, 5, none⟩ (.int .i64 (t.fin : Int))) b s far t := by
  refine ⟨?_, (((h.2.set rfl _ _).set rfl _ _).set rfl _ _).set rfl _ _⟩
  have h1 := h.1
  unfold WalkAt at *
  rw [heap_setCell_same _ b 5 _ _ _ (heap_setCell_same _ b 4 _ _ _ (heap_setCell_same _ b 3 _ _ _ (heap_setCell_same _ b 2 _ _ _ h1)))]
  rfl
theorem open_res (h : Nx W X b s far o) (t : Tok) (hb : W.heap.size ≠ b) : ((((X.setCell ⟨b, 2, none⟩ (.int .i64 t.kind)).setCell ⟨b, 3, none⟩ (.string ⟨t.text.toArray⟩)).setCell ⟨b, 4, none⟩ (.int .i64 (t.at_ : Int))).setCell ⟨b, 5, none⟩ (.int .i64 (t.fin : Int))).heap[W.heap.size]? = some (.cells #[.int .i64 0, .string ⟨#[]⟩, .int .i64 0, .int .i64 0] 25 (0, 0)) :=
  (Below.heap_setCell _ _ _ _ hb).trans ((Below.heap_setCell _ _ _ _ hb).trans ((Below.heap_setCell _ _ _ _ hb).trans ((Below.heap_setCell _ _ _ _ hb).trans h.res)))
end

set_option maxRecDepth 100000 in
set_option maxHeartbeats 4000000 in
theorem next_any (s : ByteArray) (W : World) (b far : Nat) (o : Tok) (h : WalkAt W b s far o) (hf : far ≤ s.size) (hs : s.size ≤ 140737488355328) (hT : Tabs W) (hb : 2 ≤ b) :
    Calls Tryd.prog 45 #[.pointer (some ⟨b, 0, none⟩)] W fun e w' => e = .returned (.tuple #[(stepT s.data.toList far o).1.val, .bool (stepT s.data.toList far o).2.1]) ∧ Nz W w' b s (stepT s.data.toList far o).2.2.1 (stepT s.data.toList far o).2.2.2 := by
  have hbW : b < W.heap.size := (Array.getElem?_eq_some_iff.1 h).1
  have hsl : s.data.toList.length = s.size := by simp
  have hfb := farB_le s.data.toList far (by omega)
  have hfl := firstT_le (s.data.toList.drop (farB s.data.toList far))
  rw [List.length_drop] at hfl
  rw [hsl] at hfb hfl
  have hbl := fun X => blanks_any (s.extract far s.size) X (by simp; omega)
  rw [Lib.extract_data, List.take_of_length_le (by simp)] at hbl
  have hfi := fun X hX => first_any (s.extract (farB s.data.toList far) s.size) X (by simp; omega) hX
  rw [Lib.extract_data, List.take_of_length_le (by simp)] at hfi
  have hwi := fun X (hX : WalkAt X b s (farB s.data.toList far) o) => within_any s X b (farB s.data.toList far) o hX hfb.2 hs
  obtain ⟨rt, rb, rf, ro, hR⟩ : ∃ rt rb rf ro, stepT s.data.toList far o = (rt, rb, rf, ro) := ⟨_, _, _, _, rfl⟩
  rw [hR]
  unfold stepT at hR
  unfold withinT at hwi
  have hf1 : farB s.data.toList far = far + blanksN (s.data.toList.drop far) := rfl
  generalize firstT (s.data.toList.drop (farB s.data.toList far)) = T at *
  generalize farB s.data.toList far = f1 at *
  generalize (wordZ (runeZ s.data.toList ((f1 : Int) - 1)) && wordZ (runeZ s.data.toList (f1 : Int))) = x at *
  generalize blanksN (s.data.toList.drop far) = n at *
  obtain ⟨⟨t1, t2, t3, t4⟩, t5⟩ := T
  dsimp only [Tok.move] at *
  obtain ⟨rfl, ht4⟩ := hfl
  have N1 : Nx W (W.alloc (.cells #[.int .i64 0, .string ⟨#[]⟩, .int .i64 0, .int .i64 0] 25)) b s far o := ⟨(Below.heap_alloc W _ b hbW).trans h, heap_new _ _, Turn.of_stay (Stay.new _ _)⟩
  subst hf1
  have HR : Hid ((if t1 = 0 ∨ x = true then (tok0, false, far + n, o) else if t5 = true then (⟨t1, t2, 0 + (far + n), t4 + (far + n)⟩, true, t4 + (far + n), o) else (tok0, false, t4 + (far + n), ⟨t1, t2, 0 + (far + n), t4 + (far + n)⟩) : Tok × Bool × Nat × Tok) = (rt, rb, rf, ro)) := hR
  clear h hsl hR
  go_enter Tryd.func45, Tryd.ntmps45
  go_upto_region 1 with fail
  refine wp_of_normal (next_r1 N1 hbW hfb.2 hs hbl rfl _ ?_)
  intro X1 u6 u7 u8 u9 u10 u11 u12 u13 u14 u15 u16 u17 u18 u19 u20 u21 u22 N2
  clear N1 hbl
  go_upto_region 2 with fail
  refine wp_of_normal (next_r2 N2 hT hb hbW hfb.2 hfi rfl _ ?_)
  intro X2 B u23 u24 u25 u26 u27 u28 u29 u30 u31 u32 u33 u34 u35 N3
  clear N2 hfi hT
  obtain ⟨g0, g1, g2, g3, g4, g5, g6, g7⟩ := four N3.2.2
  have HB : Hid (b < W.heap.size) := hbW
  by_cases hk : t1 = 0
  · subst hk
    have HN : Hid (Nx W X2 b s (far + n) o) := N3.1
    obtain ⟨r0, r1, r2, r3, r4, r5, r6, r7⟩ := four N3.1.res
    have e := HR.out
    rw [if_pos (.inl rfl)] at e
    simp only [Prod.mk.injEq] at e
    obtain ⟨rfl, rfl, rfl, rfl⟩ := e
    clear N3 hwi HR
    go_wp2
    obtain ⟨q0, q1, q2, q3, -⟩ := four (set4 HN.out.res (.int .i64 0) (.string ⟨#[]⟩) (.int .i64 0) (.int .i64 0))
    exact bodyPost_ret (v := .tuple #[.agg #[.int .i64 0, .string ⟨#[]⟩, .int .i64 0, .int .i64 0], .bool false]) (by simp [results, Tryd.results45, go_sem, q0, q1, q2, q3]) rfl ⟨rfl, (((HN.out.z.res HB.out 0 _).res HB.out 1 _).res HB.out 2 _).res HB.out 3 _⟩
  · have hkb : (t1 == 0) = false := by simpa using hk
    have hw2 := hwi X2 N3.1.at_
    clear hwi
    cases x
    · have e := HR.out
      rw [if_neg (by simpa using hk)] at e
      have HE : Hid ((if t5 = true then (⟨t1, t2, 0 + (far + n), t4 + (far + n)⟩, true, t4 + (far + n), o) else (tok0, false, t4 + (far + n), ⟨t1, t2, 0 + (far + n), t4 + (far + n)⟩) : Tok × Bool × Nat × Tok) = (rt, rb, rf, ro)) := e
      have HN : Hid (Nt W X2 b s (far + n) o B ⟨t1, t2, 0, t4⟩) := N3
      clear N3 hk HR e
      go_upto_region 5 with (go_at_call 58; refine hw2.mono ?_; rintro e w' ⟨rfl, nq, rfl⟩)
      have N4 := HN.out.draw nq
      clear HN hw2 g0 g1 g2 g3 g4 g5 g6 g7
      generalize X2.drewN nq = X3 at *
      obtain ⟨g0, g1, g2, g3, g4, g5, g6, g7⟩ := four N4.2.2
      obtain ⟨d0, d1, -, -, -, -, d6⟩ := six N4.1.at_
      have HN4 : Hid (Nt W X3 b s (far + n) o B ⟨t1, t2, 0, t4⟩) := N4
      have hBb : B ≠ b := by have := N4.2.1; omega
      clear N4 d6
      go_cut [] from 44 (fun wx => Nt W wx b s (far + n) o B ⟨t1, t2, 0 + (far + n), t4⟩)
      case first =>
        go_region
        all_goals
          go_wp2_with fail
          go_meet
          case rel =>
            have e1 := (HN4.out.draw 1).at2 HB.out (0 + (far + n))
            rw [show (((0 + (far + n) : Nat)) : Int) = (far : Int) + (n : Int) by omega] at e1
            exact e1
      case rest =>
        clear HN4 g0 g1 g2 g3 g4 g5 g6 g7 d0 d1
        obtain ⟨g0, g1, g2, g3, g4, g5, g6, g7⟩ := four hcut.2.2
        obtain ⟨d0, d1, -, -, -, -, d6⟩ := six hcut.1.at_
        have HN5 : Hid (Nt W wc b s (far + n) o B ⟨t1, t2, 0 + (far + n), t4⟩) := hcut
        rename World => X4
        clear hcut d6
        dsimp only at g0 g1 g2 g3
        have hadd2 : IntKind.i64.wrap ((t4 : Int) + ((far : Int) + (n : Int))) = (t4 : Int) + ((far : Int) + (n : Int)) := by
          rw [IntWalk.i64_in] <;> omega
        go_upto_region 6 with fail
        go_cut [] from 52 (fun wx => Nt W wx b s (far + n) o B ⟨t1, t2, 0 + (far + n), t4 + (far + n)⟩)
        case first =>
          go_region
          all_goals
            go_wp2_with fail
            go_meet
            case rel =>
              have e1 := (HN5.out.draw 1).fin3 HB.out (t4 + (far + n))
              rw [show ((t4 + (far + n) : Nat) : Int) = (t4 : Int) + ((far : Int) + (n : Int)) by omega] at e1
              exact e1
        case rest =>
          clear HN5 g0 g1 g2 g3 g4 g5 g6 g7 d0 d1 hadd2
          obtain ⟨g0, g1, g2, g3, g4, g5, g6, g7⟩ := four hcut.2.2
          obtain ⟨d0, d1, d2, d3, d4, d5, d6⟩ := six hcut.1.at_
          have e1 := d6 1
          have e2 := d6 2
          have e3 := d6 3
          have e4 := d6 4
          have e5 := d6 5
          obtain ⟨r0, r1, r2, r3, r4, r5, r6, r7⟩ := four hcut.1.res
          have HN6 : Hid (Nt W wc b s (far + n) o B ⟨t1, t2, 0 + (far + n), t4 + (far + n)⟩) := hcut
          have hBs : W.heap.size ≠ B := by have := hcut.2.1; omega
          clear hcut d6
          dsimp only at g0 g1 g2 g3
          have hsz : W.heap.size ≠ b := by have := HB.out; omega
          generalize 0 + (far + n) = A at *
          generalize t4 + (far + n) = F at *
          have HF := HN6.out.goFar HB.out F
          have HF2 : Hid (Nt W (wc.setCell ⟨b, 1, none⟩ (.int .i64 (F : Int))) b s F o B ⟨t1, t2, A, F⟩) := HF
          clear HF HN6
          cases t5
          · have e := HE.out
            rw [if_neg (by decide)] at e
            simp only [Prod.mk.injEq] at e
            obtain ⟨rfl, rfl, rfl, rfl⟩ := e
            clear HE
            go_wp2
            have hz := HF2.out.1.z.open_ ⟨t1, t2, A, F⟩
            have hr := open_res HF2.out.1 ⟨t1, t2, A, F⟩ hsz
            obtain ⟨q0, q1, q2, q3, -⟩ := four (set4 hr (.int .i64 0) (.string ⟨#[]⟩) (.int .i64 0) (.int .i64 0))
            exact bodyPost_ret (v := .tuple #[.agg #[.int .i64 0, .string ⟨#[]⟩, .int .i64 0, .int .i64 0], .bool false]) (by simp [results, Tryd.results45, go_sem, q0, q1, q2, q3]) rfl ⟨rfl, (((hz.res HB.out 0 _).res HB.out 1 _).res HB.out 2 _).res HB.out 3 _⟩
          · have e := HE.out
            rw [if_pos rfl] at e
            simp only [Prod.mk.injEq] at e
            obtain ⟨rfl, rfl, rfl, rfl⟩ := e
            clear HE
            go_wp2
            obtain ⟨q0, q1, q2, q3, -⟩ := four (set4 HF2.out.1.res (.int .i64 t1) (.string ⟨t2.toArray⟩) (.int .i64 (A : Int)) (.int .i64 (F : Int)))
            exact bodyPost_ret (v := .tuple #[.agg #[.int .i64 t1, .string ⟨t2.toArray⟩, .int .i64 (A : Int), .int .i64 (F : Int)], .bool true]) (by simp [results, Tryd.results45, go_sem, q0, q1, q2, q3]) rfl ⟨rfl, (((HF2.out.1.z.res HB.out 0 _).res HB.out 1 _).res HB.out 2 _).res HB.out 3 _⟩
    · have HN : Hid (Nx W X2 b s (far + n) o) := N3.1
      have e := HR.out
      rw [if_pos (.inr rfl)] at e
      simp only [Prod.mk.injEq] at e
      obtain ⟨rfl, rfl, rfl, rfl⟩ := e
      clear HR
      obtain ⟨r0, r1, r2, r3, r4, r5, r6, r7⟩ := four N3.1.res
      clear N3 hk
      go_wp2_with (go_at_call 58; refine hw2.mono ?_; rintro e w' ⟨rfl, nq, rfl⟩)
      obtain ⟨q0, q1, q2, q3, -⟩ := four (set4 (HN.out.draw nq).res (.int .i64 0) (.string ⟨#[]⟩) (.int .i64 0) (.int .i64 0))
      exact bodyPost_ret (v := .tuple #[.agg #[.int .i64 0, .string ⟨#[]⟩, .int .i64 0, .int .i64 0], .bool false]) (by simp [results, Tryd.results45, go_sem, q0, q1, q2, q3]) rfl ⟨rfl, ((((HN.out.draw nq).z.res HB.out 0 _).res HB.out 1 _).res HB.out 2 _).res HB.out 3 _⟩
end Go.Proofs.YtioafeckaeaopaaDoor
