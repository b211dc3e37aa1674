/- IndexPlays, walked. -/
import Derived.Test.YtdnophgcdnghkaaJ4m
import Derived.Test.YtdnophgcdnghkaaJ4o
namespace Go.Proofs.Ytdnophgcdnghkaa.I
open Go.RowKit Go.Maps Go.Shelf Go.Proofs.Ytdnophgcdnghkaa

/-- A step of a script: kind, on, key, value, leave. -/
abbrev St := Int × Int × Int × Int × Int
def encSt (s : St) : List Value := [.int .i64 s.1, .int .i64 s.2.1, .int .i64 s.2.2.1, .int .i64 s.2.2.2.1, .int .i64 s.2.2.2.2]
theorem encStOk : EncOk 5 encSt := ⟨fun _ => rfl, fun _ u hu => by simp [encSt] at hu; rcases hu with rfl | rfl | rfl | rfl | rfl <;> rfl, by decide⟩
def St.Ok (s : St) : Prop := KeyOk s.2.1 ∧ KeyOk s.2.2.1 ∧ KeyOk s.2.2.2.1 ∧ KeyOk s.2.2.2.2
/-- What a walk over those put aside reads. -/
def See6 (Z W : World) (wb gb hb : Nat) (vo vr : Value) (j x y : Nat) : Prop := W.cell? ⟨wb, 4, none⟩ = some vo ∧ W.cell? ⟨wb, 5, none⟩ = some vr ∧ W.cell? ⟨gb, j, none⟩ = some (.pointer (some ⟨x, 0, none⟩)) ∧ W.cell? ⟨hb, j, none⟩ = some (.pointer (some ⟨y, 0, none⟩)) ∧ wb < W.heap.size ∧ Hid (Stay Z W)
theorem see6_keep {Z W W' : World} {wb gb hb j x y : Nat} {vo vr : Value} (hs : Stay W W') (h : W.cell? ⟨wb, 4, none⟩ = some vo ∧ W.cell? ⟨wb, 5, none⟩ = some vr ∧ W.cell? ⟨gb, j, none⟩ = some (.pointer (some ⟨x, 0, none⟩)) ∧ W.cell? ⟨hb, j, none⟩ = some (.pointer (some ⟨y, 0, none⟩)) ∧ wb < W.heap.size ∧ Hid (Stay Z W)) : W'.cell? ⟨wb, 4, none⟩ = some vo ∧ W'.cell? ⟨wb, 5, none⟩ = some vr ∧ W'.cell? ⟨gb, j, none⟩ = some (.pointer (some ⟨x, 0, none⟩)) ∧ W'.cell? ⟨hb, j, none⟩ = some (.pointer (some ⟨y, 0, none⟩)) ∧ wb < W'.heap.size ∧ Hid (Stay Z W') :=
  ⟨hs.cell h.1, hs.cell h.2.1, hs.cell h.2.2.1, hs.cell h.2.2.2.1, Nat.lt_of_lt_of_le h.2.2.2.2.1 hs.size, h.2.2.2.2.2.out.trans hs⟩
theorem see6_stay {Z W : World} {wb gb hb j x y : Nat} {vo vr : Value} (h : W.cell? ⟨wb, 4, none⟩ = some vo ∧ W.cell? ⟨wb, 5, none⟩ = some vr ∧ W.cell? ⟨gb, j, none⟩ = some (.pointer (some ⟨x, 0, none⟩)) ∧ W.cell? ⟨hb, j, none⟩ = some (.pointer (some ⟨y, 0, none⟩)) ∧ wb < W.heap.size ∧ Hid (Stay Z W)) : Stay Z W := h.2.2.2.2.2.out
theorem alloc_ptr {w w8 : World} {x : Nat} (h : w8 = w.alloc (.cells #[.pointer (some ⟨x, 0, none⟩)] 24)) : w8.cell? ⟨w.heap.size, 0, none⟩ = some (.pointer (some ⟨x, 0, none⟩)) ∧ Stay w w8 := by
  subst h
  exact ⟨by simp, Stay.new _ _⟩
set_option maxRecDepth 100000 in
set_option maxHeartbeats 4000000 in
theorem plays_any (w : World) (way : Int) (hw : KeyOk way) (a : Option Addr) (b off c : Nat) (ss : List St) (hS : RecS 5 encSt w a b off ss) (hok : ∀ s ∈ ss, s.Ok) (hl : ss.length ≤ 1048576) :
    Calls Try.prog 3 #[.int .i64 way, .slice a ss.length c] w fun e w' => e = .returned (.bool true) ∧ Stay w w' := by
  have HS : Hid (RecS 5 encSt w a b off ss ∧ ∀ s ∈ ss, s.Ok) := ⟨hS, hok⟩
  clear hS hok
  go_enter Try.func3, Try.ntmps3
  go_wp2_with fail
  have hI0 : Ini w (w.alloc (.cells #[.pointer none, .pointer none, .pointer none, .pointer none, .slice none 0 0, .slice none 0 0] 31)) w.heap.size way 0 := ⟨Stay.new _ _, .inl ⟨rfl, heap_new w _⟩⟩
  go_loopw [6] (fun u wr => ∃ k : Nat, k ≤ 2 ∧ u = .int .i64 (k : Int) ∧ Ini w wr w.heap.size way k) (fun u _ => 2 - (intOf u).toNat)
  case atStart => exact ⟨0, by decide, rfl, hI0⟩
  case round =>
    clear hI0
    obtain ⟨k, hk, rfl, hI⟩ := hrel
    by_cases hlt : k < 2
    · obtain ⟨o, L, ho1, ho2, hbx, hLk, hLr, hSt, hnext⟩ := hI.opened hlt
      have hki : (k : Int) < 2 := by omega
      have hwl : w.heap.size < wr.heap.size := (hbx.cell hLk).2.2
      have HN : Hid _ := hnext
      have HB : Hid (BxL wr w.heap.size L ∧ L[k]? = some (.pointer none) ∧ L[2 + k]? = some (.pointer none) ∧ o w.heap.size = w.heap.size + 1 ∧ k < 2) := ⟨hbx, hLk, hLr, ho1, hlt⟩
      clear hI hnext hbx hLk hLr ho1 ho2 hSt hlt
      go_wp2_with fail
      refine (hashes_any _ _).mono ?_
      rintro e9 w2 ⟨rfl, rfl⟩
      go_wp2_with fail
      refine (sames_any _ _).mono ?_
      rintro e9 w3 ⟨rfl, rfl⟩
      obtain ⟨X0, hX0⟩ : ∃ X0, (wr.alloc (.cells #[.int .i64 way] 3)).alloc (.cells #[.int .i64 way] 3) = X0 := ⟨_, rfl⟩
      have hF := fns_new wr way hw
      have hs0 : Stay wr X0 := by rw [← hX0]; exact (Stay.new _ _).alloc _
      have hz0 : X0.heap.size = wr.heap.size + 2 := by rw [← hX0]; simp
      rw [hX0] at hF
      try simp only [World.size_alloc]
      rw [hX0]
      have hnew := t_new hF (lab wr o 0)
      dsimp only at hnew
      have H0 : Hid (Stay wr X0 ∧ X0.heap.size = wr.heap.size + 2) := ⟨hs0, hz0⟩
      clear hX0 hF hs0 hz0
      go_wp2_with fail
      refine hnew.mono ?_
      rintro e9 X1 ⟨rfl, hT, hs1⟩
      have hL1 : BxL X1 w.heap.size L := HB.out.1.block ((Stay.trans H0.out.1 hs1).block _ hwl)
      obtain ⟨d0, f0, l0⟩ := hL1.cell HB.out.2.1
      have H1 : Hid (TS X1 (wr.heap.size, wr.heap.size + 1, way) (X0.heap.size + 1) [] 8 0 (lab X0 (lab wr o 0) (X0.heap.size + 1 + 1)) ∧ Stay X0 X1 ∧ BxL X1 w.heap.size L) := ⟨hT, hs1, hL1⟩
      clear hnew hT hs1 hL1
      go_wp2_with fail
      obtain ⟨Z, hZ⟩ : ∃ Z, X1.setCell ⟨w.heap.size, k, none⟩ (.pointer (some ⟨X0.heap.size + 1, 0, none⟩)) = Z := ⟨_, rfl⟩
      have hLZ := H1.out.2.2.set k (.pointer (some ⟨X0.heap.size + 1, 0, none⟩))
      rw [hZ] at hLZ ⊢
      have hLr2 : (L.set k (.pointer (some ⟨X0.heap.size + 1, 0, none⟩)))[2 + k]? = some (.pointer none) := by rw [List.getElem?_set_ne (by omega)]; exact HB.out.2.2.1
      obtain ⟨e0, g0, m0⟩ := hLZ.cell hLr2
      have HZ : Hid (X1.setCell ⟨w.heap.size, k, none⟩ (.pointer (some ⟨X0.heap.size + 1, 0, none⟩)) = Z ∧ BxL Z w.heap.size (L.set k (.pointer (some ⟨X0.heap.size + 1, 0, none⟩)))) := ⟨hZ, hLZ⟩
      have hrn := fun V => r_new V way hw (lab X0 (lab wr o 0) (X0.heap.size + 1 + 1))
      have egN := enters_of Try.func8 (by kernel_rfl) rfl
      clear hZ hLZ d0 f0 l0
      go_region_law (first
        | (refine step_call rfl 8 _ _ rfl (args := #[.int .i64 way]) (by first | (simp [Act.eval]; done) | simp [Act.eval, Act.put]) egN ?_; refine (hrn _).mono ?_; rintro e X3 ⟨rfl, hRS, hs3⟩; refine ⟨_, rfl, ?_⟩; have hs3' := Stay.trans (Stay.drew Z) hs3; obtain ⟨u1, u2, u3⟩ := (HZ.out.2.block (hs3'.block w.heap.size m0)).cell hLr2; have H3 : Hid (RS X3 Z.drew.heap.size way [] 8 (lab Z.drew (lab X0 (lab wr o 0) (X0.heap.size + 1 + 1)) (Z.drew.heap.size + 1)) ∧ Stay Z.drew X3) := ⟨hRS, hs3⟩; clear hRS hs3 hs3' hrn))
      all_goals
        go_wp2_with fail
        have HQ : Hid (Ini w (X3.setCell ⟨w.heap.size, 2 + k, none⟩ (.pointer (some ⟨Z.drew.heap.size, 0, none⟩))) w.heap.size way (k + 1)) := by
          obtain ⟨hs0, hz0⟩ := H0.out
          obtain ⟨hT, hs1, -⟩ := H1.out
          obtain ⟨hRS, hs3⟩ := H3.out
          have hwl2 : w.heap.size < wr.heap.size := (HB.out.1.cell HB.out.2.1).2.2
          have z1 := hs1.size
          have zZ : Z.heap.size = X1.heap.size := by rw [← HZ.out.1]; simp [World.setCell]
          have zD : Z.drew.heap.size = Z.heap.size := rfl
          have z3 := hs3.size
          have hp := new_pair (way := way) (i := k) (j := 2 + k) (a := .pointer (some ⟨X0.heap.size + 1, 0, none⟩)) (b := .pointer (some ⟨Z.drew.heap.size, 0, none⟩)) (wb := w.heap.size) (X2 := Z.drew) rfl (fun j hj => by
            rcases hj with rfl | rfl
            · exact ⟨by dsimp only; omega, lab_new (by dsimp only; omega)⟩
            · exact ⟨by dsimp only; omega, lab_new (by dsimp only; omega)⟩) hT (by omega) hs1 (by omega) (by rw [HZ.out.1]; exact Stay.drew Z) hRS (Nat.le_refl _) hs3 (by rw [lab_old hwl2]; exact HB.out.2.2.2.1)
          refine HN.out _ _ _ _ hp.1 ((Turn.of_stay hs0).trans hp.2) (fun j hj => ?_) ((HZ.out.2.block ((Stay.trans (Stay.drew Z) hs3).block w.heap.size (by omega))).set (2 + k) _) (by omega) (by omega)
          rw [lab_old (by omega), lab_old (by omega), lab_old hj]
        clear HN HB H0 H1 H3 HZ
        go_roundw
        case rel => exact ⟨k + 1, by omega, by simp, HQ.out⟩
        case measure => simp [intOf]; omega
    · have hki : ¬ (k : Int) < 2 := by omega
      have hP0 : PlI w wr way 0 := by
        have hk2 : k = 2 := by omega
        rw [hk2] at hI
        exact hI.plays
      clear hI hk hlt
      go_wp2_with fail
      go_loopw [9] (fun u wx => ∃ k : Nat, k ≤ ss.length ∧ u = .int .i64 (k : Int) ∧ PlI w wx way k) (fun u _ => ss.length - (intOf u).toNat)
      case atStart => exact ⟨0, Nat.zero_le _, rfl, hP0⟩
      case round =>
        clear hP0
        obtain ⟨k, hk, rfl, hP⟩ := hrel
        by_cases hlt : k < ss.length
        · obtain ⟨i, hi2, hi⟩ : ∃ i : Nat, i < 2 ∧ (ss[k].2.1) % 2 = (i : Int) := ⟨(ss[k].2.1 % 2).toNat, by omega, by omega⟩
          obtain ⟨o, t, r, t', r', vo, vr, os, rs, L, hc, hbx, h4, h5, hLi, hLr, hol, hnext⟩ := hP.pick hi2
          have hst : Stay w wr := by obtain ⟨_, _, _, _, _, _, _, _, _, _, _, _, h⟩ := hP; exact h
          obtain rfl := HS.out.1.1 (by omega)
          have hsx := HS.out.2 _ (List.getElem_mem hlt)
          have s0 := hst.cell (HS.out.1.2 k hlt 0 _ rfl)
          have s1 := hst.cell (HS.out.1.2 k hlt 1 _ rfl)
          have s2 := hst.cell (HS.out.1.2 k hlt 2 _ rfl)
          have s3 := hst.cell (HS.out.1.2 k hlt 3 _ rfl)
          have s4 := hst.cell (HS.out.1.2 k hlt 4 _ rfl)
          rw [Nat.add_zero] at s0
          have HA : ∀ kind on key val leave, ss[k] = (kind, on, key, val, leave) → Calls Try.prog 9 #[.pointer (some ⟨w.heap.size, 0, none⟩), .agg #[.int .i64 kind, .int .i64 on, .int .i64 key, .int .i64 val, .int .i64 leave]] wr fun e w' => e = .returned (.bool true) ∧ StepR w.heap.size wr w.heap.size way k o r t' r' i L w' := fun kind on key val leave he =>
            step_any hc (by omega) hol ⟨hi2, by rw [he] at hi; exact hi, (hbx.cell hLi).1, (hbx.cell hLr).1, by rw [he] at hsx; exact hsx⟩ hbx h4 h5 hLi
          generalize hsk : ss[k] = sk at *
          obtain ⟨kind, on, key, val, leave⟩ := sk
          have hstep := HA kind on key val leave rfl
          dsimp only at s0 s1 s2 s3 s4
          have HN : Hid (∀ w', StepR w.heap.size wr w.heap.size way k o r t' r' i L w' → PlI w w' way (k + 1)) := hnext
          have hki : (k : Int) < (ss.length : Int) := by omega
          clear hc hbx h4 h5 hLi hLr hol hnext hst hP hsx HA hsk hi hi2
          go_wp2_with fail
          refine hstep.mono ?_
          rintro e9 w9 ⟨rfl, hR⟩
          have HP9 : Hid (PlI w w9 way (k + 1)) := HN.out w9 hR
          clear hstep hR HN s0 s1 s2 s3 s4
          go_wp2_with fail
          go_roundw
          case rel => exact ⟨k + 1, by omega, by simp, HP9.out⟩
          case measure => simp [intOf]; omega
        · obtain rfl : k = ss.length := by omega
          have hE0 : EnI w wr way ss.length 0 := hP.ends
          clear hP HS
          go_wp2_with fail
          go_loopw [11] (fun u wx => ∃ k : Nat, k ≤ 2 ∧ u = .int .i64 (k : Int) ∧ EnI w wx way ss.length k) (fun u _ => 2 - (intOf u).toNat)
          case atStart => exact ⟨0, by decide, rfl, hE0⟩
          case round =>
            clear hE0
            obtain ⟨k, hk, rfl, hE⟩ := hrel
            by_cases hlt : k < 2
            · obtain ⟨o, x, y, vo, vr, os, rs, L, hrow, hbx, h4, h5, hLi, hLr, hol, hrl, hnext⟩ := hE.pick hlt
              have hki : (k : Int) < 2 := by omega
              obtain ⟨va, vb0, vc, hvo, -⟩ := hrow.lo.form encPtOk
              subst hvo
              obtain ⟨wa, wb0, wc, hvr, -⟩ := hrow.lr.form encPtOk
              subst hvr
              have hrow' := hrow.frame (W' := wr.drew) (o' := o) (S := fun _ => False) (Turn.of_stay (Stay.drew wr)) (fun _ _ e => e.elim) (fun _ _ => rfl)
              obtain ⟨pa, pc, W2, hap, hb2, hrow1, tu1⟩ := hrow'.pushO x (by omega)
              have hL2 := hbx.block (W' := W2) hb2
              obtain ⟨e4, g4, k4⟩ := hL2.cell h4
              obtain ⟨d4, -, l4⟩ := hbx.cell h4
              obtain ⟨dk, -, -⟩ := hbx.cell hLi
              have HX : Hid (WR w.heap.size (W2.setCell ⟨w.heap.size, 4, none⟩ (.slice pa (os.length + 1) pc)) w.heap.size (lab wr.drew o (w.heap.size + 1)) (.slice pa (os.length + 1) pc) (.slice wa rs.length wc) (os ++ [x]) rs ∧ Turn (fun j => o j = w.heap.size + 1) wr.drew (W2.setCell ⟨w.heap.size, 4, none⟩ (.slice pa (os.length + 1) pc)) ∧ BxL W2 w.heap.size L) := ⟨hrow1, tu1, hL2⟩
              have HN : Hid _ := hnext
              have HL : Hid (L[4]? = some (.slice va os.length vc) ∧ L[5]? = some (.slice wa rs.length wc) ∧ L[k]? = some (.pointer (some ⟨x, 0, none⟩)) ∧ L[2 + k]? = some (.pointer (some ⟨y, 0, none⟩)) ∧ k < 2 ∧ os.length ≤ 22 ∧ rs.length ≤ 22) := ⟨h4, h5, hLi, hLr, hlt, hol, hrl⟩
              clear hE hrow hrow' hrow1 tu1 hbx hL2 hnext h4 h5 hLi hLr hlt hb2
              go_upto_region 66 with fail
              go_cut [] from 66 to 81 (fun wx => wx = W2.setCell ⟨w.heap.size, 4, none⟩ (.slice pa (os.length + 1) pc))
              case first =>
                go_region_law (first
                  | (refine step_append_run rfl _ _ _ _ rfl (by first | rfl | simp [Act.eval, Act.put]) (by first | rfl | simp [Act.eval, Act.put]) hap ?_; clear hap))
                all_goals
                  go_wp2_with fail
                  go_meet
                  case rel => rfl
              case rest =>
                subst hcut
                clear hap e4 g4 k4 d4 l4 dk
                obtain ⟨X, hX⟩ : ∃ X, W2.setCell ⟨w.heap.size, 4, none⟩ (.slice pa (os.length + 1) pc) = X := ⟨_, rfl⟩
                obtain ⟨hrow1, tu1, hL2⟩ := HX.out
                have hLX := hL2.set 4 (.slice pa (os.length + 1) pc)
                obtain ⟨h4, h5, hLi, hLr, hlt, hol, hrl⟩ := HL.out
                rw [hX] at hrow1 tu1 hLX ⊢
                have h5X : (L.set 4 (.slice pa (os.length + 1) pc))[5]? = some (.slice wa rs.length wc) := by rw [List.getElem?_set_ne (by decide)]; exact h5
                have hrX : (L.set 4 (.slice pa (os.length + 1) pc))[2 + k]? = some (.pointer (some ⟨y, 0, none⟩)) := by rw [List.getElem?_set_ne (by omega)]; exact hLr
                have hrow' := hrow1.frame (W' := X.drew) (o' := lab wr.drew o (w.heap.size + 1)) (S := fun _ => False) (Turn.of_stay (Stay.drew X)) (fun _ _ e => e.elim) (fun _ _ => rfl)
                obtain ⟨qa, qc, W3, hap, hb3, hrow3, tu3⟩ := hrow'.pushR y (by omega)
                have hL3 := hLX.block (W' := W3) hb3
                obtain ⟨e5, g5, k5⟩ := hL3.cell h5X
                obtain ⟨d5, -, l5⟩ := hLX.cell h5X
                obtain ⟨dk, -, -⟩ := hLX.cell hrX
                have HQ : Hid (EnI w (W3.setCell ⟨w.heap.size, 5, none⟩ (.slice qa (rs.length + 1) qc)) way ss.length (k + 1)) := by
                  refine HN.out _ _ _ _ hrow3 ?_ (fun j hj => ?_) (hL3.set 5 _)
                  · refine ((Turn.of_stay (Stay.drew wr)).trans tu1).then ((Turn.of_stay (Stay.drew X)).trans tu3) (fun j hj e => ?_)
                    rw [lab_old (W := wr.drew) hj] at e
                    exact e
                  · rw [lab_old (by have := tu1.size; exact Nat.lt_of_lt_of_le hj this), lab_old (W := wr.drew) hj]
                clear hX hrow1 tu1 hL2 hLX h4 h5 hLi hLr hlt hol hrl h5X hrX hrow' hb3 hrow3 tu3 hL3 HX HN HL
                go_wp2_with fail
                go_region_law (first
                  | (refine step_append_run rfl _ _ _ _ rfl (by first | rfl | simp [Act.eval, Act.put]) (by first | rfl | simp [Act.eval, Act.put]) hap ?_; clear hap))
                all_goals
                  go_wp2_with fail
                  go_roundw
                  case rel => exact ⟨k + 1, by omega, by simp, HQ.out⟩
                  case measure => simp [intOf]; omega
            · have hki : ¬ (k : Int) < 2 := by omega
              have hE2 : EnI w wr way ss.length 2 := by
                have hk2 : k = 2 := by omega
                rw [hk2] at hE
                exact hE
              obtain ⟨o, t0, t1, r0, r1, vo, vr, os, rs, hW, hbx, hol, hst⟩ := hE2
              obtain ⟨va, vb, vc, hvo, hlo, -, hvp, -⟩ := hW.row.lo.form encPtOk
              subst hvo
              obtain ⟨wa, wb, zc, hvr, hlr, -, hwp, -⟩ := hW.row.lr.form encPtOk
              subst hvr
              have HW : Hid (WE w.heap.size wr w.heap.size way ss.length o t0 r0 t1 r1 (.slice va os.length vc) (.slice wa rs.length zc) os rs ∧ BxL wr w.heap.size [.pointer (some ⟨t0, 0, none⟩), .pointer (some ⟨t1, 0, none⟩), .pointer (some ⟨r0, 0, none⟩), .pointer (some ⟨r1, 0, none⟩), .slice va os.length vc, .slice wa rs.length zc] ∧ Stay w wr ∧ RecS 1 encPt wr va vb 0 os ∧ RecS 1 encPt wr wa wb 0 rs) := ⟨hW, hbx, hst, hlo, hlr⟩
              have hol22 : os.length ≤ 22 := hol
              have hlen := hW.len
              clear hE hW hbx hst hlo hlr hk hlt hvp hwp hol
              go_wp2_with fail
              go_loopw [12] (fun u wx => ∃ j : Nat, j ≤ os.length ∧ u = .int .i64 (j : Int) ∧ Stay wr wx) (fun u _ => os.length - (intOf u).toNat)
              case atStart => exact ⟨0, Nat.zero_le _, rfl, Stay.refl _⟩
              case round =>
                obtain ⟨j, hj, rfl, hs⟩ := hrel
                have hwx := HW.out.1.stay hs
                have hbx := HW.out.2.1.block (hs.block _ (HW.out.2.1.cell (j := 4) rfl).2.2)
                obtain ⟨b4, -, bl⟩ := hbx.cell (j := 4) rfl
                obtain ⟨b5, -, -⟩ := hbx.cell (j := 5) rfl
                by_cases hlt : j < os.length
                · have hji : (j : Int) < (os.length : Int) := by omega
                  obtain ⟨fp, ps, N, M⟩ := (hwx.old j _ _ (List.getElem?_eq_getElem hlt) (List.getElem?_eq_getElem (by omega))).1
                  obtain rfl := HW.out.2.2.2.1.1 (by omega)
                  obtain rfl := HW.out.2.2.2.2.1 (by omega)
                  have q4 := hs.cell (HW.out.2.2.2.1.2 j hlt 0 _ rfl)
                  have q5 := hs.cell (HW.out.2.2.2.2.2 j (by omega) 0 _ rfl)
                  rw [Nat.zero_add, Nat.add_zero, Nat.mul_one] at q4 q5
                  have hjr : (j : Int) < (rs.length : Int) := by omega
                  obtain ⟨x, hx⟩ : ∃ x, os[j] = x := ⟨_, rfl⟩
                  obtain ⟨y, hy⟩ : ∃ y, rs[j]'(by omega) = y := ⟨_, rfl⟩
                  rw [hx] at q4 M
                  rw [hy] at q5 M
                  obtain ⟨ks, vs, ht1, ht2⟩ := told_all M.t M.r M.big
                  have HQ : Hid (_ ∧ _) := ⟨ht1, ht2⟩
                  have HM : Hid _ := And.intro M hs
                  have hS0 := see6_keep (Stay.drew wr) ⟨b4, b5, q4, q5, bl, (Stay.refl wr : Hid (Stay wr wr))⟩
                  obtain ⟨ks2, vs2, ht3, ht4⟩ := told_lay M.t M.r M.way M.big
                  have HQ2 : Hid (_ ∧ _) := ⟨ht3, ht4⟩
                  have HC : Hid (_ ∧ _ ∧ _ ∧ _ ∧ _) := ⟨b4, b5, q4, q5, bl⟩
                  clear M hs hwx hbx ht1 ht2 ht3 ht4 hx hy hj hlt
                  go_upto_region 105 with fail
                  go_cut [13] from 105 to 122 (fun u wx => u = .bool true ∧ Stay wr wx)
                  case first =>
                    go_region_held3 (fun W => W.cell? ⟨w.heap.size, 4, none⟩ = some (.slice (some ⟨vb, 0, none⟩) os.length vc) ∧ W.cell? ⟨w.heap.size, 5, none⟩ = some (.slice (some ⟨wb, 0, none⟩) rs.length zc) ∧ W.cell? ⟨vb, j, none⟩ = some (.pointer (some ⟨x, 0, none⟩)) ∧ W.cell? ⟨wb, j, none⟩ = some (.pointer (some ⟨y, 0, none⟩)) ∧ w.heap.size < W.heap.size ∧ Hid (Stay wr W)) (first | assumption | (exact see6_keep (by assumption) (by assumption))) (first
                      | (go_at_call 11; refine (all_any _ _).mono ?_; rintro e8 w8 ⟨rfl, hw8⟩; obtain ⟨hbn, hs8⟩ := alloc_ptr hw8; clear hw8)
                      | (go_at_call 12; refine (HQ.out.1 _ (see6_stay (by assumption))).mono ?_; rintro e8 w8 ⟨a1, b1, c1, a2, b2, c2, rfl, hR1, hR2, hs8⟩; have hbn := hs8.cell hbn)
                      | (go_at_call 10; refine (HQ.out.2 _ _ (see6_stay (by assumption)) hbn _ _ _ _ _ _ _ hR1 hR2).mono ?_; rintro e8 w8 ⟨rfl, hs8⟩))
                    all_goals
                      have HF : Hid (Stay wr w8) := see6_stay (by assumption)
                      go_wp2_with fail
                      go_meet
                      case rel => exact ⟨rfl, HF.out⟩
                  case rest =>
                    obtain ⟨hu13, hsc⟩ := hcut
                    subst hu13
                    obtain ⟨b4, b5, q4, q5, bl⟩ := HC.out
                    have hS1 := see6_keep hsc ⟨b4, b5, q4, q5, bl, (Stay.refl wr : Hid (Stay wr wr))⟩
                    have hS0 := see6_keep (Stay.drew wc) hS1
                    obtain ⟨b4, b5, q4, q5, bl, -⟩ := hS1
                    clear hsc HQ
                    go_upto_region 122 with fail
                    go_cut [14] from 122 to 139 (fun u wx => u = .bool true ∧ Stay wr wx)
                    case first =>
                      go_region_held3 (fun W => W.cell? ⟨w.heap.size, 4, none⟩ = some (.slice (some ⟨vb, 0, none⟩) os.length vc) ∧ W.cell? ⟨w.heap.size, 5, none⟩ = some (.slice (some ⟨wb, 0, none⟩) rs.length zc) ∧ W.cell? ⟨vb, j, none⟩ = some (.pointer (some ⟨x, 0, none⟩)) ∧ W.cell? ⟨wb, j, none⟩ = some (.pointer (some ⟨y, 0, none⟩)) ∧ w.heap.size < W.heap.size ∧ Hid (Stay wr W)) (first | assumption | (exact see6_keep (by assumption) (by assumption))) (first
                        | (go_at_call 13; refine (layout_any _ _).mono ?_; rintro e8 w8 ⟨rfl, hw8⟩; obtain ⟨hbn, hs8⟩ := alloc_ptr hw8; clear hw8)
                        | (go_at_call 14; refine (HQ2.out.1 _ (see6_stay (by assumption))).mono ?_; rintro e8 w8 ⟨a1, b1, c1, a2, b2, c2, rfl, hR1, hR2, hs8⟩; have hbn := hs8.cell hbn)
                        | (go_at_call 10; refine (HQ2.out.2 _ _ (see6_stay (by assumption)) hbn _ _ _ _ _ _ _ hR1 hR2).mono ?_; rintro e8 w8 ⟨rfl, hs8⟩))
                      all_goals
                        have HF : Hid (Stay wr w8) := see6_stay (by assumption)
                        go_wp2_with fail
                        go_meet
                        case rel => exact ⟨rfl, HF.out⟩
                    case rest =>
                      obtain ⟨hu14, hsc⟩ := hcut
                      subst hu14
                      obtain ⟨b4, b5, q4, q5, bl⟩ := HC.out
                      obtain ⟨b4, b5, q4, q5, bl, -⟩ := see6_keep hsc ⟨b4, b5, q4, q5, bl, (Stay.refl wr : Hid (Stay wr wr))⟩
                      have M2 := HM.out.1.stay hsc
                      have hln := fun q => t_len (M2.t.stay (Stay.drewN _ q))
                      have hsz := fun q => t_size (M2.t.stay (Stay.drewN _ q))
                      obtain ⟨ra, rc, r1, r2⟩ := r_cells M2.r
                      have hbl := World.block_lt_of_cell? _ _ r1
                      have HZ : Hid _ := HM.out.2.trans hsc
                      clear M2 hsc HQ2 HC HM
                      generalize ps.length = pl at *
                      go_upto_region 139 with fail
                      refine wp_region_quiet_lit (by kernel_rfl) (by kernel_rfl) ?_
                      repeat (go_big_quiet_step (first | (go_at_call 15; exact Calls.quiet_of_same (hln _)) | (go_at_call 16; exact Calls.quiet_of_same (hsz _))))
                      refine wpQuiet_nil ?_
                      intro _ hw'
                      obtain ⟨nq, hw''⟩ := hw'
                      subst hw''
                      go_wp2_with fail
                      exact ⟨⟨j + 1, by omega, by simp, Stay.trans HZ.out (Stay.drewN wc nq)⟩, by simp [intOf]; omega⟩
                · have hji : ¬ (j : Int) < (os.length : Int) := by omega
                  have HF : Hid (Stay w wr) := HW.out.2.2.1.trans hs
                  clear hwx hbx hs HW
                  go_wp2_with fail
                  refine (known_any _).mono ?_
                  rintro e9 w9 ⟨rfl, hs9⟩
                  have HG : Hid (Stay w w9) := HF.out.trans hs9
                  clear hs9 HF
                  go_wp2_with fail
                  go_ret
                  exact ⟨rfl, HG.out⟩
end Go.Proofs.Ytdnophgcdnghkaa.I
