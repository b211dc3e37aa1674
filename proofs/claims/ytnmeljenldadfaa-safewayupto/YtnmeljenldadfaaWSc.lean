/- SafeWay's walk. -/
import Derived.Test.YtnmeljenldadfaaEZ
import Derived.Test.YtnmeljenldadfaaEM
import Derived.Test.YtnmeljenldadfaaEN
import Derived.Test.YtnmeljenldadfaaEO
import Derived.Test.YtnmeljenldadfaaQQ
import Derived.Test.YtnmeljenldadfaaEY
import Derived.Test.YtnmeljenldadfaaWSa
import Derived.Test.YtnmeljenldadfaaWSb
import Derived.OwnWalk
import Derived.Laws.MakeOwn
import Derived.Laws.OwnMore
import Derived.Test.YtnmeljenldadfaaEW
namespace Go.Proofs.Ytnmeljenldadfaa
open Go.RowKit Go.Maps Go.Shelf

def seenA (n : Nat) (S : List Int) : Array Value := ((List.range n).map fun (j : Nat) => Value.bool (decide ((j : Int) ∈ S))).toArray
theorem seenA_size (n : Nat) (S : List Int) : (seenA n S).size = n := by simp [seenA]
theorem seenA_at {n j : Nat} (S : List Int) (h : j < n) : (seenA n S)[j]? = some (.bool (decide ((j : Int) ∈ S))) := by simp [seenA, h]
theorem seenA_set {n : Nat} (j : Nat) (S : List Int) : (seenA n S).setIfInBounds j (.bool true) = seenA n (S ++ [(j : Int)]) := by
  apply Array.ext
  · simp [seenA]
  · intro i h1 h2
    rw [seenA_size] at h2
    rw [Array.getElem_setIfInBounds (by rw [seenA_size]; exact h2)]
    by_cases hij : j = i
    · subst hij; simp [seenA]
    · simp [seenA, hij]
      intro e
      omega
theorem infoBl : (Try.prog.info? 4).map (fun i => (i.zero, i.size, i.bytes)) = some (some (.bool false), 1, 1) := by kernel_rfl
theorem run_makeBools (n : Nat) (hn : n ≤ 281474976710656) (W : World) :
    (Instr.makeSlice 67 (.int .i64 n) (.int .i64 n)).run Try.prog W = .ok (.slice (some ⟨W.heap.size, 0, none⟩) n n) (W.alloc (.cells (seenA n []) 4)) := by
  obtain ⟨i, hi, hz0, hz1, hz2⟩ := info_parts infoBl
  have h := run_make (P := Try.prog) W 67 4 i _ Try.underlying67 hi hz0 .i64 .i64 n n (by omega) (by omega) (by rw [hz2]; omega) (by omega)
  rw [hz1] at h
  have e : madeCells #[.bool false] n = seenA n [] := by
    apply Array.ext'
    rw [toList_madeCells_one]
    simp [seenA, List.map_const']
  rw [← e]
  simpa [Value.cells] using h

/-- At V's end lie the marks, behind them the list of the literals ahead; what lay in V is as it was. -/
def LJ (V : World) (n : Nat) (S : List Int) (ls : List Li) (v : Value) (W : World) : Prop := W.heap[V.heap.size]? = some (.cells (seenA n S) 4 (0, 0)) ∧ OwnR 53 7 encLi (V.heap.size + 1) W v ls ∧ Below V.heap.size V W
theorem LJ.lt {V W : World} {n : Nat} {S : List Int} {ls : List Li} {v : Value} (h : LJ V n S ls v W) : V.heap.size < W.heap.size := (Array.getElem?_eq_some_iff.1 h.1).1
theorem LJ.stay {V W W' : World} {n : Nat} {S : List Int} {ls : List Li} {v : Value} (h : LJ V n S ls v W) (hs : Stay W W') : LJ V n S ls v W' :=
  ⟨(hs.block _ h.lt).trans h.1, h.2.1.stay hs, h.2.2.trans (Below.mono hs (Nat.le_of_lt h.lt))⟩
theorem LJ.mark {V W : World} {n j : Nat} {S : List Int} {ls : List Li} {v : Value} (h : LJ V n S ls v W) (hj : j < n) :
    W.cell? ⟨V.heap.size, j, none⟩ = some (.bool (decide ((j : Int) ∈ S))) ∧ W.frozen? ⟨V.heap.size, j, none⟩ = false ∧ LJ V n (S ++ [(j : Int)]) ls v (W.setCell ⟨V.heap.size, j, none⟩ (.bool true)) := by
  have hc : W.cell? ⟨V.heap.size, j, none⟩ = some (.bool (decide ((j : Int) ∈ S))) := by simp [World.cell?, h.1, seenA_at S hj]
  refine ⟨hc, by simp [World.frozen?, h.1], ?_, ?_, ?_⟩
  · rw [← seenA_set j S]
    simp [World.setCell, Array.getElem?_modify, h.1]
  · refine h.2.1.held fun k hk => Below.heap_setCell _ _ _ _ (fun e => ?_)
    have := (h.2.1.lt k hk).1
    have e : k = V.heap.size := e
    omega
  · exact Below.setCell h.2.2 (p := ⟨V.heap.size, j, none⟩) (Nat.le_refl _) _
theorem LJ.push {V W : World} {n : Nat} {S : List Int} {ls : List Li} {v : Value} (h : LJ V n S ls v W) (m : Li) (hl : ls.length ≤ 4000000) (ty : TypeId) :
    ∃ a1 n1 k1 w2, (Builtin.append_ #[25, 25] ty #[v, .slice (some ⟨W.heap.size, 0, none⟩) 1 1]).run Try.prog (W.alloc (.cells (encLi m).toArray 53)) = .ok (.slice a1 n1 k1) w2 ∧ LJ V n S (ls ++ [m]) (.slice a1 n1 k1) w2 := by
  obtain ⟨a1, c1, w2, hr, ho, hb, -, -, -⟩ := own_push encLiOk Try.underlying25 infoLi rfl h.2.1 m (by simp [maxLen]; omega) (by omega) (by have := h.lt; omega) ty
  exact ⟨a1, ls.length + 1, c1, w2, hr, (hb.block _ (by omega)).trans h.1, ho, h.2.2.trans (Below.mono hb (by omega))⟩

theorem few_sum : ∀ {ls : List Li}, (∀ l ∈ ls, l.atom.ts.length ≤ 1048576) → (ls.map (fun l => l.atom.ts.length + 3)).sum ≤ ls.length * 1048579
  | [], _ => Nat.zero_le _
  | l :: ls, h => by
    have h1 := h l List.mem_cons_self
    have ih := few_sum (ls := ls) fun l' hl' => h l' (List.mem_cons_of_mem _ hl')
    rw [List.map_cons, List.sum_cons, List.length_cons]
    omega
theorem once_few {ls : List Li} (hn : ls.length ≤ 1048576) (h : ∀ l ∈ ls, l.atom.ts.length ≤ 1048576) : (onceN (bindP ls)).length ≤ 4398046511104 := by
  have h1 := placesB_mass 0 ls
  have h2 := few_sum h
  have h3 : (bindP ls).length ≤ (placesB 0 ls).length := by rw [bindP_eq]; exact List.length_filter_le _ _
  have h4 : (onceN (bindP ls)).length ≤ (bindP ls).length := by unfold onceN; rw [show (namesP (sel newC (bindP ls))).length = (sel newC (bindP ls)).length from by simp [namesP]]; exact sel_len _ _
  omega

set_option maxRecDepth 100000 in
set_option maxHeartbeats 8000000 in
theorem safeWay_walk (x : Ru) (w : World) (hx : x.fit w) (hl : (faultsF 0 [x]).length ≤ 4294967296) (hv : (onceN (placesR x)).length ≤ 4294967296) (hb : (onceN (bindP x.body)).length ≤ 4294967296) :
    Calls Try.prog 6 #[x.v] w fun e w' => e = .returned (.bool true) ∧ Stay w w' := by
  obtain ⟨w0, hw0⟩ : ∃ w0, w0 = w.alloc (.cells #[.string x.head.pred, x.head.sl, .slice x.a x.body.length x.cap] 27) := ⟨_, rfl⟩
  have s0 : Stay w w0 := by rw [hw0]; exact Stay.new _ _
  have hb0 : w0.heap[w.heap.size]? = some (.cells #[.string x.head.pred, x.head.sl, .slice x.a x.body.length x.cap] 27 (0, 0)) := by rw [hw0]; exact heap_new _ _
  have hkn := known_any
  have HC : Hid (∀ V, Stay w0 V → V.cell? ⟨w.heap.size, 0, none⟩ = some (.string x.head.pred) ∧ V.cell? ⟨w.heap.size, 1, none⟩ = some (.slice x.head.a x.head.ts.length x.head.cap) ∧ V.cell? ⟨w.heap.size, 2, none⟩ = some (.slice x.a x.body.length x.cap)) := fun V hV => by
    have := (hV.block _ (Array.getElem?_eq_some_iff.1 hb0).1).trans hb0
    simp [World.cell?, this, At.sl]
  have h1 := sBound_any x w0 (hx.stay s0)
  have hfa : ∀ V, Stay w0 V → Calls Try.prog 24 #[.agg #[.slice none 0 0, .slice none 0 0, .slice (some ⟨V.heap.size, 0, none⟩) 1 1]] (V.alloc (.cells #[.string x.head.pred, .slice x.head.a x.head.ts.length x.head.cap, .slice x.a x.body.length x.cap] 27)) fun e w' => ∃ a b c, e = .returned (.slice a (faultsF 0 [x]).length c) ∧ RecS 3 encLo w' a b 0 (faultsF 0 [x]) ∧ Stay V w' := fun V hV => by
    have hV1 : Stay V (V.alloc (.cells #[.string x.head.pred, .slice x.head.a x.head.ts.length x.head.cap, .slice x.a x.body.length x.cap] 27)) := Stay.new _ _
    have hV2 : Stay w _ := (s0.trans hV).trans hV1
    have hl1 := recs_lit encRuOk V [x] 27
    have hc := sFaults_any ⟨none, 0, 0, 0, [], none, 0, 0, 0, [], some ⟨V.heap.size, 0, none⟩, V.heap.size, 0, 1, [x]⟩ _ ⟨hl1, fun r hr => by rw [List.mem_singleton] at hr; subst hr; exact (hx.stay hV2).ins⟩ (fun r hr => by rw [List.mem_singleton] at hr; subst hr; exact hx.stay hV2) (by show 1 ≤ 1048576; omega) hl
    refine hc.mono fun e w' ⟨a, c, he, hO, hs⟩ => ?_
    obtain ⟨va, b, vc, hv, hR, -⟩ := hO.form encLoOk
    simp only [Value.slice.injEq] at hv
    obtain ⟨rfl, -, rfl⟩ := hv
    exact ⟨a, b, c, he, hR, hV1.trans hs⟩
  have hru := fun V (hV : Stay w0 V) => rule_fit x V ((hx.stay s0).stay hV)
  have hva : ∀ V, Stay w0 V → Calls Try.prog 9 #[x.v] V fun e w' => ∃ a b c, e = .returned (.slice a (onceN (placesR x)).length c) ∧ RecS 1 encSt w' a b 0 (onceN (placesR x)) ∧ Stay V w' := fun V hV => by
    refine (sVars_any x V ((hx.stay s0).stay hV)).mono fun e w' ⟨a, c, he, hO, hs⟩ => ?_
    obtain ⟨va, b, vc, hv, hR, -⟩ := hO.form encStOk
    simp only [Value.slice.injEq] at hv
    obtain ⟨rfl, -, rfl⟩ := hv
    exact ⟨a, b, c, he, hR, hs⟩
  have hwy := fun V (hV : Stay w0 V) => way_any x V ((hx.stay s0).stay hV)
  have HX : Hid (x.fit w0 ∧ Stay w w0) := ⟨hx.stay s0, s0⟩
  obtain ⟨R, hR⟩ : ∃ R : Ending → World → Prop, R = fun e w' => e = .returned (.bool true) ∧ Stay w w' := ⟨_, rfl⟩
  rw [← hR]
  have HR : Hid (R = fun e w' => e = .returned (.bool true) ∧ Stay w w') := hR
  clear hx s0 hb0 hR
  obtain ⟨ok, hok⟩ : ∃ ok, ok = ruleB x := ⟨_, rfl⟩
  obtain ⟨nm, hnm⟩ : ∃ nm, nm = ruleN x := ⟨_, rfl⟩
  obtain ⟨bd, hbd⟩ : ∃ bd, bd = onceN (bindP x.body) := ⟨_, rfl⟩
  obtain ⟨vs, hvs⟩ : ∃ vs, vs = onceN (placesR x) := ⟨_, rfl⟩
  obtain ⟨F, hF⟩ : ∃ F, F = faultsF 0 [x] := ⟨_, rfl⟩
  have HALL : Hid (allS bd vs = ok) := by show _ = _; rw [hbd, hvs, hok]; exact allV_eq x
  have HFN : Hid (ok = true → F.length = 0) := fun h => by rw [hF]; exact (faults_len x).2 (hok ▸ h)
  have HFF : Hid (ok = false → ∃ i j qs, F = (i, j, nm) :: qs ∧ inB bd nm = false ∧ inB vs nm = true) := fun h => by
    obtain ⟨p, qs, -, h2, h3, h4, h5⟩ := fault_name (x := x) (hok ▸ h)
    exact ⟨0, p.1, _, by rw [hF, h2, hnm, h3], by rw [hbd, hnm, h3]; exact h4, by rw [hvs, hnm, h3]; exact h5⟩
  have HBD : Hid (bd = onceN (bindP x.body)) := hbd
  unfold NewR at h1
  rw [← hbd] at h1 hb
  rw [← hok, ← hnm] at hru
  rw [← hvs] at hva hv
  rw [← hF] at hfa hl
  clear hok hnm hbd hvs hF
  dsimp only [Ru.v, At.sl] at *
  obtain ⟨e0, e1, e2⟩ := HC.out w0 (Stay.refl _)
  rw [hw0] at e0 e1 e2
  go_enter Try.func6, Try.ntmps6
  go_wp2_with (first
    | (go_at_call 10; rw [← hw0]; refine h1.mono ?_; rintro e w1 ⟨a1, c1, rfl, hO1, s1⟩; clear h1; obtain ⟨f0, f1, f2⟩ := HC.out w1 s1; have hf1 := hfa w1 s1; have S1 : Hid (Stay w0 w1 ∧ OwnR 9 1 encSt w0.heap.size w1 (.slice a1 bd.length c1) bd) := ⟨s1, hO1⟩; clear hO1 s1 hfa e0 e1 e2 hw0)
    | (go_at_call 24; refine hf1.mono ?_; rintro e w2 ⟨a2, b2, c2, rfl, hR2, s2⟩; clear hf1; have s02 : Stay w0 w2 := Stay.trans S1.out.1 s2; obtain ⟨g0, g1, g2⟩ := HC.out w2 s02; have hr2 := hru w2 s02; have S2 : Hid (Stay w0 w2 ∧ Stay w1 w2 ∧ RecS 3 encLo w2 a2 b2 0 F) := ⟨s02, s2, hR2⟩; clear hR2 s2 s02 hru f0 f1 f2)
    | (go_at_call 12; refine hr2.mono ?_; rintro e w3 ⟨rfl, s3⟩; clear hr2; have s03 : Stay w0 w3 := Stay.trans S2.out.1 s3; obtain ⟨k0, k1, k2⟩ := HC.out w3 s03; have hv3 := hva w3 s03; have S3 : Hid (Stay w0 w3 ∧ Stay w2 w3) := ⟨s03, s3⟩; clear s3 s03 hva g0 g1 g2)
    | (go_at_call 9; refine hv3.mono ?_; rintro e w4 ⟨a4, b4, c4, rfl, hR4, s4⟩; clear hv3; have s04 : Stay w0 w4 := Stay.trans S3.out.1 s4; have S4 : Hid (Stay w0 w4 ∧ RecS 1 encSt w4 a4 b4 0 vs ∧ Stay w3 w4) := ⟨s04, hR4, s4⟩; clear hR4 s4 s04 k0 k1 k2))
  obtain ⟨b1, hR1⟩ : ∃ b1, RecS 1 encSt w4 a1 b1 0 bd := by
    obtain ⟨va, b, vc, hv, hR, -⟩ := S1.out.2.form encStOk
    simp only [Value.slice.injEq] at hv
    obtain ⟨rfl, -, rfl⟩ := hv
    exact ⟨b, ((hR.stay S2.out.2.1).stay S3.out.2).stay S4.out.2.2⟩
  have hin := fun s => in_any w4 a1 b1 0 c1 bd s hR1 (by omega)
  have hR2 : RecS 3 encLo w4 a2 b2 0 F := (S2.out.2.2.stay S3.out.2).stay S4.out.2.2
  have hin2 := in_any w4 a4 b4 0 c4 vs nm S4.out.2.1 (by omega)
  have H4 : Hid (Stay w0 w4 ∧ RecS 1 encSt w4 a1 b1 0 bd ∧ RecS 1 encSt w4 a4 b4 0 vs ∧ RecS 3 encLo w4 a2 b2 0 F) := ⟨S4.out.1, hR1, S4.out.2.1, hR2⟩
  clear S1 S2 S3 S4 hR1 hR2
  go_loopw [8, 9] (fun u8 u wr => ∃ j : Nat, j ≤ vs.length ∧ u = .int .i64 (j : Int) ∧ u8 = .bool (allS bd (vs.take j)) ∧ wr = w4) (fun _ u _ => vs.length - (intOf u).toNat)
  case atStart => exact ⟨0, Nat.zero_le _, rfl, by simp [allS], rfl⟩
  case round =>
    obtain ⟨j, hj, rfl, rfl, hwr⟩ := hrel
    subst wr
    by_cases hlt : j < vs.length
    · have hki : (j : Int) < (vs.length : Int) := by omega
      obtain rfl := H4.out.2.2.1.1 (by omega)
      have c0 := H4.out.2.2.1.2 j hlt 0 _ rfl
      simp only [Nat.mul_one, Nat.add_zero, Nat.zero_add] at c0
      have HT := allS_take (us := bd) hlt
      have HT' : Hid (allS bd (vs.take (j + 1)) = (allS bd (vs.take j) && inB bd vs[j])) := HT
      clear HT
      have hi1 := hin vs[j]
      generalize vs[j] = s at *
      generalize allS bd (vs.take j) = al at *
      cases al
      · go_wp2_with fail
        go_roundw
        case rel => exact ⟨j + 1, by omega, by simp, by rw [HT'.out]; rfl, by first | rfl | trivial⟩
        case measure => simp [intOf]; omega
      · go_wp2_with (go_at_call 29; refine hi1.mono ?_; rintro e w5 ⟨rfl, rfl⟩)
        go_roundw
        case rel => exact ⟨j + 1, by omega, by simp, by rw [HT'.out]; rfl, by first | rfl | trivial⟩
        case measure => simp [intOf]; omega
    · obtain rfl : j = vs.length := by omega
      rw [List.take_of_length_le (Nat.le_refl _), HALL.out]
      clear hlt hj hin2 hin
      have hi1 := in_any w4 a1 b1 0 c1 bd nm H4.out.2.1 (by omega)
      have hi2 := in_any w4 a4 b4 0 c4 vs nm H4.out.2.2.1 (by omega)
      go_upto_region 10 with fail
      go_cut [81] from 34 to 191 (fun vc wx => vc = .bool false ∧ wx = w4)
      case first =>
        cases ok
        · obtain ⟨i, j, qs, hFe, hn1, hn2⟩ := HFF.out rfl
          rw [hn1] at hi1
          rw [hn2] at hi2
          subst hFe
          obtain rfl := H4.out.2.2.2.1 (by simp)
          have c0 := H4.out.2.2.2.2 0 (by simp) 2 _ rfl
          simp only [Nat.zero_mul, Nat.zero_add] at c0
          have hpos : (0 : Int) < (((i, j, nm) :: qs : List (Int × Int × ByteArray)).length : Int) := by simp only [List.length_cons]; omega
          have hne : ¬ ((((i, j, nm) :: qs : List (Int × Int × ByteArray)).length : Int) = 0) := by omega
          have hnb : (((((i, j, nm) :: qs : List (Int × Int × ByteArray)).length : Nat) : Int) == 0) = false := by simpa using hne
          have hnl : (nm.toList == nm.toList) = true := by rw [tl_eq]; simp
          generalize (((i, j, nm) :: qs : List (Int × Int × ByteArray)).length) = FL at *
          clear hkn HC hwy HX HR HALL HFN HFF HBD H4 hn1 hn2
          go_wp2_with (go_at_call 29; first | (refine hi1.mono ?_; clear hi1; rintro e w5 ⟨rfl, rfl⟩) | (refine hi2.mono ?_; clear hi2; rintro e w5 ⟨rfl, rfl⟩))
          go_meet
          case rel => exact ⟨by first | rfl | rw [hnb] | simp [hnb], rfl⟩
        · have hF0 := HFN.out rfl
          have hFb : ((F.length : Int) == 0) = true := by rw [hF0]; rfl
          clear hF0
          go_wp2_with fail
          go_meet
          case rel => exact ⟨by first | rfl | rw [hFb] | simp [hFb], rfl⟩
      case rest =>
        obtain ⟨rfl, hwc⟩ := hcut
        subst hwc
        have HIN : Hid (Stay w0 wc ∧ RecS 1 encSt wc a1 b1 0 bd) := ⟨H4.out.1, H4.out.2.1⟩
        have hbn : x.body.length ≤ 1048576 := HX.out.1.small.2.1
        have hus : ∀ s ∈ bd, s.size ≤ 1048576 := fun s hs => by
          rw [HBD.out, onceN_mem] at hs
          obtain ⟨l, hl, -, hv⟩ := bindP_names.1 hs
          have hf := HX.out.1.lit hl
          obtain ⟨t, ht, -, rfl⟩ := varsT_mem hv
          rcases terms_mem ht with h | rfl | rfl
          · exact hf.shorts.1 t h
          · exact hf.shorts.2.1
          · exact hf.shorts.2.2
        have hrd := fun V (hV : Stay wc V) l (hl : l ∈ x.body) => ready_any l V ((HX.out.1.lit hl).stay (HIN.out.1.trans hV)) a1 b1 0 c1 bd (HIN.out.2.stay hV) hus (by omega)
        have HB : Hid (RecS 7 encLi wc x.a x.b x.off x.body) := (HX.out.1.ins.2.recs).stay HIN.out.1
        clear hi1 hi2 HFF HFN HALL H4 hus hv hl
        go_wp2_with fail
        go_loopw [10, 11, 12] (fun u8 u9 u wr => ∃ j : Nat, j ≤ x.body.length ∧ u = .int .i64 (j : Int) ∧ u8 = .bool (canB bd (x.body.take j)) ∧ u9 = .int .i64 (manyN (x.body.take j) : Int) ∧ Stay wc wr) (fun _ _ u _ => x.body.length - (intOf u).toNat)
        case atStart => exact ⟨0, Nat.zero_le _, rfl, by simp [canB], by simp [manyN], Stay.refl _⟩
        case round =>
          obtain ⟨j, hj, rfl, rfl, rfl, hsr⟩ := hrel
          obtain ⟨q0, q1, q2⟩ := HC.out wr (HIN.out.1.trans hsr)
          have SR : Hid (Stay wc wr) := hsr
          by_cases hlt : j < x.body.length
          · have hki : (j : Int) < (x.body.length : Int) := by omega
            have hxa := HB.out.1 (by omega)
            rw [hxa] at q2
            have cc : ∀ q u, (encLi x.body[j])[q]? = some u → wr.cell? ⟨x.b, x.off + j * 7 + q, none⟩ = some u := fun q u hq => hsr.cell (HB.out.2 j hlt q u hq)
            have d0 := cc 0 _ rfl
            have d1 := cc 1 _ rfl
            have d2 := cc 2 _ rfl
            have d3 := cc 3 _ rfl
            have d4 := cc 4 _ rfl
            have d5 := cc 5 _ rfl
            have d6 := cc 6 _ rfl
            rw [Nat.add_zero] at d0
            have hr1 := hrd wr hsr x.body[j] (List.getElem_mem hlt)
            have HT1 : Hid (canB bd (x.body.take (j + 1)) = (canB bd (x.body.take j) && (!ofThree x.body[j] || readyB x.body[j] bd))) := by
              show _ = _
              unfold canB
              rw [List.take_add_one, List.getElem?_eq_getElem hlt, Option.toList_some, List.all_append]
              simp
            have HT2 : Hid (manyN (x.body.take (j + 1)) = manyN (x.body.take j) + (if ofThree x.body[j] = true then 1 else 0)) := by
              show _ = _
              unfold manyN
              rw [List.take_add_one, List.getElem?_eq_getElem hlt, Option.toList_some, List.filter_append, List.length_append]
              split <;> simp_all
            have hmj : manyN (x.body.take j) ≤ j := by
              unfold manyN
              refine Nat.le_trans (List.length_filter_le _ _) ?_
              rw [List.length_take]
              omega
            generalize x.body[j] = m at *
            generalize canB bd (x.body.take j) = cn at *
            generalize manyN (x.body.take j) = mn at *
            have HO : Hid (ofThree m = true ↔ m.kind = 1 ∨ m.kind = 2 ∨ m.kind = 3) := ofThree_iff m
            obtain ⟨rd, hrdy⟩ : ∃ rd, rd = readyB m bd := ⟨_, rfl⟩
            obtain ⟨th, hth⟩ : ∃ th, th = ofThree m := ⟨_, rfl⟩
            have HT1' : Hid (canB bd (x.body.take (j + 1)) = (cn && (!th || rd))) := by show _ = _; rw [HT1.out, hth, hrdy]
            have HT2' : Hid (manyN (x.body.take (j + 1)) = mn + (if th = true then 1 else 0)) := by show _ = _; rw [HT2.out, hth]
            rw [← hth] at HO
            rw [← hrdy] at hr1
            clear HT1 HT2 hrdy hth hsr hxa cc
            obtain ⟨kd, ⟨p, xa, xb, xo, xc, xs⟩, ⟨va1, t1⟩, ⟨va2, t2⟩⟩ := m
            dsimp only [encLi, At.sl, Li.v] at *
            by_cases k1 : kd < 1
            · obtain rfl : th = false := by
                cases th
                · rfl
                · have := HO.out.1 rfl; omega
              clear HO hr1
              go_wp2_with fail
              go_roundw
              case rel => exact ⟨j + 1, by omega, by simp, by rw [HT1'.out]; simp, by rw [HT2'.out]; rfl, SR.out⟩
              case measure => simp [intOf]; omega
            · by_cases k3 : kd > 3
              · obtain rfl : th = false := by
                  cases th
                  · rfl
                  · have := HO.out.1 rfl; omega
                clear HO hr1
                go_wp2_with fail
                go_roundw
                case rel => exact ⟨j + 1, by omega, by simp, by rw [HT1'.out]; simp, by rw [HT2'.out]; rfl, SR.out⟩
                case measure => simp [intOf]; omega
              · obtain rfl : th = true := HO.out.2 (by omega)
                clear HO
                cases cn
                · go_wp2_with fail
                  go_roundw
                  case rel => exact ⟨j + 1, by omega, by simp, by rw [HT1'.out]; rfl, by rw [HT2'.out]; simp, SR.out⟩
                  case measure => simp [intOf]; omega
                · go_wp2_with (go_at_call 19; refine hr1.mono ?_; rintro e w6 ⟨rfl, s6⟩)
                  go_roundw
                  case rel => exact ⟨j + 1, by omega, by simp, by rw [HT1'.out]; simp, by rw [HT2'.out]; simp, SR.out.trans s6⟩
                  case measure => simp [intOf]; omega
          · obtain rfl : j = x.body.length := by omega
            have hcan : canB bd x.body = wayOkB x.body := by rw [HBD.out]; exact can_way _
            have hmn : manyN x.body ≤ x.body.length := List.length_filter_le _ _
            rw [List.take_of_length_le (Nat.le_refl _), hcan]
            have hw5 := hwy wr (HIN.out.1.trans hsr)
            unfold WayR at hw5
            obtain ⟨wk, hwk⟩ : ∃ wk, wk = wayOkB x.body := ⟨_, rfl⟩
            obtain ⟨way, hway⟩ : ∃ way, way = wayL x.body := ⟨_, rfl⟩
            obtain ⟨mn, hmn2⟩ : ∃ mn, mn = manyN x.body := ⟨_, rfl⟩
            have HW1 : Hid (wk = false → way = []) := fun h => by rw [hway]; unfold wayL; rw [if_neg (by show ¬ wayOkB x.body = true; rw [← hwk, h]; simp)]
            have HW2 : Hid (wk = true → way = (takeN (bindP x.body) x.body x.body.length).1 ∧ wayOkB x.body = true ∧ way.length = mn) := fun h => by
              have h' : wayOkB x.body = true := by rw [← hwk]; exact h
              have : way = (takeN (bindP x.body) x.body x.body.length).1 := by rw [hway]; unfold wayL; exact if_pos h'
              exact ⟨this, h', by rw [this, hmn2]; exact way_len h'⟩
            rw [← hway, show wayOk x.body = wk from hwk.symm] at hw5
            rw [← hwk, ← hmn2]
            rw [← hmn2] at hmn
            clear hcan hwk hway hmn2 hsr hwy hj hlt
            go_wp2_with fail
            refine hw5.mono ?_
            rintro e w7 ⟨a7, c7, rfl, hO7, s7⟩
            clear hw5
            obtain ⟨r0, r1, r2⟩ := HC.out w7 ((HIN.out.1.trans SR.out).trans s7)
            obtain ⟨b7, hR7⟩ : ∃ b7, RecS 1 encI w7 a7 b7 0 way := by
              obtain ⟨va, b, vc, hv, hR, -⟩ := hO7.form encIOk
              simp only [Value.slice.injEq] at hv
              obtain ⟨rfl, -, rfl⟩ := hv
              exact ⟨b, hR⟩
            have H7 : Hid (Stay w0 w7 ∧ RecS 1 encI w7 a7 b7 0 way) := ⟨(HIN.out.1.trans SR.out).trans s7, hR7⟩
            clear hO7 hR7 s7 q0 q1 q2
            go_upto_region 21 with fail
            go_cut [138] from 34 to 191 (fun vc wx => vc = .bool false ∧ wx = w7)
            case first =>
              cases wk
              · obtain rfl := HW1.out rfl
                clear HW1 HW2
                go_wp2_with fail
                go_meet
                case rel => exact ⟨rfl, rfl⟩
              · obtain ⟨-, -, rfl⟩ := HW2.out rfl
                clear HW1 HW2
                go_wp2_with fail
                go_meet
                case rel => exact ⟨by first | rfl | simp, rfl⟩
            case rest =>
              obtain ⟨rfl, hwd⟩ := hcut
              rename World => we
              subst hwd
              have HRD : Hid (∀ i (h : i < way.length), ∃ (j : Nat) (l : Li), way[i] = (j : Int) ∧ x.body[j]? = some l ∧ (j : Int) ∉ way.take i ∧ readyB l (onceN (bindP (litsAt x.body (way.take i)))) = true) := fun i h => by
                cases hk : wk
                · have := HW1.out hk; subst this; simp at h
                · obtain ⟨h1, h2, -⟩ := HW2.out hk
                  subst h1
                  exact way_round h2 h
              have hwn : way.length ≤ 1048576 := by
                cases hk : wk
                · have := HW1.out hk; subst this; simp
                · have := (HW2.out hk).2.2; omega
              have hmk := run_makeBools x.body.length (by omega) we
              have HL0 : Hid (LJ we x.body.length (way.take 0) (litsAt x.body (way.take 0)) (.slice none 0 0) (we.alloc (.cells (seenA x.body.length []) 4))) := ⟨heap_new _ _, OwnR.nil, below_alloc _ _ _ (Nat.le_refl _)⟩
              clear HW1 HW2 hmn hrd
              go_wp2_with fail
              clear hmk
              go_loopw [16, 18] (fun u16 u wr => ∃ i : Nat, i ≤ way.length ∧ u = .int .i64 (i : Int) ∧ LJ we x.body.length (way.take i) (litsAt x.body (way.take i)) u16 wr) (fun _ u _ => way.length - (intOf u).toNat)
              case atStart => exact ⟨0, Nat.zero_le _, rfl, HL0.out⟩
              case round =>
                obtain ⟨i, hi, rfl, hLJ⟩ := hrel
                rename World => wv
                have HJ : Hid (LJ we x.body.length (way.take i) (litsAt x.body (way.take i)) u16 wv) := hLJ
                have hzl := hLJ.lt
                clear hLJ
                by_cases hlt : i < way.length
                · have hki : (i : Int) < (way.length : Int) := by omega
                  obtain ⟨j, l, hwj, hbl, hnin, hrdy⟩ := HRD.out i hlt
                  obtain ⟨hjn, hle⟩ := List.getElem?_eq_some_iff.1 hbl
                  have hnx : way.take (i + 1) = way.take i ++ [(j : Int)] := by rw [List.take_add_one, List.getElem?_eq_getElem hlt, hwj]; rfl
                  have hlx : litsAt x.body (way.take (i + 1)) = litsAt x.body (way.take i) ++ [l] := by rw [hnx]; exact litsAt_snoc hbl
                  have hll : (litsAt x.body (way.take i)).length ≤ 1048576 := Nat.le_trans (litsAt_len _ _) (Nat.le_trans (List.length_take_le _ _) (by omega))
                  have hlm : ∀ l' ∈ litsAt x.body (way.take i), l' ∈ x.body := fun l' h => litsAt_mem h
                  obtain rfl := H7.out.2.1 (by omega)
                  have cw := H7.out.2.2 i hlt 0 _ rfl
                  simp only [Nat.mul_one, Nat.add_zero, Nat.zero_add] at cw
                  rw [hwj] at cw
                  have cwv := below_cell HJ.out.2.2 (World.block_lt_of_cell? we _ cw) cw
                  have s0v : Stay w0 wv := H7.out.1.trans HJ.out.2.2
                  have hRB : RecS 7 encLi we x.a x.b x.off x.body := HX.out.1.ins.2.recs.stay H7.out.1
                  have hxa := hRB.1 (by omega)
                  have hrule := (HC.out we H7.out.1).2.2
                  rw [hxa] at hrule
                  have hlit : ∀ q u, (encLi l)[q]? = some u → we.cell? ⟨x.b, x.off + j * 7 + q, none⟩ = some u := fun q u hq => hRB.2 j hjn q u (by rw [hle]; exact hq)
                  have hj0 : ¬ (j : Int) < 0 := by omega
                  have hj1 : (j : Int) < (x.body.length : Int) := by omega
                  have hj2 : ¬ (j : Int) ≥ (x.body.length : Int) := by omega
                  have hlf : l.fit w0 := HX.out.1.lit (List.mem_of_getElem? hbl)
                  obtain ⟨lits, hlits⟩ : ∃ lits, lits = litsAt x.body (way.take i) := ⟨_, rfl⟩
                  rw [← hlits] at hlx hll hlm hrdy HJ
                  obtain ⟨S, hS⟩ : ∃ S, S = way.take i := ⟨_, rfl⟩
                  rw [← hS] at hnx hnin HJ
                  obtain ⟨za, zb, zc, hu16, hzR, -⟩ := HJ.out.2.1.form encLiOk
                  subst hu16
                  have hfz : (⟨⟨⟨#[]⟩, none, 0, 0, 0, []⟩, za, zb, 0, zc, lits⟩ : Ru).fit wv.drew := fit_of ⟨⟨fun h => absurd h (Nat.lt_irrefl _), fun _ h => absurd h (Nat.not_lt_zero _)⟩, Nat.zero_le _, fun _ h => nomatch h⟩ (hzR.stay (Stay.drew wv)) hll (fun l' hl' => ((HX.out.1.lit (hlm l' hl')).stay s0v).stay (Stay.drew wv))
                  have hsz : ∀ s ∈ onceN (bindP lits), s.size ≤ 1048576 := fun s hs => by
                    obtain ⟨l', hl', -, hv⟩ := bindP_names.1 (onceN_mem.1 hs)
                    have hf := HX.out.1.lit (hlm l' hl')
                    obtain ⟨t, ht, -, rfl⟩ := varsT_mem hv
                    rcases terms_mem ht with h | rfl | rfl
                    · exact hf.shorts.1 t h
                    · exact hf.shorts.2.1
                    · exact hf.shorts.2.2
                  have hol : (onceN (bindP lits)).length ≤ 4398046511104 := once_few hll fun l' hl' => (HX.out.1.lit (hlm l' hl')).few
                  obtain ⟨nl, hnl⟩ : ∃ nl, nl = (onceN (bindP lits)).length := ⟨_, rfl⟩
                  have hbnd : Calls Try.prog 10 #[.slice za lits.length zc] wv.drew fun e wB => ∃ ba bc, e = .returned (.slice ba nl bc) ∧ Stay wv.drew wB ∧ Calls Try.prog 19 #[l.v, .slice ba nl bc] wB fun e wC => e = .returned (.bool true) ∧ Stay wB wC := by
                    refine (sBound_any _ _ hfz).mono fun e wB ⟨ba, bc, he, hO, hs⟩ => ?_
                    obtain ⟨va, bb, vc, hv, hR, -⟩ := hO.form encStOk
                    simp only [Value.slice.injEq] at hv
                    obtain ⟨rfl, -, rfl⟩ := hv
                    refine ⟨ba, bc, by rw [hnl]; exact he, hs, ?_⟩
                    have h1 := ready_any l wB (hlf.stay (s0v.trans ((Stay.drew wv).trans hs))) ba bb 0 bc (onceN (bindP lits)) hR hsz hol
                    rw [hrdy, ← hnl] at h1
                    exact h1
                  have HCC : Hid (∀ V, LJ we x.body.length S lits (.slice za lits.length zc) V → V.cell? ⟨w.heap.size, 2, none⟩ = some (.slice (some ⟨x.b, x.off, none⟩) x.body.length x.cap) ∧ V.cell? ⟨we.heap.size, j, none⟩ = some (.bool false)) := fun V hV => by
                    refine ⟨below_cell hV.2.2 (World.block_lt_of_cell? we _ hrule) hrule, ?_⟩
                    have := (hV.mark hjn).1
                    rwa [decide_eq_false hnin] at this
                  have HCL : Hid (∀ V, Below we.heap.size we V → V.cell? ⟨w.heap.size, 2, none⟩ = some (.slice (some ⟨x.b, x.off, none⟩) x.body.length x.cap) ∧ ∀ q u, (encLi l)[q]? = some u → V.cell? ⟨x.b, x.off + j * 7 + q, none⟩ = some u) := fun V hV => ⟨below_cell hV (World.block_lt_of_cell? we _ hrule) hrule, fun q u hq => below_cell hV (World.block_lt_of_cell? we _ (hlit q u hq)) (hlit q u hq)⟩
                  have HPU : Hid (∀ V, LJ we x.body.length S lits (.slice za lits.length zc) V → V.cell? ⟨we.heap.size, j, none⟩ = some (.bool false) ∧ V.frozen? ⟨we.heap.size, j, none⟩ = false ∧ ∃ a9 n9 k9 W9, (Builtin.append_ #[25, 25] 25 #[.slice za lits.length zc, .slice (some ⟨(V.setCell ⟨we.heap.size, j, none⟩ (.bool true)).heap.size, 0, none⟩) 1 1]).run Try.prog ((V.setCell ⟨we.heap.size, j, none⟩ (.bool true)).alloc (.cells (encLi l).toArray 53)) = .ok (.slice a9 n9 k9) W9 ∧ LJ we x.body.length (way.take (i + 1)) (litsAt x.body (way.take (i + 1))) (.slice a9 n9 k9) W9 ∧ Below we.heap.size we (V.setCell ⟨we.heap.size, j, none⟩ (.bool true))) := fun V hV => by
                    obtain ⟨m1, m2, hJ2⟩ := hV.mark hjn
                    obtain ⟨a9, n9, k9, W9, hap, hJ3⟩ := hJ2.push l (by omega) 25
                    rw [decide_eq_false hnin] at m1
                    exact ⟨m1, m2, a9, n9, k9, W9, hap, by rw [hlx, hnx]; exact hJ3, hJ2.2.2⟩
                  obtain ⟨y0, y1⟩ := HCC.out wv HJ.out
                  obtain ⟨g0, hg⟩ := HCL.out wv.drew (HJ.out.stay (Stay.drew wv)).2.2
                  have y2 : wv.drew.cell? ⟨we.heap.size, j, none⟩ = some (.bool false) := y1
                  have en1 : ∀ args w, (callFunc 10 args).run Try.prog w = .ok (.enter 10 args) w := enters_of Try.func10 (by kernel_rfl) rfl
                  have en2 : ∀ args w, (callFunc 19 args).run Try.prog w = .ok (.enter 19 args) w := enters_of Try.func19 (by kernel_rfl) rfl
                  obtain ⟨zl, hzl2⟩ : ∃ zl, zl = lits.length := ⟨_, rfl⟩
                  rw [← hzl2] at hbnd HPU HJ ⊢
                  clear hzl2 hfz hzR hsz hol hnl hlx hnx hll hlm hle hbl hrdy hnin hlf hRB hxa hrule HL0 HCC cw hwj hlits hS hlit
                  obtain ⟨kd, ⟨p, xa, xb, xo, xc, xs⟩, ⟨va1, t1⟩, ⟨va2, t2⟩⟩ := l
                  have h0 := hg 0 _ rfl
                  have h1 := hg 1 _ rfl
                  have h2 := hg 2 _ rfl
                  have h3 := hg 3 _ rfl
                  have h4 := hg 4 _ rfl
                  have h5 := hg 5 _ rfl
                  have h6 := hg 6 _ rfl
                  clear hg
                  rw [Nat.add_zero] at h0
                  dsimp only [encLi, At.sl, Li.v] at *
                  go_upto_region 29 with fail
                  refine region_wp (by kernel_rfl) ?_
                  refine wpAny_take (i := 0) (v := .int .i64 (j : Int)) rfl (by kernel_rfl) (by kernel_rfl) (by kernel_rfl) (fun _ _ _ h => h) (Or.inl ⟨by rfl, fun W => by first | (go_simp; done) | (go_simp; with_reducible rfl)⟩) ?_
                  refine wpAny_take (i := 1) (v := .bool false) rfl (by kernel_rfl) (by kernel_rfl) (by kernel_rfl) (fun _ _ _ h => h) (Or.inl ⟨by rfl, fun W => by first | (go_simp; done) | (go_simp; with_reducible rfl)⟩) ?_
                  refine wpAny_take (i := 2) (v := .bool false) rfl (by kernel_rfl) (by kernel_rfl) (by kernel_rfl) (fun _ _ _ h => h) (Or.inl ⟨by rfl, fun W => by first | (go_simp; done) | (go_simp; with_reducible rfl)⟩) ?_
                  refine wpAny_take (i := 3) (v := .int .i64 (j : Int)) rfl (by kernel_rfl) (by kernel_rfl) (by kernel_rfl) (fun _ _ _ h => h) (Or.inl ⟨by rfl, fun W => by first | (go_simp; done) | (go_simp; with_reducible rfl)⟩) ?_
                  refine wpAny_take (i := 4) (v := .pointer (some ⟨w.heap.size, 2, none⟩)) rfl (by kernel_rfl) (by kernel_rfl) (by kernel_rfl) (fun _ _ _ h => h) (Or.inl ⟨by rfl, fun W => by first | (go_simp; done) | (go_simp; with_reducible rfl)⟩) ?_
                  refine wpAny_ready (rs := [5]) (by kernel_rfl) (by simp) (AllReady.cons (o := { dst := some 158, op := Op.load 25 (Operand.tmp 157), type := 25, pos := "outright.go:98", after := #[{ on := 4, ground := Ground.data }, { on := 2, ground := Ground.guard }], guard := some (2, false) }) rfl (fun K hK => ?_) AllReady.nil)
                  · go_simp
                    refine hK _ _ ?_
                    clear hK K
                    refine wpAny_take (i := 6) (v := .int .i64 (x.body.length : Int)) rfl (by kernel_rfl) (by kernel_rfl) (by kernel_rfl) (fun _ _ _ h => h) (Or.inl ⟨by rfl, fun W => by first | (go_simp; done) | (go_simp; with_reducible rfl)⟩) ?_
                    refine wpAny_take (i := 7) (v := .bool false) rfl (by kernel_rfl) (by kernel_rfl) (by kernel_rfl) (fun _ _ _ h => h) (Or.inl ⟨by rfl, fun W => by first | (go_simp; done) | (go_simp; with_reducible rfl)⟩) ?_
                    refine wpAny_take (i := 8) (v := .bool false) rfl (by kernel_rfl) (by kernel_rfl) (by kernel_rfl) (fun _ _ _ h => h) (Or.inl ⟨by rfl, fun W => by first | (go_simp; done) | (go_simp; with_reducible rfl)⟩) ?_
                    refine wpAny_take (i := 9) (v := .bool false) rfl (by kernel_rfl) (by kernel_rfl) (by kernel_rfl) (fun _ _ _ h => h) (Or.inl ⟨by rfl, fun W => by first | (go_simp; done) | (go_simp; with_reducible rfl)⟩) ?_
                    refine wpAny_take (i := 10) (v := .slice (some ⟨we.heap.size, 0, none⟩) x.body.length x.body.length) rfl (by kernel_rfl) (by kernel_rfl) (by kernel_rfl) (fun _ _ _ h => h) (Or.inl ⟨by rfl, fun W => by first | (go_simp; done) | (go_simp; with_reducible rfl)⟩) ?_
                    refine wpAny_take (i := 11) (v := .int .i64 (j : Int)) rfl (by kernel_rfl) (by kernel_rfl) (by kernel_rfl) (fun _ _ _ h => h) (Or.inl ⟨by rfl, fun W => by first | (go_simp; done) | (go_simp; with_reducible rfl)⟩) ?_
                    refine wpAny_ready (rs := [12]) (by kernel_rfl) (by simp) (AllReady.cons (o := { dst := some 165, op := Op.indexAddr 67 (Operand.tmp 163) (Operand.tmp 164), type := 0, pos := "outright.go:98", after := #[{ on := 10, ground := Ground.data }, { on := 11, ground := Ground.data }, { on := 9, ground := Ground.guard }], guard := some (9, false) }) rfl (fun K hK => ?_) AllReady.nil)
                    · go_simp
                      refine hK _ _ ?_
                      clear hK K
                      refine wpAny_ready (rs := [13]) (by kernel_rfl) (by simp) (AllReady.cons (o := { dst := some 166, op := Op.load 4 (Operand.tmp 165), type := 4, pos := "outright.go:98", after := #[{ on := 12, ground := Ground.data }, { on := 9, ground := Ground.guard }], guard := some (9, false) }) rfl (fun K hK => ?_) AllReady.nil)
                      · go_simp
                        refine hK _ _ ?_
                        clear hK K
                        refine wpAny_take (i := 14) (v := .bool false) rfl (by kernel_rfl) (by kernel_rfl) (by kernel_rfl) (fun _ _ _ h => h) (Or.inl ⟨by rfl, fun W => by first | (go_simp; done) | (go_simp; with_reducible rfl)⟩) ?_
                        refine wpAny_take (i := 15) (v := .bool false) rfl (by kernel_rfl) (by kernel_rfl) (by kernel_rfl) (fun _ _ _ h => h) (Or.inl ⟨by rfl, fun W => by first | (go_simp; done) | (go_simp; with_reducible rfl)⟩) ?_
                        refine wpAny_take (i := 16) (v := .pointer (some ⟨w.heap.size, 2, none⟩)) rfl (by kernel_rfl) (by kernel_rfl) (by kernel_rfl) (fun _ _ _ h => h) (Or.inl ⟨by rfl, fun W => by first | (go_simp; done) | (go_simp; with_reducible rfl)⟩) ?_
                        refine wpAny_take (i := 18) (v := .int .i64 (j : Int)) rfl (by kernel_rfl) (by kernel_rfl) (by kernel_rfl) (fun _ _ _ h => h) (Or.inl ⟨by rfl, fun W => by first | (go_simp; done) | (go_simp; with_reducible rfl)⟩) ?_
                        refine wpAny_take (i := 21) (v := .slice za zl zc) rfl (by kernel_rfl) (by kernel_rfl) (by kernel_rfl) (fun _ _ _ h => h) (Or.inl ⟨by rfl, fun W => by first | (go_simp; done) | (go_simp; with_reducible rfl)⟩) ?_
                        refine wpAny_ready (rs := [17, 22]) (by kernel_rfl) (by simp) (AllReady.cons (o := { dst := some 170, op := Op.load 25 (Operand.tmp 169), type := 25, pos := "outright.go:98", after := #[{ on := 16, ground := Ground.data }, { on := 15, ground := Ground.guard }], guard := some (15, false) }) rfl (fun K hK => ?_) (AllReady.cons (o := { dst := some 175, op := Op.call { callee := Callee.value (Operand.func 10), args := #[Operand.tmp 174], argTypes := #[25] }, type := 28, pos := "outright.go:98", after := #[{ on := 21, ground := Ground.data }, { on := 15, ground := Ground.chain }, { on := 15, ground := Ground.guard }], guard := some (15, false) }) rfl (fun K hK => ?_) AllReady.nil))
                        · go_simp
                          refine hK _ _ ?_
                          clear hK K
                          refine wpAny_ready (rs := [19, 22]) (by kernel_rfl) (by simp) (AllReady.cons (o := { dst := some 172, op := Op.indexAddr 25 (Operand.tmp 170) (Operand.tmp 171), type := 0, pos := "outright.go:98", after := #[{ on := 17, ground := Ground.data }, { on := 18, ground := Ground.data }, { on := 15, ground := Ground.guard }], guard := some (15, false) }) rfl (fun K hK => ?_) (AllReady.cons (o := { dst := some 175, op := Op.call { callee := Callee.value (Operand.func 10), args := #[Operand.tmp 174], argTypes := #[25] }, type := 28, pos := "outright.go:98", after := #[{ on := 21, ground := Ground.data }, { on := 15, ground := Ground.chain }, { on := 15, ground := Ground.guard }], guard := some (15, false) }) rfl (fun K hK => ?_) AllReady.nil))
                          · go_simp
                            refine hK _ _ ?_
                            clear hK K
                            refine wpAny_ready (rs := [20, 22]) (by kernel_rfl) (by simp) (AllReady.cons (o := { dst := some 173, op := Op.load 53 (Operand.tmp 172), type := 53, pos := "outright.go:98", after := #[{ on := 19, ground := Ground.data }, { on := 15, ground := Ground.guard }], guard := some (15, false) }) rfl (fun K hK => ?_) (AllReady.cons (o := { dst := some 175, op := Op.call { callee := Callee.value (Operand.func 10), args := #[Operand.tmp 174], argTypes := #[25] }, type := 28, pos := "outright.go:98", after := #[{ on := 21, ground := Ground.data }, { on := 15, ground := Ground.chain }, { on := 15, ground := Ground.guard }], guard := some (15, false) }) rfl (fun K hK => ?_) AllReady.nil))
                            · go_simp
                              refine hK _ _ ?_
                              clear hK K
                              refine wpAny_ready (rs := [22]) (by kernel_rfl) (by simp) (AllReady.cons (o := { dst := some 175, op := Op.call { callee := Callee.value (Operand.func 10), args := #[Operand.tmp 174], argTypes := #[25] }, type := 28, pos := "outright.go:98", after := #[{ on := 21, ground := Ground.data }, { on := 15, ground := Ground.chain }, { on := 15, ground := Ground.guard }], guard := some (15, false) }) rfl (fun K hK => ?_) AllReady.nil)
                              · refine step_goG (by rfl) 10 _ _ rfl (args := #[.slice za zl zc]) (by first | rfl | (simp [Act.eval]; done) | simp [Act.eval, Act.put]) en1 ?_
                                refine hbnd.mono ?_
                                rintro e wB ⟨ba, bc, rfl, sB, hrB⟩
                                have SB : Hid (Stay wv wB) := (Stay.drew wv).trans sB
                                obtain ⟨f0, hf⟩ := HCL.out wB (HJ.out.stay SB.out).2.2
                                have i0 := hf 0 _ rfl
                                have i1 := hf 1 _ rfl
                                have i2 := hf 2 _ rfl
                                have i3 := hf 3 _ rfl
                                have i4 := hf 4 _ rfl
                                have i5 := hf 5 _ rfl
                                have i6 := hf 6 _ rfl
                                rw [Nat.add_zero] at i0
                                clear hf
                                refine ⟨_, rfl, ?_⟩
                                (try go_simp)
                                refine hK _ _ ?_
                                clear hK K
                                refine wpAny_ready (rs := [23]) (by kernel_rfl) (by simp) (AllReady.cons (o := { dst := some 176, op := Op.call { callee := Callee.value (Operand.func 19), args := #[Operand.tmp 173, Operand.tmp 175], argTypes := #[53, 28] }, type := 4, pos := "outright.go:98", after := #[{ on := 20, ground := Ground.data }, { on := 22, ground := Ground.data }, { on := 22, ground := Ground.chain }, { on := 15, ground := Ground.guard }], guard := some (15, false) }) rfl (fun K hK => ?_) AllReady.nil)
                                · refine step_goG (by rfl) 19 _ _ rfl (args := #[.agg #[.int .i64 kd, .string p, .slice xa xs.length xc, .bool va1, .string t1, .bool va2, .string t2], .slice ba nl bc]) (by first | rfl | (simp [Act.eval]; done) | simp [Act.eval, Act.put]) en2 ?_
                                  refine hrB.mono ?_
                                  rintro e wC ⟨rfl, sC⟩
                                  refine ⟨_, rfl, ?_⟩
                                  (try go_simp)
                                  refine hK _ _ ?_
                                  clear hK K
                                  refine wpAny_take (i := 24) (v := .bool false) rfl (by kernel_rfl) (by kernel_rfl) (by kernel_rfl) (fun _ _ _ h => h) (Or.inl ⟨by rfl, fun W => by first | (go_simp; done) | (go_simp; with_reducible rfl)⟩) ?_
                                  refine wpAny_take (i := 25) (v := .bool false) rfl (by kernel_rfl) (by kernel_rfl) (by kernel_rfl) (fun _ _ _ h => h) (Or.inl ⟨by rfl, fun W => by first | (go_simp; done) | (go_simp; with_reducible rfl)⟩) ?_
                                  refine wpAny_done (by kernel_rfl) ?_ _
                                  unfold normQ
                                  obtain ⟨m1, m2, a9, n9, k9, W9, hap, hJ9, hb9⟩ := HPU.out wC (HJ.out.stay (SB.out.trans sC))
                                  obtain ⟨r0, hf⟩ := HCL.out _ hb9
                                  have o0 := hf 0 _ rfl
                                  have o1 := hf 1 _ rfl
                                  have o2 := hf 2 _ rfl
                                  have o3 := hf 3 _ rfl
                                  have o4 := hf 4 _ rfl
                                  have o5 := hf 5 _ rfl
                                  have o6 := hf 6 _ rfl
                                  rw [Nat.add_zero] at o0
                                  clear hf hb9
                                  rw [show (wC.setCell ⟨we.heap.size, j, none⟩ (.bool true)).heap.size = wC.heap.size from by simp] at hap
                                  have HP : Hid (LJ we x.body.length (way.take (i + 1)) (litsAt x.body (way.take (i + 1))) (.slice a9 n9 k9) W9) := hJ9
                                  clear hJ9
                                  go_wp2_with (at_builtin; refine wpList_append_run rfl (.tmp 182) (.tmp 188) 25 25 rfl _ _ rfl rfl hap ?_; clear hap)
                                  go_roundw
                                  case rel => exact ⟨i + 1, by omega, by simp, HP.out⟩
                                  case measure => simp [intOf]; omega
                            · refine step_goG (by rfl) 10 _ _ rfl (args := #[.slice za zl zc]) (by first | rfl | (simp [Act.eval]; done) | simp [Act.eval, Act.put]) en1 ?_
                              refine hbnd.mono ?_
                              rintro e wB ⟨ba, bc, rfl, sB, hrB⟩
                              have SB : Hid (Stay wv wB) := (Stay.drew wv).trans sB
                              obtain ⟨f0, hf⟩ := HCL.out wB (HJ.out.stay SB.out).2.2
                              have i0 := hf 0 _ rfl
                              have i1 := hf 1 _ rfl
                              have i2 := hf 2 _ rfl
                              have i3 := hf 3 _ rfl
                              have i4 := hf 4 _ rfl
                              have i5 := hf 5 _ rfl
                              have i6 := hf 6 _ rfl
                              rw [Nat.add_zero] at i0
                              clear hf
                              refine ⟨_, rfl, ?_⟩
                              (try go_simp)
                              refine hK _ _ ?_
                              clear hK K
                              refine wpAny_ready (rs := [20]) (by kernel_rfl) (by simp) (AllReady.cons (o := { dst := some 173, op := Op.load 53 (Operand.tmp 172), type := 53, pos := "outright.go:98", after := #[{ on := 19, ground := Ground.data }, { on := 15, ground := Ground.guard }], guard := some (15, false) }) rfl (fun K hK => ?_) AllReady.nil)
                              · go_simp
                                refine hK _ _ ?_
                                clear hK K
                                refine wpAny_ready (rs := [23]) (by kernel_rfl) (by simp) (AllReady.cons (o := { dst := some 176, op := Op.call { callee := Callee.value (Operand.func 19), args := #[Operand.tmp 173, Operand.tmp 175], argTypes := #[53, 28] }, type := 4, pos := "outright.go:98", after := #[{ on := 20, ground := Ground.data }, { on := 22, ground := Ground.data }, { on := 22, ground := Ground.chain }, { on := 15, ground := Ground.guard }], guard := some (15, false) }) rfl (fun K hK => ?_) AllReady.nil)
                                · refine step_goG (by rfl) 19 _ _ rfl (args := #[.agg #[.int .i64 kd, .string p, .slice xa xs.length xc, .bool va1, .string t1, .bool va2, .string t2], .slice ba nl bc]) (by first | rfl | (simp [Act.eval]; done) | simp [Act.eval, Act.put]) en2 ?_
                                  refine hrB.mono ?_
                                  rintro e wC ⟨rfl, sC⟩
                                  refine ⟨_, rfl, ?_⟩
                                  (try go_simp)
                                  refine hK _ _ ?_
                                  clear hK K
                                  refine wpAny_take (i := 24) (v := .bool false) rfl (by kernel_rfl) (by kernel_rfl) (by kernel_rfl) (fun _ _ _ h => h) (Or.inl ⟨by rfl, fun W => by first | (go_simp; done) | (go_simp; with_reducible rfl)⟩) ?_
                                  refine wpAny_take (i := 25) (v := .bool false) rfl (by kernel_rfl) (by kernel_rfl) (by kernel_rfl) (fun _ _ _ h => h) (Or.inl ⟨by rfl, fun W => by first | (go_simp; done) | (go_simp; with_reducible rfl)⟩) ?_
                                  refine wpAny_done (by kernel_rfl) ?_ _
                                  unfold normQ
                                  obtain ⟨m1, m2, a9, n9, k9, W9, hap, hJ9, hb9⟩ := HPU.out wC (HJ.out.stay (SB.out.trans sC))
                                  obtain ⟨r0, hf⟩ := HCL.out _ hb9
                                  have o0 := hf 0 _ rfl
                                  have o1 := hf 1 _ rfl
                                  have o2 := hf 2 _ rfl
                                  have o3 := hf 3 _ rfl
                                  have o4 := hf 4 _ rfl
                                  have o5 := hf 5 _ rfl
                                  have o6 := hf 6 _ rfl
                                  rw [Nat.add_zero] at o0
                                  clear hf hb9
                                  rw [show (wC.setCell ⟨we.heap.size, j, none⟩ (.bool true)).heap.size = wC.heap.size from by simp] at hap
                                  have HP : Hid (LJ we x.body.length (way.take (i + 1)) (litsAt x.body (way.take (i + 1))) (.slice a9 n9 k9) W9) := hJ9
                                  clear hJ9
                                  go_wp2_with (at_builtin; refine wpList_append_run rfl (.tmp 182) (.tmp 188) 25 25 rfl _ _ rfl rfl hap ?_; clear hap)
                                  go_roundw
                                  case rel => exact ⟨i + 1, by omega, by simp, HP.out⟩
                                  case measure => simp [intOf]; omega
                          · refine step_goG (by rfl) 10 _ _ rfl (args := #[.slice za zl zc]) (by first | rfl | (simp [Act.eval]; done) | simp [Act.eval, Act.put]) en1 ?_
                            refine hbnd.mono ?_
                            rintro e wB ⟨ba, bc, rfl, sB, hrB⟩
                            have SB : Hid (Stay wv wB) := (Stay.drew wv).trans sB
                            obtain ⟨f0, hf⟩ := HCL.out wB (HJ.out.stay SB.out).2.2
                            have i0 := hf 0 _ rfl
                            have i1 := hf 1 _ rfl
                            have i2 := hf 2 _ rfl
                            have i3 := hf 3 _ rfl
                            have i4 := hf 4 _ rfl
                            have i5 := hf 5 _ rfl
                            have i6 := hf 6 _ rfl
                            rw [Nat.add_zero] at i0
                            clear hf
                            refine ⟨_, rfl, ?_⟩
                            (try go_simp)
                            refine hK _ _ ?_
                            clear hK K
                            refine wpAny_ready (rs := [19]) (by kernel_rfl) (by simp) (AllReady.cons (o := { dst := some 172, op := Op.indexAddr 25 (Operand.tmp 170) (Operand.tmp 171), type := 0, pos := "outright.go:98", after := #[{ on := 17, ground := Ground.data }, { on := 18, ground := Ground.data }, { on := 15, ground := Ground.guard }], guard := some (15, false) }) rfl (fun K hK => ?_) AllReady.nil)
                            · go_simp
                              refine hK _ _ ?_
                              clear hK K
                              refine wpAny_ready (rs := [20]) (by kernel_rfl) (by simp) (AllReady.cons (o := { dst := some 173, op := Op.load 53 (Operand.tmp 172), type := 53, pos := "outright.go:98", after := #[{ on := 19, ground := Ground.data }, { on := 15, ground := Ground.guard }], guard := some (15, false) }) rfl (fun K hK => ?_) AllReady.nil)
                              · go_simp
                                refine hK _ _ ?_
                                clear hK K
                                refine wpAny_ready (rs := [23]) (by kernel_rfl) (by simp) (AllReady.cons (o := { dst := some 176, op := Op.call { callee := Callee.value (Operand.func 19), args := #[Operand.tmp 173, Operand.tmp 175], argTypes := #[53, 28] }, type := 4, pos := "outright.go:98", after := #[{ on := 20, ground := Ground.data }, { on := 22, ground := Ground.data }, { on := 22, ground := Ground.chain }, { on := 15, ground := Ground.guard }], guard := some (15, false) }) rfl (fun K hK => ?_) AllReady.nil)
                                · refine step_goG (by rfl) 19 _ _ rfl (args := #[.agg #[.int .i64 kd, .string p, .slice xa xs.length xc, .bool va1, .string t1, .bool va2, .string t2], .slice ba nl bc]) (by first | rfl | (simp [Act.eval]; done) | simp [Act.eval, Act.put]) en2 ?_
                                  refine hrB.mono ?_
                                  rintro e wC ⟨rfl, sC⟩
                                  refine ⟨_, rfl, ?_⟩
                                  (try go_simp)
                                  refine hK _ _ ?_
                                  clear hK K
                                  refine wpAny_take (i := 24) (v := .bool false) rfl (by kernel_rfl) (by kernel_rfl) (by kernel_rfl) (fun _ _ _ h => h) (Or.inl ⟨by rfl, fun W => by first | (go_simp; done) | (go_simp; with_reducible rfl)⟩) ?_
                                  refine wpAny_take (i := 25) (v := .bool false) rfl (by kernel_rfl) (by kernel_rfl) (by kernel_rfl) (fun _ _ _ h => h) (Or.inl ⟨by rfl, fun W => by first | (go_simp; done) | (go_simp; with_reducible rfl)⟩) ?_
                                  refine wpAny_done (by kernel_rfl) ?_ _
                                  unfold normQ
                                  obtain ⟨m1, m2, a9, n9, k9, W9, hap, hJ9, hb9⟩ := HPU.out wC (HJ.out.stay (SB.out.trans sC))
                                  obtain ⟨r0, hf⟩ := HCL.out _ hb9
                                  have o0 := hf 0 _ rfl
                                  have o1 := hf 1 _ rfl
                                  have o2 := hf 2 _ rfl
                                  have o3 := hf 3 _ rfl
                                  have o4 := hf 4 _ rfl
                                  have o5 := hf 5 _ rfl
                                  have o6 := hf 6 _ rfl
                                  rw [Nat.add_zero] at o0
                                  clear hf hb9
                                  rw [show (wC.setCell ⟨we.heap.size, j, none⟩ (.bool true)).heap.size = wC.heap.size from by simp] at hap
                                  have HP : Hid (LJ we x.body.length (way.take (i + 1)) (litsAt x.body (way.take (i + 1))) (.slice a9 n9 k9) W9) := hJ9
                                  clear hJ9
                                  go_wp2_with (at_builtin; refine wpList_append_run rfl (.tmp 182) (.tmp 188) 25 25 rfl _ _ rfl rfl hap ?_; clear hap)
                                  go_roundw
                                  case rel => exact ⟨i + 1, by omega, by simp, HP.out⟩
                                  case measure => simp [intOf]; omega
                        · refine step_goG (by rfl) 10 _ _ rfl (args := #[.slice za zl zc]) (by first | rfl | (simp [Act.eval]; done) | simp [Act.eval, Act.put]) en1 ?_
                          refine hbnd.mono ?_
                          rintro e wB ⟨ba, bc, rfl, sB, hrB⟩
                          have SB : Hid (Stay wv wB) := (Stay.drew wv).trans sB
                          obtain ⟨f0, hf⟩ := HCL.out wB (HJ.out.stay SB.out).2.2
                          have i0 := hf 0 _ rfl
                          have i1 := hf 1 _ rfl
                          have i2 := hf 2 _ rfl
                          have i3 := hf 3 _ rfl
                          have i4 := hf 4 _ rfl
                          have i5 := hf 5 _ rfl
                          have i6 := hf 6 _ rfl
                          rw [Nat.add_zero] at i0
                          clear hf
                          refine ⟨_, rfl, ?_⟩
                          (try go_simp)
                          refine hK _ _ ?_
                          clear hK K
                          refine wpAny_ready (rs := [17]) (by kernel_rfl) (by simp) (AllReady.cons (o := { dst := some 170, op := Op.load 25 (Operand.tmp 169), type := 25, pos := "outright.go:98", after := #[{ on := 16, ground := Ground.data }, { on := 15, ground := Ground.guard }], guard := some (15, false) }) rfl (fun K hK => ?_) AllReady.nil)
                          · go_simp
                            refine hK _ _ ?_
                            clear hK K
                            refine wpAny_ready (rs := [19]) (by kernel_rfl) (by simp) (AllReady.cons (o := { dst := some 172, op := Op.indexAddr 25 (Operand.tmp 170) (Operand.tmp 171), type := 0, pos := "outright.go:98", after := #[{ on := 17, ground := Ground.data }, { on := 18, ground := Ground.data }, { on := 15, ground := Ground.guard }], guard := some (15, false) }) rfl (fun K hK => ?_) AllReady.nil)
                            · go_simp
                              refine hK _ _ ?_
                              clear hK K
                              refine wpAny_ready (rs := [20]) (by kernel_rfl) (by simp) (AllReady.cons (o := { dst := some 173, op := Op.load 53 (Operand.tmp 172), type := 53, pos := "outright.go:98", after := #[{ on := 19, ground := Ground.data }, { on := 15, ground := Ground.guard }], guard := some (15, false) }) rfl (fun K hK => ?_) AllReady.nil)
                              · go_simp
                                refine hK _ _ ?_
                                clear hK K
                                refine wpAny_ready (rs := [23]) (by kernel_rfl) (by simp) (AllReady.cons (o := { dst := some 176, op := Op.call { callee := Callee.value (Operand.func 19), args := #[Operand.tmp 173, Operand.tmp 175], argTypes := #[53, 28] }, type := 4, pos := "outright.go:98", after := #[{ on := 20, ground := Ground.data }, { on := 22, ground := Ground.data }, { on := 22, ground := Ground.chain }, { on := 15, ground := Ground.guard }], guard := some (15, false) }) rfl (fun K hK => ?_) AllReady.nil)
                                · refine step_goG (by rfl) 19 _ _ rfl (args := #[.agg #[.int .i64 kd, .string p, .slice xa xs.length xc, .bool va1, .string t1, .bool va2, .string t2], .slice ba nl bc]) (by first | rfl | (simp [Act.eval]; done) | simp [Act.eval, Act.put]) en2 ?_
                                  refine hrB.mono ?_
                                  rintro e wC ⟨rfl, sC⟩
                                  refine ⟨_, rfl, ?_⟩
                                  (try go_simp)
                                  refine hK _ _ ?_
                                  clear hK K
                                  refine wpAny_take (i := 24) (v := .bool false) rfl (by kernel_rfl) (by kernel_rfl) (by kernel_rfl) (fun _ _ _ h => h) (Or.inl ⟨by rfl, fun W => by first | (go_simp; done) | (go_simp; with_reducible rfl)⟩) ?_
                                  refine wpAny_take (i := 25) (v := .bool false) rfl (by kernel_rfl) (by kernel_rfl) (by kernel_rfl) (fun _ _ _ h => h) (Or.inl ⟨by rfl, fun W => by first | (go_simp; done) | (go_simp; with_reducible rfl)⟩) ?_
                                  refine wpAny_done (by kernel_rfl) ?_ _
                                  unfold normQ
                                  obtain ⟨m1, m2, a9, n9, k9, W9, hap, hJ9, hb9⟩ := HPU.out wC (HJ.out.stay (SB.out.trans sC))
                                  obtain ⟨r0, hf⟩ := HCL.out _ hb9
                                  have o0 := hf 0 _ rfl
                                  have o1 := hf 1 _ rfl
                                  have o2 := hf 2 _ rfl
                                  have o3 := hf 3 _ rfl
                                  have o4 := hf 4 _ rfl
                                  have o5 := hf 5 _ rfl
                                  have o6 := hf 6 _ rfl
                                  rw [Nat.add_zero] at o0
                                  clear hf hb9
                                  rw [show (wC.setCell ⟨we.heap.size, j, none⟩ (.bool true)).heap.size = wC.heap.size from by simp] at hap
                                  have HP : Hid (LJ we x.body.length (way.take (i + 1)) (litsAt x.body (way.take (i + 1))) (.slice a9 n9 k9) W9) := hJ9
                                  clear hJ9
                                  go_wp2_with (at_builtin; refine wpList_append_run rfl (.tmp 182) (.tmp 188) 25 25 rfl _ _ rfl rfl hap ?_; clear hap)
                                  go_roundw
                                  case rel => exact ⟨i + 1, by omega, by simp, HP.out⟩
                                  case measure => simp [intOf]; omega
                · obtain rfl : i = way.length := by omega
                  have HSW : Hid (Stay w wv) := (HX.out.2.trans H7.out.1).trans HJ.out.2.2
                  go_wp2_with (go_at_call 22; refine (hkn _).mono ?_; rintro e w9 ⟨rfl, s9⟩)
                  show R _ _
                  rw [HR.out]
                  exact ⟨rfl, HSW.out.trans s9⟩
end Go.Proofs.Ytnmeljenldadfaa
