/- IndexLies, walked. -/
import Derived.Test.YtdpbjealjilogaaLE
import Derived.Test.YtdpbjealjilogaaQR
import Derived.Sort.CutIn
import Derived.Sort.QuietIn
import Derived.Deep.RegionHeld3
import Derived.BigQuiet
namespace Go.Proofs.Ytdpbjealjilogaa.I
open Go.RowKit Go.Maps Go.Shelf Go.Proofs.Ytdpbjealjilogaa
attribute [local go_sem] Oper.semAt_some

/-- What stands behind a piece of code that ends in its plain way alone. -/
def plainly (Q : Exit → Act → World → Prop) : Exit → Act → World → Prop
  | .normal, a, w => Q .normal a w
  | _, _, _ => False
theorem wp_plainly {F : Fence} {n : Nat} {P : Program} {c : Code} {Q : Exit → Act → World → Prop} {a : Act} {w : World} (h : c.wpIn F n P (plainly Q) a w) : c.wpIn F n P Q a w :=
  wpIn_mono h (fun e a w h => by cases e <;> first | exact h | exact h.elim)

set_option maxRecDepth 100000 in
set_option maxHeartbeats 4000000 in
theorem lies_any (w : World) (way : Int) (hw : KeyOk way) (ka : Option Addr) (kb ko kc : Nat) (keys : List Int) (hK : IntsS w ka kb ko keys) (hKo : ∀ k ∈ keys, KeyOk k) (ga : Option Addr) (gb go' gc : Nat) (gone : List Int) (hG : IntsS w ga gb go' gone) (hGo : ∀ k ∈ gone, KeyOk k)
    (hkl : keys.length ≤ 1048576) (hgl : gone.length ≤ 1048576) :
    CallsIn Fence.wide 9 Try.prog 6 #[.int .i64 way, .slice ka keys.length kc, .slice ga gone.length gc] w fun e w' => e = .returned (.bool true) ∧ Stay w w' := by
  refine callsIn_of_wp_marks Try.func6 rfl trivial ?_ rfl
  simp only [Try.ntmps6, List.size_toArray, List.length_cons, List.length_nil, Nat.reduceAdd, Nat.reduceSub, Array.replicate_succ, Array.replicate_zero, List.push_toArray, List.append_toArray, List.nil_append, List.cons_append]
  gi_wp2_with fail
  have hS0 : Stay w ((w.alloc (.cells #[.int .i64 way] 3)).alloc (.cells #[.bool false] 4)) := (Stay.new w _).alloc _
  have hbw : Boxed ((w.alloc (.cells #[.int .i64 way] 3)).alloc (.cells #[.bool false] 4)) w.heap.size 3 (.int .i64 way) := (Boxed.new w _ _).alloc _
  have hbq : Boxed ((w.alloc (.cells #[.int .i64 way] 3)).alloc (.cells #[.bool false] 4)) (w.heap.size + 1) 4 (.bool false) := by
    have := Boxed.new (w.alloc (.cells #[.int .i64 way] 3)) 4 (.bool false)
    rw [World.size_alloc] at this
    exact this
  generalize (w.alloc (.cells #[.int .i64 way] 3)).alloc (.cells #[.bool false] 4) = W0 at hS0 hbw hbq ⊢
  have hA : St0 W0 W0.drew w.heap.size way (w.heap.size + 1) none := ⟨(Below.refl _ _).drew, hbw, hbq, hw, fun _ e => by cases e⟩
  have HW0 : Hid (Stay w W0 ∧ Boxed W0 w.heap.size 3 (.int .i64 way) ∧ Boxed W0 (w.heap.size + 1) 4 (.bool false)) := ⟨hS0, hbw, hbq⟩
  have cw := hbw.cell
  have cwd := hA.load
  have lw := hbw.lt
  have lwd := hA.lt
  clear hS0 hbw hbq
  gi_cut [7, 8] from 28 (fun u7 u8 wx => ∃ b1 b2 bt pt Bt, u7 = .pointer (some ⟨Bt, 0, none⟩) ∧ u8 = .int .i64 0 ∧ One W0 wx w.heap.size way (w.heap.size + 1) b1 b2 bt pt Bt)
  case first =>
    have hfw : ∀ f, Fence.wide.fn f := fun _ => trivial
    refine wp_plainly ?_
    gi_region_with (first | (gi_at_call 10; refine CallsIn.mono (callsIn_wide.2 (St0.hashes (by first | exact hA | exact hA.alloc))) ?_; rintro e9 w9 ⟨b1, rfl, hB⟩; have d3 := hB.toSt0.load; have l3 := hB.toSt0.lt) | (gi_at_call 11; refine CallsIn.mono (callsIn_wide.2 (St1.sames (by first | exact hB | exact hB.alloc))) ?_; rintro e9 w10 ⟨b2, rfl, hC⟩) | (gi_at_call 9; refine CallsIn.mono (callsIn_wide.2 (St2.make (by first | exact hC | exact hC.alloc))) ?_; rintro e9 w11 ⟨bt, pt, rfl, hD⟩; try (have c7 := hD.cell; have f7 := hD.frozen); try (have c7b : w11.cell? ⟨W0.heap.size, 0, none⟩ = some (.pointer none) := hD.cell; have f7b : w11.frozen? ⟨W0.heap.size, 0, none⟩ = false := hD.frozen)))
    all_goals dsimp only [plainly]
    all_goals gi_wp2
    all_goals gi_meet
    all_goals first | exact ⟨_, _, _, _, _, rfl, rfl, hD.one⟩ | exact ⟨_, _, _, _, _, rfl, rfl, hD.one_new⟩
  case rest =>
    obtain ⟨b1, b2, bt, pt, Bt, rfl, rfl, hO⟩ := hcut
    have HO : Hid (One W0 wc w.heap.size way (w.heap.size + 1) b1 b2 bt pt Bt) := hO
    have cB := hO.box.cell
    clear hO hA cw cwd lw lwd
    gi_wp2_with fail
    have hSc : Stay w wc := HW0.out.1.trans HO.out.stay
    have hz0 := HW0.out.1.size
    have hnew := HO.out.new
    have hne := HO.out.ne
    have hkcell : ∀ (W : World), Turn (fun k => k = bt ∨ k = pt) wc W → ∀ i (h : i < keys.length), W.cell? ⟨kb, ko + i, none⟩ = some (.int .i64 keys[i]) := fun W hT i h => by
      have h1 := hK.2 i h
      have h2 := World.block_lt_of_cell? w _ h1
      exact hT.cell (hSc.cell h1) (by rintro (h0 | h0) <;> (dsimp only at h0 h2; omega))
    have hgcell : ∀ (W : World), Turn (fun k => k = bt ∨ k = pt) wc W → ∀ i (h : i < gone.length), W.cell? ⟨gb, go' + i, none⟩ = some (.int .i64 gone[i]) := fun W hT i h => by
      have h1 := hG.2 i h
      have h2 := World.block_lt_of_cell? w _ h1
      exact hT.cell (hSc.cell h1) (by rintro (h0 | h0) <;> (dsimp only at h0 h2; omega))
    have hbcell : ∀ (W : World), Turn (fun k => k = bt ∨ k = pt) wc W → W.cell? ⟨Bt, 0, none⟩ = some (.pointer (some ⟨bt, 0, none⟩)) := fun W hT => hT.cell HO.out.box.cell (by rintro (h0 | h0) <;> (dsimp only at h0; omega))
    have HG0 : Hid (∀ i (h : i < gone.length), w.cell? ⟨gb, go' + i, none⟩ = some (.int .i64 gone[i])) := hG.2
    have HKC : Hid _ := And.intro hkcell (And.intro hgcell hbcell)
    have HKA : Hid ((0 < keys.length → ka = some ⟨kb, ko, none⟩) ∧ (0 < gone.length → ga = some ⟨gb, go', none⟩)) := ⟨hK.1, hG.1⟩
    have HKO : Hid ((∀ k ∈ keys, KeyOk k) ∧ (∀ k ∈ gone, KeyOk k)) := ⟨hKo, hGo⟩
    have HN : Hid _ := And.intro hSc (And.intro hz0 (And.intro hnew hne))
    clear hkcell hgcell hbcell hK hG hKo hGo hSc hz0 hnew hne cB
    gi_loopw [9] (fun ui wr => ∃ i : Nat, i ≤ keys.length ∧ ui = .int .i64 (i : Int) ∧ TabI wc wr bt pt (b1, b2, way) i) (fun ui _ => keys.length - (intOf ui).toNat)
    case atStart =>
      refine ⟨0, Nat.zero_le _, rfl, _, _, _, _, _, _, _, HO.out.tab, Nat.zero_le _, Turn.refl _ _, ?_⟩
      rintro k (h0 | h0 | h0)
      · exact .inl h0
      · exact .inr (.inl h0)
      · simp [Value.ownBlock] at h0
    case round =>
      obtain ⟨i, hi, rfl, hI⟩ := hrel
      by_cases hlt : i < keys.length
      · obtain rfl := HKA.out.1 (by omega)
        have hput := (hI.stay (Below.refl _ _).drew).put keys[i] (i : Int) (HKO.out.1 _ (List.getElem_mem hlt)) (by omega)
        have hTu : Turn (fun k => k = bt ∨ k = pt) wc wr := by obtain ⟨_, _, _, _, _, _, _, _, _, h, _⟩ := hI; exact h
        have hcell : wr.drew.cell? _ = _ := HKC.out.1 wr hTu i hlt
        have hbc : wr.drew.cell? _ = _ := HKC.out.2.2 wr hTu
        have hil : (i : Int) < (keys.length : Int) := by omega
        have HI : Hid (TabI wc wr bt pt (b1, b2, way) i) := hI
        clear hI hTu
        have hfw : ∀ f, Fence.wide.fn f := fun _ => trivial
        gi_wp2_with fail
        refine wp_plainly ?_
        gi_region_with (gi_at_call 22; refine CallsIn.mono (callsIn_wide.2 hput) ?_; rintro e9 w9 ⟨⟨x, rfl⟩, hI9⟩)
        all_goals dsimp only [plainly]
        all_goals clear hput hcell hbc
        all_goals by_cases hlt2 : i < gone.length
        all_goals first
          | (obtain rfl := HKA.out.2 (by omega)
             have htk := (hI9.stay (Below.refl _ _).drew).take gone[i] (HKO.out.2 _ (List.getElem_mem hlt2))
             have hTu : Turn (fun k => k = bt ∨ k = pt) wc w9 := by obtain ⟨_, _, _, _, _, _, _, _, _, h, _⟩ := hI9; exact h
             have hcell : w9.drew.cell? _ = _ := HKC.out.2.1 w9 hTu i hlt2
             have hbc : w9.drew.cell? _ = _ := HKC.out.2.2 w9 hTu
             have hil2 : (i : Int) < (gone.length : Int) := by omega
             clear hTu hI9
             gi_wp2_with fail
             refine wp_plainly ?_
             gi_region_with (gi_at_call 31; refine CallsIn.mono (callsIn_wide.2 htk) ?_; rintro e9 w10 ⟨⟨x, rfl⟩, hI10⟩)
             all_goals dsimp only [plainly]
             all_goals gi_wp2_with fail
             all_goals go_roundw
             all_goals first | exact ⟨i + 1, by omega, by simp, hI10⟩ | (simp [intOf]; omega))
          | (have hil2 : ¬ (i : Int) < (gone.length : Int) := by omega
             gi_wp2_with fail
             go_roundw
             all_goals first | exact ⟨i + 1, by omega, by simp, hI9⟩ | (simp [intOf]; omega))
      · obtain rfl : i = keys.length := by omega
        obtain ⟨cv, pb, N, len, reach, came, places, hT, hcl, hTu, hft⟩ := hI
        have hbc := HKC.out.2.2 wr hTu
        have hsz := size_yes hT
        have hln := len_yes hT
        have HT : Hid (Tab wr bt (b1, b2, way) cv pb N len reach came places ∧ came.length ≤ keys.length ∧ Turn (fun k => k = bt ∨ k = pt) wc wr ∧ (∀ k, foot bt pb cv k → k = bt ∨ k = pt ∨ wc.heap.size ≤ k)) := ⟨hT, hcl, hTu, hft⟩
        have hpow := hT.pow.bd
        have h8 := hT.eight
        have hfew := hT.few
        clear hT hcl hTu hft
        gi_wp2_with fail
        refine ⟨trivial, ?_⟩
        refine CallsIn.mono (callsIn_wide.2 hsz) ?_
        rintro e9 w9 ⟨rfl, hw9⟩
        have hw' := hw9.symm; subst hw'
        gi_wp2_with fail
        have hTX := HT.out.1.turn (S := fun _ => False) (Turn.of_stay (Stay.new wr (.cells #[.int .i64 (N : Int)] 3))) (fun _ _ e => e) (fun _ _ e => e)
        have hbN := Boxed.new wr 3 (.int .i64 (N : Int))
        have hSX : Stay wr (wr.alloc (.cells #[.int .i64 (N : Int)] 3)) := Stay.new _ _
        have hbt1 : (wr.alloc (.cells #[.int .i64 (N : Int)] 3)).cell? ⟨Bt, 0, none⟩ = some (.pointer (some ⟨bt, 0, none⟩)) := hSX.cell hbc
        generalize hBn : wr.heap.size = Bn at hbN ⊢
        generalize wr.alloc (.cells #[.int .i64 (N : Int)] 3) = X at hTX hbN hSX hbt1 ⊢
        have HX : Hid (Tab X bt (b1, b2, way) cv pb N len reach came places ∧ Boxed X Bn 3 (.int .i64 (N : Int)) ∧ Stay wr X ∧ wr.heap.size = Bn) := ⟨hTX, hbN, hSX, hBn⟩
        have hlnX : ∀ k, Calls Try.prog 19 #[.pointer (some ⟨bt, 0, none⟩)] (X.drewN k) fun e w' => e = .returned (.int .i64 (len : Int)) ∧ w' = X.drewN k := fun k => len_yes (hTX.drew k)
        have cN := hbN.cell
        have hand : bits .and .i64 (N : Int) ((N : Int) - 1) = 0 := by
          obtain ⟨m, hm, hm2⟩ := hTX.pow
          rw [i64_mask N m hm (by omega), Int.emod_self]
        have hg1 : ¬ (N : Int) < 8 := by omega
        have hg2 : ¬ (3 * (N : Int)) < 4 * (len : Int) := by omega
        have hfw : ∀ f, Fence.wide.fn f := fun _ => trivial
        clear hTX hbN hSX hBn hsz hln hbc
        gi_quiet ((gi_at_call 19; exact CallsIn.quiet_of_same (callsIn_wide.2 (hlnX _))))
        have hSY : Stay wr (X.drewN nq) := HX.out.2.2.1.trans (Stay.drewN X nq)
        have hTY := HX.out.1.drew nq
        have hbY : Boxed (X.drewN nq) Bn 3 (.int .i64 (N : Int)) := HX.out.2.1
        have hbt2 : (X.drewN nq).cell? ⟨Bt, 0, none⟩ = some (.pointer (some ⟨bt, 0, none⟩)) := hbt1
        generalize X.drewN nq = Y at hSY hTY hbY hbt2 ⊢
        have hmk := run_makeBools N (by omega) Y
        have cN2 := hbY.cell
        have lN2 := hbY.lt
        have hlBt : Bt < Y.heap.size := World.block_lt_of_cell? Y _ hbt2
        have HY : Hid (Tab Y bt (b1, b2, way) cv pb N len reach came places ∧ Boxed Y Bn 3 (.int .i64 (N : Int)) ∧ Stay wr Y) := ⟨hTY, hbY, hSY⟩
        clear hSY hTY hbY hlnX cN hbt1 HX
        gi_wp2_with fail
        refine CallsIn.mono (callsIn_wide.2 (layout_any _ _)) ?_
        rintro e9 w9 ⟨rfl, rfl⟩
        have hfn := eql_seqf
        gi_wp2_with fail
        obtain ⟨V, hV⟩ : ∃ V, (((Y.alloc (.cells (bools (List.replicate N false)).toArray 4)).alloc (.cells #[.slice (some ⟨Y.heap.size, 0, none⟩) N N] 63)).alloc (.cells #[.pointer (some ⟨bt, 0, none⟩)] 24)).alloc (.cells #[.int .i64 0] 3) = V := ⟨_, rfl⟩
        rw [hV]
        have hTu := HT.out.2.2.1
        obtain ⟨hSc, hz0, hnew, hne⟩ := HN.out
        have hzq : w.heap.size + 1 < W0.heap.size := HW0.out.2.2.lt
        have hnw := lies_new (w := w) (way := way) (Bt := Bt) (Bs := Bn) HY.out.1 rfl
          (box_stay (hTu.heap (box_stay HW0.out.2.1 HO.out.stay) (by rintro (h0 | h0) <;> omega)) HY.out.2.2)
          (box_stay (hTu.heap (box_stay HW0.out.2.2 HO.out.stay) (by rintro (h0 | h0) <;> omega)) HY.out.2.2)
          (box_stay (hTu.heap HO.out.box (by rintro (h0 | h0) <;> omega)) HY.out.2.2) HY.out.2.1
          ((hTu.stay hSc (fun k hk e => by rcases e with e | e <;> omega)).trans HY.out.2.2) hV
        obtain ⟨hLV, hrowV, hnV, hzV⟩ := hnw
        have hcl5 : came.length ≤ 68719476736 := by have := HT.out.2.1; omega
        have hbl5 : (byPl (live came)).length ≤ 1048576 := by rw [byPl_len]; have := live_length_le came; have := HT.out.2.1; omega
        have HGC : Hid (∀ X, Stay w X → ∀ i (h : i < gone.length), X.cell? ⟨gb, go' + i, none⟩ = some (.int .i64 gone[i])) := fun X hS i h => hS.cell (HG0.out i h)
        clear hV hTu hSc hz0 hnew hne hzq HKC HN HO HW0 HT HY cN2 lN2 hbt2 hlBt hmk
        generalize Y.heap.size = g at hLV hrowV hnV hzV ⊢
        generalize (b1, b2, way) = fp at hLV
        have HLV : Hid (LY w V way bt Bt Bn g fp cv pb N len reach came places) := hLV
        have hF0 : FI V V g (g + 1 + 1 + 1) N (byPl (live came)) [] := ⟨_, hrowV, hnV, Turn.refl _ _, fun _ => by funext p; exact (taken_zero _ p).symm⟩
        have hgV : g + 1 + 1 + 1 < V.heap.size := by omega
        have hwg : w.heap.size + 1 < g := hLV.old _ (.inr (.inr (.inr (.inl rfl))))
        have hit := hLV.it
        have hTV := hLV.tab
        have hN0 : 8 ≤ N := hTV.eight
        have hNb : N ≤ 2 ^ 62 := by have := hTV.pow.bd; omega
        clear hLV hrowV hnV
        refine' wpIn_rangeFunc_ownG (α := Nat) rfl (by decide) (gf := 49) (lb := #[.pointer (some ⟨g + 1 + 1, 0, none⟩)]) rfl trivial (enters_of Try.func49 (by kernel_rfl) rfl)
          (lay_stops (9 - 1) (by decide) (g + 1 + 1) (fun _ _ => False) V hit.cell hTV hcl5 (fun _ _ _ hm => hm.elim) (fun _ _ _ _ hm => hm)) (fun h k => h.trans k) no_bump (Below.refl _ _) (fun _ => rfl)
          (fun pre X => FI V X g (g + 1 + 1 + 1) N (byPl (live came)) pre) (fun c pre _ => c = .ret ∧ pre ≠ List.range pre.length) FI.own (fun _ _ _ _ _ hs _ _ => hs) hF0 _ ?assign1 ?body1 ?done1 ?stop1
        case assign1 =>
          intro l x X K hK
          dsimp only [encsP]
          gi_wp2
          exact hK
        case stop1 =>
          rintro D3 c pre X hD3 hpre ⟨rfl, hx⟩ hK3
          exact (not_range hpre hx).elim
        case body1 =>
          intro l pre x X hI hlt5
          as_aux_lemma =>
          obtain ⟨f, hrow, hnb, hTu, hfr⟩ := hI
          have hL := HLV.out.turn hTu (fun k hk => by rcases hk with hk | hk <;> omega)
          have hpN := (lay_key hL.tab x).2
          have hfc := hrow.cell hpN
          have hff := hrow.frozen ((byPl (live came))[x]?.getD gap).place
          have cq := hL.q.cell
          have fq := hL.q.frozen
          have cs := hL.size.cell
          have cf := hL.full.cell
          have ct := hL.ptr.cell
          have cn := hnb.cell
          have fn := hnb.frozen
          have hTset : Turn (fun k => k = g ∨ k = g + 1 + 1 + 1) X (X.setCell ⟨g, ((byPl (live came))[x]?.getD gap).place, none⟩ (.bool true)) := (Turn.refl (fun k => k = g ∨ k = g + 1 + 1 + 1) X).set (g := g) (.inl rfl) _ _
          have hL1 := hL.turn hTset (fun k hk => by rcases hk with hk | hk <;> omega)
          have hpl1 := place_any hL1.tab x
          have ct1 := hL1.ptr.cell
          have cn1 : (X.setCell ⟨g, ((byPl (live came))[x]?.getD gap).place, none⟩ (.bool true)).heap[g + 1 + 1 + 1]? = _ := (Below.heap_setCell _ _ _ _ (by dsimp only; omega)).trans hnb
          have hbn1 : Boxed (X.setCell ⟨g, ((byPl (live came))[x]?.getD gap).place, none⟩ (.bool true)) (g + 1 + 1 + 1) 3 (.int .i64 (pre.length : Int)) := cn1
          have HB1 : Hid (BoolsB (X.setCell ⟨g, ((byPl (live came))[x]?.getD gap).place, none⟩ (.bool true)) g (fun q => f q || ((byPl (live came))[x]?.getD gap).place == q) N ∧ Turn (fun k => k = g ∨ k = g + 1 + 1 + 1) X (X.setCell ⟨g, ((byPl (live came))[x]?.getD gap).place, none⟩ (.bool true)) ∧ Boxed (X.setCell ⟨g, ((byPl (live came))[x]?.getD gap).place, none⟩ (.bool true)) (w.heap.size + 1) 4 (.bool false)) := ⟨hrow.set _, hTset, hL1.q⟩
          have cq1 := hL1.q.cell
          have fq1 := hL1.q.frozen
          have HX : Hid ((f ((byPl (live came))[x]?.getD gap).place = true → pre ++ [x] ≠ List.range (pre ++ [x]).length) ∧ (pre ++ [x] = List.range (pre ++ [x]).length → x < (byPl (live came)).length) ∧ (pre ++ [x] = List.range (pre ++ [x]).length → (fun q => f q || ((byPl (live came))[x]?.getD gap).place == q) = taken (byPl (live came)) (pre ++ [x]).length) ∧ Turn (fun k => k = g ∨ k = g + 1 + 1 + 1) V X) := by
            refine ⟨fun hf hr => ?_, fun hr => ?_, fun hr => ?_, hTu⟩
            · obtain ⟨h1, rfl⟩ := range_snoc hr
              rw [hfr h1, taken_new HLV.out.tab hlt5] at hf
              simp at hf
            · obtain ⟨h1, rfl⟩ := range_snoc hr
              exact hlt5
            · obtain ⟨h1, rfl⟩ := range_snoc hr
              funext q
              rw [List.length_append, List.length_singleton, taken_step _ hlt5, hfr h1]
          have hfw : ∀ f, Fence.wide.fn f := fun _ => trivial
          clear hL hL1 hTset hrow hnb hTu hfr hit hTV hF0 cn1
          have fn1 := hbn1.frozen
          have cn1 := hbn1.cell
          have HBN : Hid _ := hbn1
          clear hbn1
          try dsimp only [encsP] at ⊢
          generalize (byPl (live came))[x]?.getD gap = ent at hpN hfc hff hpl1 ct1 cn1 fn1 cq1 fq1 HB1 HBN HX ⊢
          obtain ⟨ek, ev, eh, ep, et⟩ := ent
          dsimp only at hpN hfc hff hpl1 ct1 cn1 fn1 cq1 fq1 HB1 HBN HX ⊢
          have hep1 : ¬ (ep : Int) < 0 := by omega
          have hep2 : ¬ (N : Int) ≤ (ep : Int) := by omega
          have hep3 : (ep : Int) < (N : Int) := by omega
          have hprl : pre.length ≤ 1048576 := by omega
          by_cases hfp : f ep = true
          · rw [hfp] at hfc
            have hxr := HX.out.1 hfp
            clear hpl1
            gi_wp2_with fail
            exact ⟨(turn_keep ((Turn.refl (fun k => k = w.heap.size + 1) X).set (g := w.heap.size + 1) rfl _ _) (fun k hk => by omega)).2, rfl, hxr⟩
          · have hfp' : f ep = false := by simpa using hfp
            rw [hfp'] at hfc
            gi_wp2_with (gi_at_call 32; refine (CallsIn.inRound l (callsIn_wide.2 hpl1)).mono ?_; rintro e9 w9 ⟨p, ok, rfl, hyes, n9, hw9⟩; have HYS : Hid _ := hyes; clear hyes; subst hw9)
            all_goals have hT2 : ∀ (b : Nat) (v : Value), (b = g ∨ b = g + 1 + 1 + 1 ∨ b = w.heap.size + 1) → Turn (fun k => k = g ∨ k = g + 1 + 1 + 1 ∨ k = w.heap.size + 1) X ((((X.setCell ⟨g, ep, none⟩ (.bool true)).drewN n9)).setCell ⟨b, 0, none⟩ v) := fun b v hb => Turn.set (S := fun k => k = g ∨ k = g + 1 + 1 + 1 ∨ k = w.heap.size + 1) ((HB1.out.2.1.mono (fun k _ hk => hk.imp id Or.inl)).trans (Turn.of_stay (Stay.drewN _ n9))) (g := b) hb 0 v
            all_goals have hlV : ∀ k, (k = g ∨ k = g + 1 + 1 + 1 ∨ k = w.heap.size + 1) → k < V.heap.size := fun k hk => by omega
            all_goals first
              | (rename_i h1 h2
                 exact ⟨(turn_keep (hT2 _ _ (.inr (.inr rfl))) hlV).2, rfl, fun hr => by have h3 := HYS.out (HX.out.2.1 hr); rw [h3.2] at h2; simp at h2⟩)
              | (rename_i h1
                 exact ⟨(turn_keep (hT2 _ _ (.inr (.inr rfl))) hlV).2, rfl, fun hr => h1 (HYS.out (HX.out.2.1 hr)).1⟩)
              | (rename_i h1
                 exact ⟨(turn_keep (hT2 _ _ (.inr (.inr rfl))) hlV).2, rfl, fun hr => by have h3 := (HYS.out (HX.out.2.1 hr)).1; rw [h3] at h1; simp at h1⟩)
              | (have hk2 := turn_keep (hT2 (g + 1 + 1 + 1) (.int .i64 ((pre.length : Int) + 1)) (.inr (.inl rfl))) hlV
                 refine ⟨hk2.2, hk2.1, fun q => f q || ep == q, ?_, ?_, ?_, fun hr => HX.out.2.2.1 hr⟩
                 · exact (Below.heap_setCell _ _ _ _ (by dsimp only; omega)).trans HB1.out.1
                 · have hb := (show Boxed ((X.setCell ⟨g, ep, none⟩ (.bool true)).drewN n9) (g + 1 + 1 + 1) 3 _ from HBN.out).set (.int .i64 ((pre.length : Int) + 1))
                   rw [List.length_append]
                   exact hb
                 · exact HX.out.2.2.2.trans ((HB1.out.2.1.trans (Turn.of_stay (Stay.drewN _ n9))).set (g := g + 1 + 1 + 1) (.inr rfl) 0 _))
        case done1 =>
          as_aux_lemma =>
          rintro D ys X hD rfl hI hKD
          obtain ⟨f, hrow, hnb, hTu, hfr⟩ := hI
          have hL := HLV.out.turn hTu (fun k hk => by rcases hk with hk | hk <;> omega)
          have hft : f = taken (byPl (live came)) (byPl (live came)).length := by rw [hfr (by simp), List.length_range]
          subst hft
          have hlen : len = (byPl (live came)).length := by rw [byPl_len]; exact hL.tab.cnt
          have hlnX : ∀ k, Calls Try.prog 19 #[.pointer (some ⟨bt, 0, none⟩)] (X.drewN k) fun e w' => e = .returned (.int .i64 ((byPl (live came)).length : Int)) ∧ w' = X.drewN k := fun k => by rw [← hlen]; exact len_yes (hL.tab.drew k)
          have cn := hnb.cell
          rw [List.length_range] at cn
          have ct := hL.ptr.cell
          have hfw : ∀ f, Fence.wide.fn f := fun _ => trivial
          have HX : Hid (LY w X way bt Bt Bn g fp cv pb N len reach came places ∧ BoolsB X g (taken (byPl (live came)) (byPl (live came)).length) N ∧ X.heap[D]? = some (.deferred (some []))) := ⟨hL, hrow, hKD⟩
          have hDg : w.heap.size ≤ D := by omega
          clear hrow hnb hTu hfr hL hKD hit hTV hF0 hlen
          gi_wp2_with fail
          gi_quiet ((gi_at_call 19; exact CallsIn.quiet_of_same (callsIn_wide.2 (hlnX _))))
          have hL2 := HX.out.1.go (Stay.drewN X nq)
          have hrow2 : BoolsB (X.drewN nq) g _ N := HX.out.2.1
          have hKD2 : (X.drewN nq).heap[D]? = _ := HX.out.2.2
          generalize X.drewN nq = V2 at hL2 hrow2 hKD2 ⊢
          have HL2 : Hid (LY w V2 way bt Bt Bn g fp cv pb N len reach came places ∧ BoolsB V2 g (taken (byPl (live came)) (byPl (live came)).length) N ∧ V2.heap[D]? = some (.deferred (some []))) := ⟨hL2, hrow2, hKD2⟩
          have hit := hL2.it
          have hTV := hL2.tab
          have hgV2 : g + 1 + 1 < V2.heap.size := hit.lt
          clear HX hL2 hrow2 hKD2 hlnX cn ct HLV
          gi_wp2_with fail
          refine' wpIn_rangeFunc_ownG (α := Nat) rfl (by decide) (gf := 49) (lb := #[.pointer (some ⟨g + 1 + 1, 0, none⟩)]) rfl trivial (enters_of Try.func49 (by kernel_rfl) rfl)
            (lay_stops (9 - 1) (by decide) (g + 1 + 1) (fun _ _ => False) V2 hit.cell hTV hcl5 (fun _ _ _ hm => hm.elim) (fun _ _ _ _ hm => hm)) (fun h k => h.trans k) no_bump (Below.refl _ _) (fun _ => rfl)
            (fun _ X => Stay V2 X) (fun c pre _ => c = .ret ∧ pre ≠ List.range pre.length) GI.own (fun _ _ _ _ _ hs _ _ => hs) (Stay.refl V2) _ ?assign2 ?body2 ?done2 ?stop2
          case assign2 =>
            intro l x X K hK
            dsimp only [encsP]
            gi_wp2
            exact hK
          case stop2 =>
            rintro D3 c pre X hD3 hpre ⟨rfl, hx⟩ hK3
            exact (not_range hpre hx).elim
          case body2 =>
            intro l pre x X hI hlt5
            as_aux_lemma =>
            have hL := HL2.out.1.go hI
            obtain ⟨hko, hpN⟩ := lay_key hL.tab x
            have hpr : ∀ W, Stay X W → Calls Try.prog 33 #[.pointer (some ⟨bt, 0, none⟩), .int .i64 (((byPl (live came))[x]?.getD gap).key)] W _ := fun W hW => probes_lay ((hL.go hW).tab) x
            have hpath : pre ++ [x] = List.range (pre ++ [x]).length → x < (byPl (live came)).length ∧ ∀ q, q < N → dist N (hf fp ((byPl (live came))[x]?.getD gap).key % N) q < dist N (hf fp ((byPl (live came))[x]?.getD gap).key % N) ((byPl (live came))[x]?.getD gap).place → taken (byPl (live came)) (byPl (live came)).length q = true := fun hr => by
              obtain ⟨_, rfl⟩ := range_snoc hr
              have h := byPl_path hL.tab hlt5
              rw [h.2.1] at h
              exact ⟨hlt5, h.2.2.2⟩
            have cw := hL.bw.cell
            have cs := hL.size.cell
            have lw := hL.bw.lt
            have ls := hL.size.lt
            have hfpw := hL.fpw
            have HL : Hid (LY w X way bt Bt Bn g fp cv pb N len reach came places) := hL
            have HI : Hid (Stay V2 X) := hI
            have HPA : Hid _ := hpath
            have HPR : Hid _ := hpr
            clear hL hI hpath hpr hit hTV
            try dsimp only [encsP] at ⊢
            generalize (byPl (live came))[x]?.getD gap = ent at hko hpN HPA HPR ⊢
            obtain ⟨ek, ev, eh, ep, et⟩ := ent
            dsimp only at hko hpN HPA HPR ⊢
            have hF1 : Fns (X.alloc (.cells #[.int .i64 way] 3)).drew (X.heap.size, X.heap.size, way) := by
              have hc : (X.alloc (.cells #[.int .i64 way] 3)).drew.cell? ⟨X.heap.size, 0, none⟩ = some (.int .i64 way) := (Boxed.new X 3 (.int .i64 way)).cell
              exact ⟨hc, hc, hw⟩
            have hhash := hash_any hF1 ek hko
            have hhf : hf (X.heap.size, X.heap.size, way) ek = hf fp ek := by unfold hf; rw [hfpw]
            rw [hhf] at hhash
            have hhl := hf_lt fp ek
            have HSX : Hid (Stay X (X.alloc (.cells #[.int .i64 way] 3)).drew) := (Stay.new X _).trans (Stay.drewN _ 1)
            have hfw : ∀ f, Fence.wide.fn f := fun _ => trivial
            have hmx : Try.prog.follows .mixedOrders = true := by kernel_rfl
            have hN1 : ¬ (N : Int) = 0 := by omega
            have hNw : IntKind.u64.wrap (N : Int) = (N : Int) := by rw [wrapu]; omega
            have hrm : ((hf fp ek : Nat) : Int).tmod (N : Int) = ((hf fp ek % N : Nat) : Int) := by rw [Int.tmod_eq_emod_of_nonneg (by omega)]; rfl
            have hml := Nat.mod_lt (hf fp ek) (show 0 < N by omega)
            have hrw : IntKind.i64.wrap ((hf fp ek % N : Nat) : Int) = ((hf fp ek % N : Nat) : Int) := by rw [IntKind.wrap_i64]; omega
            have hNc : (N : Int) % 18446744073709551616 = (N : Int) := by omega
            have hrw2 : IntKind.u64.wrap ((hf fp ek % N : Nat) : Int) = ((hf fp ek % N : Nat) : Int) := by rw [wrapu]; omega
            clear hF1 hhf hfpw hhl
            generalize hho : hf fp ek % N = home at hrm hml hrw hrw2 HPA HPR
            clear hho
            generalize hf fp ek = HH at hrm hhash
            gi_wp2_with fail
            gi_cut [20] from 999 (fun u20 wx => u20 = .int .i64 (home : Int) ∧ Stay X wx)
            case first =>
              as_aux_lemma =>
              refine wp_plainly ?_
              refine wpIn_region_any (by kernel_rfl) (any_round (F := Fence.wide) rfl l (fun i o ho => List.all_eq_true.1 (by kernel_rfl) o (List.mem_of_getElem? (by rw [List.getElem?_toArray] at ho; exact ho))) _ _ _ _ ?_)
              try (change wpAnyIn _ _ _ _ _ _ _ _ _ (World.drew _))
              refine wpAnyIn_take (i := 2) (v := ?_) rfl rfl (by kernel_rfl) (by kernel_rfl) (by kernel_rfl) (fun _ _ _ h => h) ⟨Or.inl ⟨by rfl, ?_⟩, fun _ => rfl⟩ ?_
              rotate_left
              · (intro w; go_simp; try with_reducible rfl)
              refine wpAnyIn_ready (rs := [0, 4]) (by kernel_rfl) (by simp) ?_
              refine AllReadyIn.cons rfl (fun K hK => ?_) (AllReadyIn.cons rfl (fun K hK => ?_) AllReadyIn.nil)
              · (go_simp; first | (refine hK _ _ ?_; clear hK K) | (gi_wp2_with (first | (gi_at_call 10; refine CallsIn.mono (callsIn_wide.2 (hashes_any _ _)) ?_; rintro e9 w9 ⟨rfl, rfl⟩) | (gi_at_call 36; refine CallsIn.mono (callsIn_wide.2 hhash) ?_; rintro e9 w9 ⟨rfl, hw9⟩; subst w9)); try (refine hK _ _ ?_; clear hK K)))
                refine wpAnyIn_ready (rs := [1, 4]) (by kernel_rfl) (by simp) ?_
                refine AllReadyIn.cons rfl (fun K hK => ?_) (AllReadyIn.cons rfl (fun K hK => ?_) AllReadyIn.nil)
                · (go_simp; first | (refine hK _ _ ?_; clear hK K) | (gi_wp2_with (first | (gi_at_call 10; refine CallsIn.mono (callsIn_wide.2 (hashes_any _ _)) ?_; rintro e9 w9 ⟨rfl, rfl⟩) | (gi_at_call 36; refine CallsIn.mono (callsIn_wide.2 hhash) ?_; rintro e9 w9 ⟨rfl, hw9⟩; subst w9)); try (refine hK _ _ ?_; clear hK K)))
                  refine wpAnyIn_ready (rs := [3, 4]) (by kernel_rfl) (by simp) ?_
                  refine AllReadyIn.cons rfl (fun K hK => ?_) (AllReadyIn.cons rfl (fun K hK => ?_) AllReadyIn.nil)
                  · (go_simp; first | (refine hK _ _ ?_; clear hK K) | (gi_wp2_with (first | (gi_at_call 10; refine CallsIn.mono (callsIn_wide.2 (hashes_any _ _)) ?_; rintro e9 w9 ⟨rfl, rfl⟩) | (gi_at_call 36; refine CallsIn.mono (callsIn_wide.2 hhash) ?_; rintro e9 w9 ⟨rfl, hw9⟩; subst w9)); try (refine hK _ _ ?_; clear hK K)))
                    refine wpAnyIn_ready (rs := [4]) (by kernel_rfl) (by simp) ?_
                    refine AllReadyIn.cons rfl (fun K hK => ?_) AllReadyIn.nil
                    (go_simp; first | (refine hK _ _ ?_; clear hK K) | (gi_wp2_with (first | (gi_at_call 10; refine CallsIn.mono (callsIn_wide.2 (hashes_any _ _)) ?_; rintro e9 w9 ⟨rfl, rfl⟩) | (gi_at_call 36; refine CallsIn.mono (callsIn_wide.2 hhash) ?_; rintro e9 w9 ⟨rfl, hw9⟩; subst w9)); try (refine hK _ _ ?_; clear hK K)))
                    refine wpAnyIn_take (i := 5) (v := ?_) rfl rfl (by kernel_rfl) (by kernel_rfl) (by kernel_rfl) (fun _ _ _ h => h) ⟨Or.inl ⟨by rfl, ?_⟩, fun _ => rfl⟩ ?_
                    rotate_left
                    · (intro w; go_simp; try with_reducible rfl)
                    refine wpAnyIn_ready (rs := [6]) (by kernel_rfl) (by simp) ?_
                    refine AllReadyIn.cons rfl (fun K hK => ?_) AllReadyIn.nil
                    (go_simp; first | (refine hK _ _ ?_; clear hK K) | (gi_wp2_with (first | (gi_at_call 10; refine CallsIn.mono (callsIn_wide.2 (hashes_any _ _)) ?_; rintro e9 w9 ⟨rfl, rfl⟩) | (gi_at_call 36; refine CallsIn.mono (callsIn_wide.2 hhash) ?_; rintro e9 w9 ⟨rfl, hw9⟩; subst w9)); try (refine hK _ _ ?_; clear hK K)))
                    refine wpAnyIn_ready (rs := [7]) (by kernel_rfl) (by simp) ?_
                    refine AllReadyIn.cons rfl (fun K hK => ?_) AllReadyIn.nil
                    (go_simp; first | (refine hK _ _ ?_; clear hK K) | (gi_wp2_with (first | (gi_at_call 10; refine CallsIn.mono (callsIn_wide.2 (hashes_any _ _)) ?_; rintro e9 w9 ⟨rfl, rfl⟩) | (gi_at_call 36; refine CallsIn.mono (callsIn_wide.2 hhash) ?_; rintro e9 w9 ⟨rfl, hw9⟩; subst w9)); try (refine hK _ _ ?_; clear hK K)))
                    refine wpAnyIn_ready (rs := [8]) (by kernel_rfl) (by simp) ?_
                    refine AllReadyIn.cons rfl (fun K hK => ?_) AllReadyIn.nil
                    (go_simp; first | (refine hK _ _ ?_; clear hK K) | (gi_wp2_with (first | (gi_at_call 10; refine CallsIn.mono (callsIn_wide.2 (hashes_any _ _)) ?_; rintro e9 w9 ⟨rfl, rfl⟩) | (gi_at_call 36; refine CallsIn.mono (callsIn_wide.2 hhash) ?_; rintro e9 w9 ⟨rfl, hw9⟩; subst w9)); try (refine hK _ _ ?_; clear hK K)))
                    refine wpAnyIn_done (by kernel_rfl) ?_ _
                    dsimp only [plainly]
                    gi_wp2
                    gi_meet
                    exact ⟨by simp, HSX.out⟩
                  · (go_simp; first | (refine hK _ _ ?_; clear hK K) | (gi_wp2_with (first | (gi_at_call 10; refine CallsIn.mono (callsIn_wide.2 (hashes_any _ _)) ?_; rintro e9 w9 ⟨rfl, rfl⟩) | (gi_at_call 36; refine CallsIn.mono (callsIn_wide.2 hhash) ?_; rintro e9 w9 ⟨rfl, hw9⟩; subst w9)); try (refine hK _ _ ?_; clear hK K)))
                    refine wpAnyIn_take (i := 5) (v := ?_) rfl rfl (by kernel_rfl) (by kernel_rfl) (by kernel_rfl) (fun _ _ _ h => h) ⟨Or.inl ⟨by rfl, ?_⟩, fun _ => rfl⟩ ?_
                    rotate_left
                    · (intro w; go_simp; try with_reducible rfl)
                    refine wpAnyIn_ready (rs := [3]) (by kernel_rfl) (by simp) ?_
                    refine AllReadyIn.cons rfl (fun K hK => ?_) AllReadyIn.nil
                    (go_simp; first | (refine hK _ _ ?_; clear hK K) | (gi_wp2_with (first | (gi_at_call 10; refine CallsIn.mono (callsIn_wide.2 (hashes_any _ _)) ?_; rintro e9 w9 ⟨rfl, rfl⟩) | (gi_at_call 36; refine CallsIn.mono (callsIn_wide.2 hhash) ?_; rintro e9 w9 ⟨rfl, hw9⟩; subst w9)); try (refine hK _ _ ?_; clear hK K)))
                    refine wpAnyIn_ready (rs := [6]) (by kernel_rfl) (by simp) ?_
                    refine AllReadyIn.cons rfl (fun K hK => ?_) AllReadyIn.nil
                    (go_simp; first | (refine hK _ _ ?_; clear hK K) | (gi_wp2_with (first | (gi_at_call 10; refine CallsIn.mono (callsIn_wide.2 (hashes_any _ _)) ?_; rintro e9 w9 ⟨rfl, rfl⟩) | (gi_at_call 36; refine CallsIn.mono (callsIn_wide.2 hhash) ?_; rintro e9 w9 ⟨rfl, hw9⟩; subst w9)); try (refine hK _ _ ?_; clear hK K)))
                    refine wpAnyIn_ready (rs := [7]) (by kernel_rfl) (by simp) ?_
                    refine AllReadyIn.cons rfl (fun K hK => ?_) AllReadyIn.nil
                    (go_simp; first | (refine hK _ _ ?_; clear hK K) | (gi_wp2_with (first | (gi_at_call 10; refine CallsIn.mono (callsIn_wide.2 (hashes_any _ _)) ?_; rintro e9 w9 ⟨rfl, rfl⟩) | (gi_at_call 36; refine CallsIn.mono (callsIn_wide.2 hhash) ?_; rintro e9 w9 ⟨rfl, hw9⟩; subst w9)); try (refine hK _ _ ?_; clear hK K)))
                    refine wpAnyIn_ready (rs := [8]) (by kernel_rfl) (by simp) ?_
                    refine AllReadyIn.cons rfl (fun K hK => ?_) AllReadyIn.nil
                    (go_simp; first | (refine hK _ _ ?_; clear hK K) | (gi_wp2_with (first | (gi_at_call 10; refine CallsIn.mono (callsIn_wide.2 (hashes_any _ _)) ?_; rintro e9 w9 ⟨rfl, rfl⟩) | (gi_at_call 36; refine CallsIn.mono (callsIn_wide.2 hhash) ?_; rintro e9 w9 ⟨rfl, hw9⟩; subst w9)); try (refine hK _ _ ?_; clear hK K)))
                    refine wpAnyIn_done (by kernel_rfl) ?_ _
                    dsimp only [plainly]
                    gi_wp2
                    gi_meet
                    exact ⟨by simp, HSX.out⟩
                · (go_simp; first | (refine hK _ _ ?_; clear hK K) | (gi_wp2_with (first | (gi_at_call 10; refine CallsIn.mono (callsIn_wide.2 (hashes_any _ _)) ?_; rintro e9 w9 ⟨rfl, rfl⟩) | (gi_at_call 36; refine CallsIn.mono (callsIn_wide.2 hhash) ?_; rintro e9 w9 ⟨rfl, hw9⟩; subst w9)); try (refine hK _ _ ?_; clear hK K)))
                  refine wpAnyIn_take (i := 5) (v := ?_) rfl rfl (by kernel_rfl) (by kernel_rfl) (by kernel_rfl) (fun _ _ _ h => h) ⟨Or.inl ⟨by rfl, ?_⟩, fun _ => rfl⟩ ?_
                  rotate_left
                  · (intro w; go_simp; try with_reducible rfl)
                  refine wpAnyIn_ready (rs := [1]) (by kernel_rfl) (by simp) ?_
                  refine AllReadyIn.cons rfl (fun K hK => ?_) AllReadyIn.nil
                  (go_simp; first | (refine hK _ _ ?_; clear hK K) | (gi_wp2_with (first | (gi_at_call 10; refine CallsIn.mono (callsIn_wide.2 (hashes_any _ _)) ?_; rintro e9 w9 ⟨rfl, rfl⟩) | (gi_at_call 36; refine CallsIn.mono (callsIn_wide.2 hhash) ?_; rintro e9 w9 ⟨rfl, hw9⟩; subst w9)); try (refine hK _ _ ?_; clear hK K)))
                  refine wpAnyIn_ready (rs := [3]) (by kernel_rfl) (by simp) ?_
                  refine AllReadyIn.cons rfl (fun K hK => ?_) AllReadyIn.nil
                  (go_simp; first | (refine hK _ _ ?_; clear hK K) | (gi_wp2_with (first | (gi_at_call 10; refine CallsIn.mono (callsIn_wide.2 (hashes_any _ _)) ?_; rintro e9 w9 ⟨rfl, rfl⟩) | (gi_at_call 36; refine CallsIn.mono (callsIn_wide.2 hhash) ?_; rintro e9 w9 ⟨rfl, hw9⟩; subst w9)); try (refine hK _ _ ?_; clear hK K)))
                  refine wpAnyIn_ready (rs := [6]) (by kernel_rfl) (by simp) ?_
                  refine AllReadyIn.cons rfl (fun K hK => ?_) AllReadyIn.nil
                  (go_simp; first | (refine hK _ _ ?_; clear hK K) | (gi_wp2_with (first | (gi_at_call 10; refine CallsIn.mono (callsIn_wide.2 (hashes_any _ _)) ?_; rintro e9 w9 ⟨rfl, rfl⟩) | (gi_at_call 36; refine CallsIn.mono (callsIn_wide.2 hhash) ?_; rintro e9 w9 ⟨rfl, hw9⟩; subst w9)); try (refine hK _ _ ?_; clear hK K)))
                  refine wpAnyIn_ready (rs := [7]) (by kernel_rfl) (by simp) ?_
                  refine AllReadyIn.cons rfl (fun K hK => ?_) AllReadyIn.nil
                  (go_simp; first | (refine hK _ _ ?_; clear hK K) | (gi_wp2_with (first | (gi_at_call 10; refine CallsIn.mono (callsIn_wide.2 (hashes_any _ _)) ?_; rintro e9 w9 ⟨rfl, rfl⟩) | (gi_at_call 36; refine CallsIn.mono (callsIn_wide.2 hhash) ?_; rintro e9 w9 ⟨rfl, hw9⟩; subst w9)); try (refine hK _ _ ?_; clear hK K)))
                  refine wpAnyIn_ready (rs := [8]) (by kernel_rfl) (by simp) ?_
                  refine AllReadyIn.cons rfl (fun K hK => ?_) AllReadyIn.nil
                  (go_simp; first | (refine hK _ _ ?_; clear hK K) | (gi_wp2_with (first | (gi_at_call 10; refine CallsIn.mono (callsIn_wide.2 (hashes_any _ _)) ?_; rintro e9 w9 ⟨rfl, rfl⟩) | (gi_at_call 36; refine CallsIn.mono (callsIn_wide.2 hhash) ?_; rintro e9 w9 ⟨rfl, hw9⟩; subst w9)); try (refine hK _ _ ?_; clear hK K)))
                  refine wpAnyIn_done (by kernel_rfl) ?_ _
                  dsimp only [plainly]
                  gi_wp2
                  gi_meet
                  exact ⟨by simp, HSX.out⟩
              · (go_simp; first | (refine hK _ _ ?_; clear hK K) | (gi_wp2_with (first | (gi_at_call 10; refine CallsIn.mono (callsIn_wide.2 (hashes_any _ _)) ?_; rintro e9 w9 ⟨rfl, rfl⟩) | (gi_at_call 36; refine CallsIn.mono (callsIn_wide.2 hhash) ?_; rintro e9 w9 ⟨rfl, hw9⟩; subst w9)); try (refine hK _ _ ?_; clear hK K)))
                refine wpAnyIn_take (i := 5) (v := ?_) rfl rfl (by kernel_rfl) (by kernel_rfl) (by kernel_rfl) (fun _ _ _ h => h) ⟨Or.inl ⟨by rfl, ?_⟩, fun _ => rfl⟩ ?_
                rotate_left
                · (intro w; go_simp; try with_reducible rfl)
                refine wpAnyIn_ready (rs := [0]) (by kernel_rfl) (by simp) ?_
                refine AllReadyIn.cons rfl (fun K hK => ?_) AllReadyIn.nil
                (go_simp; first | (refine hK _ _ ?_; clear hK K) | (gi_wp2_with (first | (gi_at_call 10; refine CallsIn.mono (callsIn_wide.2 (hashes_any _ _)) ?_; rintro e9 w9 ⟨rfl, rfl⟩) | (gi_at_call 36; refine CallsIn.mono (callsIn_wide.2 hhash) ?_; rintro e9 w9 ⟨rfl, hw9⟩; subst w9)); try (refine hK _ _ ?_; clear hK K)))
                refine wpAnyIn_ready (rs := [1]) (by kernel_rfl) (by simp) ?_
                refine AllReadyIn.cons rfl (fun K hK => ?_) AllReadyIn.nil
                (go_simp; first | (refine hK _ _ ?_; clear hK K) | (gi_wp2_with (first | (gi_at_call 10; refine CallsIn.mono (callsIn_wide.2 (hashes_any _ _)) ?_; rintro e9 w9 ⟨rfl, rfl⟩) | (gi_at_call 36; refine CallsIn.mono (callsIn_wide.2 hhash) ?_; rintro e9 w9 ⟨rfl, hw9⟩; subst w9)); try (refine hK _ _ ?_; clear hK K)))
                refine wpAnyIn_ready (rs := [3]) (by kernel_rfl) (by simp) ?_
                refine AllReadyIn.cons rfl (fun K hK => ?_) AllReadyIn.nil
                (go_simp; first | (refine hK _ _ ?_; clear hK K) | (gi_wp2_with (first | (gi_at_call 10; refine CallsIn.mono (callsIn_wide.2 (hashes_any _ _)) ?_; rintro e9 w9 ⟨rfl, rfl⟩) | (gi_at_call 36; refine CallsIn.mono (callsIn_wide.2 hhash) ?_; rintro e9 w9 ⟨rfl, hw9⟩; subst w9)); try (refine hK _ _ ?_; clear hK K)))
                refine wpAnyIn_ready (rs := [6]) (by kernel_rfl) (by simp) ?_
                refine AllReadyIn.cons rfl (fun K hK => ?_) AllReadyIn.nil
                (go_simp; first | (refine hK _ _ ?_; clear hK K) | (gi_wp2_with (first | (gi_at_call 10; refine CallsIn.mono (callsIn_wide.2 (hashes_any _ _)) ?_; rintro e9 w9 ⟨rfl, rfl⟩) | (gi_at_call 36; refine CallsIn.mono (callsIn_wide.2 hhash) ?_; rintro e9 w9 ⟨rfl, hw9⟩; subst w9)); try (refine hK _ _ ?_; clear hK K)))
                refine wpAnyIn_ready (rs := [7]) (by kernel_rfl) (by simp) ?_
                refine AllReadyIn.cons rfl (fun K hK => ?_) AllReadyIn.nil
                (go_simp; first | (refine hK _ _ ?_; clear hK K) | (gi_wp2_with (first | (gi_at_call 10; refine CallsIn.mono (callsIn_wide.2 (hashes_any _ _)) ?_; rintro e9 w9 ⟨rfl, rfl⟩) | (gi_at_call 36; refine CallsIn.mono (callsIn_wide.2 hhash) ?_; rintro e9 w9 ⟨rfl, hw9⟩; subst w9)); try (refine hK _ _ ?_; clear hK K)))
                refine wpAnyIn_ready (rs := [8]) (by kernel_rfl) (by simp) ?_
                refine AllReadyIn.cons rfl (fun K hK => ?_) AllReadyIn.nil
                (go_simp; first | (refine hK _ _ ?_; clear hK K) | (gi_wp2_with (first | (gi_at_call 10; refine CallsIn.mono (callsIn_wide.2 (hashes_any _ _)) ?_; rintro e9 w9 ⟨rfl, rfl⟩) | (gi_at_call 36; refine CallsIn.mono (callsIn_wide.2 hhash) ?_; rintro e9 w9 ⟨rfl, hw9⟩; subst w9)); try (refine hK _ _ ?_; clear hK K)))
                refine wpAnyIn_done (by kernel_rfl) ?_ _
                dsimp only [plainly]
                gi_wp2
                gi_meet
                exact ⟨by simp, HSX.out⟩
            case rest =>
              as_aux_lemma =>
              obtain ⟨rfl, hSc⟩ := hcut
              have hL3 := HL.out.go hSc
              have hrow3 : BoolsB wc g (taken (byPl (live came)) (byPl (live came)).length) N := (HI.out.trans hSc |>.block _ HL2.out.2.1.lt).trans HL2.out.2.1
              have hSV : Stay V2 wc := HI.out.trans hSc
              have cq := hL3.q.cell
              have fq := hL3.q.frozen
              have cs3 := hL3.size.cell
              have cf := hL3.full.cell
              have ct := hL3.ptr.cell
              have hpr3 := HPR.out wc hSc
              have HR3 : Hid (BoolsB wc g (taken (byPl (live came)) (byPl (live came)).length) N ∧ Stay V2 wc ∧ Stay X wc) := ⟨hrow3, hSV, hSc⟩
              have hwV : w.heap.size + 1 < V2.heap.size := by omega
              clear hL3 hrow3 hSV hSc HL HI hhash cw cs lw ls HSX hrm hrw hrw2 hNw hNc hmx
              gi_wp2_with fail
              gi_loopw [21, 22] (fun us up wx => ∃ p : Nat, p < N ∧ up = .int .i64 (p : Int) ∧ us = .int .i64 ((dist N home p : Int) + 1) ∧ wx = wc ∧ dist N home p + dist N p ep = dist N home ep) (fun _ up _ => dist N (intOf up).toNat ep)
              case atStart => exact ⟨home, hml, rfl, by simp [dist_self], rfl, by rw [dist_self]; omega⟩
              case round =>
                obtain ⟨p, hpN2, rfl, rfl, rfl, hsum⟩ := hrel
                have hdl := (dist_spec hml hpN2).1
                by_cases hpe : p = ep
                · subst hpe
                  gi_wp2_with (gi_at_call 33; refine (CallsIn.inRound l (callsIn_wide.2 hpr3)).mono ?_; rintro e9 w9 ⟨r, rfl, hr, n9, hw9⟩; have HRR : Hid _ := hr; clear hr; subst hw9)
                  all_goals have hSn : Stay X (wr.drewN n9) := HR3.out.2.2.trans (Stay.drewN _ n9)
                  all_goals first
                    | (rename_i h1
                       exact ⟨(turn_keep (((Turn.of_stay hSn) : Turn (fun k => k = w.heap.size + 1) X _).set (g := w.heap.size + 1) rfl 0 _) (fun k hk => by omega)).2, rfl, fun hr => by
                         have h2 := HRR.out (HPA.out hr).1
                         rw [h2] at h1
                         simp at h1⟩)
                    | (have hk2 := turn_keep (B := V2.heap.size) (S := fun _ => False) (Turn.of_stay hSn) (fun k hk => hk.elim)
                       exact ⟨hk2.2, hk2.1, HR3.out.2.1.trans (Stay.drewN _ n9)⟩)
                · have hpi : ¬ (p : Int) = (ep : Int) := by omega
                  have hpi3 : (p : Int) < (N : Int) := by omega
                  have hfc := HR3.out.1.cell hpN2
                  have hds := dist_sum hml hpN2 hpN hpe hsum
                  have hnx := nx_tmod hpN2
                  by_cases htk : taken (byPl (live came)) (byPl (live came)).length p = true
                  · rw [htk] at hfc
                    gi_wp2_with fail
                    go_roundw
                    case rel =>
                      refine ⟨nx N p, (nx_spec hpN2).1, ?_, ?_, ?_, hds.2.2⟩
                      · simp
                      · rw [hds.1]; simp
                      · trivial
                    case measure => simp [intOf]; omega
                  · have htk' : taken (byPl (live came)) (byPl (live came)).length p = false := by simpa using htk
                    rw [htk'] at hfc
                    gi_wp2_with fail
                    exact ⟨(turn_keep (((Turn.of_stay HR3.out.2.2) : Turn (fun k => k = w.heap.size + 1) X _).set (g := w.heap.size + 1) rfl 0 _) (fun k hk => by omega)).2, rfl, fun hr => by
                      have := (HPA.out hr).2 p hpN2 (by omega)
                      rw [htk'] at this
                      simp at this⟩
          case done2 =>
            as_aux_lemma =>
            rintro D2 ys X hD2 rfl hI hKD2
            have hL := HL2.out.1.go hI
            have hrow : BoolsB X g (taken (byPl (live came)) (byPl (live came)).length) N := (hI.block _ HL2.out.2.1.lt).trans HL2.out.2.1
            have hKD1 : X.heap[D]? = some (.deferred (some [])) := (hI.block D (Array.getElem?_eq_some_iff.1 HL2.out.2.2).1).trans HL2.out.2.2
            have HX0 : Hid (LY w X way bt Bt Bn g fp cv pb N len reach came places ∧ BoolsB X g (taken (byPl (live came)) (byPl (live came)).length) N ∧ X.heap[D]? = some (.deferred (some [])) ∧ X.heap[D2]? = some (.deferred (some []))) := ⟨hL, hrow, hKD1, hKD2⟩
            have hDD : D ≠ D2 ∧ w.heap.size ≤ D2 := by
              have := (Array.getElem?_eq_some_iff.1 HL2.out.2.2).1
              omega
            clear hL hrow hKD1 hKD2 hI hit hTV HL2
            gi_wp2_with fail
            gi_loopw [23] (fun ui wx => ∃ i : Nat, i ≤ gone.length ∧ ui = .int .i64 (i : Int) ∧ Stay X wx) (fun ui _ => gone.length - (intOf ui).toNat)
            case atStart => exact ⟨0, Nat.zero_le _, rfl, Stay.refl _⟩
            case round =>
              obtain ⟨i, hi, rfl, hSX⟩ := hrel
              rename World => Z
              have hL := HX0.out.1.go hSX
              have hrow : BoolsB Z g (taken (byPl (live came)) (byPl (live came)).length) N := (hSX.block _ HX0.out.2.1.lt).trans HX0.out.2.1
              by_cases hlt : i < gone.length
              · obtain rfl := HKA.out.2 (by omega)
                have hgk := HKO.out.2 _ (List.getElem_mem hlt)
                have hil : (i : Int) < (gone.length : Int) := by omega
                have HZ : Hid (LY w Z way bt Bt Bn g fp cv pb N len reach came places ∧ BoolsB Z g (taken (byPl (live came)) (byPl (live came)).length) N ∧ Stay X Z) := ⟨hL, hrow, hSX⟩
                have hgc := HGC.out Z hL.stay i hlt
                have hget : Calls Try.prog 34 #[.pointer (some ⟨bt, 0, none⟩), .int .i64 gone[i]] Z.drew _ := get_any (hL.tab.drew 1) gone[i] hgk
                have ct := hL.ptr.cell
                have hml := Nat.mod_lt (hf fp gone[i]) (show 0 < N by omega)
                obtain ⟨z, hzN, hz1, hz2⟩ := hL.tab.first_free (hf fp gone[i] % N) hml
                obtain ⟨r0, hr0, hr1, hr2⟩ : ∃ r0 : Nat, (∀ W, Stay Z W → ∀ k, Calls Try.prog 33 #[.pointer (some ⟨bt, 0, none⟩), .int .i64 gone[i]] (W.drewN k) fun e' w' => e' = .returned (.int .i64 ((r0 : Int) + 1)) ∧ ∃ n, w' = (W.drewN k).drewN n) ∧ r0 ≤ len ∧ ((∀ (t : Nat) (e : E), came[t]? = some e → e.there = true → sm fp e.key gone[i] = false) → r0 = dist N (hf fp gone[i] % N) z) := by
                  rcases there_dec (came := came) (fp := fp) gone[i] with ⟨t, e, h1, h2, h3⟩ | hno
                  · refine ⟨dist N (hf fp gone[i] % N) e.place, fun W hW k => ?_, ?_, fun hno => by rw [hno t e h1 h2] at h3; simp at h3⟩
                    · refine (probes_any ((hL.go hW).tab.drew k) gone[i] hgk).mono ?_
                      rintro e9 w9 ⟨r, hE, rfl, hn⟩
                      rw [(hL.tab.ends_yes hE h1 h2 h3).1]
                      exact ⟨by simp, hn⟩
                    · have hd := path_few hml (dist N (hf fp gone[i] % N) e.place) places hL.tab.lies.len (by have := (dist_spec hml (hL.tab.lies.here t e (List.getElem?_eq_some_iff.1 h1).1 h1 h2).1).1; omega) (fun q hq hqd => by
                        have hke := (hL.tab.keys t e h1 h2).1
                        obtain ⟨t', _, ht'⟩ := hL.tab.lies.first t e (List.getElem?_eq_some_iff.1 h1).1 h1 h2 q hq (by rw [hke, sm_hash h3]; exact hqd)
                        exact ⟨t', ht'⟩)
                      have := hL.tab.zer
                      omega
                  · refine ⟨dist N (hf fp gone[i] % N) z, fun W hW k => ?_, ?_, fun _ => rfl⟩
                    · refine (probes_any ((hL.go hW).tab.drew k) gone[i] hgk).mono ?_
                      rintro e9 w9 ⟨r, hE, rfl, hn⟩
                      have hf := hL.tab.ends_free hE hno
                      rw [free_same hml hzN hE.lt hz1 hz2 hf.1 hf.2]
                      exact ⟨by simp, hn⟩
                    · have hd := path_few hml (dist N (hf fp gone[i] % N) z) places hL.tab.lies.len (by have := (dist_spec hml hzN).1; omega) (fun q hq hqd => (taken_all hL.tab).1 (hz2 q hq hqd))
                      have := hL.tab.zer
                      omega
                have hlnW : ∀ W, Stay Z W → ∀ k, Calls Try.prog 19 #[.pointer (some ⟨bt, 0, none⟩)] (W.drewN k) fun e w' => e = .returned (.int .i64 (len : Int)) ∧ w' = W.drewN k := fun W hW k => len_yes ((hL.go hW).tab.drew k)
                have hlb : len ≤ 1048576 := by have := hL.tab.cnt; rw [byPl_len] at hbl5; omega
                have HPR : Hid _ := hr0
                have HLN : Hid _ := hlnW
                have HR2 : Hid _ := hr2
                have hfpw := hL.fpw
                have cw := hL.bw.cell
                have cs := hL.size.cell
                have lw := hL.bw.lt
                have ls := hL.size.lt
                have lt2 := hL.ptr.lt
                generalize hgk0 : gone[i] = gk at hgk hgc hget hml hz2 HPR HR2
                have HGK : Hid (gone[i] = gk) := hgk0
                clear hgk0 hL hrow hSX hr0 hr2 hlnW
                have hfw : ∀ f, Fence.wide.fn f := fun _ => trivial
                gi_wp2_with fail
                gi_cut [24, 25] from 999 (fun u24 u25 wx => ∃ (v : Int) (ok : Bool), u24 = .int .i64 v ∧ u25 = .bool ok ∧ (ok = false → ∀ (t : Nat) (e : E), came[t]? = some e → e.there = true → sm fp e.key gk = false) ∧ Stay Z wx)
                case first =>
                  as_aux_lemma =>
                  refine wp_plainly ?_
                  gi_region_with (gi_at_call 34; refine CallsIn.mono (callsIn_wide.2 hget) ?_; rintro e9 w9 ⟨v, ok, rfl, hok, n9, hw9⟩; have HOK : Hid _ := And.intro hok hw9; clear hok hw9)
                  all_goals dsimp only [plainly]
                  all_goals gi_wp2
                  all_goals gi_meet
                  all_goals exact ⟨v, ok, rfl, rfl, HOK.out.1, by rw [HOK.out.2]; exact (Stay.drewN Z 1).trans (Stay.drewN _ n9)⟩
                case rest =>
                  as_aux_lemma =>
                  obtain ⟨v, ok, rfl, rfl, hok, hSZ⟩ := hcut
                  have HOK : Hid (ok = false → ∀ (t : Nat) (e : E), came[t]? = some e → e.there = true → sm fp e.key gk = false) := hok
                  clear hok hget hgc ct cw cs lw ls lt2
                  have hL := HZ.out.1.go hSZ
                  have cw := hL.bw.cell
                  have cs := hL.size.cell
                  have lw := hL.bw.lt
                  have ls := hL.size.lt
                  have hgc := HGC.out wc hL.stay i hlt
                  rw [HGK.out] at hgc
                  have lgb := World.block_lt_of_cell? wc _ hgc
                  have hF1 : Fns (wc.alloc (.cells #[.int .i64 way] 3)).drew (wc.heap.size, wc.heap.size, way) := by
                    have hc : (wc.alloc (.cells #[.int .i64 way] 3)).drew.cell? ⟨wc.heap.size, 0, none⟩ = some (.int .i64 way) := (Boxed.new wc 3 (.int .i64 way)).cell
                    exact ⟨hc, hc, hw⟩
                  have hhash := hash_any hF1 gk hgk
                  have hhf : hf (wc.heap.size, wc.heap.size, way) gk = hf fp gk := by unfold hf; rw [hfpw]
                  rw [hhf] at hhash
                  have HSX : Hid (Stay wc (wc.alloc (.cells #[.int .i64 way] 3)).drew) := (Stay.new wc _).trans (Stay.drewN _ 1)
                  have hN1 : ¬ (N : Int) = 0 := by omega
                  have hNw : IntKind.u64.wrap (N : Int) = (N : Int) := by rw [wrapu]; omega
                  have hrm : ((hf fp gk : Nat) : Int).tmod (N : Int) = ((hf fp gk % N : Nat) : Int) := by rw [Int.tmod_eq_emod_of_nonneg (by omega)]; rfl
                  have hrw : IntKind.i64.wrap ((hf fp gk % N : Nat) : Int) = ((hf fp gk % N : Nat) : Int) := by rw [IntKind.wrap_i64]; omega
                  have hrw2 : IntKind.u64.wrap ((hf fp gk % N : Nat) : Int) = ((hf fp gk % N : Nat) : Int) := by rw [wrapu]; omega
                  have hNc : (N : Int) % 18446744073709551616 = (N : Int) := by omega
                  have HSZ : Hid (Stay Z wc) := hSZ
                  clear hF1 hhf hfpw hL hSZ
                  generalize hho : hf fp gk % N = home at hrm hml hrw hrw2 hz2 HR2
                  clear hho
                  generalize hf fp gk = HH at hrm hhash
                  gi_wp2_with fail
                  gi_cut [27] from 999 (fun u27 wx => u27 = .int .i64 (home : Int) ∧ Stay wc wx)
                  case first =>
                    as_aux_lemma =>
                    refine wp_plainly ?_
                    refine wpIn_wide.2 ?_
                    go_region_held (fun W => W.cell? ⟨w.heap.size, 0, none⟩ = some (.int .i64 way) ∧ W.cell? ⟨Bn, 0, none⟩ = some (.int .i64 (N : Int)) ∧ W.cell? ⟨gb, go' + i, none⟩ = some (.int .i64 gk)) (first | assumption | go_keep) (first
                      | (go_at_call 10; refine (hashes_any _ _).mono ?_; rintro e9 w9 ⟨rfl, rfl⟩)
                      | (go_at_call 36; refine hhash.mono ?_; rintro e9 w9 ⟨rfl, hw9⟩; subst w9))
                    all_goals dsimp only [plainly]
                    all_goals gi_wp2
                    all_goals gi_meet
                    all_goals exact ⟨by simp, HSX.out⟩
                  case rest =>
                    as_aux_lemma =>
                    rename World => wd
                    obtain ⟨rfl, hSd⟩ := hcut
                    have hSZd := HSZ.out.trans hSd
                    have hL := HZ.out.1.go hSZd
                    have hrow : BoolsB wd g (taken (byPl (live came)) (byPl (live came)).length) N := (hSZd.block _ HZ.out.2.1.lt).trans HZ.out.2.1
                    have HRW : Hid (BoolsB wd g (taken (byPl (live came)) (byPl (live came)).length) N) := hrow
                    have cs := hL.size.cell
                    have cf := hL.full.cell
                    have ct := hL.ptr.cell
                    have hgc := HGC.out wd hL.stay i hlt
                    rw [HGK.out] at hgc
                    have hprd := HPR.out wd hSZd
                    have hlnd := HLN.out wd hSZd
                    have HSD : Hid (Stay X wd) := HZ.out.2.2.trans hSZd
                    clear hhash hrm hrw hrw2 hNw hNc HSX hL hrow hSd hSZd HSZ
                    gi_wp2_with fail
                    gi_loopw [26, 27] (fun us up wx => ∃ p : Nat, p < N ∧ up = .int .i64 (p : Int) ∧ us = .int .i64 ((dist N home p : Int) + 1) ∧ wx = wd ∧ dist N home p ≤ dist N home z) (fun _ up _ => dist N home z - dist N home (intOf up).toNat)
                    case atStart => exact ⟨home, hml, rfl, by simp [dist_self], rfl, by rw [dist_self]; omega⟩
                    case round =>
                      obtain ⟨p, hpN2, rfl, rfl, rfl, hle⟩ := hrel
                      have hdl := (dist_spec hml hpN2).1
                      have hpi3 : (p : Int) < (N : Int) := by omega
                      have hfc := HRW.out.cell hpN2
                      by_cases htk : taken (byPl (live came)) (byPl (live came)).length p = true
                      · rw [htk] at hfc
                        have hne : dist N home p < dist N home z := by
                          rcases Nat.lt_or_eq_of_le hle with h1 | h1
                          · exact h1
                          · have := dist_inj hml hpN2 hzN h1
                            rw [this, hz1] at htk; simp at htk
                        have hst := dist_step hml hpN2 hzN hne
                        have hnx := nx_tmod hpN2
                        gi_wp2_with fail
                        go_roundw
                        case rel =>
                          refine ⟨nx N p, (nx_spec hpN2).1, ?_, ?_, ?_, ?_⟩
                          · simp
                          · rw [hst]; simp
                          · trivial
                          · omega
                        case measure => simp [intOf]; omega
                      · have htk' : taken (byPl (live came)) (byPl (live came)).length p = false := by simpa using htk
                        rw [htk'] at hfc
                        have hpz : dist N home p = dist N home z := by
                          rcases Nat.lt_or_eq_of_le hle with h1 | h1
                          · rw [hz2 p hpN2 h1] at htk'; simp at htk'
                          · exact h1
                        rw [hpz]
                        have hcmp : ok = false → r0 = dist N home z := fun h => HR2.out (HOK.out h)
                        have hgt : ¬ ((len : Int) + 1 < (r0 : Int) + 1) := by omega
                        have hgtb : decide ((len : Int) + 1 < (r0 : Int) + 1) = false := decide_eq_false hgt
                        clear htk htk' hpz hle hdl
                        cases ok with
                        | true =>
                          clear hcmp
                          gi_wp2_with fail
                          refine wpIn_wide.2 ?_
                          go_quiet ((first | (go_at_call 33; exact Calls.quiet_of (hprd _)) | (go_at_call 19; exact Calls.quiet_of_same (hlnd _))))
                          gi_wp2_with fail
                          go_roundw
                          case rel => exact ⟨i + 1, by omega, by simp, HSD.out.trans (Stay.drewN _ _)⟩
                          case measure => simp [intOf]; omega
                        | false =>
                          have hrz := hcmp rfl
                          subst hrz
                          clear hcmp
                          gi_wp2_with fail
                          refine wpIn_wide.2 ?_
                          go_quiet ((first | (go_at_call 33; exact Calls.quiet_of (hprd _)) | (go_at_call 19; exact Calls.quiet_of_same (hlnd _))))
                          gi_wp2_with fail
                          go_roundw
                          case rel => exact ⟨i + 1, by omega, by simp, HSD.out.trans (Stay.drewN _ _)⟩
                          case measure => simp [intOf]; omega
              · obtain rfl : i = gone.length := by omega
                have HZ : Hid (LY w Z way bt Bt Bn g fp cv pb N len reach came places ∧ Z.heap[D]? = some (.deferred (some [])) ∧ Z.heap[D2]? = some (.deferred (some []))) := ⟨hL, (hSX.block D (Array.getElem?_eq_some_iff.1 HX0.out.2.2.1).1).trans HX0.out.2.2.1, (hSX.block D2 (Array.getElem?_eq_some_iff.1 HX0.out.2.2.2).1).trans HX0.out.2.2.2⟩
                clear hL hrow hSX HX0 HGC HKO HKA
                gi_wp2_with fail
                refine CallsIn.mono (callsIn_wide.2 (known_any _)) ?_
                rintro e9 W2 ⟨rfl, hS2⟩
                obtain ⟨hL, h1, h2⟩ := HZ.out
                have hq2 := box_stay hL.q hS2
                have g1 := (hS2.block D (Array.getElem?_eq_some_iff.1 h1).1).trans h1
                have g2 := (hS2.block D2 (Array.getElem?_eq_some_iff.1 h2).1).trans h2
                have hSw2 := hL.stay.trans hS2
                have cq := hq2.cell
                have fq := hq2.frozen
                have k1 := (KeepsOthers.setCell W2 ⟨w.heap.size + 1, 0, none⟩ (.bool true)).same D _ g1 rfl
                have k2 := (KeepsOthers.setCell W2 ⟨w.heap.size + 1, 0, none⟩ (.bool true)).same D2 _ g2 rfl
                have hfin := gi_end2 (W2.setCell ⟨w.heap.size + 1, 0, none⟩ (.bool true)) D D2 (w.heap.size + 1) w k1 k2 hDD.1 (World.cell?_setCell_same' W2 ⟨w.heap.size + 1, 0, none⟩ (.bool true) (by rw [cq]; rfl)) (Below.setCell hSw2 (p := ⟨w.heap.size + 1, 0, none⟩) (Nat.le_succ _) _) hDg hDD.2
                have HF : Hid _ := hfin
                clear hL h1 h2 hq2 g1 g2 hSw2 k1 k2 hfin hS2
                gi_wp2
                refine ⟨by simp, .inl ⟨_, _, rfl, run_takeDeferred HF.out.1, ⟨by simp, .inl ⟨_, _, rfl, run_takeDeferred HF.out.2.1, ?_⟩⟩⟩⟩
                refine ⟨.bool true, ?_, rfl, HF.out.2.2.2⟩
                simp [results, Try.results6, go_sem, HF.out.2.2.1]
end Go.Proofs.Ytdpbjealjilogaa.I
