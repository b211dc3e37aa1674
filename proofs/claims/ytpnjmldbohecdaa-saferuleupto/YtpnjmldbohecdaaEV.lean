/- The way of a body's literals: take. -/
import Derived.Test.YtpnjmldbohecdaaEU
import Derived.Test.YtpnjmldbohecdaaEK
import Derived.Test.YtpnjmldbohecdaaQP
import Derived.Scope
namespace Go.Proofs.Ytpnjmldbohecdaa
open Go.RowKit Go.Maps Go.Shelf
attribute [local go_sem] Oper.semAt_some

theorem step_lookup_run {P : Program} {ops : Array Oper} {o : Oper} {a : Act} {w : World} {K : Act → World → Prop} {Q : Exit → Act → World → Prop} {E : Prop} (hg : o.guard = none) (m x : Operand) (t : TypeId)
    (ho : o.op = .lookup t m x false) {mv kv v : Value} (hm : a.eval m = mv) (hx : a.eval x = kv) (hr : (Instr.lookup t mv kv false).run P w = .ok v w) (h : K (a.put o.dst v) w) : if Region.wanted o (yielded ops a.tmps) = true then Oper.wp P o a w K Q else E := by
  have hw : Region.wanted o (yielded ops a.tmps) = true := by simp [Region.wanted, hg]
  rw [if_pos hw]
  unfold Oper.wp
  simp [execOp, ho, hm, hx, hr, Result.andThen]
  exact h
theorem step_update_run {P : Program} {ops : Array Oper} {o : Oper} {a : Act} {w w' : World} {K : Act → World → Prop} {Q : Exit → Act → World → Prop} {E : Prop} (hg : o.guard = none) (m x y : Operand) (t : TypeId)
    (ho : o.op = .mapUpdate t m x y) {mv kv v : Value} (hm : a.eval m = mv) (hx : a.eval x = kv) (hy : a.eval y = v) (hr : (Instr.mapUpdate t mv kv v).run P w = .ok () w') (h : K (a.put o.dst undef) w') : if Region.wanted o (yielded ops a.tmps) = true then Oper.wp P o a w K Q else E := by
  have hw : Region.wanted o (yielded ops a.tmps) = true := by simp [Region.wanted, hg]
  rw [if_pos hw]
  unfold Oper.wp
  simp [execOp, ho, hm, hx, hy, hr, Result.andThen]
  exact h
/-- How a region that ends well ends. -/
def onlyN (Q : Exit → Act → World → Prop) : Exit → Act → World → Prop
  | .normal, a, w => Q .normal a w
  | _, _, _ => False
theorem region_plain {n id : Nat} {P : Program} {os : List Oper} {Q : Exit → Act → World → Prop} {a : Act} {w : World} (hm : P.follows .mixedOrders = true) (h : wpAny P .any os.toArray (onlyN Q) os.toArray.size (Array.replicate os.toArray.size false) a w.drew) : (Code.region id os.toArray true).wpIn Fence.wide n P Q a w :=
  wpIn_mono (wpIn_wide.2 (wp_region_any hm h)) fun e _ _ hq => by
    cases e with
    | normal => exact hq
    | _ => exact (show False from hq).elim
theorem wpIn_scope_straight {n : Nat} {P : Program} {c : Code} {Q : Exit → Act → World → Prop} {a : Act} {w : World} (h : c.wpIn Fence.wide n P (Exit.noGoto Q) a w) : (Code.scope c).wpIn Fence.wide n P Q a w := wpIn_wide.2 (wp_scope_straight (wpIn_wide.1 h))

set_option maxRecDepth 100000 in
set_option maxHeartbeats 8000000 in
theorem take_any (ls : List Li) (a : Option Addr) (b off cap : Nat) (w : World) (hM : LisS w a b off ls) (hf : ∀ l ∈ ls, l.fit w) (hn : ls.length ≤ 1048576) (bm : Nat) (bs : List (Int × ByteArray)) (hB : BndM w bm bs) (hbs : ∀ p ∈ bs, 0 ≤ p.1 ∧ p.1 < 1048576) :
    Calls Try.prog 27 #[.slice a ls.length cap, .map (some bm)] w (NewR 3 1 encI w (takeN bs ls ls.length).1) := by
  obtain ⟨R, hR⟩ : ∃ R, R = NewR 3 1 encI w (takeN bs ls ls.length).1 := ⟨_, rfl⟩
  rw [← hR]
  have HR : Hid (R = NewR 3 1 encI w (takeN bs ls ls.length).1) := hR
  have hmk := run_mapG
  have hbl := hB.lt
  obtain ⟨V, hV⟩ : ∃ V, V = ((w.alloc (.cells #[.map (some bm)] 66)).alloc (.map #[] 0)).alloc (.cells #[.map (some (w.heap.size + 1))] 90) := ⟨_, rfl⟩
  have zV : V.heap.size = w.heap.size + 3 := by rw [hV]; simp
  have stV : Stay w V := by rw [hV]; exact ((Stay.new _ _).alloc _).alloc _
  have hT0 : TkI w bm [] (fun _ => []) 0 (.slice none 0 0) V := by
    refine ⟨?_, ?_, ?_, OwnR.nil, by simp, stV⟩
    · rw [hV]; exact (Below.heap_alloc _ _ _ (by simp only [World.size_alloc]; omega)).trans ((Below.heap_alloc _ _ _ (by simp)).trans (heap_new _ _))
    · have := heap_new ((w.alloc (.cells #[.map (some bm)] 66)).alloc (.map #[] 0)) (.cells #[.map (some (w.heap.size + 1))] 90)
      rw [World.size_alloc, World.size_alloc] at this
      rw [hV]; exact this
    · have := grpM_new (w.alloc (.cells #[.map (some bm)] 66)) (fun g => (Value.slice none 0 0).ownBlock = some g)
      rw [World.size_alloc] at this
      rw [hV]; exact this.stay (Stay.new _ _)
  have HT0 : Hid (TkI w bm [] (fun _ => []) 0 (.slice none 0 0) V) := hT0
  have HM : Hid (LisS w a b off ls ∧ (∀ l ∈ ls, l.fit w) ∧ BndM w bm bs ∧ ∀ p ∈ bs, 0 ≤ p.1 ∧ p.1 < 1048576) := ⟨hM, hf, hB, hbs⟩
  clear hM hf hB hbs hR hT0
  refine (callsIn_wide (n := 8)).1 (callsIn_of_wp_marks Try.func27 rfl trivial ?_ rfl)
  simp only [Try.ntmps27, List.size_toArray, List.length_cons, List.length_nil, Nat.reduceAdd, Nat.reduceSub, Array.replicate_succ, Array.replicate_zero, List.push_toArray, List.append_toArray, List.nil_append, List.cons_append]
  gi_wp2
  refine wpIn_scope_straight ?_
  gi_wp2
  rw [← hV]
  clear hmk hV
  refine wpIn_label ?_
  gi_wp2
  refine wpIn_loop (fun ac wr => ∃ (i n : Nat) (D : List Deferred) (v u7 u8 u9 u10 u15 u16 u17 u18 u19 u20 u21 u22 u23 u24 u25 u26 u27 u28 u29 u30 u31 u32 u33 u34 u35 u36 u37 u38 u39 u40 u41 u42 u43 u44 u45 u46 u47 u48 u49 u50 u51 : Value), i ≤ ls.length ∧ n ≤ i ∧ ac = { tmps := #[.slice a ls.length cap, .map (some bm), undef, .pointer (some ⟨w.heap.size, 0, none⟩), .slice none 0 0, v, .pointer (some ⟨w.heap.size + 1 + 1, 0, none⟩), u7, u8, u9, u10, .map (some (w.heap.size + 1)), .slice a ls.length cap, .int .i64 (ls.length : Int), .int .i64 (i : Int), u15, u16, u17, u18, u19, u20, u21, u22, u23, u24, u25, u26, u27, u28, u29, u30, u31, u32, u33, u34, u35, u36, u37, u38, u39, u40, u41, u42, u43, u44, u45, u46, u47, u48, u49, u50, u51], defers := D } ∧ TkI w bm (takeN bs ls i).1 (takeN bs ls i).2 n v wr ∧ (takeN bs ls i).1.length ≤ i * 1048577 ∧ Marks V.heap.size wr.heap.size D wr) (fun ac _ => ls.length - (intOf (ac.tmps.getD 14 undef)).toNat) ?start ?round
  case start => exact ⟨0, 0, _, _, _, _, _, _, _, _, _, _, _, _, _, _, _, _, _, _, _, _, _, _, _, _, _, _, _, _, _, _, _, _, _, _, _, _, _, _, _, _, _, _, _, Nat.zero_le _, Nat.le_refl _, rfl, HT0.out, by simp [takeN], Marks.nil _ _ _⟩
  case round =>
    rintro ac wr ⟨i, n, D, v, u7, u8, u9, u10, u15, u16, u17, u18, u19, u20, u21, u22, u23, u24, u25, u26, u27, u28, u29, u30, u31, u32, u33, u34, u35, u36, u37, u38, u39, u40, u41, u42, u43, u44, u45, u46, u47, u48, u49, u50, u51, hi, hni, rfl, hT, hwl, hMk⟩
    by_cases hlt : i < ls.length
    · have hki : (i : Int) < (ls.length : Int) := by omega
      obtain ⟨hla, hlc⟩ := HM.out.1
      obtain rfl := hla (by omega)
      obtain ⟨c0, c1, c2, c3, c4, c5, c6, -⟩ := hlc i hlt
      have hbb : b < w.heap.size := World.block_lt_of_cell? w _ c0
      have d0 := below_cell hT.bel hbb c0
      have d1 := below_cell hT.bel hbb c1
      have d2 := below_cell hT.bel hbb c2
      have d3 := below_cell hT.bel hbb c3
      have d4 := below_cell hT.bel hbb c4
      have d5 := below_cell hT.bel hbb c5
      have d6 := below_cell hT.bel hbb c6
      have hfl := (HM.out.2.1 _ (List.getElem_mem hlt)).holds (Nat.le_refl _) hT.bel
      have hfw := HM.out.2.1 _ (List.getElem_mem hlt)
      have h3 := fun W => ofThree_any ls[i] W
      have HS : Hid (takeN bs ls (i + 1) = takeS bs (i : Int) ls[i] (takeN bs ls i)) := takeN_succ hlt
      have HT : Hid (TkI w bm (takeN bs ls i).1 (takeN bs ls i).2 n v wr ∧ (takeN bs ls i).1.length ≤ i * 1048577 ∧ Marks V.heap.size wr.heap.size D wr) := ⟨hT, hwl, hMk⟩
      clear c0 c1 c2 c3 c4 c5 c6 hT hwl hMk hla hlc
      generalize ls[i] = li at *
      cases h3c : ofThree li
      · have HE : Hid (takeN bs ls (i + 1) = takeN bs ls i) := by show _ = _; rw [HS.out, takeS, h3c]; rfl
        rw [h3c] at h3
        clear h3c HS hfl hfw
        obtain ⟨kind, ⟨pred, aa, ab, aoff, acap, ats⟩, ⟨lv, lt⟩, ⟨rv, rt⟩⟩ := li
        dsimp only [Li.v, At.sl] at *
        gi_wp2_with (refine ⟨trivial, ?_⟩; gi_at_call 44; refine CallsIn.mono (callsIn_wide.2 (h3 _)) ?_; rintro e w' ⟨rfl, hs'⟩)
        have hs1 : Stay wr w' := by first | exact ((Stay.new _ _).alloc _).trans hs' | exact hs'
        obtain ⟨hT, hwl, hMk⟩ := HT.out
        refine ⟨⟨i + 1, n, _, _, _, _, _, _, _, _, _, _, _, _, _, _, _, _, _, _, _, _, _, _, _, _, _, _, _, _, _, _, _, _, _, _, _, _, _, _, _, _, _, _, _, by omega, by omega, by rw [Int.natCast_add]; rfl, ?_, ?_, ?_⟩, ?_⟩
        · rw [HE.out]; exact hT.stay hs1
        · rw [HE.out]; exact Nat.le_trans hwl (Nat.mul_le_mul_right _ (Nat.le_succ _))
        · exact (hMk.kept (fun r _ h _ => hs1.block r h)).wide hs1.size
        · simp [intOf]
          omega
      · -- a literal of the three
        rw [h3c] at h3
        obtain ⟨T, hTe⟩ : ∃ T, T = li.terms := ⟨_, rfl⟩
        obtain ⟨ss, hss⟩ : ∃ ss, ss = varsT T := ⟨_, rfl⟩
        have HW : Hid (waits bs (i : Int) li = waitsS bs (i : Int) ss) := by show _ = _; rw [hss, hTe]; rfl
        have HE1 : Hid (waits bs (i : Int) li = true → takeN bs ls (i + 1) = ((takeN bs ls i).1, fun j => if j = lastS bs ss then (takeN bs ls i).2 (lastS bs ss) ++ [(i : Int)] else (takeN bs ls i).2 j)) := fun h => by rw [HS.out, takeS, h3c, if_pos rfl, h, if_pos rfl, hss, hTe]
        have HE2 : Hid (waits bs (i : Int) li = false → takeN bs ls (i + 1) = ((takeN bs ls i).1 ++ [(i : Int)] ++ (takeN bs ls i).2 i, (takeN bs ls i).2)) := fun h => by rw [HS.out, takeS, h3c, if_pos rfl, h]; rfl
        have hsh : ∀ s ∈ ss, s.size ≤ 1048576 := fun s hs => by
          rw [hss, hTe] at hs
          obtain ⟨t, ht, -, rfl⟩ := varsT_mem hs
          rcases terms_mem ht with h | rfl | rfl
          · exact hfw.shorts.1 t h
          · exact hfw.shorts.2.1
          · exact hfw.shorts.2.2
        have htl := Li.terms_len li
        rw [← hTe] at htl
        have hfe := hfw.few
        have hlr := lastS_range HM.out.2.2.2 ss
        have hlast := fun W (hW : Stay wr W) => last_any li W (hfl.holds (Nat.le_refl _) hW) bm bs ((HM.out.2.2.1.keep (HT.out.1.bel.block _ hbl)).stay hW)
        have hterm := fun W (hW : Stay wr W) => terms_any li W (TmsS.stay hfl.ins hW)
        have HAb : Hid (0 < li.atom.ts.length → li.atom.b < w.heap.size) := fun h0 => tms_lt hfw.ins h0
        unfold TermsAt at hterm
        rw [← hTe] at hterm
        rw [← hTe, ← hss] at hlast
        have HSS : Hid (ss = varsT T) := hss
        clear h3c HS hfl hfw hTe hss
        obtain ⟨kind, ⟨pred, aa, ab, aoff, acap, ats⟩, ⟨lv, lt⟩, ⟨rv, rt⟩⟩ := li
        dsimp only [Li.v, At.sl] at *
        obtain ⟨Wa, hWa⟩ : ∃ Wa, Wa = (wr.alloc (.cells #[.int .i64 (i : Int)] 3)).alloc (.cells #[.int .i64 kind, .string pred, .slice aa ats.length acap, .bool lv, .string lt, .bool rv, .string rt] 53) := ⟨_, rfl⟩
        have sWa : Stay wr Wa := by rw [hWa]; exact (Stay.new _ _).alloc _
        have zWa : Wa.heap.size = wr.heap.size + 2 := by rw [hWa]; simp
        have hI0 : Wa.heap[wr.heap.size]? = some (.cells #[.int .i64 (i : Int)] 3 (0, 0)) := by rw [hWa]; exact (Below.heap_alloc _ _ _ (by simp)).trans (heap_new _ _)
        have hL0 : Wa.heap[wr.heap.size + 1]? = some (.cells #[.int .i64 kind, .string pred, .slice aa ats.length acap, .bool lv, .string lt, .bool rv, .string rt] 53 (0, 0)) := by
          have := heap_new (wr.alloc (.cells #[.int .i64 (i : Int)] 3)) (.cells #[.int .i64 kind, .string pred, .slice aa ats.length acap, .bool lv, .string lt, .bool rv, .string rt] 53)
          rw [World.size_alloc] at this
          rw [hWa]; exact this
        have HBx : Hid (∀ W, Stay Wa W → W.cell? ⟨wr.heap.size, 0, none⟩ = some (.int .i64 (i : Int)) ∧ W.cell? ⟨wr.heap.size + 1, 0, none⟩ = some (.int .i64 kind) ∧ W.cell? ⟨wr.heap.size + 1, 1, none⟩ = some (.string pred) ∧ W.cell? ⟨wr.heap.size + 1, 2, none⟩ = some (.slice aa ats.length acap) ∧ W.cell? ⟨wr.heap.size + 1, 3, none⟩ = some (.bool lv) ∧ W.cell? ⟨wr.heap.size + 1, 4, none⟩ = some (.string lt) ∧ W.cell? ⟨wr.heap.size + 1, 5, none⟩ = some (.bool rv) ∧ W.cell? ⟨wr.heap.size + 1, 6, none⟩ = some (.string rt)) := fun W hW => by
          have g1 := (hW.block _ (by omega)).trans hI0
          have g2 := (hW.block _ (by omega)).trans hL0
          simp [World.cell?, g1, g2]
        gi_wp2_with (first
          | (refine ⟨trivial, ?_⟩; gi_at_call 44; rw [← hWa]; refine CallsIn.mono (callsIn_wide.2 (h3 _)) ?_; rintro e w1 ⟨rfl, hs1⟩; obtain ⟨k0, k1, k2, k3, k4, k5, k6, k7⟩ := HBx.out w1 hs1; have ht1 := hterm w1 (sWa.trans hs1); have S1 : Hid (Stay Wa w1) := hs1; clear hs1 h3 hterm)
          | (refine ⟨trivial, ?_⟩; gi_at_call 36; refine CallsIn.mono (callsIn_wide.2 ht1) ?_; rintro e w2 ⟨a', b', off', c', rfl, hTm, hb', hst⟩)
          | (refine ⟨trivial, ?_⟩; gi_at_call 35; refine CallsIn.mono (callsIn_wide.2 (variables_any _ _ _ _)) ?_; rintro e w'' ⟨rfl, rfl⟩))
        obtain ⟨U, hU⟩ : ∃ U, U = w2.alloc (.cells #[.slice a' T.length c'] 22) := ⟨_, rfl⟩
        rw [← hU]
        have zU : U.heap.size = w2.heap.size + 1 := by rw [hU]; simp
        have sU : Stay w2 U := by rw [hU]; exact Stay.new _ _
        have sWU : Stay Wa U := (S1.out.trans hst).trans sU
        have srU : Stay wr U := sWa.trans sWU
        have zrU := sWU.size
        have z12 := hst.size
        have z1 := S1.out.size
        have cU : U.cell? ⟨w2.heap.size, 0, none⟩ = some (.slice a' T.length c') := by rw [hU]; simp
        have hTU : TmsS U a' b' off' T := hTm.stay sU
        have hzT := HT.out.1.size
        have hb2 : 0 < T.length → (b' < w.heap.size ∨ (wr.heap.size ≤ b' ∧ b' < U.heap.size ∧ ¬ Tyd OwI U b')) := fun h => by
          rcases hb' h with ⟨rfl, h'⟩ | ⟨g1, g2, cs, f, g3⟩
          · exact .inl (HAb.out h')
          · exact .inr ⟨by omega, by omega, not_tyd ((sU.block _ g2).trans g3) (by unfold OwI; decide)⟩
        have hHs : ∀ q, (q < w.heap.size ∨ (q = b' ∧ wr.heap.size ≤ b' ∧ b' < U.heap.size ∧ ¬ Tyd OwI U b')) → q < U.heap.size := fun q hq => by
          rcases hq with hq | hq
          · omega
          · omega
        have hseq := vars_seq OwI T a' b' off' c' w2.heap.size (fun q => q < w.heap.size ∨ (q = b' ∧ wr.heap.size ≤ b' ∧ b' < U.heap.size ∧ ¬ Tyd OwI U b')) U hTU cU (by omega) (fun h => (hb2 h).imp id fun h' => ⟨rfl, h'⟩) hHs
        rw [← HSS.out] at hseq
        clear hU hTm hb' hst hTU cU sU S1 ht1 k0 k1 k2 k3 k4 k5 k6 k7 hI0 hL0 hWa d0 d1 d2 d3 d4 d5 d6 hb2
        refine' range_list (α := ByteArray) (T := OwI) (by decide) (gf := 48) (lb := #[.pointer (some ⟨w2.heap.size, 0, none⟩)]) rfl (enters_of Try.func48 (by kernel_rfl) rfl) hseq hHs (fun _ => rfl)
          (fun k A => waitsS bs (i : Int) (ss.take k) = false ∧ Stay U A) (fun c k A => c = .exit 1 ∧ waitsS bs (i : Int) ss = true ∧ TkI w bm (takeN bs ls i).1 (fun j => if j = lastS bs ss then (takeN bs ls i).2 (lastS bs ss) ++ [(i : Int)] else (takeN bs ls i).2 j) (n + 1) v A ∧ U.heap.size ≤ A.heap.size ∧ ∀ j, V.heap.size ≤ j → j < U.heap.size → ¬ Tyd OwI U j → A.heap[j]? = U.heap[j]?) (fun k A A' hA hb => ?hI) (fun c k A A' hA hb => ?hIx) ⟨rfl, Stay.refl _⟩ (fun _ W => W) (fun _ W => Stay.refl W) _ ?assign ?body ?done ?stop
        case hI => exact ⟨hA.1, Below.trans hA.2 hb.1⟩
        case hIx =>
          obtain ⟨h1, h2, h4, h5, h6⟩ := hA
          exact ⟨h1, h2, h4.hold hb (by omega), Nat.le_trans h5 hb.size, fun j g1 g2 g3 => (hb.block j g2).trans (h6 j g1 g2 g3)⟩
        case assign =>
          intro l' y W' K hK
          dsimp only [encS]
          gi_wp2
          exact hK
        case stop =>
          rintro c k A hk ⟨rfl, h2, h4, h5, h6⟩ hdd
          obtain ⟨hT, hwl, hMk⟩ := HT.out
          have hMA : Marks V.heap.size A.heap.size ({ target := .collected U.heap.size, args := #[] } :: D) A := ((hMk.kept (fun r _ h _ => srU.block r h)).kept (fun r g1 g2 g3 => h6 r g1 (by omega) (not_tyd_o g3 rfl))).cons U.heap.size (by omega) (by omega) (Array.getElem?_eq_some_iff.1 hdd).1 hdd
          have HH : Hid (TkI w bm (takeN bs ls (i + 1)).1 (takeN bs ls (i + 1)).2 (n + 1) v A ∧ (takeN bs ls (i + 1)).1.length ≤ (i + 1) * 1048577 ∧ Marks V.heap.size A.heap.size ({ target := .collected U.heap.size, args := #[] } :: D) A) := by
            rw [HE1.out (HW.out.trans h2)]
            exact ⟨h4, Nat.le_trans hwl (Nat.mul_le_mul_right _ (Nat.le_succ _)), hMA⟩
          clear h2 h4 h5 h6 hdd hMA hT hwl hMk hseq
          gi_wp2
          refine ⟨⟨i + 1, n + 1, _, _, _, _, _, _, _, _, _, _, _, _, _, _, _, _, _, _, _, _, _, _, _, _, _, _, _, _, _, _, _, _, _, _, _, _, _, _, _, _, _, _, _, by omega, by omega, by rw [Int.natCast_add]; rfl, HH.out⟩, ?_⟩
          simp [intOf]
          omega
        case done =>
          rintro A ⟨hA1, hA2⟩ hdd
          rw [List.take_of_length_le (Nat.le_refl _)] at hA1
          obtain ⟨hT, hwl, hMk⟩ := HT.out
          have srA : Stay wr A := Stay.trans srU hA2
          have hTA := hT.stay srA
          have hMA : Marks V.heap.size A.heap.size ({ target := .collected U.heap.size, args := #[] } :: D) A := (hMk.kept (fun r _ h _ => srA.block r h)).cons U.heap.size (by omega) (by omega) (Array.getElem?_eq_some_iff.1 hdd).1 hdd
          have hzA := srA.size
          have hzUA : U.heap.size ≤ A.heap.size := hA2.size
          have HE : Hid (takeN bs ls (i + 1) = ((takeN bs ls i).1 ++ [(i : Int)] ++ (takeN bs ls i).2 i, (takeN bs ls i).2)) := HE2.out (HW.out.trans hA1)
          have hlg : (takeN bs ls i).1.length ≤ 1099512676352 := Nat.le_trans hwl (Nat.le_trans (Nat.mul_le_mul_right 1048577 (show i ≤ 1048576 by omega)) (by decide))
          have ci := (HBx.out A (Stay.trans sWU hA2)).1
          have cwA := hTA.cw
          obtain ⟨a1, n1, c1, A2, hap1, hsm1, hq0, hq1, hq2⟩ := (hTA.stay (Stay.drew A)).add (i : Int) (WalkArith.wf_i64 (by omega)) (by omega) hlg 32
          have hvA : ∀ g, v.ownBlock = some g → w.heap.size + 3 ≤ g ∧ g < A.heap.size := hTA.own.lt
          have HF : Hid (∀ a2 n2 c2 A3, TkI w bm ((takeN bs ls i).1 ++ [(i : Int)] ++ (takeN bs ls i).2 i) (takeN bs ls i).2 n (.slice a2 n2 c2) A3 → A.heap.size ≤ A3.heap.size → (∀ j, j < A.heap.size → v.ownBlock ≠ some j → A3.heap[j]? = A.heap[j]?) → TkI w bm (takeN bs ls (i + 1)).1 (takeN bs ls (i + 1)).2 n (.slice a2 n2 c2) A3 ∧ (takeN bs ls (i + 1)).1.length ≤ (i + 1) * 1048577 ∧ Marks V.heap.size A3.heap.size ({ target := .collected U.heap.size, args := #[] } :: D) A3) := fun a2 n2 c2 A3 h1 h2 h3 => by
            rw [HE.out]
            refine ⟨h1, ?_, (hMA.kept (fun r g1 g2 g3 => h3 r g2 (fun e => not_tyd_o g3 rfl (ints_tyd (ints_own.2 ⟨hTA.own, hTA.wf⟩) e)))).wide h2⟩
            obtain ⟨u, -, hoi, hln, -⟩ := hTA.grp.look (k := (i : Int)) (WalkArith.wf_i64 (by omega)) (by unfold maxLen; omega)
            show ((takeN bs ls i).1 ++ [(i : Int)] ++ (takeN bs ls i).2 i).length ≤ _
            rw [List.length_append, List.length_append, List.length_singleton, Nat.add_mul]
            omega
          have HD0 : Hid (∀ W : World, (∀ j, j < A.heap.size → v.ownBlock ≠ some j → W.heap[j]? = A.heap[j]?) → W.cell? ⟨w.heap.size + 1 + 1, 0, none⟩ = some (.map (some (w.heap.size + 1))) ∧ W.cell? ⟨wr.heap.size, 0, none⟩ = some (.int .i64 (i : Int))) := fun W hW => ⟨by
              rw [← cwA]; exact World.cell?_of_block (hW _ (by show w.heap.size + 1 + 1 < _; omega) (fun e => by have := (hvA _ e).1; dsimp only at this; omega)), by
              rw [← ci]; exact World.cell?_of_block (hW _ (by show wr.heap.size < A.heap.size; omega) (fun e => by have := (hT.own.lt _ e).2; dsimp only at this; omega))⟩
          clear hA1 hA2 hT hwl hMk srA hTA hMA hdd hseq ci cwA
          gi_wp2
          obtain ⟨e2, e1⟩ := HD0.out A.drew (fun j _ _ => rfl)
          have e3 : ∀ o, (A.drew.alloc o).cell? ⟨w.heap.size + 1 + 1, 0, none⟩ = some (.map (some (w.heap.size + 1))) := fun o => (Stay.new _ o).cell e2
          have e4 : ∀ o, (A.drew.alloc o).cell? ⟨wr.heap.size, 0, none⟩ = some (.int .i64 (i : Int)) := fun o => (Stay.new _ o).cell e1
          obtain ⟨e5, e6⟩ := HD0.out A2 (fun j hj hne => (hsm1 j hj hne).trans rfl)
          clear hsm1
          have e7 : ∀ o, ((A.alloc o).drew).cell? ⟨w.heap.size + 1 + 1, 0, none⟩ = some (.map (some (w.heap.size + 1))) := e3
          have e8 : ∀ o, ((A.alloc o).drew).cell? ⟨wr.heap.size, 0, none⟩ = some (.int .i64 (i : Int)) := e4
          clear zU zWa zV hzUA hzA
          refine region_plain (by kernel_rfl) ?_
          refine wpAny_take (i := 0) (v := v) rfl (by kernel_rfl) (by kernel_rfl) (by kernel_rfl) (fun _ _ _ h => h) (Or.inl ⟨by rfl, fun W => by first | (go_simp; done) | (go_simp; with_reducible rfl)⟩) ?_
          refine wpAny_ready (rs := [1, 4, 5]) (by kernel_rfl) (by simp) (AllReady.cons (o := ⟨some 43, .load 3 (.tmp 7), 3, "way.go:55", #[], none⟩) rfl (fun K hK => ?_) (AllReady.cons (o := ⟨some 46, .load 90 (.tmp 6), 90, "way.go:55", #[], none⟩) rfl (fun K hK => ?_) (AllReady.cons (o := ⟨some 47, .load 3 (.tmp 7), 3, "way.go:55", #[], none⟩) rfl (fun K hK => ?_) AllReady.nil)))
          · go_simp
            refine hK _ _ ?_
            clear hK K
            refine wpAny_ready (rs := [2, 4, 5]) (by kernel_rfl) (by simp) (AllReady.cons (o := ⟨some 44, .buildSlice 32 1 #[(0, .tmp 43)], 32, "way.go:55", #[⟨1, .data⟩], none⟩) rfl (fun K hK => ?_) (AllReady.cons (o := ⟨some 46, .load 90 (.tmp 6), 90, "way.go:55", #[], none⟩) rfl (fun K hK => ?_) (AllReady.cons (o := ⟨some 47, .load 3 (.tmp 7), 3, "way.go:55", #[], none⟩) rfl (fun K hK => ?_) AllReady.nil)))
            · go_simp
              refine hK _ _ ?_
              clear hK K
              refine wpAny_ready (rs := [3, 4, 5]) (by kernel_rfl) (by simp) (AllReady.cons (o := ⟨some 45, .call { callee := .builtin .append, args := #[.tmp 42, .tmp 44], argTypes := #[32, 32] }, 32, "way.go:55", #[⟨0, .data⟩, ⟨2, .data⟩], none⟩) rfl (fun K hK => ?_) (AllReady.cons (o := ⟨some 46, .load 90 (.tmp 6), 90, "way.go:55", #[], none⟩) rfl (fun K hK => ?_) (AllReady.cons (o := ⟨some 47, .load 3 (.tmp 7), 3, "way.go:55", #[], none⟩) rfl (fun K hK => ?_) AllReady.nil)))
              · refine step_append_run rfl _ _ _ _ rfl (by first | rfl | (simp [Act.eval]; done) | simp [Act.eval, Act.put]) (by first | rfl | (simp [Act.eval]; done) | simp [Act.eval, Act.put]) hap1 ?_
                (try go_simp)
                refine hK _ _ ?_
                clear hK K
                refine wpAny_ready (rs := [4, 5]) (by kernel_rfl) (by simp) (AllReady.cons (o := ⟨some 46, .load 90 (.tmp 6), 90, "way.go:55", #[], none⟩) rfl (fun K hK => ?_) (AllReady.cons (o := ⟨some 47, .load 3 (.tmp 7), 3, "way.go:55", #[], none⟩) rfl (fun K hK => ?_) AllReady.nil))
                · go_simp
                  refine hK _ _ ?_
                  clear hK K
                  refine wpAny_ready (rs := [5]) (by kernel_rfl) (by simp) (AllReady.cons (o := ⟨some 47, .load 3 (.tmp 7), 3, "way.go:55", #[], none⟩) rfl (fun K hK => ?_) AllReady.nil)
                  · go_simp
                    refine hK _ _ ?_
                    clear hK K
                    refine wpAny_ready (rs := [6]) (by kernel_rfl) (by simp) (AllReady.cons (o := ⟨some 48, .lookup 90 (.tmp 46) (.tmp 47) false, 32, "way.go:55", #[⟨4, .data⟩, ⟨5, .data⟩], none⟩) rfl (fun K hK => ?_) AllReady.nil)
                    · first | (obtain ⟨u, hlk, a2, n2, c2, A3, hap2, hf1, hf2, hf3⟩ := hq0; refine step_lookup_run rfl _ _ _ rfl (by first | rfl | (simp [Act.eval]; done) | simp [Act.eval, Act.put]) (by first | rfl | (simp [Act.eval]; done) | simp [Act.eval, Act.put]) hlk ?_) | (obtain ⟨u, hlk, a2, n2, c2, A3, hap2, hf1, hf2, hf3⟩ := hq1; refine step_lookup_run rfl _ _ _ rfl (by first | rfl | (simp [Act.eval]; done) | simp [Act.eval, Act.put]) (by first | rfl | (simp [Act.eval]; done) | simp [Act.eval, Act.put]) hlk ?_) | (obtain ⟨u, hlk, a2, n2, c2, A3, hap2, hf1, hf2, hf3⟩ := hq2; refine step_lookup_run rfl _ _ _ rfl (by first | rfl | (simp [Act.eval]; done) | simp [Act.eval, Act.put]) (by first | rfl | (simp [Act.eval]; done) | simp [Act.eval, Act.put]) hlk ?_)
                      (try go_simp)
                      refine hK _ _ ?_
                      clear hK K
                      refine wpAny_ready (rs := [7]) (by kernel_rfl) (by simp) (AllReady.cons (o := ⟨some 49, .call { callee := .builtin .append, args := #[.tmp 45, .tmp 48], argTypes := #[32, 32] }, 32, "way.go:55", #[⟨3, .data⟩, ⟨6, .data⟩, ⟨3, .chain⟩], none⟩) rfl (fun K hK => ?_) AllReady.nil)
                      · refine step_append_run rfl _ _ _ _ rfl (by first | rfl | (simp [Act.eval]; done) | simp [Act.eval, Act.put]) (by first | rfl | (simp [Act.eval]; done) | simp [Act.eval, Act.put]) hap2 ?_
                        (try go_simp)
                        refine hK _ _ ?_
                        clear hK K
                        refine wpAny_ready (rs := [8]) (by kernel_rfl) (by simp) (AllReady.cons (o := ⟨some 5, .assign (.tmp 49), 32, "way.go:55", #[⟨7, .data⟩, ⟨7, .chain⟩, ⟨0, .phase⟩, ⟨1, .phase⟩, ⟨2, .phase⟩, ⟨3, .phase⟩, ⟨4, .phase⟩, ⟨5, .phase⟩, ⟨6, .phase⟩, ⟨7, .phase⟩], none⟩) rfl (fun K hK => ?_) AllReady.nil)
                        · go_simp
                          refine hK _ _ ?_
                          clear hK K
                          refine wpAny_done (by kernel_rfl) ?_ _
                          unfold onlyN
                          gi_wp2
                          refine ⟨⟨i + 1, n, _, _, _, _, _, _, _, _, _, _, _, _, _, _, _, _, _, _, _, _, _, _, _, _, _, _, _, _, _, _, _, _, _, _, _, _, _, _, _, _, _, _, _, by omega, by omega, by rw [Int.natCast_add]; rfl, HF.out a2 n2 c2 A3 hf1 hf2 hf3⟩, ?_⟩
                          simp [intOf]
                          omega
                · go_simp
                  refine hK _ _ ?_
                  clear hK K
                  refine wpAny_ready (rs := [4]) (by kernel_rfl) (by simp) (AllReady.cons (o := ⟨some 46, .load 90 (.tmp 6), 90, "way.go:55", #[], none⟩) rfl (fun K hK => ?_) AllReady.nil)
                  · go_simp
                    refine hK _ _ ?_
                    clear hK K
                    refine wpAny_ready (rs := [6]) (by kernel_rfl) (by simp) (AllReady.cons (o := ⟨some 48, .lookup 90 (.tmp 46) (.tmp 47) false, 32, "way.go:55", #[⟨4, .data⟩, ⟨5, .data⟩], none⟩) rfl (fun K hK => ?_) AllReady.nil)
                    · first | (obtain ⟨u, hlk, a2, n2, c2, A3, hap2, hf1, hf2, hf3⟩ := hq0; refine step_lookup_run rfl _ _ _ rfl (by first | rfl | (simp [Act.eval]; done) | simp [Act.eval, Act.put]) (by first | rfl | (simp [Act.eval]; done) | simp [Act.eval, Act.put]) hlk ?_) | (obtain ⟨u, hlk, a2, n2, c2, A3, hap2, hf1, hf2, hf3⟩ := hq1; refine step_lookup_run rfl _ _ _ rfl (by first | rfl | (simp [Act.eval]; done) | simp [Act.eval, Act.put]) (by first | rfl | (simp [Act.eval]; done) | simp [Act.eval, Act.put]) hlk ?_) | (obtain ⟨u, hlk, a2, n2, c2, A3, hap2, hf1, hf2, hf3⟩ := hq2; refine step_lookup_run rfl _ _ _ rfl (by first | rfl | (simp [Act.eval]; done) | simp [Act.eval, Act.put]) (by first | rfl | (simp [Act.eval]; done) | simp [Act.eval, Act.put]) hlk ?_)
                      (try go_simp)
                      refine hK _ _ ?_
                      clear hK K
                      refine wpAny_ready (rs := [7]) (by kernel_rfl) (by simp) (AllReady.cons (o := ⟨some 49, .call { callee := .builtin .append, args := #[.tmp 45, .tmp 48], argTypes := #[32, 32] }, 32, "way.go:55", #[⟨3, .data⟩, ⟨6, .data⟩, ⟨3, .chain⟩], none⟩) rfl (fun K hK => ?_) AllReady.nil)
                      · refine step_append_run rfl _ _ _ _ rfl (by first | rfl | (simp [Act.eval]; done) | simp [Act.eval, Act.put]) (by first | rfl | (simp [Act.eval]; done) | simp [Act.eval, Act.put]) hap2 ?_
                        (try go_simp)
                        refine hK _ _ ?_
                        clear hK K
                        refine wpAny_ready (rs := [8]) (by kernel_rfl) (by simp) (AllReady.cons (o := ⟨some 5, .assign (.tmp 49), 32, "way.go:55", #[⟨7, .data⟩, ⟨7, .chain⟩, ⟨0, .phase⟩, ⟨1, .phase⟩, ⟨2, .phase⟩, ⟨3, .phase⟩, ⟨4, .phase⟩, ⟨5, .phase⟩, ⟨6, .phase⟩, ⟨7, .phase⟩], none⟩) rfl (fun K hK => ?_) AllReady.nil)
                        · go_simp
                          refine hK _ _ ?_
                          clear hK K
                          refine wpAny_done (by kernel_rfl) ?_ _
                          unfold onlyN
                          gi_wp2
                          refine ⟨⟨i + 1, n, _, _, _, _, _, _, _, _, _, _, _, _, _, _, _, _, _, _, _, _, _, _, _, _, _, _, _, _, _, _, _, _, _, _, _, _, _, _, _, _, _, _, _, by omega, by omega, by rw [Int.natCast_add]; rfl, HF.out a2 n2 c2 A3 hf1 hf2 hf3⟩, ?_⟩
                          simp [intOf]
                          omega
              · go_simp
                refine hK _ _ ?_
                clear hK K
                refine wpAny_ready (rs := [3, 5]) (by kernel_rfl) (by simp) (AllReady.cons (o := ⟨some 45, .call { callee := .builtin .append, args := #[.tmp 42, .tmp 44], argTypes := #[32, 32] }, 32, "way.go:55", #[⟨0, .data⟩, ⟨2, .data⟩], none⟩) rfl (fun K hK => ?_) (AllReady.cons (o := ⟨some 47, .load 3 (.tmp 7), 3, "way.go:55", #[], none⟩) rfl (fun K hK => ?_) AllReady.nil))
                · refine step_append_run rfl _ _ _ _ rfl (by first | rfl | (simp [Act.eval]; done) | simp [Act.eval, Act.put]) (by first | rfl | (simp [Act.eval]; done) | simp [Act.eval, Act.put]) hap1 ?_
                  (try go_simp)
                  refine hK _ _ ?_
                  clear hK K
                  refine wpAny_ready (rs := [5]) (by kernel_rfl) (by simp) (AllReady.cons (o := ⟨some 47, .load 3 (.tmp 7), 3, "way.go:55", #[], none⟩) rfl (fun K hK => ?_) AllReady.nil)
                  · go_simp
                    refine hK _ _ ?_
                    clear hK K
                    refine wpAny_ready (rs := [6]) (by kernel_rfl) (by simp) (AllReady.cons (o := ⟨some 48, .lookup 90 (.tmp 46) (.tmp 47) false, 32, "way.go:55", #[⟨4, .data⟩, ⟨5, .data⟩], none⟩) rfl (fun K hK => ?_) AllReady.nil)
                    · first | (obtain ⟨u, hlk, a2, n2, c2, A3, hap2, hf1, hf2, hf3⟩ := hq0; refine step_lookup_run rfl _ _ _ rfl (by first | rfl | (simp [Act.eval]; done) | simp [Act.eval, Act.put]) (by first | rfl | (simp [Act.eval]; done) | simp [Act.eval, Act.put]) hlk ?_) | (obtain ⟨u, hlk, a2, n2, c2, A3, hap2, hf1, hf2, hf3⟩ := hq1; refine step_lookup_run rfl _ _ _ rfl (by first | rfl | (simp [Act.eval]; done) | simp [Act.eval, Act.put]) (by first | rfl | (simp [Act.eval]; done) | simp [Act.eval, Act.put]) hlk ?_) | (obtain ⟨u, hlk, a2, n2, c2, A3, hap2, hf1, hf2, hf3⟩ := hq2; refine step_lookup_run rfl _ _ _ rfl (by first | rfl | (simp [Act.eval]; done) | simp [Act.eval, Act.put]) (by first | rfl | (simp [Act.eval]; done) | simp [Act.eval, Act.put]) hlk ?_)
                      (try go_simp)
                      refine hK _ _ ?_
                      clear hK K
                      refine wpAny_ready (rs := [7]) (by kernel_rfl) (by simp) (AllReady.cons (o := ⟨some 49, .call { callee := .builtin .append, args := #[.tmp 45, .tmp 48], argTypes := #[32, 32] }, 32, "way.go:55", #[⟨3, .data⟩, ⟨6, .data⟩, ⟨3, .chain⟩], none⟩) rfl (fun K hK => ?_) AllReady.nil)
                      · refine step_append_run rfl _ _ _ _ rfl (by first | rfl | (simp [Act.eval]; done) | simp [Act.eval, Act.put]) (by first | rfl | (simp [Act.eval]; done) | simp [Act.eval, Act.put]) hap2 ?_
                        (try go_simp)
                        refine hK _ _ ?_
                        clear hK K
                        refine wpAny_ready (rs := [8]) (by kernel_rfl) (by simp) (AllReady.cons (o := ⟨some 5, .assign (.tmp 49), 32, "way.go:55", #[⟨7, .data⟩, ⟨7, .chain⟩, ⟨0, .phase⟩, ⟨1, .phase⟩, ⟨2, .phase⟩, ⟨3, .phase⟩, ⟨4, .phase⟩, ⟨5, .phase⟩, ⟨6, .phase⟩, ⟨7, .phase⟩], none⟩) rfl (fun K hK => ?_) AllReady.nil)
                        · go_simp
                          refine hK _ _ ?_
                          clear hK K
                          refine wpAny_done (by kernel_rfl) ?_ _
                          unfold onlyN
                          gi_wp2
                          refine ⟨⟨i + 1, n, _, _, _, _, _, _, _, _, _, _, _, _, _, _, _, _, _, _, _, _, _, _, _, _, _, _, _, _, _, _, _, _, _, _, _, _, _, _, _, _, _, _, _, by omega, by omega, by rw [Int.natCast_add]; rfl, HF.out a2 n2 c2 A3 hf1 hf2 hf3⟩, ?_⟩
                          simp [intOf]
                          omega
                · go_simp
                  refine hK _ _ ?_
                  clear hK K
                  refine wpAny_ready (rs := [3, 6]) (by kernel_rfl) (by simp) (AllReady.cons (o := ⟨some 45, .call { callee := .builtin .append, args := #[.tmp 42, .tmp 44], argTypes := #[32, 32] }, 32, "way.go:55", #[⟨0, .data⟩, ⟨2, .data⟩], none⟩) rfl (fun K hK => ?_) (AllReady.cons (o := ⟨some 48, .lookup 90 (.tmp 46) (.tmp 47) false, 32, "way.go:55", #[⟨4, .data⟩, ⟨5, .data⟩], none⟩) rfl (fun K hK => ?_) AllReady.nil))
                  · refine step_append_run rfl _ _ _ _ rfl (by first | rfl | (simp [Act.eval]; done) | simp [Act.eval, Act.put]) (by first | rfl | (simp [Act.eval]; done) | simp [Act.eval, Act.put]) hap1 ?_
                    (try go_simp)
                    refine hK _ _ ?_
                    clear hK K
                    refine wpAny_ready (rs := [6]) (by kernel_rfl) (by simp) (AllReady.cons (o := ⟨some 48, .lookup 90 (.tmp 46) (.tmp 47) false, 32, "way.go:55", #[⟨4, .data⟩, ⟨5, .data⟩], none⟩) rfl (fun K hK => ?_) AllReady.nil)
                    · first | (obtain ⟨u, hlk, a2, n2, c2, A3, hap2, hf1, hf2, hf3⟩ := hq0; refine step_lookup_run rfl _ _ _ rfl (by first | rfl | (simp [Act.eval]; done) | simp [Act.eval, Act.put]) (by first | rfl | (simp [Act.eval]; done) | simp [Act.eval, Act.put]) hlk ?_) | (obtain ⟨u, hlk, a2, n2, c2, A3, hap2, hf1, hf2, hf3⟩ := hq1; refine step_lookup_run rfl _ _ _ rfl (by first | rfl | (simp [Act.eval]; done) | simp [Act.eval, Act.put]) (by first | rfl | (simp [Act.eval]; done) | simp [Act.eval, Act.put]) hlk ?_) | (obtain ⟨u, hlk, a2, n2, c2, A3, hap2, hf1, hf2, hf3⟩ := hq2; refine step_lookup_run rfl _ _ _ rfl (by first | rfl | (simp [Act.eval]; done) | simp [Act.eval, Act.put]) (by first | rfl | (simp [Act.eval]; done) | simp [Act.eval, Act.put]) hlk ?_)
                      (try go_simp)
                      refine hK _ _ ?_
                      clear hK K
                      refine wpAny_ready (rs := [7]) (by kernel_rfl) (by simp) (AllReady.cons (o := ⟨some 49, .call { callee := .builtin .append, args := #[.tmp 45, .tmp 48], argTypes := #[32, 32] }, 32, "way.go:55", #[⟨3, .data⟩, ⟨6, .data⟩, ⟨3, .chain⟩], none⟩) rfl (fun K hK => ?_) AllReady.nil)
                      · refine step_append_run rfl _ _ _ _ rfl (by first | rfl | (simp [Act.eval]; done) | simp [Act.eval, Act.put]) (by first | rfl | (simp [Act.eval]; done) | simp [Act.eval, Act.put]) hap2 ?_
                        (try go_simp)
                        refine hK _ _ ?_
                        clear hK K
                        refine wpAny_ready (rs := [8]) (by kernel_rfl) (by simp) (AllReady.cons (o := ⟨some 5, .assign (.tmp 49), 32, "way.go:55", #[⟨7, .data⟩, ⟨7, .chain⟩, ⟨0, .phase⟩, ⟨1, .phase⟩, ⟨2, .phase⟩, ⟨3, .phase⟩, ⟨4, .phase⟩, ⟨5, .phase⟩, ⟨6, .phase⟩, ⟨7, .phase⟩], none⟩) rfl (fun K hK => ?_) AllReady.nil)
                        · go_simp
                          refine hK _ _ ?_
                          clear hK K
                          refine wpAny_done (by kernel_rfl) ?_ _
                          unfold onlyN
                          gi_wp2
                          refine ⟨⟨i + 1, n, _, _, _, _, _, _, _, _, _, _, _, _, _, _, _, _, _, _, _, _, _, _, _, _, _, _, _, _, _, _, _, _, _, _, _, _, _, _, _, _, _, _, _, by omega, by omega, by rw [Int.natCast_add]; rfl, HF.out a2 n2 c2 A3 hf1 hf2 hf3⟩, ?_⟩
                          simp [intOf]
                          omega
                  · first | (obtain ⟨u, hlk, a2, n2, c2, A3, hap2, hf1, hf2, hf3⟩ := hq0; refine step_lookup_run rfl _ _ _ rfl (by first | rfl | (simp [Act.eval]; done) | simp [Act.eval, Act.put]) (by first | rfl | (simp [Act.eval]; done) | simp [Act.eval, Act.put]) hlk ?_) | (obtain ⟨u, hlk, a2, n2, c2, A3, hap2, hf1, hf2, hf3⟩ := hq1; refine step_lookup_run rfl _ _ _ rfl (by first | rfl | (simp [Act.eval]; done) | simp [Act.eval, Act.put]) (by first | rfl | (simp [Act.eval]; done) | simp [Act.eval, Act.put]) hlk ?_) | (obtain ⟨u, hlk, a2, n2, c2, A3, hap2, hf1, hf2, hf3⟩ := hq2; refine step_lookup_run rfl _ _ _ rfl (by first | rfl | (simp [Act.eval]; done) | simp [Act.eval, Act.put]) (by first | rfl | (simp [Act.eval]; done) | simp [Act.eval, Act.put]) hlk ?_)
                    (try go_simp)
                    refine hK _ _ ?_
                    clear hK K
                    refine wpAny_ready (rs := [3]) (by kernel_rfl) (by simp) (AllReady.cons (o := ⟨some 45, .call { callee := .builtin .append, args := #[.tmp 42, .tmp 44], argTypes := #[32, 32] }, 32, "way.go:55", #[⟨0, .data⟩, ⟨2, .data⟩], none⟩) rfl (fun K hK => ?_) AllReady.nil)
                    · refine step_append_run rfl _ _ _ _ rfl (by first | rfl | (simp [Act.eval]; done) | simp [Act.eval, Act.put]) (by first | rfl | (simp [Act.eval]; done) | simp [Act.eval, Act.put]) hap1 ?_
                      (try go_simp)
                      refine hK _ _ ?_
                      clear hK K
                      refine wpAny_ready (rs := [7]) (by kernel_rfl) (by simp) (AllReady.cons (o := ⟨some 49, .call { callee := .builtin .append, args := #[.tmp 45, .tmp 48], argTypes := #[32, 32] }, 32, "way.go:55", #[⟨3, .data⟩, ⟨6, .data⟩, ⟨3, .chain⟩], none⟩) rfl (fun K hK => ?_) AllReady.nil)
                      · refine step_append_run rfl _ _ _ _ rfl (by first | rfl | (simp [Act.eval]; done) | simp [Act.eval, Act.put]) (by first | rfl | (simp [Act.eval]; done) | simp [Act.eval, Act.put]) hap2 ?_
                        (try go_simp)
                        refine hK _ _ ?_
                        clear hK K
                        refine wpAny_ready (rs := [8]) (by kernel_rfl) (by simp) (AllReady.cons (o := ⟨some 5, .assign (.tmp 49), 32, "way.go:55", #[⟨7, .data⟩, ⟨7, .chain⟩, ⟨0, .phase⟩, ⟨1, .phase⟩, ⟨2, .phase⟩, ⟨3, .phase⟩, ⟨4, .phase⟩, ⟨5, .phase⟩, ⟨6, .phase⟩, ⟨7, .phase⟩], none⟩) rfl (fun K hK => ?_) AllReady.nil)
                        · go_simp
                          refine hK _ _ ?_
                          clear hK K
                          refine wpAny_done (by kernel_rfl) ?_ _
                          unfold onlyN
                          gi_wp2
                          refine ⟨⟨i + 1, n, _, _, _, _, _, _, _, _, _, _, _, _, _, _, _, _, _, _, _, _, _, _, _, _, _, _, _, _, _, _, _, _, _, _, _, _, _, _, _, _, _, _, _, by omega, by omega, by rw [Int.natCast_add]; rfl, HF.out a2 n2 c2 A3 hf1 hf2 hf3⟩, ?_⟩
                          simp [intOf]
                          omega
              · go_simp
                refine hK _ _ ?_
                clear hK K
                refine wpAny_ready (rs := [3, 4]) (by kernel_rfl) (by simp) (AllReady.cons (o := ⟨some 45, .call { callee := .builtin .append, args := #[.tmp 42, .tmp 44], argTypes := #[32, 32] }, 32, "way.go:55", #[⟨0, .data⟩, ⟨2, .data⟩], none⟩) rfl (fun K hK => ?_) (AllReady.cons (o := ⟨some 46, .load 90 (.tmp 6), 90, "way.go:55", #[], none⟩) rfl (fun K hK => ?_) AllReady.nil))
                · refine step_append_run rfl _ _ _ _ rfl (by first | rfl | (simp [Act.eval]; done) | simp [Act.eval, Act.put]) (by first | rfl | (simp [Act.eval]; done) | simp [Act.eval, Act.put]) hap1 ?_
                  (try go_simp)
                  refine hK _ _ ?_
                  clear hK K
                  refine wpAny_ready (rs := [4]) (by kernel_rfl) (by simp) (AllReady.cons (o := ⟨some 46, .load 90 (.tmp 6), 90, "way.go:55", #[], none⟩) rfl (fun K hK => ?_) AllReady.nil)
                  · go_simp
                    refine hK _ _ ?_
                    clear hK K
                    refine wpAny_ready (rs := [6]) (by kernel_rfl) (by simp) (AllReady.cons (o := ⟨some 48, .lookup 90 (.tmp 46) (.tmp 47) false, 32, "way.go:55", #[⟨4, .data⟩, ⟨5, .data⟩], none⟩) rfl (fun K hK => ?_) AllReady.nil)
                    · first | (obtain ⟨u, hlk, a2, n2, c2, A3, hap2, hf1, hf2, hf3⟩ := hq0; refine step_lookup_run rfl _ _ _ rfl (by first | rfl | (simp [Act.eval]; done) | simp [Act.eval, Act.put]) (by first | rfl | (simp [Act.eval]; done) | simp [Act.eval, Act.put]) hlk ?_) | (obtain ⟨u, hlk, a2, n2, c2, A3, hap2, hf1, hf2, hf3⟩ := hq1; refine step_lookup_run rfl _ _ _ rfl (by first | rfl | (simp [Act.eval]; done) | simp [Act.eval, Act.put]) (by first | rfl | (simp [Act.eval]; done) | simp [Act.eval, Act.put]) hlk ?_) | (obtain ⟨u, hlk, a2, n2, c2, A3, hap2, hf1, hf2, hf3⟩ := hq2; refine step_lookup_run rfl _ _ _ rfl (by first | rfl | (simp [Act.eval]; done) | simp [Act.eval, Act.put]) (by first | rfl | (simp [Act.eval]; done) | simp [Act.eval, Act.put]) hlk ?_)
                      (try go_simp)
                      refine hK _ _ ?_
                      clear hK K
                      refine wpAny_ready (rs := [7]) (by kernel_rfl) (by simp) (AllReady.cons (o := ⟨some 49, .call { callee := .builtin .append, args := #[.tmp 45, .tmp 48], argTypes := #[32, 32] }, 32, "way.go:55", #[⟨3, .data⟩, ⟨6, .data⟩, ⟨3, .chain⟩], none⟩) rfl (fun K hK => ?_) AllReady.nil)
                      · refine step_append_run rfl _ _ _ _ rfl (by first | rfl | (simp [Act.eval]; done) | simp [Act.eval, Act.put]) (by first | rfl | (simp [Act.eval]; done) | simp [Act.eval, Act.put]) hap2 ?_
                        (try go_simp)
                        refine hK _ _ ?_
                        clear hK K
                        refine wpAny_ready (rs := [8]) (by kernel_rfl) (by simp) (AllReady.cons (o := ⟨some 5, .assign (.tmp 49), 32, "way.go:55", #[⟨7, .data⟩, ⟨7, .chain⟩, ⟨0, .phase⟩, ⟨1, .phase⟩, ⟨2, .phase⟩, ⟨3, .phase⟩, ⟨4, .phase⟩, ⟨5, .phase⟩, ⟨6, .phase⟩, ⟨7, .phase⟩], none⟩) rfl (fun K hK => ?_) AllReady.nil)
                        · go_simp
                          refine hK _ _ ?_
                          clear hK K
                          refine wpAny_done (by kernel_rfl) ?_ _
                          unfold onlyN
                          gi_wp2
                          refine ⟨⟨i + 1, n, _, _, _, _, _, _, _, _, _, _, _, _, _, _, _, _, _, _, _, _, _, _, _, _, _, _, _, _, _, _, _, _, _, _, _, _, _, _, _, _, _, _, _, by omega, by omega, by rw [Int.natCast_add]; rfl, HF.out a2 n2 c2 A3 hf1 hf2 hf3⟩, ?_⟩
                          simp [intOf]
                          omega
                · go_simp
                  refine hK _ _ ?_
                  clear hK K
                  refine wpAny_ready (rs := [3, 6]) (by kernel_rfl) (by simp) (AllReady.cons (o := ⟨some 45, .call { callee := .builtin .append, args := #[.tmp 42, .tmp 44], argTypes := #[32, 32] }, 32, "way.go:55", #[⟨0, .data⟩, ⟨2, .data⟩], none⟩) rfl (fun K hK => ?_) (AllReady.cons (o := ⟨some 48, .lookup 90 (.tmp 46) (.tmp 47) false, 32, "way.go:55", #[⟨4, .data⟩, ⟨5, .data⟩], none⟩) rfl (fun K hK => ?_) AllReady.nil))
                  · refine step_append_run rfl _ _ _ _ rfl (by first | rfl | (simp [Act.eval]; done) | simp [Act.eval, Act.put]) (by first | rfl | (simp [Act.eval]; done) | simp [Act.eval, Act.put]) hap1 ?_
                    (try go_simp)
                    refine hK _ _ ?_
                    clear hK K
                    refine wpAny_ready (rs := [6]) (by kernel_rfl) (by simp) (AllReady.cons (o := ⟨some 48, .lookup 90 (.tmp 46) (.tmp 47) false, 32, "way.go:55", #[⟨4, .data⟩, ⟨5, .data⟩], none⟩) rfl (fun K hK => ?_) AllReady.nil)
                    · first | (obtain ⟨u, hlk, a2, n2, c2, A3, hap2, hf1, hf2, hf3⟩ := hq0; refine step_lookup_run rfl _ _ _ rfl (by first | rfl | (simp [Act.eval]; done) | simp [Act.eval, Act.put]) (by first | rfl | (simp [Act.eval]; done) | simp [Act.eval, Act.put]) hlk ?_) | (obtain ⟨u, hlk, a2, n2, c2, A3, hap2, hf1, hf2, hf3⟩ := hq1; refine step_lookup_run rfl _ _ _ rfl (by first | rfl | (simp [Act.eval]; done) | simp [Act.eval, Act.put]) (by first | rfl | (simp [Act.eval]; done) | simp [Act.eval, Act.put]) hlk ?_) | (obtain ⟨u, hlk, a2, n2, c2, A3, hap2, hf1, hf2, hf3⟩ := hq2; refine step_lookup_run rfl _ _ _ rfl (by first | rfl | (simp [Act.eval]; done) | simp [Act.eval, Act.put]) (by first | rfl | (simp [Act.eval]; done) | simp [Act.eval, Act.put]) hlk ?_)
                      (try go_simp)
                      refine hK _ _ ?_
                      clear hK K
                      refine wpAny_ready (rs := [7]) (by kernel_rfl) (by simp) (AllReady.cons (o := ⟨some 49, .call { callee := .builtin .append, args := #[.tmp 45, .tmp 48], argTypes := #[32, 32] }, 32, "way.go:55", #[⟨3, .data⟩, ⟨6, .data⟩, ⟨3, .chain⟩], none⟩) rfl (fun K hK => ?_) AllReady.nil)
                      · refine step_append_run rfl _ _ _ _ rfl (by first | rfl | (simp [Act.eval]; done) | simp [Act.eval, Act.put]) (by first | rfl | (simp [Act.eval]; done) | simp [Act.eval, Act.put]) hap2 ?_
                        (try go_simp)
                        refine hK _ _ ?_
                        clear hK K
                        refine wpAny_ready (rs := [8]) (by kernel_rfl) (by simp) (AllReady.cons (o := ⟨some 5, .assign (.tmp 49), 32, "way.go:55", #[⟨7, .data⟩, ⟨7, .chain⟩, ⟨0, .phase⟩, ⟨1, .phase⟩, ⟨2, .phase⟩, ⟨3, .phase⟩, ⟨4, .phase⟩, ⟨5, .phase⟩, ⟨6, .phase⟩, ⟨7, .phase⟩], none⟩) rfl (fun K hK => ?_) AllReady.nil)
                        · go_simp
                          refine hK _ _ ?_
                          clear hK K
                          refine wpAny_done (by kernel_rfl) ?_ _
                          unfold onlyN
                          gi_wp2
                          refine ⟨⟨i + 1, n, _, _, _, _, _, _, _, _, _, _, _, _, _, _, _, _, _, _, _, _, _, _, _, _, _, _, _, _, _, _, _, _, _, _, _, _, _, _, _, _, _, _, _, by omega, by omega, by rw [Int.natCast_add]; rfl, HF.out a2 n2 c2 A3 hf1 hf2 hf3⟩, ?_⟩
                          simp [intOf]
                          omega
                  · first | (obtain ⟨u, hlk, a2, n2, c2, A3, hap2, hf1, hf2, hf3⟩ := hq0; refine step_lookup_run rfl _ _ _ rfl (by first | rfl | (simp [Act.eval]; done) | simp [Act.eval, Act.put]) (by first | rfl | (simp [Act.eval]; done) | simp [Act.eval, Act.put]) hlk ?_) | (obtain ⟨u, hlk, a2, n2, c2, A3, hap2, hf1, hf2, hf3⟩ := hq1; refine step_lookup_run rfl _ _ _ rfl (by first | rfl | (simp [Act.eval]; done) | simp [Act.eval, Act.put]) (by first | rfl | (simp [Act.eval]; done) | simp [Act.eval, Act.put]) hlk ?_) | (obtain ⟨u, hlk, a2, n2, c2, A3, hap2, hf1, hf2, hf3⟩ := hq2; refine step_lookup_run rfl _ _ _ rfl (by first | rfl | (simp [Act.eval]; done) | simp [Act.eval, Act.put]) (by first | rfl | (simp [Act.eval]; done) | simp [Act.eval, Act.put]) hlk ?_)
                    (try go_simp)
                    refine hK _ _ ?_
                    clear hK K
                    refine wpAny_ready (rs := [3]) (by kernel_rfl) (by simp) (AllReady.cons (o := ⟨some 45, .call { callee := .builtin .append, args := #[.tmp 42, .tmp 44], argTypes := #[32, 32] }, 32, "way.go:55", #[⟨0, .data⟩, ⟨2, .data⟩], none⟩) rfl (fun K hK => ?_) AllReady.nil)
                    · refine step_append_run rfl _ _ _ _ rfl (by first | rfl | (simp [Act.eval]; done) | simp [Act.eval, Act.put]) (by first | rfl | (simp [Act.eval]; done) | simp [Act.eval, Act.put]) hap1 ?_
                      (try go_simp)
                      refine hK _ _ ?_
                      clear hK K
                      refine wpAny_ready (rs := [7]) (by kernel_rfl) (by simp) (AllReady.cons (o := ⟨some 49, .call { callee := .builtin .append, args := #[.tmp 45, .tmp 48], argTypes := #[32, 32] }, 32, "way.go:55", #[⟨3, .data⟩, ⟨6, .data⟩, ⟨3, .chain⟩], none⟩) rfl (fun K hK => ?_) AllReady.nil)
                      · refine step_append_run rfl _ _ _ _ rfl (by first | rfl | (simp [Act.eval]; done) | simp [Act.eval, Act.put]) (by first | rfl | (simp [Act.eval]; done) | simp [Act.eval, Act.put]) hap2 ?_
                        (try go_simp)
                        refine hK _ _ ?_
                        clear hK K
                        refine wpAny_ready (rs := [8]) (by kernel_rfl) (by simp) (AllReady.cons (o := ⟨some 5, .assign (.tmp 49), 32, "way.go:55", #[⟨7, .data⟩, ⟨7, .chain⟩, ⟨0, .phase⟩, ⟨1, .phase⟩, ⟨2, .phase⟩, ⟨3, .phase⟩, ⟨4, .phase⟩, ⟨5, .phase⟩, ⟨6, .phase⟩, ⟨7, .phase⟩], none⟩) rfl (fun K hK => ?_) AllReady.nil)
                        · go_simp
                          refine hK _ _ ?_
                          clear hK K
                          refine wpAny_done (by kernel_rfl) ?_ _
                          unfold onlyN
                          gi_wp2
                          refine ⟨⟨i + 1, n, _, _, _, _, _, _, _, _, _, _, _, _, _, _, _, _, _, _, _, _, _, _, _, _, _, _, _, _, _, _, _, _, _, _, _, _, _, _, _, _, _, _, _, by omega, by omega, by rw [Int.natCast_add]; rfl, HF.out a2 n2 c2 A3 hf1 hf2 hf3⟩, ?_⟩
                          simp [intOf]
                          omega
            · go_simp
              refine hK _ _ ?_
              clear hK K
              refine wpAny_ready (rs := [2, 5]) (by kernel_rfl) (by simp) (AllReady.cons (o := ⟨some 44, .buildSlice 32 1 #[(0, .tmp 43)], 32, "way.go:55", #[⟨1, .data⟩], none⟩) rfl (fun K hK => ?_) (AllReady.cons (o := ⟨some 47, .load 3 (.tmp 7), 3, "way.go:55", #[], none⟩) rfl (fun K hK => ?_) AllReady.nil))
              · go_simp
                refine hK _ _ ?_
                clear hK K
                refine wpAny_ready (rs := [3, 5]) (by kernel_rfl) (by simp) (AllReady.cons (o := ⟨some 45, .call { callee := .builtin .append, args := #[.tmp 42, .tmp 44], argTypes := #[32, 32] }, 32, "way.go:55", #[⟨0, .data⟩, ⟨2, .data⟩], none⟩) rfl (fun K hK => ?_) (AllReady.cons (o := ⟨some 47, .load 3 (.tmp 7), 3, "way.go:55", #[], none⟩) rfl (fun K hK => ?_) AllReady.nil))
                · refine step_append_run rfl _ _ _ _ rfl (by first | rfl | (simp [Act.eval]; done) | simp [Act.eval, Act.put]) (by first | rfl | (simp [Act.eval]; done) | simp [Act.eval, Act.put]) hap1 ?_
                  (try go_simp)
                  refine hK _ _ ?_
                  clear hK K
                  refine wpAny_ready (rs := [5]) (by kernel_rfl) (by simp) (AllReady.cons (o := ⟨some 47, .load 3 (.tmp 7), 3, "way.go:55", #[], none⟩) rfl (fun K hK => ?_) AllReady.nil)
                  · go_simp
                    refine hK _ _ ?_
                    clear hK K
                    refine wpAny_ready (rs := [6]) (by kernel_rfl) (by simp) (AllReady.cons (o := ⟨some 48, .lookup 90 (.tmp 46) (.tmp 47) false, 32, "way.go:55", #[⟨4, .data⟩, ⟨5, .data⟩], none⟩) rfl (fun K hK => ?_) AllReady.nil)
                    · first | (obtain ⟨u, hlk, a2, n2, c2, A3, hap2, hf1, hf2, hf3⟩ := hq0; refine step_lookup_run rfl _ _ _ rfl (by first | rfl | (simp [Act.eval]; done) | simp [Act.eval, Act.put]) (by first | rfl | (simp [Act.eval]; done) | simp [Act.eval, Act.put]) hlk ?_) | (obtain ⟨u, hlk, a2, n2, c2, A3, hap2, hf1, hf2, hf3⟩ := hq1; refine step_lookup_run rfl _ _ _ rfl (by first | rfl | (simp [Act.eval]; done) | simp [Act.eval, Act.put]) (by first | rfl | (simp [Act.eval]; done) | simp [Act.eval, Act.put]) hlk ?_) | (obtain ⟨u, hlk, a2, n2, c2, A3, hap2, hf1, hf2, hf3⟩ := hq2; refine step_lookup_run rfl _ _ _ rfl (by first | rfl | (simp [Act.eval]; done) | simp [Act.eval, Act.put]) (by first | rfl | (simp [Act.eval]; done) | simp [Act.eval, Act.put]) hlk ?_)
                      (try go_simp)
                      refine hK _ _ ?_
                      clear hK K
                      refine wpAny_ready (rs := [7]) (by kernel_rfl) (by simp) (AllReady.cons (o := ⟨some 49, .call { callee := .builtin .append, args := #[.tmp 45, .tmp 48], argTypes := #[32, 32] }, 32, "way.go:55", #[⟨3, .data⟩, ⟨6, .data⟩, ⟨3, .chain⟩], none⟩) rfl (fun K hK => ?_) AllReady.nil)
                      · refine step_append_run rfl _ _ _ _ rfl (by first | rfl | (simp [Act.eval]; done) | simp [Act.eval, Act.put]) (by first | rfl | (simp [Act.eval]; done) | simp [Act.eval, Act.put]) hap2 ?_
                        (try go_simp)
                        refine hK _ _ ?_
                        clear hK K
                        refine wpAny_ready (rs := [8]) (by kernel_rfl) (by simp) (AllReady.cons (o := ⟨some 5, .assign (.tmp 49), 32, "way.go:55", #[⟨7, .data⟩, ⟨7, .chain⟩, ⟨0, .phase⟩, ⟨1, .phase⟩, ⟨2, .phase⟩, ⟨3, .phase⟩, ⟨4, .phase⟩, ⟨5, .phase⟩, ⟨6, .phase⟩, ⟨7, .phase⟩], none⟩) rfl (fun K hK => ?_) AllReady.nil)
                        · go_simp
                          refine hK _ _ ?_
                          clear hK K
                          refine wpAny_done (by kernel_rfl) ?_ _
                          unfold onlyN
                          gi_wp2
                          refine ⟨⟨i + 1, n, _, _, _, _, _, _, _, _, _, _, _, _, _, _, _, _, _, _, _, _, _, _, _, _, _, _, _, _, _, _, _, _, _, _, _, _, _, _, _, _, _, _, _, by omega, by omega, by rw [Int.natCast_add]; rfl, HF.out a2 n2 c2 A3 hf1 hf2 hf3⟩, ?_⟩
                          simp [intOf]
                          omega
                · go_simp
                  refine hK _ _ ?_
                  clear hK K
                  refine wpAny_ready (rs := [3, 6]) (by kernel_rfl) (by simp) (AllReady.cons (o := ⟨some 45, .call { callee := .builtin .append, args := #[.tmp 42, .tmp 44], argTypes := #[32, 32] }, 32, "way.go:55", #[⟨0, .data⟩, ⟨2, .data⟩], none⟩) rfl (fun K hK => ?_) (AllReady.cons (o := ⟨some 48, .lookup 90 (.tmp 46) (.tmp 47) false, 32, "way.go:55", #[⟨4, .data⟩, ⟨5, .data⟩], none⟩) rfl (fun K hK => ?_) AllReady.nil))
                  · refine step_append_run rfl _ _ _ _ rfl (by first | rfl | (simp [Act.eval]; done) | simp [Act.eval, Act.put]) (by first | rfl | (simp [Act.eval]; done) | simp [Act.eval, Act.put]) hap1 ?_
                    (try go_simp)
                    refine hK _ _ ?_
                    clear hK K
                    refine wpAny_ready (rs := [6]) (by kernel_rfl) (by simp) (AllReady.cons (o := ⟨some 48, .lookup 90 (.tmp 46) (.tmp 47) false, 32, "way.go:55", #[⟨4, .data⟩, ⟨5, .data⟩], none⟩) rfl (fun K hK => ?_) AllReady.nil)
                    · first | (obtain ⟨u, hlk, a2, n2, c2, A3, hap2, hf1, hf2, hf3⟩ := hq0; refine step_lookup_run rfl _ _ _ rfl (by first | rfl | (simp [Act.eval]; done) | simp [Act.eval, Act.put]) (by first | rfl | (simp [Act.eval]; done) | simp [Act.eval, Act.put]) hlk ?_) | (obtain ⟨u, hlk, a2, n2, c2, A3, hap2, hf1, hf2, hf3⟩ := hq1; refine step_lookup_run rfl _ _ _ rfl (by first | rfl | (simp [Act.eval]; done) | simp [Act.eval, Act.put]) (by first | rfl | (simp [Act.eval]; done) | simp [Act.eval, Act.put]) hlk ?_) | (obtain ⟨u, hlk, a2, n2, c2, A3, hap2, hf1, hf2, hf3⟩ := hq2; refine step_lookup_run rfl _ _ _ rfl (by first | rfl | (simp [Act.eval]; done) | simp [Act.eval, Act.put]) (by first | rfl | (simp [Act.eval]; done) | simp [Act.eval, Act.put]) hlk ?_)
                      (try go_simp)
                      refine hK _ _ ?_
                      clear hK K
                      refine wpAny_ready (rs := [7]) (by kernel_rfl) (by simp) (AllReady.cons (o := ⟨some 49, .call { callee := .builtin .append, args := #[.tmp 45, .tmp 48], argTypes := #[32, 32] }, 32, "way.go:55", #[⟨3, .data⟩, ⟨6, .data⟩, ⟨3, .chain⟩], none⟩) rfl (fun K hK => ?_) AllReady.nil)
                      · refine step_append_run rfl _ _ _ _ rfl (by first | rfl | (simp [Act.eval]; done) | simp [Act.eval, Act.put]) (by first | rfl | (simp [Act.eval]; done) | simp [Act.eval, Act.put]) hap2 ?_
                        (try go_simp)
                        refine hK _ _ ?_
                        clear hK K
                        refine wpAny_ready (rs := [8]) (by kernel_rfl) (by simp) (AllReady.cons (o := ⟨some 5, .assign (.tmp 49), 32, "way.go:55", #[⟨7, .data⟩, ⟨7, .chain⟩, ⟨0, .phase⟩, ⟨1, .phase⟩, ⟨2, .phase⟩, ⟨3, .phase⟩, ⟨4, .phase⟩, ⟨5, .phase⟩, ⟨6, .phase⟩, ⟨7, .phase⟩], none⟩) rfl (fun K hK => ?_) AllReady.nil)
                        · go_simp
                          refine hK _ _ ?_
                          clear hK K
                          refine wpAny_done (by kernel_rfl) ?_ _
                          unfold onlyN
                          gi_wp2
                          refine ⟨⟨i + 1, n, _, _, _, _, _, _, _, _, _, _, _, _, _, _, _, _, _, _, _, _, _, _, _, _, _, _, _, _, _, _, _, _, _, _, _, _, _, _, _, _, _, _, _, by omega, by omega, by rw [Int.natCast_add]; rfl, HF.out a2 n2 c2 A3 hf1 hf2 hf3⟩, ?_⟩
                          simp [intOf]
                          omega
                  · first | (obtain ⟨u, hlk, a2, n2, c2, A3, hap2, hf1, hf2, hf3⟩ := hq0; refine step_lookup_run rfl _ _ _ rfl (by first | rfl | (simp [Act.eval]; done) | simp [Act.eval, Act.put]) (by first | rfl | (simp [Act.eval]; done) | simp [Act.eval, Act.put]) hlk ?_) | (obtain ⟨u, hlk, a2, n2, c2, A3, hap2, hf1, hf2, hf3⟩ := hq1; refine step_lookup_run rfl _ _ _ rfl (by first | rfl | (simp [Act.eval]; done) | simp [Act.eval, Act.put]) (by first | rfl | (simp [Act.eval]; done) | simp [Act.eval, Act.put]) hlk ?_) | (obtain ⟨u, hlk, a2, n2, c2, A3, hap2, hf1, hf2, hf3⟩ := hq2; refine step_lookup_run rfl _ _ _ rfl (by first | rfl | (simp [Act.eval]; done) | simp [Act.eval, Act.put]) (by first | rfl | (simp [Act.eval]; done) | simp [Act.eval, Act.put]) hlk ?_)
                    (try go_simp)
                    refine hK _ _ ?_
                    clear hK K
                    refine wpAny_ready (rs := [3]) (by kernel_rfl) (by simp) (AllReady.cons (o := ⟨some 45, .call { callee := .builtin .append, args := #[.tmp 42, .tmp 44], argTypes := #[32, 32] }, 32, "way.go:55", #[⟨0, .data⟩, ⟨2, .data⟩], none⟩) rfl (fun K hK => ?_) AllReady.nil)
                    · refine step_append_run rfl _ _ _ _ rfl (by first | rfl | (simp [Act.eval]; done) | simp [Act.eval, Act.put]) (by first | rfl | (simp [Act.eval]; done) | simp [Act.eval, Act.put]) hap1 ?_
                      (try go_simp)
                      refine hK _ _ ?_
                      clear hK K
                      refine wpAny_ready (rs := [7]) (by kernel_rfl) (by simp) (AllReady.cons (o := ⟨some 49, .call { callee := .builtin .append, args := #[.tmp 45, .tmp 48], argTypes := #[32, 32] }, 32, "way.go:55", #[⟨3, .data⟩, ⟨6, .data⟩, ⟨3, .chain⟩], none⟩) rfl (fun K hK => ?_) AllReady.nil)
                      · refine step_append_run rfl _ _ _ _ rfl (by first | rfl | (simp [Act.eval]; done) | simp [Act.eval, Act.put]) (by first | rfl | (simp [Act.eval]; done) | simp [Act.eval, Act.put]) hap2 ?_
                        (try go_simp)
                        refine hK _ _ ?_
                        clear hK K
                        refine wpAny_ready (rs := [8]) (by kernel_rfl) (by simp) (AllReady.cons (o := ⟨some 5, .assign (.tmp 49), 32, "way.go:55", #[⟨7, .data⟩, ⟨7, .chain⟩, ⟨0, .phase⟩, ⟨1, .phase⟩, ⟨2, .phase⟩, ⟨3, .phase⟩, ⟨4, .phase⟩, ⟨5, .phase⟩, ⟨6, .phase⟩, ⟨7, .phase⟩], none⟩) rfl (fun K hK => ?_) AllReady.nil)
                        · go_simp
                          refine hK _ _ ?_
                          clear hK K
                          refine wpAny_done (by kernel_rfl) ?_ _
                          unfold onlyN
                          gi_wp2
                          refine ⟨⟨i + 1, n, _, _, _, _, _, _, _, _, _, _, _, _, _, _, _, _, _, _, _, _, _, _, _, _, _, _, _, _, _, _, _, _, _, _, _, _, _, _, _, _, _, _, _, by omega, by omega, by rw [Int.natCast_add]; rfl, HF.out a2 n2 c2 A3 hf1 hf2 hf3⟩, ?_⟩
                          simp [intOf]
                          omega
              · go_simp
                refine hK _ _ ?_
                clear hK K
                refine wpAny_ready (rs := [2, 6]) (by kernel_rfl) (by simp) (AllReady.cons (o := ⟨some 44, .buildSlice 32 1 #[(0, .tmp 43)], 32, "way.go:55", #[⟨1, .data⟩], none⟩) rfl (fun K hK => ?_) (AllReady.cons (o := ⟨some 48, .lookup 90 (.tmp 46) (.tmp 47) false, 32, "way.go:55", #[⟨4, .data⟩, ⟨5, .data⟩], none⟩) rfl (fun K hK => ?_) AllReady.nil))
                · go_simp
                  refine hK _ _ ?_
                  clear hK K
                  refine wpAny_ready (rs := [3, 6]) (by kernel_rfl) (by simp) (AllReady.cons (o := ⟨some 45, .call { callee := .builtin .append, args := #[.tmp 42, .tmp 44], argTypes := #[32, 32] }, 32, "way.go:55", #[⟨0, .data⟩, ⟨2, .data⟩], none⟩) rfl (fun K hK => ?_) (AllReady.cons (o := ⟨some 48, .lookup 90 (.tmp 46) (.tmp 47) false, 32, "way.go:55", #[⟨4, .data⟩, ⟨5, .data⟩], none⟩) rfl (fun K hK => ?_) AllReady.nil))
                  · refine step_append_run rfl _ _ _ _ rfl (by first | rfl | (simp [Act.eval]; done) | simp [Act.eval, Act.put]) (by first | rfl | (simp [Act.eval]; done) | simp [Act.eval, Act.put]) hap1 ?_
                    (try go_simp)
                    refine hK _ _ ?_
                    clear hK K
                    refine wpAny_ready (rs := [6]) (by kernel_rfl) (by simp) (AllReady.cons (o := ⟨some 48, .lookup 90 (.tmp 46) (.tmp 47) false, 32, "way.go:55", #[⟨4, .data⟩, ⟨5, .data⟩], none⟩) rfl (fun K hK => ?_) AllReady.nil)
                    · first | (obtain ⟨u, hlk, a2, n2, c2, A3, hap2, hf1, hf2, hf3⟩ := hq0; refine step_lookup_run rfl _ _ _ rfl (by first | rfl | (simp [Act.eval]; done) | simp [Act.eval, Act.put]) (by first | rfl | (simp [Act.eval]; done) | simp [Act.eval, Act.put]) hlk ?_) | (obtain ⟨u, hlk, a2, n2, c2, A3, hap2, hf1, hf2, hf3⟩ := hq1; refine step_lookup_run rfl _ _ _ rfl (by first | rfl | (simp [Act.eval]; done) | simp [Act.eval, Act.put]) (by first | rfl | (simp [Act.eval]; done) | simp [Act.eval, Act.put]) hlk ?_) | (obtain ⟨u, hlk, a2, n2, c2, A3, hap2, hf1, hf2, hf3⟩ := hq2; refine step_lookup_run rfl _ _ _ rfl (by first | rfl | (simp [Act.eval]; done) | simp [Act.eval, Act.put]) (by first | rfl | (simp [Act.eval]; done) | simp [Act.eval, Act.put]) hlk ?_)
                      (try go_simp)
                      refine hK _ _ ?_
                      clear hK K
                      refine wpAny_ready (rs := [7]) (by kernel_rfl) (by simp) (AllReady.cons (o := ⟨some 49, .call { callee := .builtin .append, args := #[.tmp 45, .tmp 48], argTypes := #[32, 32] }, 32, "way.go:55", #[⟨3, .data⟩, ⟨6, .data⟩, ⟨3, .chain⟩], none⟩) rfl (fun K hK => ?_) AllReady.nil)
                      · refine step_append_run rfl _ _ _ _ rfl (by first | rfl | (simp [Act.eval]; done) | simp [Act.eval, Act.put]) (by first | rfl | (simp [Act.eval]; done) | simp [Act.eval, Act.put]) hap2 ?_
                        (try go_simp)
                        refine hK _ _ ?_
                        clear hK K
                        refine wpAny_ready (rs := [8]) (by kernel_rfl) (by simp) (AllReady.cons (o := ⟨some 5, .assign (.tmp 49), 32, "way.go:55", #[⟨7, .data⟩, ⟨7, .chain⟩, ⟨0, .phase⟩, ⟨1, .phase⟩, ⟨2, .phase⟩, ⟨3, .phase⟩, ⟨4, .phase⟩, ⟨5, .phase⟩, ⟨6, .phase⟩, ⟨7, .phase⟩], none⟩) rfl (fun K hK => ?_) AllReady.nil)
                        · go_simp
                          refine hK _ _ ?_
                          clear hK K
                          refine wpAny_done (by kernel_rfl) ?_ _
                          unfold onlyN
                          gi_wp2
                          refine ⟨⟨i + 1, n, _, _, _, _, _, _, _, _, _, _, _, _, _, _, _, _, _, _, _, _, _, _, _, _, _, _, _, _, _, _, _, _, _, _, _, _, _, _, _, _, _, _, _, by omega, by omega, by rw [Int.natCast_add]; rfl, HF.out a2 n2 c2 A3 hf1 hf2 hf3⟩, ?_⟩
                          simp [intOf]
                          omega
                  · first | (obtain ⟨u, hlk, a2, n2, c2, A3, hap2, hf1, hf2, hf3⟩ := hq0; refine step_lookup_run rfl _ _ _ rfl (by first | rfl | (simp [Act.eval]; done) | simp [Act.eval, Act.put]) (by first | rfl | (simp [Act.eval]; done) | simp [Act.eval, Act.put]) hlk ?_) | (obtain ⟨u, hlk, a2, n2, c2, A3, hap2, hf1, hf2, hf3⟩ := hq1; refine step_lookup_run rfl _ _ _ rfl (by first | rfl | (simp [Act.eval]; done) | simp [Act.eval, Act.put]) (by first | rfl | (simp [Act.eval]; done) | simp [Act.eval, Act.put]) hlk ?_) | (obtain ⟨u, hlk, a2, n2, c2, A3, hap2, hf1, hf2, hf3⟩ := hq2; refine step_lookup_run rfl _ _ _ rfl (by first | rfl | (simp [Act.eval]; done) | simp [Act.eval, Act.put]) (by first | rfl | (simp [Act.eval]; done) | simp [Act.eval, Act.put]) hlk ?_)
                    (try go_simp)
                    refine hK _ _ ?_
                    clear hK K
                    refine wpAny_ready (rs := [3]) (by kernel_rfl) (by simp) (AllReady.cons (o := ⟨some 45, .call { callee := .builtin .append, args := #[.tmp 42, .tmp 44], argTypes := #[32, 32] }, 32, "way.go:55", #[⟨0, .data⟩, ⟨2, .data⟩], none⟩) rfl (fun K hK => ?_) AllReady.nil)
                    · refine step_append_run rfl _ _ _ _ rfl (by first | rfl | (simp [Act.eval]; done) | simp [Act.eval, Act.put]) (by first | rfl | (simp [Act.eval]; done) | simp [Act.eval, Act.put]) hap1 ?_
                      (try go_simp)
                      refine hK _ _ ?_
                      clear hK K
                      refine wpAny_ready (rs := [7]) (by kernel_rfl) (by simp) (AllReady.cons (o := ⟨some 49, .call { callee := .builtin .append, args := #[.tmp 45, .tmp 48], argTypes := #[32, 32] }, 32, "way.go:55", #[⟨3, .data⟩, ⟨6, .data⟩, ⟨3, .chain⟩], none⟩) rfl (fun K hK => ?_) AllReady.nil)
                      · refine step_append_run rfl _ _ _ _ rfl (by first | rfl | (simp [Act.eval]; done) | simp [Act.eval, Act.put]) (by first | rfl | (simp [Act.eval]; done) | simp [Act.eval, Act.put]) hap2 ?_
                        (try go_simp)
                        refine hK _ _ ?_
                        clear hK K
                        refine wpAny_ready (rs := [8]) (by kernel_rfl) (by simp) (AllReady.cons (o := ⟨some 5, .assign (.tmp 49), 32, "way.go:55", #[⟨7, .data⟩, ⟨7, .chain⟩, ⟨0, .phase⟩, ⟨1, .phase⟩, ⟨2, .phase⟩, ⟨3, .phase⟩, ⟨4, .phase⟩, ⟨5, .phase⟩, ⟨6, .phase⟩, ⟨7, .phase⟩], none⟩) rfl (fun K hK => ?_) AllReady.nil)
                        · go_simp
                          refine hK _ _ ?_
                          clear hK K
                          refine wpAny_done (by kernel_rfl) ?_ _
                          unfold onlyN
                          gi_wp2
                          refine ⟨⟨i + 1, n, _, _, _, _, _, _, _, _, _, _, _, _, _, _, _, _, _, _, _, _, _, _, _, _, _, _, _, _, _, _, _, _, _, _, _, _, _, _, _, _, _, _, _, by omega, by omega, by rw [Int.natCast_add]; rfl, HF.out a2 n2 c2 A3 hf1 hf2 hf3⟩, ?_⟩
                          simp [intOf]
                          omega
                · first | (obtain ⟨u, hlk, a2, n2, c2, A3, hap2, hf1, hf2, hf3⟩ := hq0; refine step_lookup_run rfl _ _ _ rfl (by first | rfl | (simp [Act.eval]; done) | simp [Act.eval, Act.put]) (by first | rfl | (simp [Act.eval]; done) | simp [Act.eval, Act.put]) hlk ?_) | (obtain ⟨u, hlk, a2, n2, c2, A3, hap2, hf1, hf2, hf3⟩ := hq1; refine step_lookup_run rfl _ _ _ rfl (by first | rfl | (simp [Act.eval]; done) | simp [Act.eval, Act.put]) (by first | rfl | (simp [Act.eval]; done) | simp [Act.eval, Act.put]) hlk ?_) | (obtain ⟨u, hlk, a2, n2, c2, A3, hap2, hf1, hf2, hf3⟩ := hq2; refine step_lookup_run rfl _ _ _ rfl (by first | rfl | (simp [Act.eval]; done) | simp [Act.eval, Act.put]) (by first | rfl | (simp [Act.eval]; done) | simp [Act.eval, Act.put]) hlk ?_)
                  (try go_simp)
                  refine hK _ _ ?_
                  clear hK K
                  refine wpAny_ready (rs := [2]) (by kernel_rfl) (by simp) (AllReady.cons (o := ⟨some 44, .buildSlice 32 1 #[(0, .tmp 43)], 32, "way.go:55", #[⟨1, .data⟩], none⟩) rfl (fun K hK => ?_) AllReady.nil)
                  · go_simp
                    refine hK _ _ ?_
                    clear hK K
                    refine wpAny_ready (rs := [3]) (by kernel_rfl) (by simp) (AllReady.cons (o := ⟨some 45, .call { callee := .builtin .append, args := #[.tmp 42, .tmp 44], argTypes := #[32, 32] }, 32, "way.go:55", #[⟨0, .data⟩, ⟨2, .data⟩], none⟩) rfl (fun K hK => ?_) AllReady.nil)
                    · refine step_append_run rfl _ _ _ _ rfl (by first | rfl | (simp [Act.eval]; done) | simp [Act.eval, Act.put]) (by first | rfl | (simp [Act.eval]; done) | simp [Act.eval, Act.put]) hap1 ?_
                      (try go_simp)
                      refine hK _ _ ?_
                      clear hK K
                      refine wpAny_ready (rs := [7]) (by kernel_rfl) (by simp) (AllReady.cons (o := ⟨some 49, .call { callee := .builtin .append, args := #[.tmp 45, .tmp 48], argTypes := #[32, 32] }, 32, "way.go:55", #[⟨3, .data⟩, ⟨6, .data⟩, ⟨3, .chain⟩], none⟩) rfl (fun K hK => ?_) AllReady.nil)
                      · refine step_append_run rfl _ _ _ _ rfl (by first | rfl | (simp [Act.eval]; done) | simp [Act.eval, Act.put]) (by first | rfl | (simp [Act.eval]; done) | simp [Act.eval, Act.put]) hap2 ?_
                        (try go_simp)
                        refine hK _ _ ?_
                        clear hK K
                        refine wpAny_ready (rs := [8]) (by kernel_rfl) (by simp) (AllReady.cons (o := ⟨some 5, .assign (.tmp 49), 32, "way.go:55", #[⟨7, .data⟩, ⟨7, .chain⟩, ⟨0, .phase⟩, ⟨1, .phase⟩, ⟨2, .phase⟩, ⟨3, .phase⟩, ⟨4, .phase⟩, ⟨5, .phase⟩, ⟨6, .phase⟩, ⟨7, .phase⟩], none⟩) rfl (fun K hK => ?_) AllReady.nil)
                        · go_simp
                          refine hK _ _ ?_
                          clear hK K
                          refine wpAny_done (by kernel_rfl) ?_ _
                          unfold onlyN
                          gi_wp2
                          refine ⟨⟨i + 1, n, _, _, _, _, _, _, _, _, _, _, _, _, _, _, _, _, _, _, _, _, _, _, _, _, _, _, _, _, _, _, _, _, _, _, _, _, _, _, _, _, _, _, _, by omega, by omega, by rw [Int.natCast_add]; rfl, HF.out a2 n2 c2 A3 hf1 hf2 hf3⟩, ?_⟩
                          simp [intOf]
                          omega
            · go_simp
              refine hK _ _ ?_
              clear hK K
              refine wpAny_ready (rs := [2, 4]) (by kernel_rfl) (by simp) (AllReady.cons (o := ⟨some 44, .buildSlice 32 1 #[(0, .tmp 43)], 32, "way.go:55", #[⟨1, .data⟩], none⟩) rfl (fun K hK => ?_) (AllReady.cons (o := ⟨some 46, .load 90 (.tmp 6), 90, "way.go:55", #[], none⟩) rfl (fun K hK => ?_) AllReady.nil))
              · go_simp
                refine hK _ _ ?_
                clear hK K
                refine wpAny_ready (rs := [3, 4]) (by kernel_rfl) (by simp) (AllReady.cons (o := ⟨some 45, .call { callee := .builtin .append, args := #[.tmp 42, .tmp 44], argTypes := #[32, 32] }, 32, "way.go:55", #[⟨0, .data⟩, ⟨2, .data⟩], none⟩) rfl (fun K hK => ?_) (AllReady.cons (o := ⟨some 46, .load 90 (.tmp 6), 90, "way.go:55", #[], none⟩) rfl (fun K hK => ?_) AllReady.nil))
                · refine step_append_run rfl _ _ _ _ rfl (by first | rfl | (simp [Act.eval]; done) | simp [Act.eval, Act.put]) (by first | rfl | (simp [Act.eval]; done) | simp [Act.eval, Act.put]) hap1 ?_
                  (try go_simp)
                  refine hK _ _ ?_
                  clear hK K
                  refine wpAny_ready (rs := [4]) (by kernel_rfl) (by simp) (AllReady.cons (o := ⟨some 46, .load 90 (.tmp 6), 90, "way.go:55", #[], none⟩) rfl (fun K hK => ?_) AllReady.nil)
                  · go_simp
                    refine hK _ _ ?_
                    clear hK K
                    refine wpAny_ready (rs := [6]) (by kernel_rfl) (by simp) (AllReady.cons (o := ⟨some 48, .lookup 90 (.tmp 46) (.tmp 47) false, 32, "way.go:55", #[⟨4, .data⟩, ⟨5, .data⟩], none⟩) rfl (fun K hK => ?_) AllReady.nil)
                    · first | (obtain ⟨u, hlk, a2, n2, c2, A3, hap2, hf1, hf2, hf3⟩ := hq0; refine step_lookup_run rfl _ _ _ rfl (by first | rfl | (simp [Act.eval]; done) | simp [Act.eval, Act.put]) (by first | rfl | (simp [Act.eval]; done) | simp [Act.eval, Act.put]) hlk ?_) | (obtain ⟨u, hlk, a2, n2, c2, A3, hap2, hf1, hf2, hf3⟩ := hq1; refine step_lookup_run rfl _ _ _ rfl (by first | rfl | (simp [Act.eval]; done) | simp [Act.eval, Act.put]) (by first | rfl | (simp [Act.eval]; done) | simp [Act.eval, Act.put]) hlk ?_) | (obtain ⟨u, hlk, a2, n2, c2, A3, hap2, hf1, hf2, hf3⟩ := hq2; refine step_lookup_run rfl _ _ _ rfl (by first | rfl | (simp [Act.eval]; done) | simp [Act.eval, Act.put]) (by first | rfl | (simp [Act.eval]; done) | simp [Act.eval, Act.put]) hlk ?_)
                      (try go_simp)
                      refine hK _ _ ?_
                      clear hK K
                      refine wpAny_ready (rs := [7]) (by kernel_rfl) (by simp) (AllReady.cons (o := ⟨some 49, .call { callee := .builtin .append, args := #[.tmp 45, .tmp 48], argTypes := #[32, 32] }, 32, "way.go:55", #[⟨3, .data⟩, ⟨6, .data⟩, ⟨3, .chain⟩], none⟩) rfl (fun K hK => ?_) AllReady.nil)
                      · refine step_append_run rfl _ _ _ _ rfl (by first | rfl | (simp [Act.eval]; done) | simp [Act.eval, Act.put]) (by first | rfl | (simp [Act.eval]; done) | simp [Act.eval, Act.put]) hap2 ?_
                        (try go_simp)
                        refine hK _ _ ?_
                        clear hK K
                        refine wpAny_ready (rs := [8]) (by kernel_rfl) (by simp) (AllReady.cons (o := ⟨some 5, .assign (.tmp 49), 32, "way.go:55", #[⟨7, .data⟩, ⟨7, .chain⟩, ⟨0, .phase⟩, ⟨1, .phase⟩, ⟨2, .phase⟩, ⟨3, .phase⟩, ⟨4, .phase⟩, ⟨5, .phase⟩, ⟨6, .phase⟩, ⟨7, .phase⟩], none⟩) rfl (fun K hK => ?_) AllReady.nil)
                        · go_simp
                          refine hK _ _ ?_
                          clear hK K
                          refine wpAny_done (by kernel_rfl) ?_ _
                          unfold onlyN
                          gi_wp2
                          refine ⟨⟨i + 1, n, _, _, _, _, _, _, _, _, _, _, _, _, _, _, _, _, _, _, _, _, _, _, _, _, _, _, _, _, _, _, _, _, _, _, _, _, _, _, _, _, _, _, _, by omega, by omega, by rw [Int.natCast_add]; rfl, HF.out a2 n2 c2 A3 hf1 hf2 hf3⟩, ?_⟩
                          simp [intOf]
                          omega
                · go_simp
                  refine hK _ _ ?_
                  clear hK K
                  refine wpAny_ready (rs := [3, 6]) (by kernel_rfl) (by simp) (AllReady.cons (o := ⟨some 45, .call { callee := .builtin .append, args := #[.tmp 42, .tmp 44], argTypes := #[32, 32] }, 32, "way.go:55", #[⟨0, .data⟩, ⟨2, .data⟩], none⟩) rfl (fun K hK => ?_) (AllReady.cons (o := ⟨some 48, .lookup 90 (.tmp 46) (.tmp 47) false, 32, "way.go:55", #[⟨4, .data⟩, ⟨5, .data⟩], none⟩) rfl (fun K hK => ?_) AllReady.nil))
                  · refine step_append_run rfl _ _ _ _ rfl (by first | rfl | (simp [Act.eval]; done) | simp [Act.eval, Act.put]) (by first | rfl | (simp [Act.eval]; done) | simp [Act.eval, Act.put]) hap1 ?_
                    (try go_simp)
                    refine hK _ _ ?_
                    clear hK K
                    refine wpAny_ready (rs := [6]) (by kernel_rfl) (by simp) (AllReady.cons (o := ⟨some 48, .lookup 90 (.tmp 46) (.tmp 47) false, 32, "way.go:55", #[⟨4, .data⟩, ⟨5, .data⟩], none⟩) rfl (fun K hK => ?_) AllReady.nil)
                    · first | (obtain ⟨u, hlk, a2, n2, c2, A3, hap2, hf1, hf2, hf3⟩ := hq0; refine step_lookup_run rfl _ _ _ rfl (by first | rfl | (simp [Act.eval]; done) | simp [Act.eval, Act.put]) (by first | rfl | (simp [Act.eval]; done) | simp [Act.eval, Act.put]) hlk ?_) | (obtain ⟨u, hlk, a2, n2, c2, A3, hap2, hf1, hf2, hf3⟩ := hq1; refine step_lookup_run rfl _ _ _ rfl (by first | rfl | (simp [Act.eval]; done) | simp [Act.eval, Act.put]) (by first | rfl | (simp [Act.eval]; done) | simp [Act.eval, Act.put]) hlk ?_) | (obtain ⟨u, hlk, a2, n2, c2, A3, hap2, hf1, hf2, hf3⟩ := hq2; refine step_lookup_run rfl _ _ _ rfl (by first | rfl | (simp [Act.eval]; done) | simp [Act.eval, Act.put]) (by first | rfl | (simp [Act.eval]; done) | simp [Act.eval, Act.put]) hlk ?_)
                      (try go_simp)
                      refine hK _ _ ?_
                      clear hK K
                      refine wpAny_ready (rs := [7]) (by kernel_rfl) (by simp) (AllReady.cons (o := ⟨some 49, .call { callee := .builtin .append, args := #[.tmp 45, .tmp 48], argTypes := #[32, 32] }, 32, "way.go:55", #[⟨3, .data⟩, ⟨6, .data⟩, ⟨3, .chain⟩], none⟩) rfl (fun K hK => ?_) AllReady.nil)
                      · refine step_append_run rfl _ _ _ _ rfl (by first | rfl | (simp [Act.eval]; done) | simp [Act.eval, Act.put]) (by first | rfl | (simp [Act.eval]; done) | simp [Act.eval, Act.put]) hap2 ?_
                        (try go_simp)
                        refine hK _ _ ?_
                        clear hK K
                        refine wpAny_ready (rs := [8]) (by kernel_rfl) (by simp) (AllReady.cons (o := ⟨some 5, .assign (.tmp 49), 32, "way.go:55", #[⟨7, .data⟩, ⟨7, .chain⟩, ⟨0, .phase⟩, ⟨1, .phase⟩, ⟨2, .phase⟩, ⟨3, .phase⟩, ⟨4, .phase⟩, ⟨5, .phase⟩, ⟨6, .phase⟩, ⟨7, .phase⟩], none⟩) rfl (fun K hK => ?_) AllReady.nil)
                        · go_simp
                          refine hK _ _ ?_
                          clear hK K
                          refine wpAny_done (by kernel_rfl) ?_ _
                          unfold onlyN
                          gi_wp2
                          refine ⟨⟨i + 1, n, _, _, _, _, _, _, _, _, _, _, _, _, _, _, _, _, _, _, _, _, _, _, _, _, _, _, _, _, _, _, _, _, _, _, _, _, _, _, _, _, _, _, _, by omega, by omega, by rw [Int.natCast_add]; rfl, HF.out a2 n2 c2 A3 hf1 hf2 hf3⟩, ?_⟩
                          simp [intOf]
                          omega
                  · first | (obtain ⟨u, hlk, a2, n2, c2, A3, hap2, hf1, hf2, hf3⟩ := hq0; refine step_lookup_run rfl _ _ _ rfl (by first | rfl | (simp [Act.eval]; done) | simp [Act.eval, Act.put]) (by first | rfl | (simp [Act.eval]; done) | simp [Act.eval, Act.put]) hlk ?_) | (obtain ⟨u, hlk, a2, n2, c2, A3, hap2, hf1, hf2, hf3⟩ := hq1; refine step_lookup_run rfl _ _ _ rfl (by first | rfl | (simp [Act.eval]; done) | simp [Act.eval, Act.put]) (by first | rfl | (simp [Act.eval]; done) | simp [Act.eval, Act.put]) hlk ?_) | (obtain ⟨u, hlk, a2, n2, c2, A3, hap2, hf1, hf2, hf3⟩ := hq2; refine step_lookup_run rfl _ _ _ rfl (by first | rfl | (simp [Act.eval]; done) | simp [Act.eval, Act.put]) (by first | rfl | (simp [Act.eval]; done) | simp [Act.eval, Act.put]) hlk ?_)
                    (try go_simp)
                    refine hK _ _ ?_
                    clear hK K
                    refine wpAny_ready (rs := [3]) (by kernel_rfl) (by simp) (AllReady.cons (o := ⟨some 45, .call { callee := .builtin .append, args := #[.tmp 42, .tmp 44], argTypes := #[32, 32] }, 32, "way.go:55", #[⟨0, .data⟩, ⟨2, .data⟩], none⟩) rfl (fun K hK => ?_) AllReady.nil)
                    · refine step_append_run rfl _ _ _ _ rfl (by first | rfl | (simp [Act.eval]; done) | simp [Act.eval, Act.put]) (by first | rfl | (simp [Act.eval]; done) | simp [Act.eval, Act.put]) hap1 ?_
                      (try go_simp)
                      refine hK _ _ ?_
                      clear hK K
                      refine wpAny_ready (rs := [7]) (by kernel_rfl) (by simp) (AllReady.cons (o := ⟨some 49, .call { callee := .builtin .append, args := #[.tmp 45, .tmp 48], argTypes := #[32, 32] }, 32, "way.go:55", #[⟨3, .data⟩, ⟨6, .data⟩, ⟨3, .chain⟩], none⟩) rfl (fun K hK => ?_) AllReady.nil)
                      · refine step_append_run rfl _ _ _ _ rfl (by first | rfl | (simp [Act.eval]; done) | simp [Act.eval, Act.put]) (by first | rfl | (simp [Act.eval]; done) | simp [Act.eval, Act.put]) hap2 ?_
                        (try go_simp)
                        refine hK _ _ ?_
                        clear hK K
                        refine wpAny_ready (rs := [8]) (by kernel_rfl) (by simp) (AllReady.cons (o := ⟨some 5, .assign (.tmp 49), 32, "way.go:55", #[⟨7, .data⟩, ⟨7, .chain⟩, ⟨0, .phase⟩, ⟨1, .phase⟩, ⟨2, .phase⟩, ⟨3, .phase⟩, ⟨4, .phase⟩, ⟨5, .phase⟩, ⟨6, .phase⟩, ⟨7, .phase⟩], none⟩) rfl (fun K hK => ?_) AllReady.nil)
                        · go_simp
                          refine hK _ _ ?_
                          clear hK K
                          refine wpAny_done (by kernel_rfl) ?_ _
                          unfold onlyN
                          gi_wp2
                          refine ⟨⟨i + 1, n, _, _, _, _, _, _, _, _, _, _, _, _, _, _, _, _, _, _, _, _, _, _, _, _, _, _, _, _, _, _, _, _, _, _, _, _, _, _, _, _, _, _, _, by omega, by omega, by rw [Int.natCast_add]; rfl, HF.out a2 n2 c2 A3 hf1 hf2 hf3⟩, ?_⟩
                          simp [intOf]
                          omega
              · go_simp
                refine hK _ _ ?_
                clear hK K
                refine wpAny_ready (rs := [2, 6]) (by kernel_rfl) (by simp) (AllReady.cons (o := ⟨some 44, .buildSlice 32 1 #[(0, .tmp 43)], 32, "way.go:55", #[⟨1, .data⟩], none⟩) rfl (fun K hK => ?_) (AllReady.cons (o := ⟨some 48, .lookup 90 (.tmp 46) (.tmp 47) false, 32, "way.go:55", #[⟨4, .data⟩, ⟨5, .data⟩], none⟩) rfl (fun K hK => ?_) AllReady.nil))
                · go_simp
                  refine hK _ _ ?_
                  clear hK K
                  refine wpAny_ready (rs := [3, 6]) (by kernel_rfl) (by simp) (AllReady.cons (o := ⟨some 45, .call { callee := .builtin .append, args := #[.tmp 42, .tmp 44], argTypes := #[32, 32] }, 32, "way.go:55", #[⟨0, .data⟩, ⟨2, .data⟩], none⟩) rfl (fun K hK => ?_) (AllReady.cons (o := ⟨some 48, .lookup 90 (.tmp 46) (.tmp 47) false, 32, "way.go:55", #[⟨4, .data⟩, ⟨5, .data⟩], none⟩) rfl (fun K hK => ?_) AllReady.nil))
                  · refine step_append_run rfl _ _ _ _ rfl (by first | rfl | (simp [Act.eval]; done) | simp [Act.eval, Act.put]) (by first | rfl | (simp [Act.eval]; done) | simp [Act.eval, Act.put]) hap1 ?_
                    (try go_simp)
                    refine hK _ _ ?_
                    clear hK K
                    refine wpAny_ready (rs := [6]) (by kernel_rfl) (by simp) (AllReady.cons (o := ⟨some 48, .lookup 90 (.tmp 46) (.tmp 47) false, 32, "way.go:55", #[⟨4, .data⟩, ⟨5, .data⟩], none⟩) rfl (fun K hK => ?_) AllReady.nil)
                    · first | (obtain ⟨u, hlk, a2, n2, c2, A3, hap2, hf1, hf2, hf3⟩ := hq0; refine step_lookup_run rfl _ _ _ rfl (by first | rfl | (simp [Act.eval]; done) | simp [Act.eval, Act.put]) (by first | rfl | (simp [Act.eval]; done) | simp [Act.eval, Act.put]) hlk ?_) | (obtain ⟨u, hlk, a2, n2, c2, A3, hap2, hf1, hf2, hf3⟩ := hq1; refine step_lookup_run rfl _ _ _ rfl (by first | rfl | (simp [Act.eval]; done) | simp [Act.eval, Act.put]) (by first | rfl | (simp [Act.eval]; done) | simp [Act.eval, Act.put]) hlk ?_) | (obtain ⟨u, hlk, a2, n2, c2, A3, hap2, hf1, hf2, hf3⟩ := hq2; refine step_lookup_run rfl _ _ _ rfl (by first | rfl | (simp [Act.eval]; done) | simp [Act.eval, Act.put]) (by first | rfl | (simp [Act.eval]; done) | simp [Act.eval, Act.put]) hlk ?_)
                      (try go_simp)
                      refine hK _ _ ?_
                      clear hK K
                      refine wpAny_ready (rs := [7]) (by kernel_rfl) (by simp) (AllReady.cons (o := ⟨some 49, .call { callee := .builtin .append, args := #[.tmp 45, .tmp 48], argTypes := #[32, 32] }, 32, "way.go:55", #[⟨3, .data⟩, ⟨6, .data⟩, ⟨3, .chain⟩], none⟩) rfl (fun K hK => ?_) AllReady.nil)
                      · refine step_append_run rfl _ _ _ _ rfl (by first | rfl | (simp [Act.eval]; done) | simp [Act.eval, Act.put]) (by first | rfl | (simp [Act.eval]; done) | simp [Act.eval, Act.put]) hap2 ?_
                        (try go_simp)
                        refine hK _ _ ?_
                        clear hK K
                        refine wpAny_ready (rs := [8]) (by kernel_rfl) (by simp) (AllReady.cons (o := ⟨some 5, .assign (.tmp 49), 32, "way.go:55", #[⟨7, .data⟩, ⟨7, .chain⟩, ⟨0, .phase⟩, ⟨1, .phase⟩, ⟨2, .phase⟩, ⟨3, .phase⟩, ⟨4, .phase⟩, ⟨5, .phase⟩, ⟨6, .phase⟩, ⟨7, .phase⟩], none⟩) rfl (fun K hK => ?_) AllReady.nil)
                        · go_simp
                          refine hK _ _ ?_
                          clear hK K
                          refine wpAny_done (by kernel_rfl) ?_ _
                          unfold onlyN
                          gi_wp2
                          refine ⟨⟨i + 1, n, _, _, _, _, _, _, _, _, _, _, _, _, _, _, _, _, _, _, _, _, _, _, _, _, _, _, _, _, _, _, _, _, _, _, _, _, _, _, _, _, _, _, _, by omega, by omega, by rw [Int.natCast_add]; rfl, HF.out a2 n2 c2 A3 hf1 hf2 hf3⟩, ?_⟩
                          simp [intOf]
                          omega
                  · first | (obtain ⟨u, hlk, a2, n2, c2, A3, hap2, hf1, hf2, hf3⟩ := hq0; refine step_lookup_run rfl _ _ _ rfl (by first | rfl | (simp [Act.eval]; done) | simp [Act.eval, Act.put]) (by first | rfl | (simp [Act.eval]; done) | simp [Act.eval, Act.put]) hlk ?_) | (obtain ⟨u, hlk, a2, n2, c2, A3, hap2, hf1, hf2, hf3⟩ := hq1; refine step_lookup_run rfl _ _ _ rfl (by first | rfl | (simp [Act.eval]; done) | simp [Act.eval, Act.put]) (by first | rfl | (simp [Act.eval]; done) | simp [Act.eval, Act.put]) hlk ?_) | (obtain ⟨u, hlk, a2, n2, c2, A3, hap2, hf1, hf2, hf3⟩ := hq2; refine step_lookup_run rfl _ _ _ rfl (by first | rfl | (simp [Act.eval]; done) | simp [Act.eval, Act.put]) (by first | rfl | (simp [Act.eval]; done) | simp [Act.eval, Act.put]) hlk ?_)
                    (try go_simp)
                    refine hK _ _ ?_
                    clear hK K
                    refine wpAny_ready (rs := [3]) (by kernel_rfl) (by simp) (AllReady.cons (o := ⟨some 45, .call { callee := .builtin .append, args := #[.tmp 42, .tmp 44], argTypes := #[32, 32] }, 32, "way.go:55", #[⟨0, .data⟩, ⟨2, .data⟩], none⟩) rfl (fun K hK => ?_) AllReady.nil)
                    · refine step_append_run rfl _ _ _ _ rfl (by first | rfl | (simp [Act.eval]; done) | simp [Act.eval, Act.put]) (by first | rfl | (simp [Act.eval]; done) | simp [Act.eval, Act.put]) hap1 ?_
                      (try go_simp)
                      refine hK _ _ ?_
                      clear hK K
                      refine wpAny_ready (rs := [7]) (by kernel_rfl) (by simp) (AllReady.cons (o := ⟨some 49, .call { callee := .builtin .append, args := #[.tmp 45, .tmp 48], argTypes := #[32, 32] }, 32, "way.go:55", #[⟨3, .data⟩, ⟨6, .data⟩, ⟨3, .chain⟩], none⟩) rfl (fun K hK => ?_) AllReady.nil)
                      · refine step_append_run rfl _ _ _ _ rfl (by first | rfl | (simp [Act.eval]; done) | simp [Act.eval, Act.put]) (by first | rfl | (simp [Act.eval]; done) | simp [Act.eval, Act.put]) hap2 ?_
                        (try go_simp)
                        refine hK _ _ ?_
                        clear hK K
                        refine wpAny_ready (rs := [8]) (by kernel_rfl) (by simp) (AllReady.cons (o := ⟨some 5, .assign (.tmp 49), 32, "way.go:55", #[⟨7, .data⟩, ⟨7, .chain⟩, ⟨0, .phase⟩, ⟨1, .phase⟩, ⟨2, .phase⟩, ⟨3, .phase⟩, ⟨4, .phase⟩, ⟨5, .phase⟩, ⟨6, .phase⟩, ⟨7, .phase⟩], none⟩) rfl (fun K hK => ?_) AllReady.nil)
                        · go_simp
                          refine hK _ _ ?_
                          clear hK K
                          refine wpAny_done (by kernel_rfl) ?_ _
                          unfold onlyN
                          gi_wp2
                          refine ⟨⟨i + 1, n, _, _, _, _, _, _, _, _, _, _, _, _, _, _, _, _, _, _, _, _, _, _, _, _, _, _, _, _, _, _, _, _, _, _, _, _, _, _, _, _, _, _, _, by omega, by omega, by rw [Int.natCast_add]; rfl, HF.out a2 n2 c2 A3 hf1 hf2 hf3⟩, ?_⟩
                          simp [intOf]
                          omega
                · first | (obtain ⟨u, hlk, a2, n2, c2, A3, hap2, hf1, hf2, hf3⟩ := hq0; refine step_lookup_run rfl _ _ _ rfl (by first | rfl | (simp [Act.eval]; done) | simp [Act.eval, Act.put]) (by first | rfl | (simp [Act.eval]; done) | simp [Act.eval, Act.put]) hlk ?_) | (obtain ⟨u, hlk, a2, n2, c2, A3, hap2, hf1, hf2, hf3⟩ := hq1; refine step_lookup_run rfl _ _ _ rfl (by first | rfl | (simp [Act.eval]; done) | simp [Act.eval, Act.put]) (by first | rfl | (simp [Act.eval]; done) | simp [Act.eval, Act.put]) hlk ?_) | (obtain ⟨u, hlk, a2, n2, c2, A3, hap2, hf1, hf2, hf3⟩ := hq2; refine step_lookup_run rfl _ _ _ rfl (by first | rfl | (simp [Act.eval]; done) | simp [Act.eval, Act.put]) (by first | rfl | (simp [Act.eval]; done) | simp [Act.eval, Act.put]) hlk ?_)
                  (try go_simp)
                  refine hK _ _ ?_
                  clear hK K
                  refine wpAny_ready (rs := [2]) (by kernel_rfl) (by simp) (AllReady.cons (o := ⟨some 44, .buildSlice 32 1 #[(0, .tmp 43)], 32, "way.go:55", #[⟨1, .data⟩], none⟩) rfl (fun K hK => ?_) AllReady.nil)
                  · go_simp
                    refine hK _ _ ?_
                    clear hK K
                    refine wpAny_ready (rs := [3]) (by kernel_rfl) (by simp) (AllReady.cons (o := ⟨some 45, .call { callee := .builtin .append, args := #[.tmp 42, .tmp 44], argTypes := #[32, 32] }, 32, "way.go:55", #[⟨0, .data⟩, ⟨2, .data⟩], none⟩) rfl (fun K hK => ?_) AllReady.nil)
                    · refine step_append_run rfl _ _ _ _ rfl (by first | rfl | (simp [Act.eval]; done) | simp [Act.eval, Act.put]) (by first | rfl | (simp [Act.eval]; done) | simp [Act.eval, Act.put]) hap1 ?_
                      (try go_simp)
                      refine hK _ _ ?_
                      clear hK K
                      refine wpAny_ready (rs := [7]) (by kernel_rfl) (by simp) (AllReady.cons (o := ⟨some 49, .call { callee := .builtin .append, args := #[.tmp 45, .tmp 48], argTypes := #[32, 32] }, 32, "way.go:55", #[⟨3, .data⟩, ⟨6, .data⟩, ⟨3, .chain⟩], none⟩) rfl (fun K hK => ?_) AllReady.nil)
                      · refine step_append_run rfl _ _ _ _ rfl (by first | rfl | (simp [Act.eval]; done) | simp [Act.eval, Act.put]) (by first | rfl | (simp [Act.eval]; done) | simp [Act.eval, Act.put]) hap2 ?_
                        (try go_simp)
                        refine hK _ _ ?_
                        clear hK K
                        refine wpAny_ready (rs := [8]) (by kernel_rfl) (by simp) (AllReady.cons (o := ⟨some 5, .assign (.tmp 49), 32, "way.go:55", #[⟨7, .data⟩, ⟨7, .chain⟩, ⟨0, .phase⟩, ⟨1, .phase⟩, ⟨2, .phase⟩, ⟨3, .phase⟩, ⟨4, .phase⟩, ⟨5, .phase⟩, ⟨6, .phase⟩, ⟨7, .phase⟩], none⟩) rfl (fun K hK => ?_) AllReady.nil)
                        · go_simp
                          refine hK _ _ ?_
                          clear hK K
                          refine wpAny_done (by kernel_rfl) ?_ _
                          unfold onlyN
                          gi_wp2
                          refine ⟨⟨i + 1, n, _, _, _, _, _, _, _, _, _, _, _, _, _, _, _, _, _, _, _, _, _, _, _, _, _, _, _, _, _, _, _, _, _, _, _, _, _, _, _, _, _, _, _, by omega, by omega, by rw [Int.natCast_add]; rfl, HF.out a2 n2 c2 A3 hf1 hf2 hf3⟩, ?_⟩
                          simp [intOf]
                          omega
          · go_simp
            refine hK _ _ ?_
            clear hK K
            refine wpAny_ready (rs := [1, 5]) (by kernel_rfl) (by simp) (AllReady.cons (o := ⟨some 43, .load 3 (.tmp 7), 3, "way.go:55", #[], none⟩) rfl (fun K hK => ?_) (AllReady.cons (o := ⟨some 47, .load 3 (.tmp 7), 3, "way.go:55", #[], none⟩) rfl (fun K hK => ?_) AllReady.nil))
            · go_simp
              refine hK _ _ ?_
              clear hK K
              refine wpAny_ready (rs := [2, 5]) (by kernel_rfl) (by simp) (AllReady.cons (o := ⟨some 44, .buildSlice 32 1 #[(0, .tmp 43)], 32, "way.go:55", #[⟨1, .data⟩], none⟩) rfl (fun K hK => ?_) (AllReady.cons (o := ⟨some 47, .load 3 (.tmp 7), 3, "way.go:55", #[], none⟩) rfl (fun K hK => ?_) AllReady.nil))
              · go_simp
                refine hK _ _ ?_
                clear hK K
                refine wpAny_ready (rs := [3, 5]) (by kernel_rfl) (by simp) (AllReady.cons (o := ⟨some 45, .call { callee := .builtin .append, args := #[.tmp 42, .tmp 44], argTypes := #[32, 32] }, 32, "way.go:55", #[⟨0, .data⟩, ⟨2, .data⟩], none⟩) rfl (fun K hK => ?_) (AllReady.cons (o := ⟨some 47, .load 3 (.tmp 7), 3, "way.go:55", #[], none⟩) rfl (fun K hK => ?_) AllReady.nil))
                · refine step_append_run rfl _ _ _ _ rfl (by first | rfl | (simp [Act.eval]; done) | simp [Act.eval, Act.put]) (by first | rfl | (simp [Act.eval]; done) | simp [Act.eval, Act.put]) hap1 ?_
                  (try go_simp)
                  refine hK _ _ ?_
                  clear hK K
                  refine wpAny_ready (rs := [5]) (by kernel_rfl) (by simp) (AllReady.cons (o := ⟨some 47, .load 3 (.tmp 7), 3, "way.go:55", #[], none⟩) rfl (fun K hK => ?_) AllReady.nil)
                  · go_simp
                    refine hK _ _ ?_
                    clear hK K
                    refine wpAny_ready (rs := [6]) (by kernel_rfl) (by simp) (AllReady.cons (o := ⟨some 48, .lookup 90 (.tmp 46) (.tmp 47) false, 32, "way.go:55", #[⟨4, .data⟩, ⟨5, .data⟩], none⟩) rfl (fun K hK => ?_) AllReady.nil)
                    · first | (obtain ⟨u, hlk, a2, n2, c2, A3, hap2, hf1, hf2, hf3⟩ := hq0; refine step_lookup_run rfl _ _ _ rfl (by first | rfl | (simp [Act.eval]; done) | simp [Act.eval, Act.put]) (by first | rfl | (simp [Act.eval]; done) | simp [Act.eval, Act.put]) hlk ?_) | (obtain ⟨u, hlk, a2, n2, c2, A3, hap2, hf1, hf2, hf3⟩ := hq1; refine step_lookup_run rfl _ _ _ rfl (by first | rfl | (simp [Act.eval]; done) | simp [Act.eval, Act.put]) (by first | rfl | (simp [Act.eval]; done) | simp [Act.eval, Act.put]) hlk ?_) | (obtain ⟨u, hlk, a2, n2, c2, A3, hap2, hf1, hf2, hf3⟩ := hq2; refine step_lookup_run rfl _ _ _ rfl (by first | rfl | (simp [Act.eval]; done) | simp [Act.eval, Act.put]) (by first | rfl | (simp [Act.eval]; done) | simp [Act.eval, Act.put]) hlk ?_)
                      (try go_simp)
                      refine hK _ _ ?_
                      clear hK K
                      refine wpAny_ready (rs := [7]) (by kernel_rfl) (by simp) (AllReady.cons (o := ⟨some 49, .call { callee := .builtin .append, args := #[.tmp 45, .tmp 48], argTypes := #[32, 32] }, 32, "way.go:55", #[⟨3, .data⟩, ⟨6, .data⟩, ⟨3, .chain⟩], none⟩) rfl (fun K hK => ?_) AllReady.nil)
                      · refine step_append_run rfl _ _ _ _ rfl (by first | rfl | (simp [Act.eval]; done) | simp [Act.eval, Act.put]) (by first | rfl | (simp [Act.eval]; done) | simp [Act.eval, Act.put]) hap2 ?_
                        (try go_simp)
                        refine hK _ _ ?_
                        clear hK K
                        refine wpAny_ready (rs := [8]) (by kernel_rfl) (by simp) (AllReady.cons (o := ⟨some 5, .assign (.tmp 49), 32, "way.go:55", #[⟨7, .data⟩, ⟨7, .chain⟩, ⟨0, .phase⟩, ⟨1, .phase⟩, ⟨2, .phase⟩, ⟨3, .phase⟩, ⟨4, .phase⟩, ⟨5, .phase⟩, ⟨6, .phase⟩, ⟨7, .phase⟩], none⟩) rfl (fun K hK => ?_) AllReady.nil)
                        · go_simp
                          refine hK _ _ ?_
                          clear hK K
                          refine wpAny_done (by kernel_rfl) ?_ _
                          unfold onlyN
                          gi_wp2
                          refine ⟨⟨i + 1, n, _, _, _, _, _, _, _, _, _, _, _, _, _, _, _, _, _, _, _, _, _, _, _, _, _, _, _, _, _, _, _, _, _, _, _, _, _, _, _, _, _, _, _, by omega, by omega, by rw [Int.natCast_add]; rfl, HF.out a2 n2 c2 A3 hf1 hf2 hf3⟩, ?_⟩
                          simp [intOf]
                          omega
                · go_simp
                  refine hK _ _ ?_
                  clear hK K
                  refine wpAny_ready (rs := [3, 6]) (by kernel_rfl) (by simp) (AllReady.cons (o := ⟨some 45, .call { callee := .builtin .append, args := #[.tmp 42, .tmp 44], argTypes := #[32, 32] }, 32, "way.go:55", #[⟨0, .data⟩, ⟨2, .data⟩], none⟩) rfl (fun K hK => ?_) (AllReady.cons (o := ⟨some 48, .lookup 90 (.tmp 46) (.tmp 47) false, 32, "way.go:55", #[⟨4, .data⟩, ⟨5, .data⟩], none⟩) rfl (fun K hK => ?_) AllReady.nil))
                  · refine step_append_run rfl _ _ _ _ rfl (by first | rfl | (simp [Act.eval]; done) | simp [Act.eval, Act.put]) (by first | rfl | (simp [Act.eval]; done) | simp [Act.eval, Act.put]) hap1 ?_
                    (try go_simp)
                    refine hK _ _ ?_
                    clear hK K
                    refine wpAny_ready (rs := [6]) (by kernel_rfl) (by simp) (AllReady.cons (o := ⟨some 48, .lookup 90 (.tmp 46) (.tmp 47) false, 32, "way.go:55", #[⟨4, .data⟩, ⟨5, .data⟩], none⟩) rfl (fun K hK => ?_) AllReady.nil)
                    · first | (obtain ⟨u, hlk, a2, n2, c2, A3, hap2, hf1, hf2, hf3⟩ := hq0; refine step_lookup_run rfl _ _ _ rfl (by first | rfl | (simp [Act.eval]; done) | simp [Act.eval, Act.put]) (by first | rfl | (simp [Act.eval]; done) | simp [Act.eval, Act.put]) hlk ?_) | (obtain ⟨u, hlk, a2, n2, c2, A3, hap2, hf1, hf2, hf3⟩ := hq1; refine step_lookup_run rfl _ _ _ rfl (by first | rfl | (simp [Act.eval]; done) | simp [Act.eval, Act.put]) (by first | rfl | (simp [Act.eval]; done) | simp [Act.eval, Act.put]) hlk ?_) | (obtain ⟨u, hlk, a2, n2, c2, A3, hap2, hf1, hf2, hf3⟩ := hq2; refine step_lookup_run rfl _ _ _ rfl (by first | rfl | (simp [Act.eval]; done) | simp [Act.eval, Act.put]) (by first | rfl | (simp [Act.eval]; done) | simp [Act.eval, Act.put]) hlk ?_)
                      (try go_simp)
                      refine hK _ _ ?_
                      clear hK K
                      refine wpAny_ready (rs := [7]) (by kernel_rfl) (by simp) (AllReady.cons (o := ⟨some 49, .call { callee := .builtin .append, args := #[.tmp 45, .tmp 48], argTypes := #[32, 32] }, 32, "way.go:55", #[⟨3, .data⟩, ⟨6, .data⟩, ⟨3, .chain⟩], none⟩) rfl (fun K hK => ?_) AllReady.nil)
                      · refine step_append_run rfl _ _ _ _ rfl (by first | rfl | (simp [Act.eval]; done) | simp [Act.eval, Act.put]) (by first | rfl | (simp [Act.eval]; done) | simp [Act.eval, Act.put]) hap2 ?_
                        (try go_simp)
                        refine hK _ _ ?_
                        clear hK K
                        refine wpAny_ready (rs := [8]) (by kernel_rfl) (by simp) (AllReady.cons (o := ⟨some 5, .assign (.tmp 49), 32, "way.go:55", #[⟨7, .data⟩, ⟨7, .chain⟩, ⟨0, .phase⟩, ⟨1, .phase⟩, ⟨2, .phase⟩, ⟨3, .phase⟩, ⟨4, .phase⟩, ⟨5, .phase⟩, ⟨6, .phase⟩, ⟨7, .phase⟩], none⟩) rfl (fun K hK => ?_) AllReady.nil)
                        · go_simp
                          refine hK _ _ ?_
                          clear hK K
                          refine wpAny_done (by kernel_rfl) ?_ _
                          unfold onlyN
                          gi_wp2
                          refine ⟨⟨i + 1, n, _, _, _, _, _, _, _, _, _, _, _, _, _, _, _, _, _, _, _, _, _, _, _, _, _, _, _, _, _, _, _, _, _, _, _, _, _, _, _, _, _, _, _, by omega, by omega, by rw [Int.natCast_add]; rfl, HF.out a2 n2 c2 A3 hf1 hf2 hf3⟩, ?_⟩
                          simp [intOf]
                          omega
                  · first | (obtain ⟨u, hlk, a2, n2, c2, A3, hap2, hf1, hf2, hf3⟩ := hq0; refine step_lookup_run rfl _ _ _ rfl (by first | rfl | (simp [Act.eval]; done) | simp [Act.eval, Act.put]) (by first | rfl | (simp [Act.eval]; done) | simp [Act.eval, Act.put]) hlk ?_) | (obtain ⟨u, hlk, a2, n2, c2, A3, hap2, hf1, hf2, hf3⟩ := hq1; refine step_lookup_run rfl _ _ _ rfl (by first | rfl | (simp [Act.eval]; done) | simp [Act.eval, Act.put]) (by first | rfl | (simp [Act.eval]; done) | simp [Act.eval, Act.put]) hlk ?_) | (obtain ⟨u, hlk, a2, n2, c2, A3, hap2, hf1, hf2, hf3⟩ := hq2; refine step_lookup_run rfl _ _ _ rfl (by first | rfl | (simp [Act.eval]; done) | simp [Act.eval, Act.put]) (by first | rfl | (simp [Act.eval]; done) | simp [Act.eval, Act.put]) hlk ?_)
                    (try go_simp)
                    refine hK _ _ ?_
                    clear hK K
                    refine wpAny_ready (rs := [3]) (by kernel_rfl) (by simp) (AllReady.cons (o := ⟨some 45, .call { callee := .builtin .append, args := #[.tmp 42, .tmp 44], argTypes := #[32, 32] }, 32, "way.go:55", #[⟨0, .data⟩, ⟨2, .data⟩], none⟩) rfl (fun K hK => ?_) AllReady.nil)
                    · refine step_append_run rfl _ _ _ _ rfl (by first | rfl | (simp [Act.eval]; done) | simp [Act.eval, Act.put]) (by first | rfl | (simp [Act.eval]; done) | simp [Act.eval, Act.put]) hap1 ?_
                      (try go_simp)
                      refine hK _ _ ?_
                      clear hK K
                      refine wpAny_ready (rs := [7]) (by kernel_rfl) (by simp) (AllReady.cons (o := ⟨some 49, .call { callee := .builtin .append, args := #[.tmp 45, .tmp 48], argTypes := #[32, 32] }, 32, "way.go:55", #[⟨3, .data⟩, ⟨6, .data⟩, ⟨3, .chain⟩], none⟩) rfl (fun K hK => ?_) AllReady.nil)
                      · refine step_append_run rfl _ _ _ _ rfl (by first | rfl | (simp [Act.eval]; done) | simp [Act.eval, Act.put]) (by first | rfl | (simp [Act.eval]; done) | simp [Act.eval, Act.put]) hap2 ?_
                        (try go_simp)
                        refine hK _ _ ?_
                        clear hK K
                        refine wpAny_ready (rs := [8]) (by kernel_rfl) (by simp) (AllReady.cons (o := ⟨some 5, .assign (.tmp 49), 32, "way.go:55", #[⟨7, .data⟩, ⟨7, .chain⟩, ⟨0, .phase⟩, ⟨1, .phase⟩, ⟨2, .phase⟩, ⟨3, .phase⟩, ⟨4, .phase⟩, ⟨5, .phase⟩, ⟨6, .phase⟩, ⟨7, .phase⟩], none⟩) rfl (fun K hK => ?_) AllReady.nil)
                        · go_simp
                          refine hK _ _ ?_
                          clear hK K
                          refine wpAny_done (by kernel_rfl) ?_ _
                          unfold onlyN
                          gi_wp2
                          refine ⟨⟨i + 1, n, _, _, _, _, _, _, _, _, _, _, _, _, _, _, _, _, _, _, _, _, _, _, _, _, _, _, _, _, _, _, _, _, _, _, _, _, _, _, _, _, _, _, _, by omega, by omega, by rw [Int.natCast_add]; rfl, HF.out a2 n2 c2 A3 hf1 hf2 hf3⟩, ?_⟩
                          simp [intOf]
                          omega
              · go_simp
                refine hK _ _ ?_
                clear hK K
                refine wpAny_ready (rs := [2, 6]) (by kernel_rfl) (by simp) (AllReady.cons (o := ⟨some 44, .buildSlice 32 1 #[(0, .tmp 43)], 32, "way.go:55", #[⟨1, .data⟩], none⟩) rfl (fun K hK => ?_) (AllReady.cons (o := ⟨some 48, .lookup 90 (.tmp 46) (.tmp 47) false, 32, "way.go:55", #[⟨4, .data⟩, ⟨5, .data⟩], none⟩) rfl (fun K hK => ?_) AllReady.nil))
                · go_simp
                  refine hK _ _ ?_
                  clear hK K
                  refine wpAny_ready (rs := [3, 6]) (by kernel_rfl) (by simp) (AllReady.cons (o := ⟨some 45, .call { callee := .builtin .append, args := #[.tmp 42, .tmp 44], argTypes := #[32, 32] }, 32, "way.go:55", #[⟨0, .data⟩, ⟨2, .data⟩], none⟩) rfl (fun K hK => ?_) (AllReady.cons (o := ⟨some 48, .lookup 90 (.tmp 46) (.tmp 47) false, 32, "way.go:55", #[⟨4, .data⟩, ⟨5, .data⟩], none⟩) rfl (fun K hK => ?_) AllReady.nil))
                  · refine step_append_run rfl _ _ _ _ rfl (by first | rfl | (simp [Act.eval]; done) | simp [Act.eval, Act.put]) (by first | rfl | (simp [Act.eval]; done) | simp [Act.eval, Act.put]) hap1 ?_
                    (try go_simp)
                    refine hK _ _ ?_
                    clear hK K
                    refine wpAny_ready (rs := [6]) (by kernel_rfl) (by simp) (AllReady.cons (o := ⟨some 48, .lookup 90 (.tmp 46) (.tmp 47) false, 32, "way.go:55", #[⟨4, .data⟩, ⟨5, .data⟩], none⟩) rfl (fun K hK => ?_) AllReady.nil)
                    · first | (obtain ⟨u, hlk, a2, n2, c2, A3, hap2, hf1, hf2, hf3⟩ := hq0; refine step_lookup_run rfl _ _ _ rfl (by first | rfl | (simp [Act.eval]; done) | simp [Act.eval, Act.put]) (by first | rfl | (simp [Act.eval]; done) | simp [Act.eval, Act.put]) hlk ?_) | (obtain ⟨u, hlk, a2, n2, c2, A3, hap2, hf1, hf2, hf3⟩ := hq1; refine step_lookup_run rfl _ _ _ rfl (by first | rfl | (simp [Act.eval]; done) | simp [Act.eval, Act.put]) (by first | rfl | (simp [Act.eval]; done) | simp [Act.eval, Act.put]) hlk ?_) | (obtain ⟨u, hlk, a2, n2, c2, A3, hap2, hf1, hf2, hf3⟩ := hq2; refine step_lookup_run rfl _ _ _ rfl (by first | rfl | (simp [Act.eval]; done) | simp [Act.eval, Act.put]) (by first | rfl | (simp [Act.eval]; done) | simp [Act.eval, Act.put]) hlk ?_)
                      (try go_simp)
                      refine hK _ _ ?_
                      clear hK K
                      refine wpAny_ready (rs := [7]) (by kernel_rfl) (by simp) (AllReady.cons (o := ⟨some 49, .call { callee := .builtin .append, args := #[.tmp 45, .tmp 48], argTypes := #[32, 32] }, 32, "way.go:55", #[⟨3, .data⟩, ⟨6, .data⟩, ⟨3, .chain⟩], none⟩) rfl (fun K hK => ?_) AllReady.nil)
                      · refine step_append_run rfl _ _ _ _ rfl (by first | rfl | (simp [Act.eval]; done) | simp [Act.eval, Act.put]) (by first | rfl | (simp [Act.eval]; done) | simp [Act.eval, Act.put]) hap2 ?_
                        (try go_simp)
                        refine hK _ _ ?_
                        clear hK K
                        refine wpAny_ready (rs := [8]) (by kernel_rfl) (by simp) (AllReady.cons (o := ⟨some 5, .assign (.tmp 49), 32, "way.go:55", #[⟨7, .data⟩, ⟨7, .chain⟩, ⟨0, .phase⟩, ⟨1, .phase⟩, ⟨2, .phase⟩, ⟨3, .phase⟩, ⟨4, .phase⟩, ⟨5, .phase⟩, ⟨6, .phase⟩, ⟨7, .phase⟩], none⟩) rfl (fun K hK => ?_) AllReady.nil)
                        · go_simp
                          refine hK _ _ ?_
                          clear hK K
                          refine wpAny_done (by kernel_rfl) ?_ _
                          unfold onlyN
                          gi_wp2
                          refine ⟨⟨i + 1, n, _, _, _, _, _, _, _, _, _, _, _, _, _, _, _, _, _, _, _, _, _, _, _, _, _, _, _, _, _, _, _, _, _, _, _, _, _, _, _, _, _, _, _, by omega, by omega, by rw [Int.natCast_add]; rfl, HF.out a2 n2 c2 A3 hf1 hf2 hf3⟩, ?_⟩
                          simp [intOf]
                          omega
                  · first | (obtain ⟨u, hlk, a2, n2, c2, A3, hap2, hf1, hf2, hf3⟩ := hq0; refine step_lookup_run rfl _ _ _ rfl (by first | rfl | (simp [Act.eval]; done) | simp [Act.eval, Act.put]) (by first | rfl | (simp [Act.eval]; done) | simp [Act.eval, Act.put]) hlk ?_) | (obtain ⟨u, hlk, a2, n2, c2, A3, hap2, hf1, hf2, hf3⟩ := hq1; refine step_lookup_run rfl _ _ _ rfl (by first | rfl | (simp [Act.eval]; done) | simp [Act.eval, Act.put]) (by first | rfl | (simp [Act.eval]; done) | simp [Act.eval, Act.put]) hlk ?_) | (obtain ⟨u, hlk, a2, n2, c2, A3, hap2, hf1, hf2, hf3⟩ := hq2; refine step_lookup_run rfl _ _ _ rfl (by first | rfl | (simp [Act.eval]; done) | simp [Act.eval, Act.put]) (by first | rfl | (simp [Act.eval]; done) | simp [Act.eval, Act.put]) hlk ?_)
                    (try go_simp)
                    refine hK _ _ ?_
                    clear hK K
                    refine wpAny_ready (rs := [3]) (by kernel_rfl) (by simp) (AllReady.cons (o := ⟨some 45, .call { callee := .builtin .append, args := #[.tmp 42, .tmp 44], argTypes := #[32, 32] }, 32, "way.go:55", #[⟨0, .data⟩, ⟨2, .data⟩], none⟩) rfl (fun K hK => ?_) AllReady.nil)
                    · refine step_append_run rfl _ _ _ _ rfl (by first | rfl | (simp [Act.eval]; done) | simp [Act.eval, Act.put]) (by first | rfl | (simp [Act.eval]; done) | simp [Act.eval, Act.put]) hap1 ?_
                      (try go_simp)
                      refine hK _ _ ?_
                      clear hK K
                      refine wpAny_ready (rs := [7]) (by kernel_rfl) (by simp) (AllReady.cons (o := ⟨some 49, .call { callee := .builtin .append, args := #[.tmp 45, .tmp 48], argTypes := #[32, 32] }, 32, "way.go:55", #[⟨3, .data⟩, ⟨6, .data⟩, ⟨3, .chain⟩], none⟩) rfl (fun K hK => ?_) AllReady.nil)
                      · refine step_append_run rfl _ _ _ _ rfl (by first | rfl | (simp [Act.eval]; done) | simp [Act.eval, Act.put]) (by first | rfl | (simp [Act.eval]; done) | simp [Act.eval, Act.put]) hap2 ?_
                        (try go_simp)
                        refine hK _ _ ?_
                        clear hK K
                        refine wpAny_ready (rs := [8]) (by kernel_rfl) (by simp) (AllReady.cons (o := ⟨some 5, .assign (.tmp 49), 32, "way.go:55", #[⟨7, .data⟩, ⟨7, .chain⟩, ⟨0, .phase⟩, ⟨1, .phase⟩, ⟨2, .phase⟩, ⟨3, .phase⟩, ⟨4, .phase⟩, ⟨5, .phase⟩, ⟨6, .phase⟩, ⟨7, .phase⟩], none⟩) rfl (fun K hK => ?_) AllReady.nil)
                        · go_simp
                          refine hK _ _ ?_
                          clear hK K
                          refine wpAny_done (by kernel_rfl) ?_ _
                          unfold onlyN
                          gi_wp2
                          refine ⟨⟨i + 1, n, _, _, _, _, _, _, _, _, _, _, _, _, _, _, _, _, _, _, _, _, _, _, _, _, _, _, _, _, _, _, _, _, _, _, _, _, _, _, _, _, _, _, _, by omega, by omega, by rw [Int.natCast_add]; rfl, HF.out a2 n2 c2 A3 hf1 hf2 hf3⟩, ?_⟩
                          simp [intOf]
                          omega
                · first | (obtain ⟨u, hlk, a2, n2, c2, A3, hap2, hf1, hf2, hf3⟩ := hq0; refine step_lookup_run rfl _ _ _ rfl (by first | rfl | (simp [Act.eval]; done) | simp [Act.eval, Act.put]) (by first | rfl | (simp [Act.eval]; done) | simp [Act.eval, Act.put]) hlk ?_) | (obtain ⟨u, hlk, a2, n2, c2, A3, hap2, hf1, hf2, hf3⟩ := hq1; refine step_lookup_run rfl _ _ _ rfl (by first | rfl | (simp [Act.eval]; done) | simp [Act.eval, Act.put]) (by first | rfl | (simp [Act.eval]; done) | simp [Act.eval, Act.put]) hlk ?_) | (obtain ⟨u, hlk, a2, n2, c2, A3, hap2, hf1, hf2, hf3⟩ := hq2; refine step_lookup_run rfl _ _ _ rfl (by first | rfl | (simp [Act.eval]; done) | simp [Act.eval, Act.put]) (by first | rfl | (simp [Act.eval]; done) | simp [Act.eval, Act.put]) hlk ?_)
                  (try go_simp)
                  refine hK _ _ ?_
                  clear hK K
                  refine wpAny_ready (rs := [2]) (by kernel_rfl) (by simp) (AllReady.cons (o := ⟨some 44, .buildSlice 32 1 #[(0, .tmp 43)], 32, "way.go:55", #[⟨1, .data⟩], none⟩) rfl (fun K hK => ?_) AllReady.nil)
                  · go_simp
                    refine hK _ _ ?_
                    clear hK K
                    refine wpAny_ready (rs := [3]) (by kernel_rfl) (by simp) (AllReady.cons (o := ⟨some 45, .call { callee := .builtin .append, args := #[.tmp 42, .tmp 44], argTypes := #[32, 32] }, 32, "way.go:55", #[⟨0, .data⟩, ⟨2, .data⟩], none⟩) rfl (fun K hK => ?_) AllReady.nil)
                    · refine step_append_run rfl _ _ _ _ rfl (by first | rfl | (simp [Act.eval]; done) | simp [Act.eval, Act.put]) (by first | rfl | (simp [Act.eval]; done) | simp [Act.eval, Act.put]) hap1 ?_
                      (try go_simp)
                      refine hK _ _ ?_
                      clear hK K
                      refine wpAny_ready (rs := [7]) (by kernel_rfl) (by simp) (AllReady.cons (o := ⟨some 49, .call { callee := .builtin .append, args := #[.tmp 45, .tmp 48], argTypes := #[32, 32] }, 32, "way.go:55", #[⟨3, .data⟩, ⟨6, .data⟩, ⟨3, .chain⟩], none⟩) rfl (fun K hK => ?_) AllReady.nil)
                      · refine step_append_run rfl _ _ _ _ rfl (by first | rfl | (simp [Act.eval]; done) | simp [Act.eval, Act.put]) (by first | rfl | (simp [Act.eval]; done) | simp [Act.eval, Act.put]) hap2 ?_
                        (try go_simp)
                        refine hK _ _ ?_
                        clear hK K
                        refine wpAny_ready (rs := [8]) (by kernel_rfl) (by simp) (AllReady.cons (o := ⟨some 5, .assign (.tmp 49), 32, "way.go:55", #[⟨7, .data⟩, ⟨7, .chain⟩, ⟨0, .phase⟩, ⟨1, .phase⟩, ⟨2, .phase⟩, ⟨3, .phase⟩, ⟨4, .phase⟩, ⟨5, .phase⟩, ⟨6, .phase⟩, ⟨7, .phase⟩], none⟩) rfl (fun K hK => ?_) AllReady.nil)
                        · go_simp
                          refine hK _ _ ?_
                          clear hK K
                          refine wpAny_done (by kernel_rfl) ?_ _
                          unfold onlyN
                          gi_wp2
                          refine ⟨⟨i + 1, n, _, _, _, _, _, _, _, _, _, _, _, _, _, _, _, _, _, _, _, _, _, _, _, _, _, _, _, _, _, _, _, _, _, _, _, _, _, _, _, _, _, _, _, by omega, by omega, by rw [Int.natCast_add]; rfl, HF.out a2 n2 c2 A3 hf1 hf2 hf3⟩, ?_⟩
                          simp [intOf]
                          omega
            · go_simp
              refine hK _ _ ?_
              clear hK K
              refine wpAny_ready (rs := [1, 6]) (by kernel_rfl) (by simp) (AllReady.cons (o := ⟨some 43, .load 3 (.tmp 7), 3, "way.go:55", #[], none⟩) rfl (fun K hK => ?_) (AllReady.cons (o := ⟨some 48, .lookup 90 (.tmp 46) (.tmp 47) false, 32, "way.go:55", #[⟨4, .data⟩, ⟨5, .data⟩], none⟩) rfl (fun K hK => ?_) AllReady.nil))
              · go_simp
                refine hK _ _ ?_
                clear hK K
                refine wpAny_ready (rs := [2, 6]) (by kernel_rfl) (by simp) (AllReady.cons (o := ⟨some 44, .buildSlice 32 1 #[(0, .tmp 43)], 32, "way.go:55", #[⟨1, .data⟩], none⟩) rfl (fun K hK => ?_) (AllReady.cons (o := ⟨some 48, .lookup 90 (.tmp 46) (.tmp 47) false, 32, "way.go:55", #[⟨4, .data⟩, ⟨5, .data⟩], none⟩) rfl (fun K hK => ?_) AllReady.nil))
                · go_simp
                  refine hK _ _ ?_
                  clear hK K
                  refine wpAny_ready (rs := [3, 6]) (by kernel_rfl) (by simp) (AllReady.cons (o := ⟨some 45, .call { callee := .builtin .append, args := #[.tmp 42, .tmp 44], argTypes := #[32, 32] }, 32, "way.go:55", #[⟨0, .data⟩, ⟨2, .data⟩], none⟩) rfl (fun K hK => ?_) (AllReady.cons (o := ⟨some 48, .lookup 90 (.tmp 46) (.tmp 47) false, 32, "way.go:55", #[⟨4, .data⟩, ⟨5, .data⟩], none⟩) rfl (fun K hK => ?_) AllReady.nil))
                  · refine step_append_run rfl _ _ _ _ rfl (by first | rfl | (simp [Act.eval]; done) | simp [Act.eval, Act.put]) (by first | rfl | (simp [Act.eval]; done) | simp [Act.eval, Act.put]) hap1 ?_
                    (try go_simp)
                    refine hK _ _ ?_
                    clear hK K
                    refine wpAny_ready (rs := [6]) (by kernel_rfl) (by simp) (AllReady.cons (o := ⟨some 48, .lookup 90 (.tmp 46) (.tmp 47) false, 32, "way.go:55", #[⟨4, .data⟩, ⟨5, .data⟩], none⟩) rfl (fun K hK => ?_) AllReady.nil)
                    · first | (obtain ⟨u, hlk, a2, n2, c2, A3, hap2, hf1, hf2, hf3⟩ := hq0; refine step_lookup_run rfl _ _ _ rfl (by first | rfl | (simp [Act.eval]; done) | simp [Act.eval, Act.put]) (by first | rfl | (simp [Act.eval]; done) | simp [Act.eval, Act.put]) hlk ?_) | (obtain ⟨u, hlk, a2, n2, c2, A3, hap2, hf1, hf2, hf3⟩ := hq1; refine step_lookup_run rfl _ _ _ rfl (by first | rfl | (simp [Act.eval]; done) | simp [Act.eval, Act.put]) (by first | rfl | (simp [Act.eval]; done) | simp [Act.eval, Act.put]) hlk ?_) | (obtain ⟨u, hlk, a2, n2, c2, A3, hap2, hf1, hf2, hf3⟩ := hq2; refine step_lookup_run rfl _ _ _ rfl (by first | rfl | (simp [Act.eval]; done) | simp [Act.eval, Act.put]) (by first | rfl | (simp [Act.eval]; done) | simp [Act.eval, Act.put]) hlk ?_)
                      (try go_simp)
                      refine hK _ _ ?_
                      clear hK K
                      refine wpAny_ready (rs := [7]) (by kernel_rfl) (by simp) (AllReady.cons (o := ⟨some 49, .call { callee := .builtin .append, args := #[.tmp 45, .tmp 48], argTypes := #[32, 32] }, 32, "way.go:55", #[⟨3, .data⟩, ⟨6, .data⟩, ⟨3, .chain⟩], none⟩) rfl (fun K hK => ?_) AllReady.nil)
                      · refine step_append_run rfl _ _ _ _ rfl (by first | rfl | (simp [Act.eval]; done) | simp [Act.eval, Act.put]) (by first | rfl | (simp [Act.eval]; done) | simp [Act.eval, Act.put]) hap2 ?_
                        (try go_simp)
                        refine hK _ _ ?_
                        clear hK K
                        refine wpAny_ready (rs := [8]) (by kernel_rfl) (by simp) (AllReady.cons (o := ⟨some 5, .assign (.tmp 49), 32, "way.go:55", #[⟨7, .data⟩, ⟨7, .chain⟩, ⟨0, .phase⟩, ⟨1, .phase⟩, ⟨2, .phase⟩, ⟨3, .phase⟩, ⟨4, .phase⟩, ⟨5, .phase⟩, ⟨6, .phase⟩, ⟨7, .phase⟩], none⟩) rfl (fun K hK => ?_) AllReady.nil)
                        · go_simp
                          refine hK _ _ ?_
                          clear hK K
                          refine wpAny_done (by kernel_rfl) ?_ _
                          unfold onlyN
                          gi_wp2
                          refine ⟨⟨i + 1, n, _, _, _, _, _, _, _, _, _, _, _, _, _, _, _, _, _, _, _, _, _, _, _, _, _, _, _, _, _, _, _, _, _, _, _, _, _, _, _, _, _, _, _, by omega, by omega, by rw [Int.natCast_add]; rfl, HF.out a2 n2 c2 A3 hf1 hf2 hf3⟩, ?_⟩
                          simp [intOf]
                          omega
                  · first | (obtain ⟨u, hlk, a2, n2, c2, A3, hap2, hf1, hf2, hf3⟩ := hq0; refine step_lookup_run rfl _ _ _ rfl (by first | rfl | (simp [Act.eval]; done) | simp [Act.eval, Act.put]) (by first | rfl | (simp [Act.eval]; done) | simp [Act.eval, Act.put]) hlk ?_) | (obtain ⟨u, hlk, a2, n2, c2, A3, hap2, hf1, hf2, hf3⟩ := hq1; refine step_lookup_run rfl _ _ _ rfl (by first | rfl | (simp [Act.eval]; done) | simp [Act.eval, Act.put]) (by first | rfl | (simp [Act.eval]; done) | simp [Act.eval, Act.put]) hlk ?_) | (obtain ⟨u, hlk, a2, n2, c2, A3, hap2, hf1, hf2, hf3⟩ := hq2; refine step_lookup_run rfl _ _ _ rfl (by first | rfl | (simp [Act.eval]; done) | simp [Act.eval, Act.put]) (by first | rfl | (simp [Act.eval]; done) | simp [Act.eval, Act.put]) hlk ?_)
                    (try go_simp)
                    refine hK _ _ ?_
                    clear hK K
                    refine wpAny_ready (rs := [3]) (by kernel_rfl) (by simp) (AllReady.cons (o := ⟨some 45, .call { callee := .builtin .append, args := #[.tmp 42, .tmp 44], argTypes := #[32, 32] }, 32, "way.go:55", #[⟨0, .data⟩, ⟨2, .data⟩], none⟩) rfl (fun K hK => ?_) AllReady.nil)
                    · refine step_append_run rfl _ _ _ _ rfl (by first | rfl | (simp [Act.eval]; done) | simp [Act.eval, Act.put]) (by first | rfl | (simp [Act.eval]; done) | simp [Act.eval, Act.put]) hap1 ?_
                      (try go_simp)
                      refine hK _ _ ?_
                      clear hK K
                      refine wpAny_ready (rs := [7]) (by kernel_rfl) (by simp) (AllReady.cons (o := ⟨some 49, .call { callee := .builtin .append, args := #[.tmp 45, .tmp 48], argTypes := #[32, 32] }, 32, "way.go:55", #[⟨3, .data⟩, ⟨6, .data⟩, ⟨3, .chain⟩], none⟩) rfl (fun K hK => ?_) AllReady.nil)
                      · refine step_append_run rfl _ _ _ _ rfl (by first | rfl | (simp [Act.eval]; done) | simp [Act.eval, Act.put]) (by first | rfl | (simp [Act.eval]; done) | simp [Act.eval, Act.put]) hap2 ?_
                        (try go_simp)
                        refine hK _ _ ?_
                        clear hK K
                        refine wpAny_ready (rs := [8]) (by kernel_rfl) (by simp) (AllReady.cons (o := ⟨some 5, .assign (.tmp 49), 32, "way.go:55", #[⟨7, .data⟩, ⟨7, .chain⟩, ⟨0, .phase⟩, ⟨1, .phase⟩, ⟨2, .phase⟩, ⟨3, .phase⟩, ⟨4, .phase⟩, ⟨5, .phase⟩, ⟨6, .phase⟩, ⟨7, .phase⟩], none⟩) rfl (fun K hK => ?_) AllReady.nil)
                        · go_simp
                          refine hK _ _ ?_
                          clear hK K
                          refine wpAny_done (by kernel_rfl) ?_ _
                          unfold onlyN
                          gi_wp2
                          refine ⟨⟨i + 1, n, _, _, _, _, _, _, _, _, _, _, _, _, _, _, _, _, _, _, _, _, _, _, _, _, _, _, _, _, _, _, _, _, _, _, _, _, _, _, _, _, _, _, _, by omega, by omega, by rw [Int.natCast_add]; rfl, HF.out a2 n2 c2 A3 hf1 hf2 hf3⟩, ?_⟩
                          simp [intOf]
                          omega
                · first | (obtain ⟨u, hlk, a2, n2, c2, A3, hap2, hf1, hf2, hf3⟩ := hq0; refine step_lookup_run rfl _ _ _ rfl (by first | rfl | (simp [Act.eval]; done) | simp [Act.eval, Act.put]) (by first | rfl | (simp [Act.eval]; done) | simp [Act.eval, Act.put]) hlk ?_) | (obtain ⟨u, hlk, a2, n2, c2, A3, hap2, hf1, hf2, hf3⟩ := hq1; refine step_lookup_run rfl _ _ _ rfl (by first | rfl | (simp [Act.eval]; done) | simp [Act.eval, Act.put]) (by first | rfl | (simp [Act.eval]; done) | simp [Act.eval, Act.put]) hlk ?_) | (obtain ⟨u, hlk, a2, n2, c2, A3, hap2, hf1, hf2, hf3⟩ := hq2; refine step_lookup_run rfl _ _ _ rfl (by first | rfl | (simp [Act.eval]; done) | simp [Act.eval, Act.put]) (by first | rfl | (simp [Act.eval]; done) | simp [Act.eval, Act.put]) hlk ?_)
                  (try go_simp)
                  refine hK _ _ ?_
                  clear hK K
                  refine wpAny_ready (rs := [2]) (by kernel_rfl) (by simp) (AllReady.cons (o := ⟨some 44, .buildSlice 32 1 #[(0, .tmp 43)], 32, "way.go:55", #[⟨1, .data⟩], none⟩) rfl (fun K hK => ?_) AllReady.nil)
                  · go_simp
                    refine hK _ _ ?_
                    clear hK K
                    refine wpAny_ready (rs := [3]) (by kernel_rfl) (by simp) (AllReady.cons (o := ⟨some 45, .call { callee := .builtin .append, args := #[.tmp 42, .tmp 44], argTypes := #[32, 32] }, 32, "way.go:55", #[⟨0, .data⟩, ⟨2, .data⟩], none⟩) rfl (fun K hK => ?_) AllReady.nil)
                    · refine step_append_run rfl _ _ _ _ rfl (by first | rfl | (simp [Act.eval]; done) | simp [Act.eval, Act.put]) (by first | rfl | (simp [Act.eval]; done) | simp [Act.eval, Act.put]) hap1 ?_
                      (try go_simp)
                      refine hK _ _ ?_
                      clear hK K
                      refine wpAny_ready (rs := [7]) (by kernel_rfl) (by simp) (AllReady.cons (o := ⟨some 49, .call { callee := .builtin .append, args := #[.tmp 45, .tmp 48], argTypes := #[32, 32] }, 32, "way.go:55", #[⟨3, .data⟩, ⟨6, .data⟩, ⟨3, .chain⟩], none⟩) rfl (fun K hK => ?_) AllReady.nil)
                      · refine step_append_run rfl _ _ _ _ rfl (by first | rfl | (simp [Act.eval]; done) | simp [Act.eval, Act.put]) (by first | rfl | (simp [Act.eval]; done) | simp [Act.eval, Act.put]) hap2 ?_
                        (try go_simp)
                        refine hK _ _ ?_
                        clear hK K
                        refine wpAny_ready (rs := [8]) (by kernel_rfl) (by simp) (AllReady.cons (o := ⟨some 5, .assign (.tmp 49), 32, "way.go:55", #[⟨7, .data⟩, ⟨7, .chain⟩, ⟨0, .phase⟩, ⟨1, .phase⟩, ⟨2, .phase⟩, ⟨3, .phase⟩, ⟨4, .phase⟩, ⟨5, .phase⟩, ⟨6, .phase⟩, ⟨7, .phase⟩], none⟩) rfl (fun K hK => ?_) AllReady.nil)
                        · go_simp
                          refine hK _ _ ?_
                          clear hK K
                          refine wpAny_done (by kernel_rfl) ?_ _
                          unfold onlyN
                          gi_wp2
                          refine ⟨⟨i + 1, n, _, _, _, _, _, _, _, _, _, _, _, _, _, _, _, _, _, _, _, _, _, _, _, _, _, _, _, _, _, _, _, _, _, _, _, _, _, _, _, _, _, _, _, by omega, by omega, by rw [Int.natCast_add]; rfl, HF.out a2 n2 c2 A3 hf1 hf2 hf3⟩, ?_⟩
                          simp [intOf]
                          omega
              · first | (obtain ⟨u, hlk, a2, n2, c2, A3, hap2, hf1, hf2, hf3⟩ := hq0; refine step_lookup_run rfl _ _ _ rfl (by first | rfl | (simp [Act.eval]; done) | simp [Act.eval, Act.put]) (by first | rfl | (simp [Act.eval]; done) | simp [Act.eval, Act.put]) hlk ?_) | (obtain ⟨u, hlk, a2, n2, c2, A3, hap2, hf1, hf2, hf3⟩ := hq1; refine step_lookup_run rfl _ _ _ rfl (by first | rfl | (simp [Act.eval]; done) | simp [Act.eval, Act.put]) (by first | rfl | (simp [Act.eval]; done) | simp [Act.eval, Act.put]) hlk ?_) | (obtain ⟨u, hlk, a2, n2, c2, A3, hap2, hf1, hf2, hf3⟩ := hq2; refine step_lookup_run rfl _ _ _ rfl (by first | rfl | (simp [Act.eval]; done) | simp [Act.eval, Act.put]) (by first | rfl | (simp [Act.eval]; done) | simp [Act.eval, Act.put]) hlk ?_)
                (try go_simp)
                refine hK _ _ ?_
                clear hK K
                refine wpAny_ready (rs := [1]) (by kernel_rfl) (by simp) (AllReady.cons (o := ⟨some 43, .load 3 (.tmp 7), 3, "way.go:55", #[], none⟩) rfl (fun K hK => ?_) AllReady.nil)
                · go_simp
                  refine hK _ _ ?_
                  clear hK K
                  refine wpAny_ready (rs := [2]) (by kernel_rfl) (by simp) (AllReady.cons (o := ⟨some 44, .buildSlice 32 1 #[(0, .tmp 43)], 32, "way.go:55", #[⟨1, .data⟩], none⟩) rfl (fun K hK => ?_) AllReady.nil)
                  · go_simp
                    refine hK _ _ ?_
                    clear hK K
                    refine wpAny_ready (rs := [3]) (by kernel_rfl) (by simp) (AllReady.cons (o := ⟨some 45, .call { callee := .builtin .append, args := #[.tmp 42, .tmp 44], argTypes := #[32, 32] }, 32, "way.go:55", #[⟨0, .data⟩, ⟨2, .data⟩], none⟩) rfl (fun K hK => ?_) AllReady.nil)
                    · refine step_append_run rfl _ _ _ _ rfl (by first | rfl | (simp [Act.eval]; done) | simp [Act.eval, Act.put]) (by first | rfl | (simp [Act.eval]; done) | simp [Act.eval, Act.put]) hap1 ?_
                      (try go_simp)
                      refine hK _ _ ?_
                      clear hK K
                      refine wpAny_ready (rs := [7]) (by kernel_rfl) (by simp) (AllReady.cons (o := ⟨some 49, .call { callee := .builtin .append, args := #[.tmp 45, .tmp 48], argTypes := #[32, 32] }, 32, "way.go:55", #[⟨3, .data⟩, ⟨6, .data⟩, ⟨3, .chain⟩], none⟩) rfl (fun K hK => ?_) AllReady.nil)
                      · refine step_append_run rfl _ _ _ _ rfl (by first | rfl | (simp [Act.eval]; done) | simp [Act.eval, Act.put]) (by first | rfl | (simp [Act.eval]; done) | simp [Act.eval, Act.put]) hap2 ?_
                        (try go_simp)
                        refine hK _ _ ?_
                        clear hK K
                        refine wpAny_ready (rs := [8]) (by kernel_rfl) (by simp) (AllReady.cons (o := ⟨some 5, .assign (.tmp 49), 32, "way.go:55", #[⟨7, .data⟩, ⟨7, .chain⟩, ⟨0, .phase⟩, ⟨1, .phase⟩, ⟨2, .phase⟩, ⟨3, .phase⟩, ⟨4, .phase⟩, ⟨5, .phase⟩, ⟨6, .phase⟩, ⟨7, .phase⟩], none⟩) rfl (fun K hK => ?_) AllReady.nil)
                        · go_simp
                          refine hK _ _ ?_
                          clear hK K
                          refine wpAny_done (by kernel_rfl) ?_ _
                          unfold onlyN
                          gi_wp2
                          refine ⟨⟨i + 1, n, _, _, _, _, _, _, _, _, _, _, _, _, _, _, _, _, _, _, _, _, _, _, _, _, _, _, _, _, _, _, _, _, _, _, _, _, _, _, _, _, _, _, _, by omega, by omega, by rw [Int.natCast_add]; rfl, HF.out a2 n2 c2 A3 hf1 hf2 hf3⟩, ?_⟩
                          simp [intOf]
                          omega
          · go_simp
            refine hK _ _ ?_
            clear hK K
            refine wpAny_ready (rs := [1, 4]) (by kernel_rfl) (by simp) (AllReady.cons (o := ⟨some 43, .load 3 (.tmp 7), 3, "way.go:55", #[], none⟩) rfl (fun K hK => ?_) (AllReady.cons (o := ⟨some 46, .load 90 (.tmp 6), 90, "way.go:55", #[], none⟩) rfl (fun K hK => ?_) AllReady.nil))
            · go_simp
              refine hK _ _ ?_
              clear hK K
              refine wpAny_ready (rs := [2, 4]) (by kernel_rfl) (by simp) (AllReady.cons (o := ⟨some 44, .buildSlice 32 1 #[(0, .tmp 43)], 32, "way.go:55", #[⟨1, .data⟩], none⟩) rfl (fun K hK => ?_) (AllReady.cons (o := ⟨some 46, .load 90 (.tmp 6), 90, "way.go:55", #[], none⟩) rfl (fun K hK => ?_) AllReady.nil))
              · go_simp
                refine hK _ _ ?_
                clear hK K
                refine wpAny_ready (rs := [3, 4]) (by kernel_rfl) (by simp) (AllReady.cons (o := ⟨some 45, .call { callee := .builtin .append, args := #[.tmp 42, .tmp 44], argTypes := #[32, 32] }, 32, "way.go:55", #[⟨0, .data⟩, ⟨2, .data⟩], none⟩) rfl (fun K hK => ?_) (AllReady.cons (o := ⟨some 46, .load 90 (.tmp 6), 90, "way.go:55", #[], none⟩) rfl (fun K hK => ?_) AllReady.nil))
                · refine step_append_run rfl _ _ _ _ rfl (by first | rfl | (simp [Act.eval]; done) | simp [Act.eval, Act.put]) (by first | rfl | (simp [Act.eval]; done) | simp [Act.eval, Act.put]) hap1 ?_
                  (try go_simp)
                  refine hK _ _ ?_
                  clear hK K
                  refine wpAny_ready (rs := [4]) (by kernel_rfl) (by simp) (AllReady.cons (o := ⟨some 46, .load 90 (.tmp 6), 90, "way.go:55", #[], none⟩) rfl (fun K hK => ?_) AllReady.nil)
                  · go_simp
                    refine hK _ _ ?_
                    clear hK K
                    refine wpAny_ready (rs := [6]) (by kernel_rfl) (by simp) (AllReady.cons (o := ⟨some 48, .lookup 90 (.tmp 46) (.tmp 47) false, 32, "way.go:55", #[⟨4, .data⟩, ⟨5, .data⟩], none⟩) rfl (fun K hK => ?_) AllReady.nil)
                    · first | (obtain ⟨u, hlk, a2, n2, c2, A3, hap2, hf1, hf2, hf3⟩ := hq0; refine step_lookup_run rfl _ _ _ rfl (by first | rfl | (simp [Act.eval]; done) | simp [Act.eval, Act.put]) (by first | rfl | (simp [Act.eval]; done) | simp [Act.eval, Act.put]) hlk ?_) | (obtain ⟨u, hlk, a2, n2, c2, A3, hap2, hf1, hf2, hf3⟩ := hq1; refine step_lookup_run rfl _ _ _ rfl (by first | rfl | (simp [Act.eval]; done) | simp [Act.eval, Act.put]) (by first | rfl | (simp [Act.eval]; done) | simp [Act.eval, Act.put]) hlk ?_) | (obtain ⟨u, hlk, a2, n2, c2, A3, hap2, hf1, hf2, hf3⟩ := hq2; refine step_lookup_run rfl _ _ _ rfl (by first | rfl | (simp [Act.eval]; done) | simp [Act.eval, Act.put]) (by first | rfl | (simp [Act.eval]; done) | simp [Act.eval, Act.put]) hlk ?_)
                      (try go_simp)
                      refine hK _ _ ?_
                      clear hK K
                      refine wpAny_ready (rs := [7]) (by kernel_rfl) (by simp) (AllReady.cons (o := ⟨some 49, .call { callee := .builtin .append, args := #[.tmp 45, .tmp 48], argTypes := #[32, 32] }, 32, "way.go:55", #[⟨3, .data⟩, ⟨6, .data⟩, ⟨3, .chain⟩], none⟩) rfl (fun K hK => ?_) AllReady.nil)
                      · refine step_append_run rfl _ _ _ _ rfl (by first | rfl | (simp [Act.eval]; done) | simp [Act.eval, Act.put]) (by first | rfl | (simp [Act.eval]; done) | simp [Act.eval, Act.put]) hap2 ?_
                        (try go_simp)
                        refine hK _ _ ?_
                        clear hK K
                        refine wpAny_ready (rs := [8]) (by kernel_rfl) (by simp) (AllReady.cons (o := ⟨some 5, .assign (.tmp 49), 32, "way.go:55", #[⟨7, .data⟩, ⟨7, .chain⟩, ⟨0, .phase⟩, ⟨1, .phase⟩, ⟨2, .phase⟩, ⟨3, .phase⟩, ⟨4, .phase⟩, ⟨5, .phase⟩, ⟨6, .phase⟩, ⟨7, .phase⟩], none⟩) rfl (fun K hK => ?_) AllReady.nil)
                        · go_simp
                          refine hK _ _ ?_
                          clear hK K
                          refine wpAny_done (by kernel_rfl) ?_ _
                          unfold onlyN
                          gi_wp2
                          refine ⟨⟨i + 1, n, _, _, _, _, _, _, _, _, _, _, _, _, _, _, _, _, _, _, _, _, _, _, _, _, _, _, _, _, _, _, _, _, _, _, _, _, _, _, _, _, _, _, _, by omega, by omega, by rw [Int.natCast_add]; rfl, HF.out a2 n2 c2 A3 hf1 hf2 hf3⟩, ?_⟩
                          simp [intOf]
                          omega
                · go_simp
                  refine hK _ _ ?_
                  clear hK K
                  refine wpAny_ready (rs := [3, 6]) (by kernel_rfl) (by simp) (AllReady.cons (o := ⟨some 45, .call { callee := .builtin .append, args := #[.tmp 42, .tmp 44], argTypes := #[32, 32] }, 32, "way.go:55", #[⟨0, .data⟩, ⟨2, .data⟩], none⟩) rfl (fun K hK => ?_) (AllReady.cons (o := ⟨some 48, .lookup 90 (.tmp 46) (.tmp 47) false, 32, "way.go:55", #[⟨4, .data⟩, ⟨5, .data⟩], none⟩) rfl (fun K hK => ?_) AllReady.nil))
                  · refine step_append_run rfl _ _ _ _ rfl (by first | rfl | (simp [Act.eval]; done) | simp [Act.eval, Act.put]) (by first | rfl | (simp [Act.eval]; done) | simp [Act.eval, Act.put]) hap1 ?_
                    (try go_simp)
                    refine hK _ _ ?_
                    clear hK K
                    refine wpAny_ready (rs := [6]) (by kernel_rfl) (by simp) (AllReady.cons (o := ⟨some 48, .lookup 90 (.tmp 46) (.tmp 47) false, 32, "way.go:55", #[⟨4, .data⟩, ⟨5, .data⟩], none⟩) rfl (fun K hK => ?_) AllReady.nil)
                    · first | (obtain ⟨u, hlk, a2, n2, c2, A3, hap2, hf1, hf2, hf3⟩ := hq0; refine step_lookup_run rfl _ _ _ rfl (by first | rfl | (simp [Act.eval]; done) | simp [Act.eval, Act.put]) (by first | rfl | (simp [Act.eval]; done) | simp [Act.eval, Act.put]) hlk ?_) | (obtain ⟨u, hlk, a2, n2, c2, A3, hap2, hf1, hf2, hf3⟩ := hq1; refine step_lookup_run rfl _ _ _ rfl (by first | rfl | (simp [Act.eval]; done) | simp [Act.eval, Act.put]) (by first | rfl | (simp [Act.eval]; done) | simp [Act.eval, Act.put]) hlk ?_) | (obtain ⟨u, hlk, a2, n2, c2, A3, hap2, hf1, hf2, hf3⟩ := hq2; refine step_lookup_run rfl _ _ _ rfl (by first | rfl | (simp [Act.eval]; done) | simp [Act.eval, Act.put]) (by first | rfl | (simp [Act.eval]; done) | simp [Act.eval, Act.put]) hlk ?_)
                      (try go_simp)
                      refine hK _ _ ?_
                      clear hK K
                      refine wpAny_ready (rs := [7]) (by kernel_rfl) (by simp) (AllReady.cons (o := ⟨some 49, .call { callee := .builtin .append, args := #[.tmp 45, .tmp 48], argTypes := #[32, 32] }, 32, "way.go:55", #[⟨3, .data⟩, ⟨6, .data⟩, ⟨3, .chain⟩], none⟩) rfl (fun K hK => ?_) AllReady.nil)
                      · refine step_append_run rfl _ _ _ _ rfl (by first | rfl | (simp [Act.eval]; done) | simp [Act.eval, Act.put]) (by first | rfl | (simp [Act.eval]; done) | simp [Act.eval, Act.put]) hap2 ?_
                        (try go_simp)
                        refine hK _ _ ?_
                        clear hK K
                        refine wpAny_ready (rs := [8]) (by kernel_rfl) (by simp) (AllReady.cons (o := ⟨some 5, .assign (.tmp 49), 32, "way.go:55", #[⟨7, .data⟩, ⟨7, .chain⟩, ⟨0, .phase⟩, ⟨1, .phase⟩, ⟨2, .phase⟩, ⟨3, .phase⟩, ⟨4, .phase⟩, ⟨5, .phase⟩, ⟨6, .phase⟩, ⟨7, .phase⟩], none⟩) rfl (fun K hK => ?_) AllReady.nil)
                        · go_simp
                          refine hK _ _ ?_
                          clear hK K
                          refine wpAny_done (by kernel_rfl) ?_ _
                          unfold onlyN
                          gi_wp2
                          refine ⟨⟨i + 1, n, _, _, _, _, _, _, _, _, _, _, _, _, _, _, _, _, _, _, _, _, _, _, _, _, _, _, _, _, _, _, _, _, _, _, _, _, _, _, _, _, _, _, _, by omega, by omega, by rw [Int.natCast_add]; rfl, HF.out a2 n2 c2 A3 hf1 hf2 hf3⟩, ?_⟩
                          simp [intOf]
                          omega
                  · first | (obtain ⟨u, hlk, a2, n2, c2, A3, hap2, hf1, hf2, hf3⟩ := hq0; refine step_lookup_run rfl _ _ _ rfl (by first | rfl | (simp [Act.eval]; done) | simp [Act.eval, Act.put]) (by first | rfl | (simp [Act.eval]; done) | simp [Act.eval, Act.put]) hlk ?_) | (obtain ⟨u, hlk, a2, n2, c2, A3, hap2, hf1, hf2, hf3⟩ := hq1; refine step_lookup_run rfl _ _ _ rfl (by first | rfl | (simp [Act.eval]; done) | simp [Act.eval, Act.put]) (by first | rfl | (simp [Act.eval]; done) | simp [Act.eval, Act.put]) hlk ?_) | (obtain ⟨u, hlk, a2, n2, c2, A3, hap2, hf1, hf2, hf3⟩ := hq2; refine step_lookup_run rfl _ _ _ rfl (by first | rfl | (simp [Act.eval]; done) | simp [Act.eval, Act.put]) (by first | rfl | (simp [Act.eval]; done) | simp [Act.eval, Act.put]) hlk ?_)
                    (try go_simp)
                    refine hK _ _ ?_
                    clear hK K
                    refine wpAny_ready (rs := [3]) (by kernel_rfl) (by simp) (AllReady.cons (o := ⟨some 45, .call { callee := .builtin .append, args := #[.tmp 42, .tmp 44], argTypes := #[32, 32] }, 32, "way.go:55", #[⟨0, .data⟩, ⟨2, .data⟩], none⟩) rfl (fun K hK => ?_) AllReady.nil)
                    · refine step_append_run rfl _ _ _ _ rfl (by first | rfl | (simp [Act.eval]; done) | simp [Act.eval, Act.put]) (by first | rfl | (simp [Act.eval]; done) | simp [Act.eval, Act.put]) hap1 ?_
                      (try go_simp)
                      refine hK _ _ ?_
                      clear hK K
                      refine wpAny_ready (rs := [7]) (by kernel_rfl) (by simp) (AllReady.cons (o := ⟨some 49, .call { callee := .builtin .append, args := #[.tmp 45, .tmp 48], argTypes := #[32, 32] }, 32, "way.go:55", #[⟨3, .data⟩, ⟨6, .data⟩, ⟨3, .chain⟩], none⟩) rfl (fun K hK => ?_) AllReady.nil)
                      · refine step_append_run rfl _ _ _ _ rfl (by first | rfl | (simp [Act.eval]; done) | simp [Act.eval, Act.put]) (by first | rfl | (simp [Act.eval]; done) | simp [Act.eval, Act.put]) hap2 ?_
                        (try go_simp)
                        refine hK _ _ ?_
                        clear hK K
                        refine wpAny_ready (rs := [8]) (by kernel_rfl) (by simp) (AllReady.cons (o := ⟨some 5, .assign (.tmp 49), 32, "way.go:55", #[⟨7, .data⟩, ⟨7, .chain⟩, ⟨0, .phase⟩, ⟨1, .phase⟩, ⟨2, .phase⟩, ⟨3, .phase⟩, ⟨4, .phase⟩, ⟨5, .phase⟩, ⟨6, .phase⟩, ⟨7, .phase⟩], none⟩) rfl (fun K hK => ?_) AllReady.nil)
                        · go_simp
                          refine hK _ _ ?_
                          clear hK K
                          refine wpAny_done (by kernel_rfl) ?_ _
                          unfold onlyN
                          gi_wp2
                          refine ⟨⟨i + 1, n, _, _, _, _, _, _, _, _, _, _, _, _, _, _, _, _, _, _, _, _, _, _, _, _, _, _, _, _, _, _, _, _, _, _, _, _, _, _, _, _, _, _, _, by omega, by omega, by rw [Int.natCast_add]; rfl, HF.out a2 n2 c2 A3 hf1 hf2 hf3⟩, ?_⟩
                          simp [intOf]
                          omega
              · go_simp
                refine hK _ _ ?_
                clear hK K
                refine wpAny_ready (rs := [2, 6]) (by kernel_rfl) (by simp) (AllReady.cons (o := ⟨some 44, .buildSlice 32 1 #[(0, .tmp 43)], 32, "way.go:55", #[⟨1, .data⟩], none⟩) rfl (fun K hK => ?_) (AllReady.cons (o := ⟨some 48, .lookup 90 (.tmp 46) (.tmp 47) false, 32, "way.go:55", #[⟨4, .data⟩, ⟨5, .data⟩], none⟩) rfl (fun K hK => ?_) AllReady.nil))
                · go_simp
                  refine hK _ _ ?_
                  clear hK K
                  refine wpAny_ready (rs := [3, 6]) (by kernel_rfl) (by simp) (AllReady.cons (o := ⟨some 45, .call { callee := .builtin .append, args := #[.tmp 42, .tmp 44], argTypes := #[32, 32] }, 32, "way.go:55", #[⟨0, .data⟩, ⟨2, .data⟩], none⟩) rfl (fun K hK => ?_) (AllReady.cons (o := ⟨some 48, .lookup 90 (.tmp 46) (.tmp 47) false, 32, "way.go:55", #[⟨4, .data⟩, ⟨5, .data⟩], none⟩) rfl (fun K hK => ?_) AllReady.nil))
                  · refine step_append_run rfl _ _ _ _ rfl (by first | rfl | (simp [Act.eval]; done) | simp [Act.eval, Act.put]) (by first | rfl | (simp [Act.eval]; done) | simp [Act.eval, Act.put]) hap1 ?_
                    (try go_simp)
                    refine hK _ _ ?_
                    clear hK K
                    refine wpAny_ready (rs := [6]) (by kernel_rfl) (by simp) (AllReady.cons (o := ⟨some 48, .lookup 90 (.tmp 46) (.tmp 47) false, 32, "way.go:55", #[⟨4, .data⟩, ⟨5, .data⟩], none⟩) rfl (fun K hK => ?_) AllReady.nil)
                    · first | (obtain ⟨u, hlk, a2, n2, c2, A3, hap2, hf1, hf2, hf3⟩ := hq0; refine step_lookup_run rfl _ _ _ rfl (by first | rfl | (simp [Act.eval]; done) | simp [Act.eval, Act.put]) (by first | rfl | (simp [Act.eval]; done) | simp [Act.eval, Act.put]) hlk ?_) | (obtain ⟨u, hlk, a2, n2, c2, A3, hap2, hf1, hf2, hf3⟩ := hq1; refine step_lookup_run rfl _ _ _ rfl (by first | rfl | (simp [Act.eval]; done) | simp [Act.eval, Act.put]) (by first | rfl | (simp [Act.eval]; done) | simp [Act.eval, Act.put]) hlk ?_) | (obtain ⟨u, hlk, a2, n2, c2, A3, hap2, hf1, hf2, hf3⟩ := hq2; refine step_lookup_run rfl _ _ _ rfl (by first | rfl | (simp [Act.eval]; done) | simp [Act.eval, Act.put]) (by first | rfl | (simp [Act.eval]; done) | simp [Act.eval, Act.put]) hlk ?_)
                      (try go_simp)
                      refine hK _ _ ?_
                      clear hK K
                      refine wpAny_ready (rs := [7]) (by kernel_rfl) (by simp) (AllReady.cons (o := ⟨some 49, .call { callee := .builtin .append, args := #[.tmp 45, .tmp 48], argTypes := #[32, 32] }, 32, "way.go:55", #[⟨3, .data⟩, ⟨6, .data⟩, ⟨3, .chain⟩], none⟩) rfl (fun K hK => ?_) AllReady.nil)
                      · refine step_append_run rfl _ _ _ _ rfl (by first | rfl | (simp [Act.eval]; done) | simp [Act.eval, Act.put]) (by first | rfl | (simp [Act.eval]; done) | simp [Act.eval, Act.put]) hap2 ?_
                        (try go_simp)
                        refine hK _ _ ?_
                        clear hK K
                        refine wpAny_ready (rs := [8]) (by kernel_rfl) (by simp) (AllReady.cons (o := ⟨some 5, .assign (.tmp 49), 32, "way.go:55", #[⟨7, .data⟩, ⟨7, .chain⟩, ⟨0, .phase⟩, ⟨1, .phase⟩, ⟨2, .phase⟩, ⟨3, .phase⟩, ⟨4, .phase⟩, ⟨5, .phase⟩, ⟨6, .phase⟩, ⟨7, .phase⟩], none⟩) rfl (fun K hK => ?_) AllReady.nil)
                        · go_simp
                          refine hK _ _ ?_
                          clear hK K
                          refine wpAny_done (by kernel_rfl) ?_ _
                          unfold onlyN
                          gi_wp2
                          refine ⟨⟨i + 1, n, _, _, _, _, _, _, _, _, _, _, _, _, _, _, _, _, _, _, _, _, _, _, _, _, _, _, _, _, _, _, _, _, _, _, _, _, _, _, _, _, _, _, _, by omega, by omega, by rw [Int.natCast_add]; rfl, HF.out a2 n2 c2 A3 hf1 hf2 hf3⟩, ?_⟩
                          simp [intOf]
                          omega
                  · first | (obtain ⟨u, hlk, a2, n2, c2, A3, hap2, hf1, hf2, hf3⟩ := hq0; refine step_lookup_run rfl _ _ _ rfl (by first | rfl | (simp [Act.eval]; done) | simp [Act.eval, Act.put]) (by first | rfl | (simp [Act.eval]; done) | simp [Act.eval, Act.put]) hlk ?_) | (obtain ⟨u, hlk, a2, n2, c2, A3, hap2, hf1, hf2, hf3⟩ := hq1; refine step_lookup_run rfl _ _ _ rfl (by first | rfl | (simp [Act.eval]; done) | simp [Act.eval, Act.put]) (by first | rfl | (simp [Act.eval]; done) | simp [Act.eval, Act.put]) hlk ?_) | (obtain ⟨u, hlk, a2, n2, c2, A3, hap2, hf1, hf2, hf3⟩ := hq2; refine step_lookup_run rfl _ _ _ rfl (by first | rfl | (simp [Act.eval]; done) | simp [Act.eval, Act.put]) (by first | rfl | (simp [Act.eval]; done) | simp [Act.eval, Act.put]) hlk ?_)
                    (try go_simp)
                    refine hK _ _ ?_
                    clear hK K
                    refine wpAny_ready (rs := [3]) (by kernel_rfl) (by simp) (AllReady.cons (o := ⟨some 45, .call { callee := .builtin .append, args := #[.tmp 42, .tmp 44], argTypes := #[32, 32] }, 32, "way.go:55", #[⟨0, .data⟩, ⟨2, .data⟩], none⟩) rfl (fun K hK => ?_) AllReady.nil)
                    · refine step_append_run rfl _ _ _ _ rfl (by first | rfl | (simp [Act.eval]; done) | simp [Act.eval, Act.put]) (by first | rfl | (simp [Act.eval]; done) | simp [Act.eval, Act.put]) hap1 ?_
                      (try go_simp)
                      refine hK _ _ ?_
                      clear hK K
                      refine wpAny_ready (rs := [7]) (by kernel_rfl) (by simp) (AllReady.cons (o := ⟨some 49, .call { callee := .builtin .append, args := #[.tmp 45, .tmp 48], argTypes := #[32, 32] }, 32, "way.go:55", #[⟨3, .data⟩, ⟨6, .data⟩, ⟨3, .chain⟩], none⟩) rfl (fun K hK => ?_) AllReady.nil)
                      · refine step_append_run rfl _ _ _ _ rfl (by first | rfl | (simp [Act.eval]; done) | simp [Act.eval, Act.put]) (by first | rfl | (simp [Act.eval]; done) | simp [Act.eval, Act.put]) hap2 ?_
                        (try go_simp)
                        refine hK _ _ ?_
                        clear hK K
                        refine wpAny_ready (rs := [8]) (by kernel_rfl) (by simp) (AllReady.cons (o := ⟨some 5, .assign (.tmp 49), 32, "way.go:55", #[⟨7, .data⟩, ⟨7, .chain⟩, ⟨0, .phase⟩, ⟨1, .phase⟩, ⟨2, .phase⟩, ⟨3, .phase⟩, ⟨4, .phase⟩, ⟨5, .phase⟩, ⟨6, .phase⟩, ⟨7, .phase⟩], none⟩) rfl (fun K hK => ?_) AllReady.nil)
                        · go_simp
                          refine hK _ _ ?_
                          clear hK K
                          refine wpAny_done (by kernel_rfl) ?_ _
                          unfold onlyN
                          gi_wp2
                          refine ⟨⟨i + 1, n, _, _, _, _, _, _, _, _, _, _, _, _, _, _, _, _, _, _, _, _, _, _, _, _, _, _, _, _, _, _, _, _, _, _, _, _, _, _, _, _, _, _, _, by omega, by omega, by rw [Int.natCast_add]; rfl, HF.out a2 n2 c2 A3 hf1 hf2 hf3⟩, ?_⟩
                          simp [intOf]
                          omega
                · first | (obtain ⟨u, hlk, a2, n2, c2, A3, hap2, hf1, hf2, hf3⟩ := hq0; refine step_lookup_run rfl _ _ _ rfl (by first | rfl | (simp [Act.eval]; done) | simp [Act.eval, Act.put]) (by first | rfl | (simp [Act.eval]; done) | simp [Act.eval, Act.put]) hlk ?_) | (obtain ⟨u, hlk, a2, n2, c2, A3, hap2, hf1, hf2, hf3⟩ := hq1; refine step_lookup_run rfl _ _ _ rfl (by first | rfl | (simp [Act.eval]; done) | simp [Act.eval, Act.put]) (by first | rfl | (simp [Act.eval]; done) | simp [Act.eval, Act.put]) hlk ?_) | (obtain ⟨u, hlk, a2, n2, c2, A3, hap2, hf1, hf2, hf3⟩ := hq2; refine step_lookup_run rfl _ _ _ rfl (by first | rfl | (simp [Act.eval]; done) | simp [Act.eval, Act.put]) (by first | rfl | (simp [Act.eval]; done) | simp [Act.eval, Act.put]) hlk ?_)
                  (try go_simp)
                  refine hK _ _ ?_
                  clear hK K
                  refine wpAny_ready (rs := [2]) (by kernel_rfl) (by simp) (AllReady.cons (o := ⟨some 44, .buildSlice 32 1 #[(0, .tmp 43)], 32, "way.go:55", #[⟨1, .data⟩], none⟩) rfl (fun K hK => ?_) AllReady.nil)
                  · go_simp
                    refine hK _ _ ?_
                    clear hK K
                    refine wpAny_ready (rs := [3]) (by kernel_rfl) (by simp) (AllReady.cons (o := ⟨some 45, .call { callee := .builtin .append, args := #[.tmp 42, .tmp 44], argTypes := #[32, 32] }, 32, "way.go:55", #[⟨0, .data⟩, ⟨2, .data⟩], none⟩) rfl (fun K hK => ?_) AllReady.nil)
                    · refine step_append_run rfl _ _ _ _ rfl (by first | rfl | (simp [Act.eval]; done) | simp [Act.eval, Act.put]) (by first | rfl | (simp [Act.eval]; done) | simp [Act.eval, Act.put]) hap1 ?_
                      (try go_simp)
                      refine hK _ _ ?_
                      clear hK K
                      refine wpAny_ready (rs := [7]) (by kernel_rfl) (by simp) (AllReady.cons (o := ⟨some 49, .call { callee := .builtin .append, args := #[.tmp 45, .tmp 48], argTypes := #[32, 32] }, 32, "way.go:55", #[⟨3, .data⟩, ⟨6, .data⟩, ⟨3, .chain⟩], none⟩) rfl (fun K hK => ?_) AllReady.nil)
                      · refine step_append_run rfl _ _ _ _ rfl (by first | rfl | (simp [Act.eval]; done) | simp [Act.eval, Act.put]) (by first | rfl | (simp [Act.eval]; done) | simp [Act.eval, Act.put]) hap2 ?_
                        (try go_simp)
                        refine hK _ _ ?_
                        clear hK K
                        refine wpAny_ready (rs := [8]) (by kernel_rfl) (by simp) (AllReady.cons (o := ⟨some 5, .assign (.tmp 49), 32, "way.go:55", #[⟨7, .data⟩, ⟨7, .chain⟩, ⟨0, .phase⟩, ⟨1, .phase⟩, ⟨2, .phase⟩, ⟨3, .phase⟩, ⟨4, .phase⟩, ⟨5, .phase⟩, ⟨6, .phase⟩, ⟨7, .phase⟩], none⟩) rfl (fun K hK => ?_) AllReady.nil)
                        · go_simp
                          refine hK _ _ ?_
                          clear hK K
                          refine wpAny_done (by kernel_rfl) ?_ _
                          unfold onlyN
                          gi_wp2
                          refine ⟨⟨i + 1, n, _, _, _, _, _, _, _, _, _, _, _, _, _, _, _, _, _, _, _, _, _, _, _, _, _, _, _, _, _, _, _, _, _, _, _, _, _, _, _, _, _, _, _, by omega, by omega, by rw [Int.natCast_add]; rfl, HF.out a2 n2 c2 A3 hf1 hf2 hf3⟩, ?_⟩
                          simp [intOf]
                          omega
            · go_simp
              refine hK _ _ ?_
              clear hK K
              refine wpAny_ready (rs := [1, 6]) (by kernel_rfl) (by simp) (AllReady.cons (o := ⟨some 43, .load 3 (.tmp 7), 3, "way.go:55", #[], none⟩) rfl (fun K hK => ?_) (AllReady.cons (o := ⟨some 48, .lookup 90 (.tmp 46) (.tmp 47) false, 32, "way.go:55", #[⟨4, .data⟩, ⟨5, .data⟩], none⟩) rfl (fun K hK => ?_) AllReady.nil))
              · go_simp
                refine hK _ _ ?_
                clear hK K
                refine wpAny_ready (rs := [2, 6]) (by kernel_rfl) (by simp) (AllReady.cons (o := ⟨some 44, .buildSlice 32 1 #[(0, .tmp 43)], 32, "way.go:55", #[⟨1, .data⟩], none⟩) rfl (fun K hK => ?_) (AllReady.cons (o := ⟨some 48, .lookup 90 (.tmp 46) (.tmp 47) false, 32, "way.go:55", #[⟨4, .data⟩, ⟨5, .data⟩], none⟩) rfl (fun K hK => ?_) AllReady.nil))
                · go_simp
                  refine hK _ _ ?_
                  clear hK K
                  refine wpAny_ready (rs := [3, 6]) (by kernel_rfl) (by simp) (AllReady.cons (o := ⟨some 45, .call { callee := .builtin .append, args := #[.tmp 42, .tmp 44], argTypes := #[32, 32] }, 32, "way.go:55", #[⟨0, .data⟩, ⟨2, .data⟩], none⟩) rfl (fun K hK => ?_) (AllReady.cons (o := ⟨some 48, .lookup 90 (.tmp 46) (.tmp 47) false, 32, "way.go:55", #[⟨4, .data⟩, ⟨5, .data⟩], none⟩) rfl (fun K hK => ?_) AllReady.nil))
                  · refine step_append_run rfl _ _ _ _ rfl (by first | rfl | (simp [Act.eval]; done) | simp [Act.eval, Act.put]) (by first | rfl | (simp [Act.eval]; done) | simp [Act.eval, Act.put]) hap1 ?_
                    (try go_simp)
                    refine hK _ _ ?_
                    clear hK K
                    refine wpAny_ready (rs := [6]) (by kernel_rfl) (by simp) (AllReady.cons (o := ⟨some 48, .lookup 90 (.tmp 46) (.tmp 47) false, 32, "way.go:55", #[⟨4, .data⟩, ⟨5, .data⟩], none⟩) rfl (fun K hK => ?_) AllReady.nil)
                    · first | (obtain ⟨u, hlk, a2, n2, c2, A3, hap2, hf1, hf2, hf3⟩ := hq0; refine step_lookup_run rfl _ _ _ rfl (by first | rfl | (simp [Act.eval]; done) | simp [Act.eval, Act.put]) (by first | rfl | (simp [Act.eval]; done) | simp [Act.eval, Act.put]) hlk ?_) | (obtain ⟨u, hlk, a2, n2, c2, A3, hap2, hf1, hf2, hf3⟩ := hq1; refine step_lookup_run rfl _ _ _ rfl (by first | rfl | (simp [Act.eval]; done) | simp [Act.eval, Act.put]) (by first | rfl | (simp [Act.eval]; done) | simp [Act.eval, Act.put]) hlk ?_) | (obtain ⟨u, hlk, a2, n2, c2, A3, hap2, hf1, hf2, hf3⟩ := hq2; refine step_lookup_run rfl _ _ _ rfl (by first | rfl | (simp [Act.eval]; done) | simp [Act.eval, Act.put]) (by first | rfl | (simp [Act.eval]; done) | simp [Act.eval, Act.put]) hlk ?_)
                      (try go_simp)
                      refine hK _ _ ?_
                      clear hK K
                      refine wpAny_ready (rs := [7]) (by kernel_rfl) (by simp) (AllReady.cons (o := ⟨some 49, .call { callee := .builtin .append, args := #[.tmp 45, .tmp 48], argTypes := #[32, 32] }, 32, "way.go:55", #[⟨3, .data⟩, ⟨6, .data⟩, ⟨3, .chain⟩], none⟩) rfl (fun K hK => ?_) AllReady.nil)
                      · refine step_append_run rfl _ _ _ _ rfl (by first | rfl | (simp [Act.eval]; done) | simp [Act.eval, Act.put]) (by first | rfl | (simp [Act.eval]; done) | simp [Act.eval, Act.put]) hap2 ?_
                        (try go_simp)
                        refine hK _ _ ?_
                        clear hK K
                        refine wpAny_ready (rs := [8]) (by kernel_rfl) (by simp) (AllReady.cons (o := ⟨some 5, .assign (.tmp 49), 32, "way.go:55", #[⟨7, .data⟩, ⟨7, .chain⟩, ⟨0, .phase⟩, ⟨1, .phase⟩, ⟨2, .phase⟩, ⟨3, .phase⟩, ⟨4, .phase⟩, ⟨5, .phase⟩, ⟨6, .phase⟩, ⟨7, .phase⟩], none⟩) rfl (fun K hK => ?_) AllReady.nil)
                        · go_simp
                          refine hK _ _ ?_
                          clear hK K
                          refine wpAny_done (by kernel_rfl) ?_ _
                          unfold onlyN
                          gi_wp2
                          refine ⟨⟨i + 1, n, _, _, _, _, _, _, _, _, _, _, _, _, _, _, _, _, _, _, _, _, _, _, _, _, _, _, _, _, _, _, _, _, _, _, _, _, _, _, _, _, _, _, _, by omega, by omega, by rw [Int.natCast_add]; rfl, HF.out a2 n2 c2 A3 hf1 hf2 hf3⟩, ?_⟩
                          simp [intOf]
                          omega
                  · first | (obtain ⟨u, hlk, a2, n2, c2, A3, hap2, hf1, hf2, hf3⟩ := hq0; refine step_lookup_run rfl _ _ _ rfl (by first | rfl | (simp [Act.eval]; done) | simp [Act.eval, Act.put]) (by first | rfl | (simp [Act.eval]; done) | simp [Act.eval, Act.put]) hlk ?_) | (obtain ⟨u, hlk, a2, n2, c2, A3, hap2, hf1, hf2, hf3⟩ := hq1; refine step_lookup_run rfl _ _ _ rfl (by first | rfl | (simp [Act.eval]; done) | simp [Act.eval, Act.put]) (by first | rfl | (simp [Act.eval]; done) | simp [Act.eval, Act.put]) hlk ?_) | (obtain ⟨u, hlk, a2, n2, c2, A3, hap2, hf1, hf2, hf3⟩ := hq2; refine step_lookup_run rfl _ _ _ rfl (by first | rfl | (simp [Act.eval]; done) | simp [Act.eval, Act.put]) (by first | rfl | (simp [Act.eval]; done) | simp [Act.eval, Act.put]) hlk ?_)
                    (try go_simp)
                    refine hK _ _ ?_
                    clear hK K
                    refine wpAny_ready (rs := [3]) (by kernel_rfl) (by simp) (AllReady.cons (o := ⟨some 45, .call { callee := .builtin .append, args := #[.tmp 42, .tmp 44], argTypes := #[32, 32] }, 32, "way.go:55", #[⟨0, .data⟩, ⟨2, .data⟩], none⟩) rfl (fun K hK => ?_) AllReady.nil)
                    · refine step_append_run rfl _ _ _ _ rfl (by first | rfl | (simp [Act.eval]; done) | simp [Act.eval, Act.put]) (by first | rfl | (simp [Act.eval]; done) | simp [Act.eval, Act.put]) hap1 ?_
                      (try go_simp)
                      refine hK _ _ ?_
                      clear hK K
                      refine wpAny_ready (rs := [7]) (by kernel_rfl) (by simp) (AllReady.cons (o := ⟨some 49, .call { callee := .builtin .append, args := #[.tmp 45, .tmp 48], argTypes := #[32, 32] }, 32, "way.go:55", #[⟨3, .data⟩, ⟨6, .data⟩, ⟨3, .chain⟩], none⟩) rfl (fun K hK => ?_) AllReady.nil)
                      · refine step_append_run rfl _ _ _ _ rfl (by first | rfl | (simp [Act.eval]; done) | simp [Act.eval, Act.put]) (by first | rfl | (simp [Act.eval]; done) | simp [Act.eval, Act.put]) hap2 ?_
                        (try go_simp)
                        refine hK _ _ ?_
                        clear hK K
                        refine wpAny_ready (rs := [8]) (by kernel_rfl) (by simp) (AllReady.cons (o := ⟨some 5, .assign (.tmp 49), 32, "way.go:55", #[⟨7, .data⟩, ⟨7, .chain⟩, ⟨0, .phase⟩, ⟨1, .phase⟩, ⟨2, .phase⟩, ⟨3, .phase⟩, ⟨4, .phase⟩, ⟨5, .phase⟩, ⟨6, .phase⟩, ⟨7, .phase⟩], none⟩) rfl (fun K hK => ?_) AllReady.nil)
                        · go_simp
                          refine hK _ _ ?_
                          clear hK K
                          refine wpAny_done (by kernel_rfl) ?_ _
                          unfold onlyN
                          gi_wp2
                          refine ⟨⟨i + 1, n, _, _, _, _, _, _, _, _, _, _, _, _, _, _, _, _, _, _, _, _, _, _, _, _, _, _, _, _, _, _, _, _, _, _, _, _, _, _, _, _, _, _, _, by omega, by omega, by rw [Int.natCast_add]; rfl, HF.out a2 n2 c2 A3 hf1 hf2 hf3⟩, ?_⟩
                          simp [intOf]
                          omega
                · first | (obtain ⟨u, hlk, a2, n2, c2, A3, hap2, hf1, hf2, hf3⟩ := hq0; refine step_lookup_run rfl _ _ _ rfl (by first | rfl | (simp [Act.eval]; done) | simp [Act.eval, Act.put]) (by first | rfl | (simp [Act.eval]; done) | simp [Act.eval, Act.put]) hlk ?_) | (obtain ⟨u, hlk, a2, n2, c2, A3, hap2, hf1, hf2, hf3⟩ := hq1; refine step_lookup_run rfl _ _ _ rfl (by first | rfl | (simp [Act.eval]; done) | simp [Act.eval, Act.put]) (by first | rfl | (simp [Act.eval]; done) | simp [Act.eval, Act.put]) hlk ?_) | (obtain ⟨u, hlk, a2, n2, c2, A3, hap2, hf1, hf2, hf3⟩ := hq2; refine step_lookup_run rfl _ _ _ rfl (by first | rfl | (simp [Act.eval]; done) | simp [Act.eval, Act.put]) (by first | rfl | (simp [Act.eval]; done) | simp [Act.eval, Act.put]) hlk ?_)
                  (try go_simp)
                  refine hK _ _ ?_
                  clear hK K
                  refine wpAny_ready (rs := [2]) (by kernel_rfl) (by simp) (AllReady.cons (o := ⟨some 44, .buildSlice 32 1 #[(0, .tmp 43)], 32, "way.go:55", #[⟨1, .data⟩], none⟩) rfl (fun K hK => ?_) AllReady.nil)
                  · go_simp
                    refine hK _ _ ?_
                    clear hK K
                    refine wpAny_ready (rs := [3]) (by kernel_rfl) (by simp) (AllReady.cons (o := ⟨some 45, .call { callee := .builtin .append, args := #[.tmp 42, .tmp 44], argTypes := #[32, 32] }, 32, "way.go:55", #[⟨0, .data⟩, ⟨2, .data⟩], none⟩) rfl (fun K hK => ?_) AllReady.nil)
                    · refine step_append_run rfl _ _ _ _ rfl (by first | rfl | (simp [Act.eval]; done) | simp [Act.eval, Act.put]) (by first | rfl | (simp [Act.eval]; done) | simp [Act.eval, Act.put]) hap1 ?_
                      (try go_simp)
                      refine hK _ _ ?_
                      clear hK K
                      refine wpAny_ready (rs := [7]) (by kernel_rfl) (by simp) (AllReady.cons (o := ⟨some 49, .call { callee := .builtin .append, args := #[.tmp 45, .tmp 48], argTypes := #[32, 32] }, 32, "way.go:55", #[⟨3, .data⟩, ⟨6, .data⟩, ⟨3, .chain⟩], none⟩) rfl (fun K hK => ?_) AllReady.nil)
                      · refine step_append_run rfl _ _ _ _ rfl (by first | rfl | (simp [Act.eval]; done) | simp [Act.eval, Act.put]) (by first | rfl | (simp [Act.eval]; done) | simp [Act.eval, Act.put]) hap2 ?_
                        (try go_simp)
                        refine hK _ _ ?_
                        clear hK K
                        refine wpAny_ready (rs := [8]) (by kernel_rfl) (by simp) (AllReady.cons (o := ⟨some 5, .assign (.tmp 49), 32, "way.go:55", #[⟨7, .data⟩, ⟨7, .chain⟩, ⟨0, .phase⟩, ⟨1, .phase⟩, ⟨2, .phase⟩, ⟨3, .phase⟩, ⟨4, .phase⟩, ⟨5, .phase⟩, ⟨6, .phase⟩, ⟨7, .phase⟩], none⟩) rfl (fun K hK => ?_) AllReady.nil)
                        · go_simp
                          refine hK _ _ ?_
                          clear hK K
                          refine wpAny_done (by kernel_rfl) ?_ _
                          unfold onlyN
                          gi_wp2
                          refine ⟨⟨i + 1, n, _, _, _, _, _, _, _, _, _, _, _, _, _, _, _, _, _, _, _, _, _, _, _, _, _, _, _, _, _, _, _, _, _, _, _, _, _, _, _, _, _, _, _, by omega, by omega, by rw [Int.natCast_add]; rfl, HF.out a2 n2 c2 A3 hf1 hf2 hf3⟩, ?_⟩
                          simp [intOf]
                          omega
              · first | (obtain ⟨u, hlk, a2, n2, c2, A3, hap2, hf1, hf2, hf3⟩ := hq0; refine step_lookup_run rfl _ _ _ rfl (by first | rfl | (simp [Act.eval]; done) | simp [Act.eval, Act.put]) (by first | rfl | (simp [Act.eval]; done) | simp [Act.eval, Act.put]) hlk ?_) | (obtain ⟨u, hlk, a2, n2, c2, A3, hap2, hf1, hf2, hf3⟩ := hq1; refine step_lookup_run rfl _ _ _ rfl (by first | rfl | (simp [Act.eval]; done) | simp [Act.eval, Act.put]) (by first | rfl | (simp [Act.eval]; done) | simp [Act.eval, Act.put]) hlk ?_) | (obtain ⟨u, hlk, a2, n2, c2, A3, hap2, hf1, hf2, hf3⟩ := hq2; refine step_lookup_run rfl _ _ _ rfl (by first | rfl | (simp [Act.eval]; done) | simp [Act.eval, Act.put]) (by first | rfl | (simp [Act.eval]; done) | simp [Act.eval, Act.put]) hlk ?_)
                (try go_simp)
                refine hK _ _ ?_
                clear hK K
                refine wpAny_ready (rs := [1]) (by kernel_rfl) (by simp) (AllReady.cons (o := ⟨some 43, .load 3 (.tmp 7), 3, "way.go:55", #[], none⟩) rfl (fun K hK => ?_) AllReady.nil)
                · go_simp
                  refine hK _ _ ?_
                  clear hK K
                  refine wpAny_ready (rs := [2]) (by kernel_rfl) (by simp) (AllReady.cons (o := ⟨some 44, .buildSlice 32 1 #[(0, .tmp 43)], 32, "way.go:55", #[⟨1, .data⟩], none⟩) rfl (fun K hK => ?_) AllReady.nil)
                  · go_simp
                    refine hK _ _ ?_
                    clear hK K
                    refine wpAny_ready (rs := [3]) (by kernel_rfl) (by simp) (AllReady.cons (o := ⟨some 45, .call { callee := .builtin .append, args := #[.tmp 42, .tmp 44], argTypes := #[32, 32] }, 32, "way.go:55", #[⟨0, .data⟩, ⟨2, .data⟩], none⟩) rfl (fun K hK => ?_) AllReady.nil)
                    · refine step_append_run rfl _ _ _ _ rfl (by first | rfl | (simp [Act.eval]; done) | simp [Act.eval, Act.put]) (by first | rfl | (simp [Act.eval]; done) | simp [Act.eval, Act.put]) hap1 ?_
                      (try go_simp)
                      refine hK _ _ ?_
                      clear hK K
                      refine wpAny_ready (rs := [7]) (by kernel_rfl) (by simp) (AllReady.cons (o := ⟨some 49, .call { callee := .builtin .append, args := #[.tmp 45, .tmp 48], argTypes := #[32, 32] }, 32, "way.go:55", #[⟨3, .data⟩, ⟨6, .data⟩, ⟨3, .chain⟩], none⟩) rfl (fun K hK => ?_) AllReady.nil)
                      · refine step_append_run rfl _ _ _ _ rfl (by first | rfl | (simp [Act.eval]; done) | simp [Act.eval, Act.put]) (by first | rfl | (simp [Act.eval]; done) | simp [Act.eval, Act.put]) hap2 ?_
                        (try go_simp)
                        refine hK _ _ ?_
                        clear hK K
                        refine wpAny_ready (rs := [8]) (by kernel_rfl) (by simp) (AllReady.cons (o := ⟨some 5, .assign (.tmp 49), 32, "way.go:55", #[⟨7, .data⟩, ⟨7, .chain⟩, ⟨0, .phase⟩, ⟨1, .phase⟩, ⟨2, .phase⟩, ⟨3, .phase⟩, ⟨4, .phase⟩, ⟨5, .phase⟩, ⟨6, .phase⟩, ⟨7, .phase⟩], none⟩) rfl (fun K hK => ?_) AllReady.nil)
                        · go_simp
                          refine hK _ _ ?_
                          clear hK K
                          refine wpAny_done (by kernel_rfl) ?_ _
                          unfold onlyN
                          gi_wp2
                          refine ⟨⟨i + 1, n, _, _, _, _, _, _, _, _, _, _, _, _, _, _, _, _, _, _, _, _, _, _, _, _, _, _, _, _, _, _, _, _, _, _, _, _, _, _, _, _, _, _, _, by omega, by omega, by rw [Int.natCast_add]; rfl, HF.out a2 n2 c2 A3 hf1 hf2 hf3⟩, ?_⟩
                          simp [intOf]
                          omega
        case body =>
          intro l' k hk W' X hX ho hWs hl' hXs
          obtain ⟨hX1, hX2⟩ := hX
          have hTX := HT.out.1.stay (srU.trans hX2)
          have cb := hTX.cb
          have cw := hTX.cw
          obtain ⟨k0, k1, k2, k3, k4, k5, k6, k7⟩ := HBx.out X (Stay.trans sWU hX2)
          have hBX := (HM.out.2.2.1.keep (HT.out.1.bel.block _ hbl)).stay (srU.trans hX2)
          obtain ⟨Dm, hD, h2, h3'⟩ := hBX
          have hat0 := h3' ss[k]
          have hkey := keyS (hsh _ (List.getElem_mem hk))
          have hla := hlast X (srU.trans hX2)
          have HA1 : Hid (waitsS bs (i : Int) (ss.take (k + 1)) = decide ((i : Int) < firstAt bs ss[k])) := by
            show _ = _
            rw [waitsS_take hk, hX1, Bool.false_or]
          have HA2 : Hid ((i : Int) < firstAt bs ss[k] → waitsS bs (i : Int) ss = true) := waitsS_yes hk
          have HX : Hid (Stay U X ∧ TkI w bm (takeN bs ls i).1 (takeN bs ls i).2 n v X) := ⟨hX2, hTX⟩
          clear hX1 hX2 hTX h2 h3' ho hseq hlast
          generalize ss[k] = sk at *
          generalize firstAt bs sk = fa at *
          try dsimp only [encS] at *
          by_cases hlt2 : (i : Int) < fa
          · have hgt : decide (fa > (i : Int)) = true := by simpa using hlt2
            gi_wp2_with (first
              | (gi_at_lookup; refine wpListIn_lookup_own_int _ rfl _ _ _ rfl 9 3 .i64 lawS Try.underlying66 Try.underlying3 (zeroI _) bm _ Dm rfl hD _ _ rfl hkey ?_; intro c hat hwc; obtain rfl : fa = c := (by rw [hat0] at hat; simpa using hat); clear hat hwc)
              | (refine ⟨trivial, ?_⟩; gi_at_call 45; refine CallsIn.mono (CallsIn.inRound l' (callsIn_wide.2 hla)) ?_; rintro e w5 ⟨rfl, s5⟩))
            have hT5 := HX.out.2.stay s5
            have HG := fun W' (hW : Stay w5 W') => (hT5.stay hW).put (lastS bs ss) (i : Int) (WalkArith.wf_i64 (by omega)) (WalkArith.wf_i64 (by omega)) (by omega) 32
            have HF2 : Hid (∀ W' W3 : World, Stay w5 W' → TkI w bm (takeN bs ls i).1 (fun j => if j = lastS bs ss then (takeN bs ls i).2 (lastS bs ss) ++ [(i : Int)] else (takeN bs ls i).2 j) (n + 1) v W3 → W'.heap.size ≤ W3.heap.size → (∀ j, j ≠ w.heap.size + 1 → j < W'.heap.size → ¬ Tyd OwI W' j → W3.heap[j]? = W'.heap[j]?) → ∀ ac, listPost OwI U.heap.size (fun q => q < w.heap.size ∨ (q = b' ∧ wr.heap.size ≤ b' ∧ b' < U.heap.size ∧ ¬ Tyd OwI U b')) (fun k A => waitsS bs (i : Int) (ss.take k) = false ∧ Stay U A) (fun c k A => c = .exit 1 ∧ waitsS bs (i : Int) ss = true ∧ TkI w bm (takeN bs ls i).1 (fun j => if j = lastS bs ss then (takeN bs ls i).2 (lastS bs ss) ++ [(i : Int)] else (takeN bs ls i).2 j) (n + 1) v A ∧ U.heap.size ≤ A.heap.size ∧ ∀ j, V.heap.size ≤ j → j < U.heap.size → ¬ Tyd OwI U j → A.heap[j]? = U.heap[j]?) (k + 1) X (.exit 1) ac W3) := fun W' W3 hW h1 h2 h3 ac => by
              obtain ⟨sX, hTX⟩ := HX.out
              have sXW : Stay X W' := s5.trans hW
              have zXW := sXW.size
              have zUX := sX.size
              have same : ∀ q, q ≠ w.heap.size + 1 → q < X.heap.size → ¬ Tyd OwI X q → W3.heap[q]? = X.heap[q]? := fun q g1 g2 g3 => (h3 q g1 (by omega) (fun hT => g3 ((Tyd.same (sXW.block q g2)).1 hT))).trans (sXW.block q g2)
              refine ⟨fun q hq => ?_, by omega, rfl, HA2.out hlt2, h1, by omega, fun q g1 g2 g3 => (same q (by omega) (by omega) (fun hT => g3 ((Tyd.same (sX.block q g2)).1 hT))).trans (sX.block q g2)⟩
              rcases hq with (hq | ⟨rfl, g1, g2, g3⟩) | hq
              · exact (h1.bel.block q hq).trans (hTX.bel.block q hq).symm
              · exact same q (by omega) (by omega) (fun hT => g3 ((Tyd.same (sX.block q g2)).1 hT))
              · exact same q (by have := hq.1; omega) hq.2.1 hq.2.2
            have e0 := (HBx.out w5 ((Stay.trans sWU HX.out.1).trans s5)).1
            have e1 : w5.drew.cell? ⟨wr.heap.size, 0, none⟩ = some (.int .i64 (i : Int)) := (Stay.drew w5).cell e0
            have e2 : w5.drew.cell? ⟨w.heap.size + 1 + 1, 0, none⟩ = some (.map (some (w.heap.size + 1))) := (Stay.drew w5).cell hT5.cw
            have e3 : ∀ o, (w5.drew.alloc o).cell? ⟨w.heap.size + 1 + 1, 0, none⟩ = some (.map (some (w.heap.size + 1))) := fun o => (Stay.new _ o).cell e2
            have e4 : ∀ o, ((w5.alloc o).drew).cell? ⟨w.heap.size + 1 + 1, 0, none⟩ = some (.map (some (w.heap.size + 1))) := e3
            clear hT5 k0 k1 k2 k3 k4 k5 k6 k7 cb cw hla hD hat0 hkey e0 hgt
            obtain ⟨lst, hlst⟩ : ∃ lst, lst = lastS bs ss := ⟨_, rfl⟩
            rw [← hlst] at HG ⊢
            have HL : Hid (lst = lastS bs ss) := hlst
            clear hlst
            clear zU zWa zV
            refine region_round (by kernel_rfl) (by rfl) (by rintro ⟨a, w, h⟩; exact h) ?_
            refine wpAny_take (i := 1) (v := .int .i64 lst) rfl (by kernel_rfl) (by kernel_rfl) (by kernel_rfl) (fun _ _ _ h => h) (Or.inl ⟨by rfl, fun W => by first | (go_simp; done) | (go_simp; with_reducible rfl)⟩) ?_
            refine wpAny_take (i := 3) (v := .int .i64 lst) rfl (by kernel_rfl) (by kernel_rfl) (by kernel_rfl) (fun _ _ _ h => h) (Or.inl ⟨by rfl, fun W => by first | (go_simp; done) | (go_simp; with_reducible rfl)⟩) ?_
            refine wpAny_ready (rs := [0, 2, 5]) (by kernel_rfl) (by simp) (AllReady.cons (o := ⟨some 34, .load 90 (.tmp 6), 90, "way.go:51", #[], none⟩) rfl (fun K hK => ?_) (AllReady.cons (o := ⟨some 36, .load 90 (.tmp 6), 90, "way.go:51", #[], none⟩) rfl (fun K hK => ?_) (AllReady.cons (o := ⟨some 39, .load 3 (.tmp 7), 3, "way.go:51", #[], none⟩) rfl (fun K hK => ?_) AllReady.nil)))
            · go_simp
              refine hK _ _ ?_
              clear hK K
              refine wpAny_ready (rs := [2, 5]) (by kernel_rfl) (by simp) (AllReady.cons (o := ⟨some 36, .load 90 (.tmp 6), 90, "way.go:51", #[], none⟩) rfl (fun K hK => ?_) (AllReady.cons (o := ⟨some 39, .load 3 (.tmp 7), 3, "way.go:51", #[], none⟩) rfl (fun K hK => ?_) AllReady.nil))
              · go_simp
                refine hK _ _ ?_
                clear hK K
                refine wpAny_ready (rs := [4, 5]) (by kernel_rfl) (by simp) (AllReady.cons (o := ⟨some 38, .lookup 90 (.tmp 36) (.tmp 37) false, 32, "way.go:51", #[⟨2, .data⟩, ⟨3, .data⟩], none⟩) rfl (fun K hK => ?_) (AllReady.cons (o := ⟨some 39, .load 3 (.tmp 7), 3, "way.go:51", #[], none⟩) rfl (fun K hK => ?_) AllReady.nil))
                · first | (obtain ⟨u, hlk, hnext⟩ := HG w5.drew (Stay.drew w5); refine step_lookup_run rfl _ _ _ rfl (by first | rfl | (simp [Act.eval]; done) | simp [Act.eval, Act.put]) (by first | rfl | (simp [Act.eval]; done) | simp [Act.eval, Act.put]) hlk ?_) | (obtain ⟨u, hlk, hnext⟩ := HG (w5.drew.alloc (.cells #[.int .i64 (i : Int)] 3)) ((Stay.drew w5).alloc _); refine step_lookup_run rfl _ _ _ rfl (by first | rfl | (simp [Act.eval]; done) | simp [Act.eval, Act.put]) (by first | rfl | (simp [Act.eval]; done) | simp [Act.eval, Act.put]) hlk ?_)
                  (try go_simp)
                  refine hK _ _ ?_
                  clear hK K
                  refine wpAny_ready (rs := [5]) (by kernel_rfl) (by simp) (AllReady.cons (o := ⟨some 39, .load 3 (.tmp 7), 3, "way.go:51", #[], none⟩) rfl (fun K hK => ?_) AllReady.nil)
                  · go_simp
                    refine hK _ _ ?_
                    clear hK K
                    refine wpAny_ready (rs := [6]) (by kernel_rfl) (by simp) (AllReady.cons (o := ⟨some 40, .buildSlice 32 1 #[(0, .tmp 39)], 32, "way.go:51", #[⟨5, .data⟩], none⟩) rfl (fun K hK => ?_) AllReady.nil)
                    · go_simp
                      refine hK _ _ ?_
                      clear hK K
                      refine wpAny_ready (rs := [7]) (by kernel_rfl) (by simp) (AllReady.cons (o := ⟨some 41, .call { callee := .builtin .append, args := #[.tmp 38, .tmp 40], argTypes := #[32, 32] }, 32, "way.go:51", #[⟨4, .data⟩, ⟨6, .data⟩], none⟩) rfl (fun K hK => ?_) AllReady.nil)
                      · obtain ⟨a1, n1, c1, W2, W3, hap, f3, hup, hf1, hf2, hf3⟩ := hnext (w5.drew.alloc (.cells #[.int .i64 (i : Int)] 3)) w5.drew.heap.size (by first | exact Stay.refl _ | exact Stay.new _ _) (new_cell _ _ _)
                        refine step_append_run rfl _ _ _ _ rfl (by first | rfl | (simp [Act.eval]; done) | simp [Act.eval, Act.put]) (by first | rfl | (simp [Act.eval]; done) | simp [Act.eval, Act.put]) hap ?_
                        (try go_simp)
                        refine hK _ _ ?_
                        clear hK K
                        refine wpAny_ready (rs := [8]) (by kernel_rfl) (by simp) (AllReady.cons (o := ⟨none, .mapUpdate 90 (.tmp 34) (.tmp 35) (.tmp 41), 0, "way.go:51", #[⟨0, .data⟩, ⟨1, .data⟩, ⟨7, .data⟩, ⟨7, .chain⟩, ⟨0, .phase⟩, ⟨1, .phase⟩, ⟨2, .phase⟩, ⟨3, .phase⟩, ⟨4, .phase⟩, ⟨5, .phase⟩, ⟨6, .phase⟩, ⟨7, .phase⟩], none⟩) rfl (fun K hK => ?_) AllReady.nil)
                        · refine step_update_run rfl _ _ _ _ rfl (by first | rfl | (simp [Act.eval]; done) | simp [Act.eval, Act.put]) (by first | rfl | (simp [Act.eval]; done) | simp [Act.eval, Act.put]) (by first | rfl | (simp [Act.eval]; done) | simp [Act.eval, Act.put]) hup ?_
                          (try go_simp)
                          refine hK _ _ ?_
                          clear hK K
                          refine wpAny_done (by kernel_rfl) ?_ _
                          gi_wp2
                          rw [HL.out] at hf1
                          first | exact HF2.out w5.drew W3 (Stay.drew w5) hf1 hf2 hf3 _ | exact HF2.out _ W3 ((Stay.drew w5).alloc _) hf1 hf2 hf3 _
                · go_simp
                  refine hK _ _ ?_
                  clear hK K
                  refine wpAny_ready (rs := [4, 6]) (by kernel_rfl) (by simp) (AllReady.cons (o := ⟨some 38, .lookup 90 (.tmp 36) (.tmp 37) false, 32, "way.go:51", #[⟨2, .data⟩, ⟨3, .data⟩], none⟩) rfl (fun K hK => ?_) (AllReady.cons (o := ⟨some 40, .buildSlice 32 1 #[(0, .tmp 39)], 32, "way.go:51", #[⟨5, .data⟩], none⟩) rfl (fun K hK => ?_) AllReady.nil))
                  · first | (obtain ⟨u, hlk, hnext⟩ := HG w5.drew (Stay.drew w5); refine step_lookup_run rfl _ _ _ rfl (by first | rfl | (simp [Act.eval]; done) | simp [Act.eval, Act.put]) (by first | rfl | (simp [Act.eval]; done) | simp [Act.eval, Act.put]) hlk ?_) | (obtain ⟨u, hlk, hnext⟩ := HG (w5.drew.alloc (.cells #[.int .i64 (i : Int)] 3)) ((Stay.drew w5).alloc _); refine step_lookup_run rfl _ _ _ rfl (by first | rfl | (simp [Act.eval]; done) | simp [Act.eval, Act.put]) (by first | rfl | (simp [Act.eval]; done) | simp [Act.eval, Act.put]) hlk ?_)
                    (try go_simp)
                    refine hK _ _ ?_
                    clear hK K
                    refine wpAny_ready (rs := [6]) (by kernel_rfl) (by simp) (AllReady.cons (o := ⟨some 40, .buildSlice 32 1 #[(0, .tmp 39)], 32, "way.go:51", #[⟨5, .data⟩], none⟩) rfl (fun K hK => ?_) AllReady.nil)
                    · go_simp
                      refine hK _ _ ?_
                      clear hK K
                      refine wpAny_ready (rs := [7]) (by kernel_rfl) (by simp) (AllReady.cons (o := ⟨some 41, .call { callee := .builtin .append, args := #[.tmp 38, .tmp 40], argTypes := #[32, 32] }, 32, "way.go:51", #[⟨4, .data⟩, ⟨6, .data⟩], none⟩) rfl (fun K hK => ?_) AllReady.nil)
                      · obtain ⟨a1, n1, c1, W2, W3, hap, f3, hup, hf1, hf2, hf3⟩ := hnext (w5.drew.alloc (.cells #[.int .i64 (i : Int)] 3)) w5.drew.heap.size (by first | exact Stay.refl _ | exact Stay.new _ _) (new_cell _ _ _)
                        refine step_append_run rfl _ _ _ _ rfl (by first | rfl | (simp [Act.eval]; done) | simp [Act.eval, Act.put]) (by first | rfl | (simp [Act.eval]; done) | simp [Act.eval, Act.put]) hap ?_
                        (try go_simp)
                        refine hK _ _ ?_
                        clear hK K
                        refine wpAny_ready (rs := [8]) (by kernel_rfl) (by simp) (AllReady.cons (o := ⟨none, .mapUpdate 90 (.tmp 34) (.tmp 35) (.tmp 41), 0, "way.go:51", #[⟨0, .data⟩, ⟨1, .data⟩, ⟨7, .data⟩, ⟨7, .chain⟩, ⟨0, .phase⟩, ⟨1, .phase⟩, ⟨2, .phase⟩, ⟨3, .phase⟩, ⟨4, .phase⟩, ⟨5, .phase⟩, ⟨6, .phase⟩, ⟨7, .phase⟩], none⟩) rfl (fun K hK => ?_) AllReady.nil)
                        · refine step_update_run rfl _ _ _ _ rfl (by first | rfl | (simp [Act.eval]; done) | simp [Act.eval, Act.put]) (by first | rfl | (simp [Act.eval]; done) | simp [Act.eval, Act.put]) (by first | rfl | (simp [Act.eval]; done) | simp [Act.eval, Act.put]) hup ?_
                          (try go_simp)
                          refine hK _ _ ?_
                          clear hK K
                          refine wpAny_done (by kernel_rfl) ?_ _
                          gi_wp2
                          rw [HL.out] at hf1
                          first | exact HF2.out w5.drew W3 (Stay.drew w5) hf1 hf2 hf3 _ | exact HF2.out _ W3 ((Stay.drew w5).alloc _) hf1 hf2 hf3 _
                  · go_simp
                    refine hK _ _ ?_
                    clear hK K
                    refine wpAny_ready (rs := [4]) (by kernel_rfl) (by simp) (AllReady.cons (o := ⟨some 38, .lookup 90 (.tmp 36) (.tmp 37) false, 32, "way.go:51", #[⟨2, .data⟩, ⟨3, .data⟩], none⟩) rfl (fun K hK => ?_) AllReady.nil)
                    · first | (obtain ⟨u, hlk, hnext⟩ := HG w5.drew (Stay.drew w5); refine step_lookup_run rfl _ _ _ rfl (by first | rfl | (simp [Act.eval]; done) | simp [Act.eval, Act.put]) (by first | rfl | (simp [Act.eval]; done) | simp [Act.eval, Act.put]) hlk ?_) | (obtain ⟨u, hlk, hnext⟩ := HG (w5.drew.alloc (.cells #[.int .i64 (i : Int)] 3)) ((Stay.drew w5).alloc _); refine step_lookup_run rfl _ _ _ rfl (by first | rfl | (simp [Act.eval]; done) | simp [Act.eval, Act.put]) (by first | rfl | (simp [Act.eval]; done) | simp [Act.eval, Act.put]) hlk ?_)
                      (try go_simp)
                      refine hK _ _ ?_
                      clear hK K
                      refine wpAny_ready (rs := [7]) (by kernel_rfl) (by simp) (AllReady.cons (o := ⟨some 41, .call { callee := .builtin .append, args := #[.tmp 38, .tmp 40], argTypes := #[32, 32] }, 32, "way.go:51", #[⟨4, .data⟩, ⟨6, .data⟩], none⟩) rfl (fun K hK => ?_) AllReady.nil)
                      · obtain ⟨a1, n1, c1, W2, W3, hap, f3, hup, hf1, hf2, hf3⟩ := hnext (w5.drew.alloc (.cells #[.int .i64 (i : Int)] 3)) w5.drew.heap.size (by first | exact Stay.refl _ | exact Stay.new _ _) (new_cell _ _ _)
                        refine step_append_run rfl _ _ _ _ rfl (by first | rfl | (simp [Act.eval]; done) | simp [Act.eval, Act.put]) (by first | rfl | (simp [Act.eval]; done) | simp [Act.eval, Act.put]) hap ?_
                        (try go_simp)
                        refine hK _ _ ?_
                        clear hK K
                        refine wpAny_ready (rs := [8]) (by kernel_rfl) (by simp) (AllReady.cons (o := ⟨none, .mapUpdate 90 (.tmp 34) (.tmp 35) (.tmp 41), 0, "way.go:51", #[⟨0, .data⟩, ⟨1, .data⟩, ⟨7, .data⟩, ⟨7, .chain⟩, ⟨0, .phase⟩, ⟨1, .phase⟩, ⟨2, .phase⟩, ⟨3, .phase⟩, ⟨4, .phase⟩, ⟨5, .phase⟩, ⟨6, .phase⟩, ⟨7, .phase⟩], none⟩) rfl (fun K hK => ?_) AllReady.nil)
                        · refine step_update_run rfl _ _ _ _ rfl (by first | rfl | (simp [Act.eval]; done) | simp [Act.eval, Act.put]) (by first | rfl | (simp [Act.eval]; done) | simp [Act.eval, Act.put]) (by first | rfl | (simp [Act.eval]; done) | simp [Act.eval, Act.put]) hup ?_
                          (try go_simp)
                          refine hK _ _ ?_
                          clear hK K
                          refine wpAny_done (by kernel_rfl) ?_ _
                          gi_wp2
                          rw [HL.out] at hf1
                          first | exact HF2.out w5.drew W3 (Stay.drew w5) hf1 hf2 hf3 _ | exact HF2.out _ W3 ((Stay.drew w5).alloc _) hf1 hf2 hf3 _
              · go_simp
                refine hK _ _ ?_
                clear hK K
                refine wpAny_ready (rs := [2, 6]) (by kernel_rfl) (by simp) (AllReady.cons (o := ⟨some 36, .load 90 (.tmp 6), 90, "way.go:51", #[], none⟩) rfl (fun K hK => ?_) (AllReady.cons (o := ⟨some 40, .buildSlice 32 1 #[(0, .tmp 39)], 32, "way.go:51", #[⟨5, .data⟩], none⟩) rfl (fun K hK => ?_) AllReady.nil))
                · go_simp
                  refine hK _ _ ?_
                  clear hK K
                  refine wpAny_ready (rs := [4, 6]) (by kernel_rfl) (by simp) (AllReady.cons (o := ⟨some 38, .lookup 90 (.tmp 36) (.tmp 37) false, 32, "way.go:51", #[⟨2, .data⟩, ⟨3, .data⟩], none⟩) rfl (fun K hK => ?_) (AllReady.cons (o := ⟨some 40, .buildSlice 32 1 #[(0, .tmp 39)], 32, "way.go:51", #[⟨5, .data⟩], none⟩) rfl (fun K hK => ?_) AllReady.nil))
                  · first | (obtain ⟨u, hlk, hnext⟩ := HG w5.drew (Stay.drew w5); refine step_lookup_run rfl _ _ _ rfl (by first | rfl | (simp [Act.eval]; done) | simp [Act.eval, Act.put]) (by first | rfl | (simp [Act.eval]; done) | simp [Act.eval, Act.put]) hlk ?_) | (obtain ⟨u, hlk, hnext⟩ := HG (w5.drew.alloc (.cells #[.int .i64 (i : Int)] 3)) ((Stay.drew w5).alloc _); refine step_lookup_run rfl _ _ _ rfl (by first | rfl | (simp [Act.eval]; done) | simp [Act.eval, Act.put]) (by first | rfl | (simp [Act.eval]; done) | simp [Act.eval, Act.put]) hlk ?_)
                    (try go_simp)
                    refine hK _ _ ?_
                    clear hK K
                    refine wpAny_ready (rs := [6]) (by kernel_rfl) (by simp) (AllReady.cons (o := ⟨some 40, .buildSlice 32 1 #[(0, .tmp 39)], 32, "way.go:51", #[⟨5, .data⟩], none⟩) rfl (fun K hK => ?_) AllReady.nil)
                    · go_simp
                      refine hK _ _ ?_
                      clear hK K
                      refine wpAny_ready (rs := [7]) (by kernel_rfl) (by simp) (AllReady.cons (o := ⟨some 41, .call { callee := .builtin .append, args := #[.tmp 38, .tmp 40], argTypes := #[32, 32] }, 32, "way.go:51", #[⟨4, .data⟩, ⟨6, .data⟩], none⟩) rfl (fun K hK => ?_) AllReady.nil)
                      · obtain ⟨a1, n1, c1, W2, W3, hap, f3, hup, hf1, hf2, hf3⟩ := hnext (w5.drew.alloc (.cells #[.int .i64 (i : Int)] 3)) w5.drew.heap.size (by first | exact Stay.refl _ | exact Stay.new _ _) (new_cell _ _ _)
                        refine step_append_run rfl _ _ _ _ rfl (by first | rfl | (simp [Act.eval]; done) | simp [Act.eval, Act.put]) (by first | rfl | (simp [Act.eval]; done) | simp [Act.eval, Act.put]) hap ?_
                        (try go_simp)
                        refine hK _ _ ?_
                        clear hK K
                        refine wpAny_ready (rs := [8]) (by kernel_rfl) (by simp) (AllReady.cons (o := ⟨none, .mapUpdate 90 (.tmp 34) (.tmp 35) (.tmp 41), 0, "way.go:51", #[⟨0, .data⟩, ⟨1, .data⟩, ⟨7, .data⟩, ⟨7, .chain⟩, ⟨0, .phase⟩, ⟨1, .phase⟩, ⟨2, .phase⟩, ⟨3, .phase⟩, ⟨4, .phase⟩, ⟨5, .phase⟩, ⟨6, .phase⟩, ⟨7, .phase⟩], none⟩) rfl (fun K hK => ?_) AllReady.nil)
                        · refine step_update_run rfl _ _ _ _ rfl (by first | rfl | (simp [Act.eval]; done) | simp [Act.eval, Act.put]) (by first | rfl | (simp [Act.eval]; done) | simp [Act.eval, Act.put]) (by first | rfl | (simp [Act.eval]; done) | simp [Act.eval, Act.put]) hup ?_
                          (try go_simp)
                          refine hK _ _ ?_
                          clear hK K
                          refine wpAny_done (by kernel_rfl) ?_ _
                          gi_wp2
                          rw [HL.out] at hf1
                          first | exact HF2.out w5.drew W3 (Stay.drew w5) hf1 hf2 hf3 _ | exact HF2.out _ W3 ((Stay.drew w5).alloc _) hf1 hf2 hf3 _
                  · go_simp
                    refine hK _ _ ?_
                    clear hK K
                    refine wpAny_ready (rs := [4]) (by kernel_rfl) (by simp) (AllReady.cons (o := ⟨some 38, .lookup 90 (.tmp 36) (.tmp 37) false, 32, "way.go:51", #[⟨2, .data⟩, ⟨3, .data⟩], none⟩) rfl (fun K hK => ?_) AllReady.nil)
                    · first | (obtain ⟨u, hlk, hnext⟩ := HG w5.drew (Stay.drew w5); refine step_lookup_run rfl _ _ _ rfl (by first | rfl | (simp [Act.eval]; done) | simp [Act.eval, Act.put]) (by first | rfl | (simp [Act.eval]; done) | simp [Act.eval, Act.put]) hlk ?_) | (obtain ⟨u, hlk, hnext⟩ := HG (w5.drew.alloc (.cells #[.int .i64 (i : Int)] 3)) ((Stay.drew w5).alloc _); refine step_lookup_run rfl _ _ _ rfl (by first | rfl | (simp [Act.eval]; done) | simp [Act.eval, Act.put]) (by first | rfl | (simp [Act.eval]; done) | simp [Act.eval, Act.put]) hlk ?_)
                      (try go_simp)
                      refine hK _ _ ?_
                      clear hK K
                      refine wpAny_ready (rs := [7]) (by kernel_rfl) (by simp) (AllReady.cons (o := ⟨some 41, .call { callee := .builtin .append, args := #[.tmp 38, .tmp 40], argTypes := #[32, 32] }, 32, "way.go:51", #[⟨4, .data⟩, ⟨6, .data⟩], none⟩) rfl (fun K hK => ?_) AllReady.nil)
                      · obtain ⟨a1, n1, c1, W2, W3, hap, f3, hup, hf1, hf2, hf3⟩ := hnext (w5.drew.alloc (.cells #[.int .i64 (i : Int)] 3)) w5.drew.heap.size (by first | exact Stay.refl _ | exact Stay.new _ _) (new_cell _ _ _)
                        refine step_append_run rfl _ _ _ _ rfl (by first | rfl | (simp [Act.eval]; done) | simp [Act.eval, Act.put]) (by first | rfl | (simp [Act.eval]; done) | simp [Act.eval, Act.put]) hap ?_
                        (try go_simp)
                        refine hK _ _ ?_
                        clear hK K
                        refine wpAny_ready (rs := [8]) (by kernel_rfl) (by simp) (AllReady.cons (o := ⟨none, .mapUpdate 90 (.tmp 34) (.tmp 35) (.tmp 41), 0, "way.go:51", #[⟨0, .data⟩, ⟨1, .data⟩, ⟨7, .data⟩, ⟨7, .chain⟩, ⟨0, .phase⟩, ⟨1, .phase⟩, ⟨2, .phase⟩, ⟨3, .phase⟩, ⟨4, .phase⟩, ⟨5, .phase⟩, ⟨6, .phase⟩, ⟨7, .phase⟩], none⟩) rfl (fun K hK => ?_) AllReady.nil)
                        · refine step_update_run rfl _ _ _ _ rfl (by first | rfl | (simp [Act.eval]; done) | simp [Act.eval, Act.put]) (by first | rfl | (simp [Act.eval]; done) | simp [Act.eval, Act.put]) (by first | rfl | (simp [Act.eval]; done) | simp [Act.eval, Act.put]) hup ?_
                          (try go_simp)
                          refine hK _ _ ?_
                          clear hK K
                          refine wpAny_done (by kernel_rfl) ?_ _
                          gi_wp2
                          rw [HL.out] at hf1
                          first | exact HF2.out w5.drew W3 (Stay.drew w5) hf1 hf2 hf3 _ | exact HF2.out _ W3 ((Stay.drew w5).alloc _) hf1 hf2 hf3 _
                · go_simp
                  refine hK _ _ ?_
                  clear hK K
                  refine wpAny_ready (rs := [2]) (by kernel_rfl) (by simp) (AllReady.cons (o := ⟨some 36, .load 90 (.tmp 6), 90, "way.go:51", #[], none⟩) rfl (fun K hK => ?_) AllReady.nil)
                  · go_simp
                    refine hK _ _ ?_
                    clear hK K
                    refine wpAny_ready (rs := [4]) (by kernel_rfl) (by simp) (AllReady.cons (o := ⟨some 38, .lookup 90 (.tmp 36) (.tmp 37) false, 32, "way.go:51", #[⟨2, .data⟩, ⟨3, .data⟩], none⟩) rfl (fun K hK => ?_) AllReady.nil)
                    · first | (obtain ⟨u, hlk, hnext⟩ := HG w5.drew (Stay.drew w5); refine step_lookup_run rfl _ _ _ rfl (by first | rfl | (simp [Act.eval]; done) | simp [Act.eval, Act.put]) (by first | rfl | (simp [Act.eval]; done) | simp [Act.eval, Act.put]) hlk ?_) | (obtain ⟨u, hlk, hnext⟩ := HG (w5.drew.alloc (.cells #[.int .i64 (i : Int)] 3)) ((Stay.drew w5).alloc _); refine step_lookup_run rfl _ _ _ rfl (by first | rfl | (simp [Act.eval]; done) | simp [Act.eval, Act.put]) (by first | rfl | (simp [Act.eval]; done) | simp [Act.eval, Act.put]) hlk ?_)
                      (try go_simp)
                      refine hK _ _ ?_
                      clear hK K
                      refine wpAny_ready (rs := [7]) (by kernel_rfl) (by simp) (AllReady.cons (o := ⟨some 41, .call { callee := .builtin .append, args := #[.tmp 38, .tmp 40], argTypes := #[32, 32] }, 32, "way.go:51", #[⟨4, .data⟩, ⟨6, .data⟩], none⟩) rfl (fun K hK => ?_) AllReady.nil)
                      · obtain ⟨a1, n1, c1, W2, W3, hap, f3, hup, hf1, hf2, hf3⟩ := hnext (w5.drew.alloc (.cells #[.int .i64 (i : Int)] 3)) w5.drew.heap.size (by first | exact Stay.refl _ | exact Stay.new _ _) (new_cell _ _ _)
                        refine step_append_run rfl _ _ _ _ rfl (by first | rfl | (simp [Act.eval]; done) | simp [Act.eval, Act.put]) (by first | rfl | (simp [Act.eval]; done) | simp [Act.eval, Act.put]) hap ?_
                        (try go_simp)
                        refine hK _ _ ?_
                        clear hK K
                        refine wpAny_ready (rs := [8]) (by kernel_rfl) (by simp) (AllReady.cons (o := ⟨none, .mapUpdate 90 (.tmp 34) (.tmp 35) (.tmp 41), 0, "way.go:51", #[⟨0, .data⟩, ⟨1, .data⟩, ⟨7, .data⟩, ⟨7, .chain⟩, ⟨0, .phase⟩, ⟨1, .phase⟩, ⟨2, .phase⟩, ⟨3, .phase⟩, ⟨4, .phase⟩, ⟨5, .phase⟩, ⟨6, .phase⟩, ⟨7, .phase⟩], none⟩) rfl (fun K hK => ?_) AllReady.nil)
                        · refine step_update_run rfl _ _ _ _ rfl (by first | rfl | (simp [Act.eval]; done) | simp [Act.eval, Act.put]) (by first | rfl | (simp [Act.eval]; done) | simp [Act.eval, Act.put]) (by first | rfl | (simp [Act.eval]; done) | simp [Act.eval, Act.put]) hup ?_
                          (try go_simp)
                          refine hK _ _ ?_
                          clear hK K
                          refine wpAny_done (by kernel_rfl) ?_ _
                          gi_wp2
                          rw [HL.out] at hf1
                          first | exact HF2.out w5.drew W3 (Stay.drew w5) hf1 hf2 hf3 _ | exact HF2.out _ W3 ((Stay.drew w5).alloc _) hf1 hf2 hf3 _
            · go_simp
              refine hK _ _ ?_
              clear hK K
              refine wpAny_ready (rs := [0, 4, 5]) (by kernel_rfl) (by simp) (AllReady.cons (o := ⟨some 34, .load 90 (.tmp 6), 90, "way.go:51", #[], none⟩) rfl (fun K hK => ?_) (AllReady.cons (o := ⟨some 38, .lookup 90 (.tmp 36) (.tmp 37) false, 32, "way.go:51", #[⟨2, .data⟩, ⟨3, .data⟩], none⟩) rfl (fun K hK => ?_) (AllReady.cons (o := ⟨some 39, .load 3 (.tmp 7), 3, "way.go:51", #[], none⟩) rfl (fun K hK => ?_) AllReady.nil)))
              · go_simp
                refine hK _ _ ?_
                clear hK K
                refine wpAny_ready (rs := [4, 5]) (by kernel_rfl) (by simp) (AllReady.cons (o := ⟨some 38, .lookup 90 (.tmp 36) (.tmp 37) false, 32, "way.go:51", #[⟨2, .data⟩, ⟨3, .data⟩], none⟩) rfl (fun K hK => ?_) (AllReady.cons (o := ⟨some 39, .load 3 (.tmp 7), 3, "way.go:51", #[], none⟩) rfl (fun K hK => ?_) AllReady.nil))
                · first | (obtain ⟨u, hlk, hnext⟩ := HG w5.drew (Stay.drew w5); refine step_lookup_run rfl _ _ _ rfl (by first | rfl | (simp [Act.eval]; done) | simp [Act.eval, Act.put]) (by first | rfl | (simp [Act.eval]; done) | simp [Act.eval, Act.put]) hlk ?_) | (obtain ⟨u, hlk, hnext⟩ := HG (w5.drew.alloc (.cells #[.int .i64 (i : Int)] 3)) ((Stay.drew w5).alloc _); refine step_lookup_run rfl _ _ _ rfl (by first | rfl | (simp [Act.eval]; done) | simp [Act.eval, Act.put]) (by first | rfl | (simp [Act.eval]; done) | simp [Act.eval, Act.put]) hlk ?_)
                  (try go_simp)
                  refine hK _ _ ?_
                  clear hK K
                  refine wpAny_ready (rs := [5]) (by kernel_rfl) (by simp) (AllReady.cons (o := ⟨some 39, .load 3 (.tmp 7), 3, "way.go:51", #[], none⟩) rfl (fun K hK => ?_) AllReady.nil)
                  · go_simp
                    refine hK _ _ ?_
                    clear hK K
                    refine wpAny_ready (rs := [6]) (by kernel_rfl) (by simp) (AllReady.cons (o := ⟨some 40, .buildSlice 32 1 #[(0, .tmp 39)], 32, "way.go:51", #[⟨5, .data⟩], none⟩) rfl (fun K hK => ?_) AllReady.nil)
                    · go_simp
                      refine hK _ _ ?_
                      clear hK K
                      refine wpAny_ready (rs := [7]) (by kernel_rfl) (by simp) (AllReady.cons (o := ⟨some 41, .call { callee := .builtin .append, args := #[.tmp 38, .tmp 40], argTypes := #[32, 32] }, 32, "way.go:51", #[⟨4, .data⟩, ⟨6, .data⟩], none⟩) rfl (fun K hK => ?_) AllReady.nil)
                      · obtain ⟨a1, n1, c1, W2, W3, hap, f3, hup, hf1, hf2, hf3⟩ := hnext (w5.drew.alloc (.cells #[.int .i64 (i : Int)] 3)) w5.drew.heap.size (by first | exact Stay.refl _ | exact Stay.new _ _) (new_cell _ _ _)
                        refine step_append_run rfl _ _ _ _ rfl (by first | rfl | (simp [Act.eval]; done) | simp [Act.eval, Act.put]) (by first | rfl | (simp [Act.eval]; done) | simp [Act.eval, Act.put]) hap ?_
                        (try go_simp)
                        refine hK _ _ ?_
                        clear hK K
                        refine wpAny_ready (rs := [8]) (by kernel_rfl) (by simp) (AllReady.cons (o := ⟨none, .mapUpdate 90 (.tmp 34) (.tmp 35) (.tmp 41), 0, "way.go:51", #[⟨0, .data⟩, ⟨1, .data⟩, ⟨7, .data⟩, ⟨7, .chain⟩, ⟨0, .phase⟩, ⟨1, .phase⟩, ⟨2, .phase⟩, ⟨3, .phase⟩, ⟨4, .phase⟩, ⟨5, .phase⟩, ⟨6, .phase⟩, ⟨7, .phase⟩], none⟩) rfl (fun K hK => ?_) AllReady.nil)
                        · refine step_update_run rfl _ _ _ _ rfl (by first | rfl | (simp [Act.eval]; done) | simp [Act.eval, Act.put]) (by first | rfl | (simp [Act.eval]; done) | simp [Act.eval, Act.put]) (by first | rfl | (simp [Act.eval]; done) | simp [Act.eval, Act.put]) hup ?_
                          (try go_simp)
                          refine hK _ _ ?_
                          clear hK K
                          refine wpAny_done (by kernel_rfl) ?_ _
                          gi_wp2
                          rw [HL.out] at hf1
                          first | exact HF2.out w5.drew W3 (Stay.drew w5) hf1 hf2 hf3 _ | exact HF2.out _ W3 ((Stay.drew w5).alloc _) hf1 hf2 hf3 _
                · go_simp
                  refine hK _ _ ?_
                  clear hK K
                  refine wpAny_ready (rs := [4, 6]) (by kernel_rfl) (by simp) (AllReady.cons (o := ⟨some 38, .lookup 90 (.tmp 36) (.tmp 37) false, 32, "way.go:51", #[⟨2, .data⟩, ⟨3, .data⟩], none⟩) rfl (fun K hK => ?_) (AllReady.cons (o := ⟨some 40, .buildSlice 32 1 #[(0, .tmp 39)], 32, "way.go:51", #[⟨5, .data⟩], none⟩) rfl (fun K hK => ?_) AllReady.nil))
                  · first | (obtain ⟨u, hlk, hnext⟩ := HG w5.drew (Stay.drew w5); refine step_lookup_run rfl _ _ _ rfl (by first | rfl | (simp [Act.eval]; done) | simp [Act.eval, Act.put]) (by first | rfl | (simp [Act.eval]; done) | simp [Act.eval, Act.put]) hlk ?_) | (obtain ⟨u, hlk, hnext⟩ := HG (w5.drew.alloc (.cells #[.int .i64 (i : Int)] 3)) ((Stay.drew w5).alloc _); refine step_lookup_run rfl _ _ _ rfl (by first | rfl | (simp [Act.eval]; done) | simp [Act.eval, Act.put]) (by first | rfl | (simp [Act.eval]; done) | simp [Act.eval, Act.put]) hlk ?_)
                    (try go_simp)
                    refine hK _ _ ?_
                    clear hK K
                    refine wpAny_ready (rs := [6]) (by kernel_rfl) (by simp) (AllReady.cons (o := ⟨some 40, .buildSlice 32 1 #[(0, .tmp 39)], 32, "way.go:51", #[⟨5, .data⟩], none⟩) rfl (fun K hK => ?_) AllReady.nil)
                    · go_simp
                      refine hK _ _ ?_
                      clear hK K
                      refine wpAny_ready (rs := [7]) (by kernel_rfl) (by simp) (AllReady.cons (o := ⟨some 41, .call { callee := .builtin .append, args := #[.tmp 38, .tmp 40], argTypes := #[32, 32] }, 32, "way.go:51", #[⟨4, .data⟩, ⟨6, .data⟩], none⟩) rfl (fun K hK => ?_) AllReady.nil)
                      · obtain ⟨a1, n1, c1, W2, W3, hap, f3, hup, hf1, hf2, hf3⟩ := hnext (w5.drew.alloc (.cells #[.int .i64 (i : Int)] 3)) w5.drew.heap.size (by first | exact Stay.refl _ | exact Stay.new _ _) (new_cell _ _ _)
                        refine step_append_run rfl _ _ _ _ rfl (by first | rfl | (simp [Act.eval]; done) | simp [Act.eval, Act.put]) (by first | rfl | (simp [Act.eval]; done) | simp [Act.eval, Act.put]) hap ?_
                        (try go_simp)
                        refine hK _ _ ?_
                        clear hK K
                        refine wpAny_ready (rs := [8]) (by kernel_rfl) (by simp) (AllReady.cons (o := ⟨none, .mapUpdate 90 (.tmp 34) (.tmp 35) (.tmp 41), 0, "way.go:51", #[⟨0, .data⟩, ⟨1, .data⟩, ⟨7, .data⟩, ⟨7, .chain⟩, ⟨0, .phase⟩, ⟨1, .phase⟩, ⟨2, .phase⟩, ⟨3, .phase⟩, ⟨4, .phase⟩, ⟨5, .phase⟩, ⟨6, .phase⟩, ⟨7, .phase⟩], none⟩) rfl (fun K hK => ?_) AllReady.nil)
                        · refine step_update_run rfl _ _ _ _ rfl (by first | rfl | (simp [Act.eval]; done) | simp [Act.eval, Act.put]) (by first | rfl | (simp [Act.eval]; done) | simp [Act.eval, Act.put]) (by first | rfl | (simp [Act.eval]; done) | simp [Act.eval, Act.put]) hup ?_
                          (try go_simp)
                          refine hK _ _ ?_
                          clear hK K
                          refine wpAny_done (by kernel_rfl) ?_ _
                          gi_wp2
                          rw [HL.out] at hf1
                          first | exact HF2.out w5.drew W3 (Stay.drew w5) hf1 hf2 hf3 _ | exact HF2.out _ W3 ((Stay.drew w5).alloc _) hf1 hf2 hf3 _
                  · go_simp
                    refine hK _ _ ?_
                    clear hK K
                    refine wpAny_ready (rs := [4]) (by kernel_rfl) (by simp) (AllReady.cons (o := ⟨some 38, .lookup 90 (.tmp 36) (.tmp 37) false, 32, "way.go:51", #[⟨2, .data⟩, ⟨3, .data⟩], none⟩) rfl (fun K hK => ?_) AllReady.nil)
                    · first | (obtain ⟨u, hlk, hnext⟩ := HG w5.drew (Stay.drew w5); refine step_lookup_run rfl _ _ _ rfl (by first | rfl | (simp [Act.eval]; done) | simp [Act.eval, Act.put]) (by first | rfl | (simp [Act.eval]; done) | simp [Act.eval, Act.put]) hlk ?_) | (obtain ⟨u, hlk, hnext⟩ := HG (w5.drew.alloc (.cells #[.int .i64 (i : Int)] 3)) ((Stay.drew w5).alloc _); refine step_lookup_run rfl _ _ _ rfl (by first | rfl | (simp [Act.eval]; done) | simp [Act.eval, Act.put]) (by first | rfl | (simp [Act.eval]; done) | simp [Act.eval, Act.put]) hlk ?_)
                      (try go_simp)
                      refine hK _ _ ?_
                      clear hK K
                      refine wpAny_ready (rs := [7]) (by kernel_rfl) (by simp) (AllReady.cons (o := ⟨some 41, .call { callee := .builtin .append, args := #[.tmp 38, .tmp 40], argTypes := #[32, 32] }, 32, "way.go:51", #[⟨4, .data⟩, ⟨6, .data⟩], none⟩) rfl (fun K hK => ?_) AllReady.nil)
                      · obtain ⟨a1, n1, c1, W2, W3, hap, f3, hup, hf1, hf2, hf3⟩ := hnext (w5.drew.alloc (.cells #[.int .i64 (i : Int)] 3)) w5.drew.heap.size (by first | exact Stay.refl _ | exact Stay.new _ _) (new_cell _ _ _)
                        refine step_append_run rfl _ _ _ _ rfl (by first | rfl | (simp [Act.eval]; done) | simp [Act.eval, Act.put]) (by first | rfl | (simp [Act.eval]; done) | simp [Act.eval, Act.put]) hap ?_
                        (try go_simp)
                        refine hK _ _ ?_
                        clear hK K
                        refine wpAny_ready (rs := [8]) (by kernel_rfl) (by simp) (AllReady.cons (o := ⟨none, .mapUpdate 90 (.tmp 34) (.tmp 35) (.tmp 41), 0, "way.go:51", #[⟨0, .data⟩, ⟨1, .data⟩, ⟨7, .data⟩, ⟨7, .chain⟩, ⟨0, .phase⟩, ⟨1, .phase⟩, ⟨2, .phase⟩, ⟨3, .phase⟩, ⟨4, .phase⟩, ⟨5, .phase⟩, ⟨6, .phase⟩, ⟨7, .phase⟩], none⟩) rfl (fun K hK => ?_) AllReady.nil)
                        · refine step_update_run rfl _ _ _ _ rfl (by first | rfl | (simp [Act.eval]; done) | simp [Act.eval, Act.put]) (by first | rfl | (simp [Act.eval]; done) | simp [Act.eval, Act.put]) (by first | rfl | (simp [Act.eval]; done) | simp [Act.eval, Act.put]) hup ?_
                          (try go_simp)
                          refine hK _ _ ?_
                          clear hK K
                          refine wpAny_done (by kernel_rfl) ?_ _
                          gi_wp2
                          rw [HL.out] at hf1
                          first | exact HF2.out w5.drew W3 (Stay.drew w5) hf1 hf2 hf3 _ | exact HF2.out _ W3 ((Stay.drew w5).alloc _) hf1 hf2 hf3 _
              · first | (obtain ⟨u, hlk, hnext⟩ := HG w5.drew (Stay.drew w5); refine step_lookup_run rfl _ _ _ rfl (by first | rfl | (simp [Act.eval]; done) | simp [Act.eval, Act.put]) (by first | rfl | (simp [Act.eval]; done) | simp [Act.eval, Act.put]) hlk ?_) | (obtain ⟨u, hlk, hnext⟩ := HG (w5.drew.alloc (.cells #[.int .i64 (i : Int)] 3)) ((Stay.drew w5).alloc _); refine step_lookup_run rfl _ _ _ rfl (by first | rfl | (simp [Act.eval]; done) | simp [Act.eval, Act.put]) (by first | rfl | (simp [Act.eval]; done) | simp [Act.eval, Act.put]) hlk ?_)
                (try go_simp)
                refine hK _ _ ?_
                clear hK K
                refine wpAny_ready (rs := [0, 5]) (by kernel_rfl) (by simp) (AllReady.cons (o := ⟨some 34, .load 90 (.tmp 6), 90, "way.go:51", #[], none⟩) rfl (fun K hK => ?_) (AllReady.cons (o := ⟨some 39, .load 3 (.tmp 7), 3, "way.go:51", #[], none⟩) rfl (fun K hK => ?_) AllReady.nil))
                · go_simp
                  refine hK _ _ ?_
                  clear hK K
                  refine wpAny_ready (rs := [5]) (by kernel_rfl) (by simp) (AllReady.cons (o := ⟨some 39, .load 3 (.tmp 7), 3, "way.go:51", #[], none⟩) rfl (fun K hK => ?_) AllReady.nil)
                  · go_simp
                    refine hK _ _ ?_
                    clear hK K
                    refine wpAny_ready (rs := [6]) (by kernel_rfl) (by simp) (AllReady.cons (o := ⟨some 40, .buildSlice 32 1 #[(0, .tmp 39)], 32, "way.go:51", #[⟨5, .data⟩], none⟩) rfl (fun K hK => ?_) AllReady.nil)
                    · go_simp
                      refine hK _ _ ?_
                      clear hK K
                      refine wpAny_ready (rs := [7]) (by kernel_rfl) (by simp) (AllReady.cons (o := ⟨some 41, .call { callee := .builtin .append, args := #[.tmp 38, .tmp 40], argTypes := #[32, 32] }, 32, "way.go:51", #[⟨4, .data⟩, ⟨6, .data⟩], none⟩) rfl (fun K hK => ?_) AllReady.nil)
                      · obtain ⟨a1, n1, c1, W2, W3, hap, f3, hup, hf1, hf2, hf3⟩ := hnext (w5.drew.alloc (.cells #[.int .i64 (i : Int)] 3)) w5.drew.heap.size (by first | exact Stay.refl _ | exact Stay.new _ _) (new_cell _ _ _)
                        refine step_append_run rfl _ _ _ _ rfl (by first | rfl | (simp [Act.eval]; done) | simp [Act.eval, Act.put]) (by first | rfl | (simp [Act.eval]; done) | simp [Act.eval, Act.put]) hap ?_
                        (try go_simp)
                        refine hK _ _ ?_
                        clear hK K
                        refine wpAny_ready (rs := [8]) (by kernel_rfl) (by simp) (AllReady.cons (o := ⟨none, .mapUpdate 90 (.tmp 34) (.tmp 35) (.tmp 41), 0, "way.go:51", #[⟨0, .data⟩, ⟨1, .data⟩, ⟨7, .data⟩, ⟨7, .chain⟩, ⟨0, .phase⟩, ⟨1, .phase⟩, ⟨2, .phase⟩, ⟨3, .phase⟩, ⟨4, .phase⟩, ⟨5, .phase⟩, ⟨6, .phase⟩, ⟨7, .phase⟩], none⟩) rfl (fun K hK => ?_) AllReady.nil)
                        · refine step_update_run rfl _ _ _ _ rfl (by first | rfl | (simp [Act.eval]; done) | simp [Act.eval, Act.put]) (by first | rfl | (simp [Act.eval]; done) | simp [Act.eval, Act.put]) (by first | rfl | (simp [Act.eval]; done) | simp [Act.eval, Act.put]) hup ?_
                          (try go_simp)
                          refine hK _ _ ?_
                          clear hK K
                          refine wpAny_done (by kernel_rfl) ?_ _
                          gi_wp2
                          rw [HL.out] at hf1
                          first | exact HF2.out w5.drew W3 (Stay.drew w5) hf1 hf2 hf3 _ | exact HF2.out _ W3 ((Stay.drew w5).alloc _) hf1 hf2 hf3 _
                · go_simp
                  refine hK _ _ ?_
                  clear hK K
                  refine wpAny_ready (rs := [0, 6]) (by kernel_rfl) (by simp) (AllReady.cons (o := ⟨some 34, .load 90 (.tmp 6), 90, "way.go:51", #[], none⟩) rfl (fun K hK => ?_) (AllReady.cons (o := ⟨some 40, .buildSlice 32 1 #[(0, .tmp 39)], 32, "way.go:51", #[⟨5, .data⟩], none⟩) rfl (fun K hK => ?_) AllReady.nil))
                  · go_simp
                    refine hK _ _ ?_
                    clear hK K
                    refine wpAny_ready (rs := [6]) (by kernel_rfl) (by simp) (AllReady.cons (o := ⟨some 40, .buildSlice 32 1 #[(0, .tmp 39)], 32, "way.go:51", #[⟨5, .data⟩], none⟩) rfl (fun K hK => ?_) AllReady.nil)
                    · go_simp
                      refine hK _ _ ?_
                      clear hK K
                      refine wpAny_ready (rs := [7]) (by kernel_rfl) (by simp) (AllReady.cons (o := ⟨some 41, .call { callee := .builtin .append, args := #[.tmp 38, .tmp 40], argTypes := #[32, 32] }, 32, "way.go:51", #[⟨4, .data⟩, ⟨6, .data⟩], none⟩) rfl (fun K hK => ?_) AllReady.nil)
                      · obtain ⟨a1, n1, c1, W2, W3, hap, f3, hup, hf1, hf2, hf3⟩ := hnext (w5.drew.alloc (.cells #[.int .i64 (i : Int)] 3)) w5.drew.heap.size (by first | exact Stay.refl _ | exact Stay.new _ _) (new_cell _ _ _)
                        refine step_append_run rfl _ _ _ _ rfl (by first | rfl | (simp [Act.eval]; done) | simp [Act.eval, Act.put]) (by first | rfl | (simp [Act.eval]; done) | simp [Act.eval, Act.put]) hap ?_
                        (try go_simp)
                        refine hK _ _ ?_
                        clear hK K
                        refine wpAny_ready (rs := [8]) (by kernel_rfl) (by simp) (AllReady.cons (o := ⟨none, .mapUpdate 90 (.tmp 34) (.tmp 35) (.tmp 41), 0, "way.go:51", #[⟨0, .data⟩, ⟨1, .data⟩, ⟨7, .data⟩, ⟨7, .chain⟩, ⟨0, .phase⟩, ⟨1, .phase⟩, ⟨2, .phase⟩, ⟨3, .phase⟩, ⟨4, .phase⟩, ⟨5, .phase⟩, ⟨6, .phase⟩, ⟨7, .phase⟩], none⟩) rfl (fun K hK => ?_) AllReady.nil)
                        · refine step_update_run rfl _ _ _ _ rfl (by first | rfl | (simp [Act.eval]; done) | simp [Act.eval, Act.put]) (by first | rfl | (simp [Act.eval]; done) | simp [Act.eval, Act.put]) (by first | rfl | (simp [Act.eval]; done) | simp [Act.eval, Act.put]) hup ?_
                          (try go_simp)
                          refine hK _ _ ?_
                          clear hK K
                          refine wpAny_done (by kernel_rfl) ?_ _
                          gi_wp2
                          rw [HL.out] at hf1
                          first | exact HF2.out w5.drew W3 (Stay.drew w5) hf1 hf2 hf3 _ | exact HF2.out _ W3 ((Stay.drew w5).alloc _) hf1 hf2 hf3 _
                  · go_simp
                    refine hK _ _ ?_
                    clear hK K
                    refine wpAny_ready (rs := [0, 7]) (by kernel_rfl) (by simp) (AllReady.cons (o := ⟨some 34, .load 90 (.tmp 6), 90, "way.go:51", #[], none⟩) rfl (fun K hK => ?_) (AllReady.cons (o := ⟨some 41, .call { callee := .builtin .append, args := #[.tmp 38, .tmp 40], argTypes := #[32, 32] }, 32, "way.go:51", #[⟨4, .data⟩, ⟨6, .data⟩], none⟩) rfl (fun K hK => ?_) AllReady.nil))
                    · go_simp
                      refine hK _ _ ?_
                      clear hK K
                      refine wpAny_ready (rs := [7]) (by kernel_rfl) (by simp) (AllReady.cons (o := ⟨some 41, .call { callee := .builtin .append, args := #[.tmp 38, .tmp 40], argTypes := #[32, 32] }, 32, "way.go:51", #[⟨4, .data⟩, ⟨6, .data⟩], none⟩) rfl (fun K hK => ?_) AllReady.nil)
                      · obtain ⟨a1, n1, c1, W2, W3, hap, f3, hup, hf1, hf2, hf3⟩ := hnext (w5.drew.alloc (.cells #[.int .i64 (i : Int)] 3)) w5.drew.heap.size (by first | exact Stay.refl _ | exact Stay.new _ _) (new_cell _ _ _)
                        refine step_append_run rfl _ _ _ _ rfl (by first | rfl | (simp [Act.eval]; done) | simp [Act.eval, Act.put]) (by first | rfl | (simp [Act.eval]; done) | simp [Act.eval, Act.put]) hap ?_
                        (try go_simp)
                        refine hK _ _ ?_
                        clear hK K
                        refine wpAny_ready (rs := [8]) (by kernel_rfl) (by simp) (AllReady.cons (o := ⟨none, .mapUpdate 90 (.tmp 34) (.tmp 35) (.tmp 41), 0, "way.go:51", #[⟨0, .data⟩, ⟨1, .data⟩, ⟨7, .data⟩, ⟨7, .chain⟩, ⟨0, .phase⟩, ⟨1, .phase⟩, ⟨2, .phase⟩, ⟨3, .phase⟩, ⟨4, .phase⟩, ⟨5, .phase⟩, ⟨6, .phase⟩, ⟨7, .phase⟩], none⟩) rfl (fun K hK => ?_) AllReady.nil)
                        · refine step_update_run rfl _ _ _ _ rfl (by first | rfl | (simp [Act.eval]; done) | simp [Act.eval, Act.put]) (by first | rfl | (simp [Act.eval]; done) | simp [Act.eval, Act.put]) (by first | rfl | (simp [Act.eval]; done) | simp [Act.eval, Act.put]) hup ?_
                          (try go_simp)
                          refine hK _ _ ?_
                          clear hK K
                          refine wpAny_done (by kernel_rfl) ?_ _
                          gi_wp2
                          rw [HL.out] at hf1
                          first | exact HF2.out w5.drew W3 (Stay.drew w5) hf1 hf2 hf3 _ | exact HF2.out _ W3 ((Stay.drew w5).alloc _) hf1 hf2 hf3 _
                    · obtain ⟨a1, n1, c1, W2, W3, hap, f3, hup, hf1, hf2, hf3⟩ := hnext (w5.drew.alloc (.cells #[.int .i64 (i : Int)] 3)) w5.drew.heap.size (by first | exact Stay.refl _ | exact Stay.new _ _) (new_cell _ _ _)
                      refine step_append_run rfl _ _ _ _ rfl (by first | rfl | (simp [Act.eval]; done) | simp [Act.eval, Act.put]) (by first | rfl | (simp [Act.eval]; done) | simp [Act.eval, Act.put]) hap ?_
                      (try go_simp)
                      refine hK _ _ ?_
                      clear hK K
                      refine wpAny_ready (rs := [0]) (by kernel_rfl) (by simp) (AllReady.cons (o := ⟨some 34, .load 90 (.tmp 6), 90, "way.go:51", #[], none⟩) rfl (fun K hK => ?_) AllReady.nil)
                      · go_simp
                        refine hK _ _ ?_
                        clear hK K
                        refine wpAny_ready (rs := [8]) (by kernel_rfl) (by simp) (AllReady.cons (o := ⟨none, .mapUpdate 90 (.tmp 34) (.tmp 35) (.tmp 41), 0, "way.go:51", #[⟨0, .data⟩, ⟨1, .data⟩, ⟨7, .data⟩, ⟨7, .chain⟩, ⟨0, .phase⟩, ⟨1, .phase⟩, ⟨2, .phase⟩, ⟨3, .phase⟩, ⟨4, .phase⟩, ⟨5, .phase⟩, ⟨6, .phase⟩, ⟨7, .phase⟩], none⟩) rfl (fun K hK => ?_) AllReady.nil)
                        · refine step_update_run rfl _ _ _ _ rfl (by first | rfl | (simp [Act.eval]; done) | simp [Act.eval, Act.put]) (by first | rfl | (simp [Act.eval]; done) | simp [Act.eval, Act.put]) (by first | rfl | (simp [Act.eval]; done) | simp [Act.eval, Act.put]) hup ?_
                          (try go_simp)
                          refine hK _ _ ?_
                          clear hK K
                          refine wpAny_done (by kernel_rfl) ?_ _
                          gi_wp2
                          rw [HL.out] at hf1
                          first | exact HF2.out w5.drew W3 (Stay.drew w5) hf1 hf2 hf3 _ | exact HF2.out _ W3 ((Stay.drew w5).alloc _) hf1 hf2 hf3 _
              · go_simp
                refine hK _ _ ?_
                clear hK K
                refine wpAny_ready (rs := [0, 4, 6]) (by kernel_rfl) (by simp) (AllReady.cons (o := ⟨some 34, .load 90 (.tmp 6), 90, "way.go:51", #[], none⟩) rfl (fun K hK => ?_) (AllReady.cons (o := ⟨some 38, .lookup 90 (.tmp 36) (.tmp 37) false, 32, "way.go:51", #[⟨2, .data⟩, ⟨3, .data⟩], none⟩) rfl (fun K hK => ?_) (AllReady.cons (o := ⟨some 40, .buildSlice 32 1 #[(0, .tmp 39)], 32, "way.go:51", #[⟨5, .data⟩], none⟩) rfl (fun K hK => ?_) AllReady.nil)))
                · go_simp
                  refine hK _ _ ?_
                  clear hK K
                  refine wpAny_ready (rs := [4, 6]) (by kernel_rfl) (by simp) (AllReady.cons (o := ⟨some 38, .lookup 90 (.tmp 36) (.tmp 37) false, 32, "way.go:51", #[⟨2, .data⟩, ⟨3, .data⟩], none⟩) rfl (fun K hK => ?_) (AllReady.cons (o := ⟨some 40, .buildSlice 32 1 #[(0, .tmp 39)], 32, "way.go:51", #[⟨5, .data⟩], none⟩) rfl (fun K hK => ?_) AllReady.nil))
                  · first | (obtain ⟨u, hlk, hnext⟩ := HG w5.drew (Stay.drew w5); refine step_lookup_run rfl _ _ _ rfl (by first | rfl | (simp [Act.eval]; done) | simp [Act.eval, Act.put]) (by first | rfl | (simp [Act.eval]; done) | simp [Act.eval, Act.put]) hlk ?_) | (obtain ⟨u, hlk, hnext⟩ := HG (w5.drew.alloc (.cells #[.int .i64 (i : Int)] 3)) ((Stay.drew w5).alloc _); refine step_lookup_run rfl _ _ _ rfl (by first | rfl | (simp [Act.eval]; done) | simp [Act.eval, Act.put]) (by first | rfl | (simp [Act.eval]; done) | simp [Act.eval, Act.put]) hlk ?_)
                    (try go_simp)
                    refine hK _ _ ?_
                    clear hK K
                    refine wpAny_ready (rs := [6]) (by kernel_rfl) (by simp) (AllReady.cons (o := ⟨some 40, .buildSlice 32 1 #[(0, .tmp 39)], 32, "way.go:51", #[⟨5, .data⟩], none⟩) rfl (fun K hK => ?_) AllReady.nil)
                    · go_simp
                      refine hK _ _ ?_
                      clear hK K
                      refine wpAny_ready (rs := [7]) (by kernel_rfl) (by simp) (AllReady.cons (o := ⟨some 41, .call { callee := .builtin .append, args := #[.tmp 38, .tmp 40], argTypes := #[32, 32] }, 32, "way.go:51", #[⟨4, .data⟩, ⟨6, .data⟩], none⟩) rfl (fun K hK => ?_) AllReady.nil)
                      · obtain ⟨a1, n1, c1, W2, W3, hap, f3, hup, hf1, hf2, hf3⟩ := hnext (w5.drew.alloc (.cells #[.int .i64 (i : Int)] 3)) w5.drew.heap.size (by first | exact Stay.refl _ | exact Stay.new _ _) (new_cell _ _ _)
                        refine step_append_run rfl _ _ _ _ rfl (by first | rfl | (simp [Act.eval]; done) | simp [Act.eval, Act.put]) (by first | rfl | (simp [Act.eval]; done) | simp [Act.eval, Act.put]) hap ?_
                        (try go_simp)
                        refine hK _ _ ?_
                        clear hK K
                        refine wpAny_ready (rs := [8]) (by kernel_rfl) (by simp) (AllReady.cons (o := ⟨none, .mapUpdate 90 (.tmp 34) (.tmp 35) (.tmp 41), 0, "way.go:51", #[⟨0, .data⟩, ⟨1, .data⟩, ⟨7, .data⟩, ⟨7, .chain⟩, ⟨0, .phase⟩, ⟨1, .phase⟩, ⟨2, .phase⟩, ⟨3, .phase⟩, ⟨4, .phase⟩, ⟨5, .phase⟩, ⟨6, .phase⟩, ⟨7, .phase⟩], none⟩) rfl (fun K hK => ?_) AllReady.nil)
                        · refine step_update_run rfl _ _ _ _ rfl (by first | rfl | (simp [Act.eval]; done) | simp [Act.eval, Act.put]) (by first | rfl | (simp [Act.eval]; done) | simp [Act.eval, Act.put]) (by first | rfl | (simp [Act.eval]; done) | simp [Act.eval, Act.put]) hup ?_
                          (try go_simp)
                          refine hK _ _ ?_
                          clear hK K
                          refine wpAny_done (by kernel_rfl) ?_ _
                          gi_wp2
                          rw [HL.out] at hf1
                          first | exact HF2.out w5.drew W3 (Stay.drew w5) hf1 hf2 hf3 _ | exact HF2.out _ W3 ((Stay.drew w5).alloc _) hf1 hf2 hf3 _
                  · go_simp
                    refine hK _ _ ?_
                    clear hK K
                    refine wpAny_ready (rs := [4]) (by kernel_rfl) (by simp) (AllReady.cons (o := ⟨some 38, .lookup 90 (.tmp 36) (.tmp 37) false, 32, "way.go:51", #[⟨2, .data⟩, ⟨3, .data⟩], none⟩) rfl (fun K hK => ?_) AllReady.nil)
                    · first | (obtain ⟨u, hlk, hnext⟩ := HG w5.drew (Stay.drew w5); refine step_lookup_run rfl _ _ _ rfl (by first | rfl | (simp [Act.eval]; done) | simp [Act.eval, Act.put]) (by first | rfl | (simp [Act.eval]; done) | simp [Act.eval, Act.put]) hlk ?_) | (obtain ⟨u, hlk, hnext⟩ := HG (w5.drew.alloc (.cells #[.int .i64 (i : Int)] 3)) ((Stay.drew w5).alloc _); refine step_lookup_run rfl _ _ _ rfl (by first | rfl | (simp [Act.eval]; done) | simp [Act.eval, Act.put]) (by first | rfl | (simp [Act.eval]; done) | simp [Act.eval, Act.put]) hlk ?_)
                      (try go_simp)
                      refine hK _ _ ?_
                      clear hK K
                      refine wpAny_ready (rs := [7]) (by kernel_rfl) (by simp) (AllReady.cons (o := ⟨some 41, .call { callee := .builtin .append, args := #[.tmp 38, .tmp 40], argTypes := #[32, 32] }, 32, "way.go:51", #[⟨4, .data⟩, ⟨6, .data⟩], none⟩) rfl (fun K hK => ?_) AllReady.nil)
                      · obtain ⟨a1, n1, c1, W2, W3, hap, f3, hup, hf1, hf2, hf3⟩ := hnext (w5.drew.alloc (.cells #[.int .i64 (i : Int)] 3)) w5.drew.heap.size (by first | exact Stay.refl _ | exact Stay.new _ _) (new_cell _ _ _)
                        refine step_append_run rfl _ _ _ _ rfl (by first | rfl | (simp [Act.eval]; done) | simp [Act.eval, Act.put]) (by first | rfl | (simp [Act.eval]; done) | simp [Act.eval, Act.put]) hap ?_
                        (try go_simp)
                        refine hK _ _ ?_
                        clear hK K
                        refine wpAny_ready (rs := [8]) (by kernel_rfl) (by simp) (AllReady.cons (o := ⟨none, .mapUpdate 90 (.tmp 34) (.tmp 35) (.tmp 41), 0, "way.go:51", #[⟨0, .data⟩, ⟨1, .data⟩, ⟨7, .data⟩, ⟨7, .chain⟩, ⟨0, .phase⟩, ⟨1, .phase⟩, ⟨2, .phase⟩, ⟨3, .phase⟩, ⟨4, .phase⟩, ⟨5, .phase⟩, ⟨6, .phase⟩, ⟨7, .phase⟩], none⟩) rfl (fun K hK => ?_) AllReady.nil)
                        · refine step_update_run rfl _ _ _ _ rfl (by first | rfl | (simp [Act.eval]; done) | simp [Act.eval, Act.put]) (by first | rfl | (simp [Act.eval]; done) | simp [Act.eval, Act.put]) (by first | rfl | (simp [Act.eval]; done) | simp [Act.eval, Act.put]) hup ?_
                          (try go_simp)
                          refine hK _ _ ?_
                          clear hK K
                          refine wpAny_done (by kernel_rfl) ?_ _
                          gi_wp2
                          rw [HL.out] at hf1
                          first | exact HF2.out w5.drew W3 (Stay.drew w5) hf1 hf2 hf3 _ | exact HF2.out _ W3 ((Stay.drew w5).alloc _) hf1 hf2 hf3 _
                · first | (obtain ⟨u, hlk, hnext⟩ := HG w5.drew (Stay.drew w5); refine step_lookup_run rfl _ _ _ rfl (by first | rfl | (simp [Act.eval]; done) | simp [Act.eval, Act.put]) (by first | rfl | (simp [Act.eval]; done) | simp [Act.eval, Act.put]) hlk ?_) | (obtain ⟨u, hlk, hnext⟩ := HG (w5.drew.alloc (.cells #[.int .i64 (i : Int)] 3)) ((Stay.drew w5).alloc _); refine step_lookup_run rfl _ _ _ rfl (by first | rfl | (simp [Act.eval]; done) | simp [Act.eval, Act.put]) (by first | rfl | (simp [Act.eval]; done) | simp [Act.eval, Act.put]) hlk ?_)
                  (try go_simp)
                  refine hK _ _ ?_
                  clear hK K
                  refine wpAny_ready (rs := [0, 6]) (by kernel_rfl) (by simp) (AllReady.cons (o := ⟨some 34, .load 90 (.tmp 6), 90, "way.go:51", #[], none⟩) rfl (fun K hK => ?_) (AllReady.cons (o := ⟨some 40, .buildSlice 32 1 #[(0, .tmp 39)], 32, "way.go:51", #[⟨5, .data⟩], none⟩) rfl (fun K hK => ?_) AllReady.nil))
                  · go_simp
                    refine hK _ _ ?_
                    clear hK K
                    refine wpAny_ready (rs := [6]) (by kernel_rfl) (by simp) (AllReady.cons (o := ⟨some 40, .buildSlice 32 1 #[(0, .tmp 39)], 32, "way.go:51", #[⟨5, .data⟩], none⟩) rfl (fun K hK => ?_) AllReady.nil)
                    · go_simp
                      refine hK _ _ ?_
                      clear hK K
                      refine wpAny_ready (rs := [7]) (by kernel_rfl) (by simp) (AllReady.cons (o := ⟨some 41, .call { callee := .builtin .append, args := #[.tmp 38, .tmp 40], argTypes := #[32, 32] }, 32, "way.go:51", #[⟨4, .data⟩, ⟨6, .data⟩], none⟩) rfl (fun K hK => ?_) AllReady.nil)
                      · obtain ⟨a1, n1, c1, W2, W3, hap, f3, hup, hf1, hf2, hf3⟩ := hnext (w5.drew.alloc (.cells #[.int .i64 (i : Int)] 3)) w5.drew.heap.size (by first | exact Stay.refl _ | exact Stay.new _ _) (new_cell _ _ _)
                        refine step_append_run rfl _ _ _ _ rfl (by first | rfl | (simp [Act.eval]; done) | simp [Act.eval, Act.put]) (by first | rfl | (simp [Act.eval]; done) | simp [Act.eval, Act.put]) hap ?_
                        (try go_simp)
                        refine hK _ _ ?_
                        clear hK K
                        refine wpAny_ready (rs := [8]) (by kernel_rfl) (by simp) (AllReady.cons (o := ⟨none, .mapUpdate 90 (.tmp 34) (.tmp 35) (.tmp 41), 0, "way.go:51", #[⟨0, .data⟩, ⟨1, .data⟩, ⟨7, .data⟩, ⟨7, .chain⟩, ⟨0, .phase⟩, ⟨1, .phase⟩, ⟨2, .phase⟩, ⟨3, .phase⟩, ⟨4, .phase⟩, ⟨5, .phase⟩, ⟨6, .phase⟩, ⟨7, .phase⟩], none⟩) rfl (fun K hK => ?_) AllReady.nil)
                        · refine step_update_run rfl _ _ _ _ rfl (by first | rfl | (simp [Act.eval]; done) | simp [Act.eval, Act.put]) (by first | rfl | (simp [Act.eval]; done) | simp [Act.eval, Act.put]) (by first | rfl | (simp [Act.eval]; done) | simp [Act.eval, Act.put]) hup ?_
                          (try go_simp)
                          refine hK _ _ ?_
                          clear hK K
                          refine wpAny_done (by kernel_rfl) ?_ _
                          gi_wp2
                          rw [HL.out] at hf1
                          first | exact HF2.out w5.drew W3 (Stay.drew w5) hf1 hf2 hf3 _ | exact HF2.out _ W3 ((Stay.drew w5).alloc _) hf1 hf2 hf3 _
                  · go_simp
                    refine hK _ _ ?_
                    clear hK K
                    refine wpAny_ready (rs := [0, 7]) (by kernel_rfl) (by simp) (AllReady.cons (o := ⟨some 34, .load 90 (.tmp 6), 90, "way.go:51", #[], none⟩) rfl (fun K hK => ?_) (AllReady.cons (o := ⟨some 41, .call { callee := .builtin .append, args := #[.tmp 38, .tmp 40], argTypes := #[32, 32] }, 32, "way.go:51", #[⟨4, .data⟩, ⟨6, .data⟩], none⟩) rfl (fun K hK => ?_) AllReady.nil))
                    · go_simp
                      refine hK _ _ ?_
                      clear hK K
                      refine wpAny_ready (rs := [7]) (by kernel_rfl) (by simp) (AllReady.cons (o := ⟨some 41, .call { callee := .builtin .append, args := #[.tmp 38, .tmp 40], argTypes := #[32, 32] }, 32, "way.go:51", #[⟨4, .data⟩, ⟨6, .data⟩], none⟩) rfl (fun K hK => ?_) AllReady.nil)
                      · obtain ⟨a1, n1, c1, W2, W3, hap, f3, hup, hf1, hf2, hf3⟩ := hnext (w5.drew.alloc (.cells #[.int .i64 (i : Int)] 3)) w5.drew.heap.size (by first | exact Stay.refl _ | exact Stay.new _ _) (new_cell _ _ _)
                        refine step_append_run rfl _ _ _ _ rfl (by first | rfl | (simp [Act.eval]; done) | simp [Act.eval, Act.put]) (by first | rfl | (simp [Act.eval]; done) | simp [Act.eval, Act.put]) hap ?_
                        (try go_simp)
                        refine hK _ _ ?_
                        clear hK K
                        refine wpAny_ready (rs := [8]) (by kernel_rfl) (by simp) (AllReady.cons (o := ⟨none, .mapUpdate 90 (.tmp 34) (.tmp 35) (.tmp 41), 0, "way.go:51", #[⟨0, .data⟩, ⟨1, .data⟩, ⟨7, .data⟩, ⟨7, .chain⟩, ⟨0, .phase⟩, ⟨1, .phase⟩, ⟨2, .phase⟩, ⟨3, .phase⟩, ⟨4, .phase⟩, ⟨5, .phase⟩, ⟨6, .phase⟩, ⟨7, .phase⟩], none⟩) rfl (fun K hK => ?_) AllReady.nil)
                        · refine step_update_run rfl _ _ _ _ rfl (by first | rfl | (simp [Act.eval]; done) | simp [Act.eval, Act.put]) (by first | rfl | (simp [Act.eval]; done) | simp [Act.eval, Act.put]) (by first | rfl | (simp [Act.eval]; done) | simp [Act.eval, Act.put]) hup ?_
                          (try go_simp)
                          refine hK _ _ ?_
                          clear hK K
                          refine wpAny_done (by kernel_rfl) ?_ _
                          gi_wp2
                          rw [HL.out] at hf1
                          first | exact HF2.out w5.drew W3 (Stay.drew w5) hf1 hf2 hf3 _ | exact HF2.out _ W3 ((Stay.drew w5).alloc _) hf1 hf2 hf3 _
                    · obtain ⟨a1, n1, c1, W2, W3, hap, f3, hup, hf1, hf2, hf3⟩ := hnext (w5.drew.alloc (.cells #[.int .i64 (i : Int)] 3)) w5.drew.heap.size (by first | exact Stay.refl _ | exact Stay.new _ _) (new_cell _ _ _)
                      refine step_append_run rfl _ _ _ _ rfl (by first | rfl | (simp [Act.eval]; done) | simp [Act.eval, Act.put]) (by first | rfl | (simp [Act.eval]; done) | simp [Act.eval, Act.put]) hap ?_
                      (try go_simp)
                      refine hK _ _ ?_
                      clear hK K
                      refine wpAny_ready (rs := [0]) (by kernel_rfl) (by simp) (AllReady.cons (o := ⟨some 34, .load 90 (.tmp 6), 90, "way.go:51", #[], none⟩) rfl (fun K hK => ?_) AllReady.nil)
                      · go_simp
                        refine hK _ _ ?_
                        clear hK K
                        refine wpAny_ready (rs := [8]) (by kernel_rfl) (by simp) (AllReady.cons (o := ⟨none, .mapUpdate 90 (.tmp 34) (.tmp 35) (.tmp 41), 0, "way.go:51", #[⟨0, .data⟩, ⟨1, .data⟩, ⟨7, .data⟩, ⟨7, .chain⟩, ⟨0, .phase⟩, ⟨1, .phase⟩, ⟨2, .phase⟩, ⟨3, .phase⟩, ⟨4, .phase⟩, ⟨5, .phase⟩, ⟨6, .phase⟩, ⟨7, .phase⟩], none⟩) rfl (fun K hK => ?_) AllReady.nil)
                        · refine step_update_run rfl _ _ _ _ rfl (by first | rfl | (simp [Act.eval]; done) | simp [Act.eval, Act.put]) (by first | rfl | (simp [Act.eval]; done) | simp [Act.eval, Act.put]) (by first | rfl | (simp [Act.eval]; done) | simp [Act.eval, Act.put]) hup ?_
                          (try go_simp)
                          refine hK _ _ ?_
                          clear hK K
                          refine wpAny_done (by kernel_rfl) ?_ _
                          gi_wp2
                          rw [HL.out] at hf1
                          first | exact HF2.out w5.drew W3 (Stay.drew w5) hf1 hf2 hf3 _ | exact HF2.out _ W3 ((Stay.drew w5).alloc _) hf1 hf2 hf3 _
                · go_simp
                  refine hK _ _ ?_
                  clear hK K
                  refine wpAny_ready (rs := [0, 4]) (by kernel_rfl) (by simp) (AllReady.cons (o := ⟨some 34, .load 90 (.tmp 6), 90, "way.go:51", #[], none⟩) rfl (fun K hK => ?_) (AllReady.cons (o := ⟨some 38, .lookup 90 (.tmp 36) (.tmp 37) false, 32, "way.go:51", #[⟨2, .data⟩, ⟨3, .data⟩], none⟩) rfl (fun K hK => ?_) AllReady.nil))
                  · go_simp
                    refine hK _ _ ?_
                    clear hK K
                    refine wpAny_ready (rs := [4]) (by kernel_rfl) (by simp) (AllReady.cons (o := ⟨some 38, .lookup 90 (.tmp 36) (.tmp 37) false, 32, "way.go:51", #[⟨2, .data⟩, ⟨3, .data⟩], none⟩) rfl (fun K hK => ?_) AllReady.nil)
                    · first | (obtain ⟨u, hlk, hnext⟩ := HG w5.drew (Stay.drew w5); refine step_lookup_run rfl _ _ _ rfl (by first | rfl | (simp [Act.eval]; done) | simp [Act.eval, Act.put]) (by first | rfl | (simp [Act.eval]; done) | simp [Act.eval, Act.put]) hlk ?_) | (obtain ⟨u, hlk, hnext⟩ := HG (w5.drew.alloc (.cells #[.int .i64 (i : Int)] 3)) ((Stay.drew w5).alloc _); refine step_lookup_run rfl _ _ _ rfl (by first | rfl | (simp [Act.eval]; done) | simp [Act.eval, Act.put]) (by first | rfl | (simp [Act.eval]; done) | simp [Act.eval, Act.put]) hlk ?_)
                      (try go_simp)
                      refine hK _ _ ?_
                      clear hK K
                      refine wpAny_ready (rs := [7]) (by kernel_rfl) (by simp) (AllReady.cons (o := ⟨some 41, .call { callee := .builtin .append, args := #[.tmp 38, .tmp 40], argTypes := #[32, 32] }, 32, "way.go:51", #[⟨4, .data⟩, ⟨6, .data⟩], none⟩) rfl (fun K hK => ?_) AllReady.nil)
                      · obtain ⟨a1, n1, c1, W2, W3, hap, f3, hup, hf1, hf2, hf3⟩ := hnext (w5.drew.alloc (.cells #[.int .i64 (i : Int)] 3)) w5.drew.heap.size (by first | exact Stay.refl _ | exact Stay.new _ _) (new_cell _ _ _)
                        refine step_append_run rfl _ _ _ _ rfl (by first | rfl | (simp [Act.eval]; done) | simp [Act.eval, Act.put]) (by first | rfl | (simp [Act.eval]; done) | simp [Act.eval, Act.put]) hap ?_
                        (try go_simp)
                        refine hK _ _ ?_
                        clear hK K
                        refine wpAny_ready (rs := [8]) (by kernel_rfl) (by simp) (AllReady.cons (o := ⟨none, .mapUpdate 90 (.tmp 34) (.tmp 35) (.tmp 41), 0, "way.go:51", #[⟨0, .data⟩, ⟨1, .data⟩, ⟨7, .data⟩, ⟨7, .chain⟩, ⟨0, .phase⟩, ⟨1, .phase⟩, ⟨2, .phase⟩, ⟨3, .phase⟩, ⟨4, .phase⟩, ⟨5, .phase⟩, ⟨6, .phase⟩, ⟨7, .phase⟩], none⟩) rfl (fun K hK => ?_) AllReady.nil)
                        · refine step_update_run rfl _ _ _ _ rfl (by first | rfl | (simp [Act.eval]; done) | simp [Act.eval, Act.put]) (by first | rfl | (simp [Act.eval]; done) | simp [Act.eval, Act.put]) (by first | rfl | (simp [Act.eval]; done) | simp [Act.eval, Act.put]) hup ?_
                          (try go_simp)
                          refine hK _ _ ?_
                          clear hK K
                          refine wpAny_done (by kernel_rfl) ?_ _
                          gi_wp2
                          rw [HL.out] at hf1
                          first | exact HF2.out w5.drew W3 (Stay.drew w5) hf1 hf2 hf3 _ | exact HF2.out _ W3 ((Stay.drew w5).alloc _) hf1 hf2 hf3 _
                  · first | (obtain ⟨u, hlk, hnext⟩ := HG w5.drew (Stay.drew w5); refine step_lookup_run rfl _ _ _ rfl (by first | rfl | (simp [Act.eval]; done) | simp [Act.eval, Act.put]) (by first | rfl | (simp [Act.eval]; done) | simp [Act.eval, Act.put]) hlk ?_) | (obtain ⟨u, hlk, hnext⟩ := HG (w5.drew.alloc (.cells #[.int .i64 (i : Int)] 3)) ((Stay.drew w5).alloc _); refine step_lookup_run rfl _ _ _ rfl (by first | rfl | (simp [Act.eval]; done) | simp [Act.eval, Act.put]) (by first | rfl | (simp [Act.eval]; done) | simp [Act.eval, Act.put]) hlk ?_)
                    (try go_simp)
                    refine hK _ _ ?_
                    clear hK K
                    refine wpAny_ready (rs := [0, 7]) (by kernel_rfl) (by simp) (AllReady.cons (o := ⟨some 34, .load 90 (.tmp 6), 90, "way.go:51", #[], none⟩) rfl (fun K hK => ?_) (AllReady.cons (o := ⟨some 41, .call { callee := .builtin .append, args := #[.tmp 38, .tmp 40], argTypes := #[32, 32] }, 32, "way.go:51", #[⟨4, .data⟩, ⟨6, .data⟩], none⟩) rfl (fun K hK => ?_) AllReady.nil))
                    · go_simp
                      refine hK _ _ ?_
                      clear hK K
                      refine wpAny_ready (rs := [7]) (by kernel_rfl) (by simp) (AllReady.cons (o := ⟨some 41, .call { callee := .builtin .append, args := #[.tmp 38, .tmp 40], argTypes := #[32, 32] }, 32, "way.go:51", #[⟨4, .data⟩, ⟨6, .data⟩], none⟩) rfl (fun K hK => ?_) AllReady.nil)
                      · obtain ⟨a1, n1, c1, W2, W3, hap, f3, hup, hf1, hf2, hf3⟩ := hnext (w5.drew.alloc (.cells #[.int .i64 (i : Int)] 3)) w5.drew.heap.size (by first | exact Stay.refl _ | exact Stay.new _ _) (new_cell _ _ _)
                        refine step_append_run rfl _ _ _ _ rfl (by first | rfl | (simp [Act.eval]; done) | simp [Act.eval, Act.put]) (by first | rfl | (simp [Act.eval]; done) | simp [Act.eval, Act.put]) hap ?_
                        (try go_simp)
                        refine hK _ _ ?_
                        clear hK K
                        refine wpAny_ready (rs := [8]) (by kernel_rfl) (by simp) (AllReady.cons (o := ⟨none, .mapUpdate 90 (.tmp 34) (.tmp 35) (.tmp 41), 0, "way.go:51", #[⟨0, .data⟩, ⟨1, .data⟩, ⟨7, .data⟩, ⟨7, .chain⟩, ⟨0, .phase⟩, ⟨1, .phase⟩, ⟨2, .phase⟩, ⟨3, .phase⟩, ⟨4, .phase⟩, ⟨5, .phase⟩, ⟨6, .phase⟩, ⟨7, .phase⟩], none⟩) rfl (fun K hK => ?_) AllReady.nil)
                        · refine step_update_run rfl _ _ _ _ rfl (by first | rfl | (simp [Act.eval]; done) | simp [Act.eval, Act.put]) (by first | rfl | (simp [Act.eval]; done) | simp [Act.eval, Act.put]) (by first | rfl | (simp [Act.eval]; done) | simp [Act.eval, Act.put]) hup ?_
                          (try go_simp)
                          refine hK _ _ ?_
                          clear hK K
                          refine wpAny_done (by kernel_rfl) ?_ _
                          gi_wp2
                          rw [HL.out] at hf1
                          first | exact HF2.out w5.drew W3 (Stay.drew w5) hf1 hf2 hf3 _ | exact HF2.out _ W3 ((Stay.drew w5).alloc _) hf1 hf2 hf3 _
                    · obtain ⟨a1, n1, c1, W2, W3, hap, f3, hup, hf1, hf2, hf3⟩ := hnext (w5.drew.alloc (.cells #[.int .i64 (i : Int)] 3)) w5.drew.heap.size (by first | exact Stay.refl _ | exact Stay.new _ _) (new_cell _ _ _)
                      refine step_append_run rfl _ _ _ _ rfl (by first | rfl | (simp [Act.eval]; done) | simp [Act.eval, Act.put]) (by first | rfl | (simp [Act.eval]; done) | simp [Act.eval, Act.put]) hap ?_
                      (try go_simp)
                      refine hK _ _ ?_
                      clear hK K
                      refine wpAny_ready (rs := [0]) (by kernel_rfl) (by simp) (AllReady.cons (o := ⟨some 34, .load 90 (.tmp 6), 90, "way.go:51", #[], none⟩) rfl (fun K hK => ?_) AllReady.nil)
                      · go_simp
                        refine hK _ _ ?_
                        clear hK K
                        refine wpAny_ready (rs := [8]) (by kernel_rfl) (by simp) (AllReady.cons (o := ⟨none, .mapUpdate 90 (.tmp 34) (.tmp 35) (.tmp 41), 0, "way.go:51", #[⟨0, .data⟩, ⟨1, .data⟩, ⟨7, .data⟩, ⟨7, .chain⟩, ⟨0, .phase⟩, ⟨1, .phase⟩, ⟨2, .phase⟩, ⟨3, .phase⟩, ⟨4, .phase⟩, ⟨5, .phase⟩, ⟨6, .phase⟩, ⟨7, .phase⟩], none⟩) rfl (fun K hK => ?_) AllReady.nil)
                        · refine step_update_run rfl _ _ _ _ rfl (by first | rfl | (simp [Act.eval]; done) | simp [Act.eval, Act.put]) (by first | rfl | (simp [Act.eval]; done) | simp [Act.eval, Act.put]) (by first | rfl | (simp [Act.eval]; done) | simp [Act.eval, Act.put]) hup ?_
                          (try go_simp)
                          refine hK _ _ ?_
                          clear hK K
                          refine wpAny_done (by kernel_rfl) ?_ _
                          gi_wp2
                          rw [HL.out] at hf1
                          first | exact HF2.out w5.drew W3 (Stay.drew w5) hf1 hf2 hf3 _ | exact HF2.out _ W3 ((Stay.drew w5).alloc _) hf1 hf2 hf3 _
            · go_simp
              refine hK _ _ ?_
              clear hK K
              refine wpAny_ready (rs := [0, 2, 6]) (by kernel_rfl) (by simp) (AllReady.cons (o := ⟨some 34, .load 90 (.tmp 6), 90, "way.go:51", #[], none⟩) rfl (fun K hK => ?_) (AllReady.cons (o := ⟨some 36, .load 90 (.tmp 6), 90, "way.go:51", #[], none⟩) rfl (fun K hK => ?_) (AllReady.cons (o := ⟨some 40, .buildSlice 32 1 #[(0, .tmp 39)], 32, "way.go:51", #[⟨5, .data⟩], none⟩) rfl (fun K hK => ?_) AllReady.nil)))
              · go_simp
                refine hK _ _ ?_
                clear hK K
                refine wpAny_ready (rs := [2, 6]) (by kernel_rfl) (by simp) (AllReady.cons (o := ⟨some 36, .load 90 (.tmp 6), 90, "way.go:51", #[], none⟩) rfl (fun K hK => ?_) (AllReady.cons (o := ⟨some 40, .buildSlice 32 1 #[(0, .tmp 39)], 32, "way.go:51", #[⟨5, .data⟩], none⟩) rfl (fun K hK => ?_) AllReady.nil))
                · go_simp
                  refine hK _ _ ?_
                  clear hK K
                  refine wpAny_ready (rs := [4, 6]) (by kernel_rfl) (by simp) (AllReady.cons (o := ⟨some 38, .lookup 90 (.tmp 36) (.tmp 37) false, 32, "way.go:51", #[⟨2, .data⟩, ⟨3, .data⟩], none⟩) rfl (fun K hK => ?_) (AllReady.cons (o := ⟨some 40, .buildSlice 32 1 #[(0, .tmp 39)], 32, "way.go:51", #[⟨5, .data⟩], none⟩) rfl (fun K hK => ?_) AllReady.nil))
                  · first | (obtain ⟨u, hlk, hnext⟩ := HG w5.drew (Stay.drew w5); refine step_lookup_run rfl _ _ _ rfl (by first | rfl | (simp [Act.eval]; done) | simp [Act.eval, Act.put]) (by first | rfl | (simp [Act.eval]; done) | simp [Act.eval, Act.put]) hlk ?_) | (obtain ⟨u, hlk, hnext⟩ := HG (w5.drew.alloc (.cells #[.int .i64 (i : Int)] 3)) ((Stay.drew w5).alloc _); refine step_lookup_run rfl _ _ _ rfl (by first | rfl | (simp [Act.eval]; done) | simp [Act.eval, Act.put]) (by first | rfl | (simp [Act.eval]; done) | simp [Act.eval, Act.put]) hlk ?_)
                    (try go_simp)
                    refine hK _ _ ?_
                    clear hK K
                    refine wpAny_ready (rs := [6]) (by kernel_rfl) (by simp) (AllReady.cons (o := ⟨some 40, .buildSlice 32 1 #[(0, .tmp 39)], 32, "way.go:51", #[⟨5, .data⟩], none⟩) rfl (fun K hK => ?_) AllReady.nil)
                    · go_simp
                      refine hK _ _ ?_
                      clear hK K
                      refine wpAny_ready (rs := [7]) (by kernel_rfl) (by simp) (AllReady.cons (o := ⟨some 41, .call { callee := .builtin .append, args := #[.tmp 38, .tmp 40], argTypes := #[32, 32] }, 32, "way.go:51", #[⟨4, .data⟩, ⟨6, .data⟩], none⟩) rfl (fun K hK => ?_) AllReady.nil)
                      · obtain ⟨a1, n1, c1, W2, W3, hap, f3, hup, hf1, hf2, hf3⟩ := hnext (w5.drew.alloc (.cells #[.int .i64 (i : Int)] 3)) w5.drew.heap.size (by first | exact Stay.refl _ | exact Stay.new _ _) (new_cell _ _ _)
                        refine step_append_run rfl _ _ _ _ rfl (by first | rfl | (simp [Act.eval]; done) | simp [Act.eval, Act.put]) (by first | rfl | (simp [Act.eval]; done) | simp [Act.eval, Act.put]) hap ?_
                        (try go_simp)
                        refine hK _ _ ?_
                        clear hK K
                        refine wpAny_ready (rs := [8]) (by kernel_rfl) (by simp) (AllReady.cons (o := ⟨none, .mapUpdate 90 (.tmp 34) (.tmp 35) (.tmp 41), 0, "way.go:51", #[⟨0, .data⟩, ⟨1, .data⟩, ⟨7, .data⟩, ⟨7, .chain⟩, ⟨0, .phase⟩, ⟨1, .phase⟩, ⟨2, .phase⟩, ⟨3, .phase⟩, ⟨4, .phase⟩, ⟨5, .phase⟩, ⟨6, .phase⟩, ⟨7, .phase⟩], none⟩) rfl (fun K hK => ?_) AllReady.nil)
                        · refine step_update_run rfl _ _ _ _ rfl (by first | rfl | (simp [Act.eval]; done) | simp [Act.eval, Act.put]) (by first | rfl | (simp [Act.eval]; done) | simp [Act.eval, Act.put]) (by first | rfl | (simp [Act.eval]; done) | simp [Act.eval, Act.put]) hup ?_
                          (try go_simp)
                          refine hK _ _ ?_
                          clear hK K
                          refine wpAny_done (by kernel_rfl) ?_ _
                          gi_wp2
                          rw [HL.out] at hf1
                          first | exact HF2.out w5.drew W3 (Stay.drew w5) hf1 hf2 hf3 _ | exact HF2.out _ W3 ((Stay.drew w5).alloc _) hf1 hf2 hf3 _
                  · go_simp
                    refine hK _ _ ?_
                    clear hK K
                    refine wpAny_ready (rs := [4]) (by kernel_rfl) (by simp) (AllReady.cons (o := ⟨some 38, .lookup 90 (.tmp 36) (.tmp 37) false, 32, "way.go:51", #[⟨2, .data⟩, ⟨3, .data⟩], none⟩) rfl (fun K hK => ?_) AllReady.nil)
                    · first | (obtain ⟨u, hlk, hnext⟩ := HG w5.drew (Stay.drew w5); refine step_lookup_run rfl _ _ _ rfl (by first | rfl | (simp [Act.eval]; done) | simp [Act.eval, Act.put]) (by first | rfl | (simp [Act.eval]; done) | simp [Act.eval, Act.put]) hlk ?_) | (obtain ⟨u, hlk, hnext⟩ := HG (w5.drew.alloc (.cells #[.int .i64 (i : Int)] 3)) ((Stay.drew w5).alloc _); refine step_lookup_run rfl _ _ _ rfl (by first | rfl | (simp [Act.eval]; done) | simp [Act.eval, Act.put]) (by first | rfl | (simp [Act.eval]; done) | simp [Act.eval, Act.put]) hlk ?_)
                      (try go_simp)
                      refine hK _ _ ?_
                      clear hK K
                      refine wpAny_ready (rs := [7]) (by kernel_rfl) (by simp) (AllReady.cons (o := ⟨some 41, .call { callee := .builtin .append, args := #[.tmp 38, .tmp 40], argTypes := #[32, 32] }, 32, "way.go:51", #[⟨4, .data⟩, ⟨6, .data⟩], none⟩) rfl (fun K hK => ?_) AllReady.nil)
                      · obtain ⟨a1, n1, c1, W2, W3, hap, f3, hup, hf1, hf2, hf3⟩ := hnext (w5.drew.alloc (.cells #[.int .i64 (i : Int)] 3)) w5.drew.heap.size (by first | exact Stay.refl _ | exact Stay.new _ _) (new_cell _ _ _)
                        refine step_append_run rfl _ _ _ _ rfl (by first | rfl | (simp [Act.eval]; done) | simp [Act.eval, Act.put]) (by first | rfl | (simp [Act.eval]; done) | simp [Act.eval, Act.put]) hap ?_
                        (try go_simp)
                        refine hK _ _ ?_
                        clear hK K
                        refine wpAny_ready (rs := [8]) (by kernel_rfl) (by simp) (AllReady.cons (o := ⟨none, .mapUpdate 90 (.tmp 34) (.tmp 35) (.tmp 41), 0, "way.go:51", #[⟨0, .data⟩, ⟨1, .data⟩, ⟨7, .data⟩, ⟨7, .chain⟩, ⟨0, .phase⟩, ⟨1, .phase⟩, ⟨2, .phase⟩, ⟨3, .phase⟩, ⟨4, .phase⟩, ⟨5, .phase⟩, ⟨6, .phase⟩, ⟨7, .phase⟩], none⟩) rfl (fun K hK => ?_) AllReady.nil)
                        · refine step_update_run rfl _ _ _ _ rfl (by first | rfl | (simp [Act.eval]; done) | simp [Act.eval, Act.put]) (by first | rfl | (simp [Act.eval]; done) | simp [Act.eval, Act.put]) (by first | rfl | (simp [Act.eval]; done) | simp [Act.eval, Act.put]) hup ?_
                          (try go_simp)
                          refine hK _ _ ?_
                          clear hK K
                          refine wpAny_done (by kernel_rfl) ?_ _
                          gi_wp2
                          rw [HL.out] at hf1
                          first | exact HF2.out w5.drew W3 (Stay.drew w5) hf1 hf2 hf3 _ | exact HF2.out _ W3 ((Stay.drew w5).alloc _) hf1 hf2 hf3 _
                · go_simp
                  refine hK _ _ ?_
                  clear hK K
                  refine wpAny_ready (rs := [2]) (by kernel_rfl) (by simp) (AllReady.cons (o := ⟨some 36, .load 90 (.tmp 6), 90, "way.go:51", #[], none⟩) rfl (fun K hK => ?_) AllReady.nil)
                  · go_simp
                    refine hK _ _ ?_
                    clear hK K
                    refine wpAny_ready (rs := [4]) (by kernel_rfl) (by simp) (AllReady.cons (o := ⟨some 38, .lookup 90 (.tmp 36) (.tmp 37) false, 32, "way.go:51", #[⟨2, .data⟩, ⟨3, .data⟩], none⟩) rfl (fun K hK => ?_) AllReady.nil)
                    · first | (obtain ⟨u, hlk, hnext⟩ := HG w5.drew (Stay.drew w5); refine step_lookup_run rfl _ _ _ rfl (by first | rfl | (simp [Act.eval]; done) | simp [Act.eval, Act.put]) (by first | rfl | (simp [Act.eval]; done) | simp [Act.eval, Act.put]) hlk ?_) | (obtain ⟨u, hlk, hnext⟩ := HG (w5.drew.alloc (.cells #[.int .i64 (i : Int)] 3)) ((Stay.drew w5).alloc _); refine step_lookup_run rfl _ _ _ rfl (by first | rfl | (simp [Act.eval]; done) | simp [Act.eval, Act.put]) (by first | rfl | (simp [Act.eval]; done) | simp [Act.eval, Act.put]) hlk ?_)
                      (try go_simp)
                      refine hK _ _ ?_
                      clear hK K
                      refine wpAny_ready (rs := [7]) (by kernel_rfl) (by simp) (AllReady.cons (o := ⟨some 41, .call { callee := .builtin .append, args := #[.tmp 38, .tmp 40], argTypes := #[32, 32] }, 32, "way.go:51", #[⟨4, .data⟩, ⟨6, .data⟩], none⟩) rfl (fun K hK => ?_) AllReady.nil)
                      · obtain ⟨a1, n1, c1, W2, W3, hap, f3, hup, hf1, hf2, hf3⟩ := hnext (w5.drew.alloc (.cells #[.int .i64 (i : Int)] 3)) w5.drew.heap.size (by first | exact Stay.refl _ | exact Stay.new _ _) (new_cell _ _ _)
                        refine step_append_run rfl _ _ _ _ rfl (by first | rfl | (simp [Act.eval]; done) | simp [Act.eval, Act.put]) (by first | rfl | (simp [Act.eval]; done) | simp [Act.eval, Act.put]) hap ?_
                        (try go_simp)
                        refine hK _ _ ?_
                        clear hK K
                        refine wpAny_ready (rs := [8]) (by kernel_rfl) (by simp) (AllReady.cons (o := ⟨none, .mapUpdate 90 (.tmp 34) (.tmp 35) (.tmp 41), 0, "way.go:51", #[⟨0, .data⟩, ⟨1, .data⟩, ⟨7, .data⟩, ⟨7, .chain⟩, ⟨0, .phase⟩, ⟨1, .phase⟩, ⟨2, .phase⟩, ⟨3, .phase⟩, ⟨4, .phase⟩, ⟨5, .phase⟩, ⟨6, .phase⟩, ⟨7, .phase⟩], none⟩) rfl (fun K hK => ?_) AllReady.nil)
                        · refine step_update_run rfl _ _ _ _ rfl (by first | rfl | (simp [Act.eval]; done) | simp [Act.eval, Act.put]) (by first | rfl | (simp [Act.eval]; done) | simp [Act.eval, Act.put]) (by first | rfl | (simp [Act.eval]; done) | simp [Act.eval, Act.put]) hup ?_
                          (try go_simp)
                          refine hK _ _ ?_
                          clear hK K
                          refine wpAny_done (by kernel_rfl) ?_ _
                          gi_wp2
                          rw [HL.out] at hf1
                          first | exact HF2.out w5.drew W3 (Stay.drew w5) hf1 hf2 hf3 _ | exact HF2.out _ W3 ((Stay.drew w5).alloc _) hf1 hf2 hf3 _
              · go_simp
                refine hK _ _ ?_
                clear hK K
                refine wpAny_ready (rs := [0, 4, 6]) (by kernel_rfl) (by simp) (AllReady.cons (o := ⟨some 34, .load 90 (.tmp 6), 90, "way.go:51", #[], none⟩) rfl (fun K hK => ?_) (AllReady.cons (o := ⟨some 38, .lookup 90 (.tmp 36) (.tmp 37) false, 32, "way.go:51", #[⟨2, .data⟩, ⟨3, .data⟩], none⟩) rfl (fun K hK => ?_) (AllReady.cons (o := ⟨some 40, .buildSlice 32 1 #[(0, .tmp 39)], 32, "way.go:51", #[⟨5, .data⟩], none⟩) rfl (fun K hK => ?_) AllReady.nil)))
                · go_simp
                  refine hK _ _ ?_
                  clear hK K
                  refine wpAny_ready (rs := [4, 6]) (by kernel_rfl) (by simp) (AllReady.cons (o := ⟨some 38, .lookup 90 (.tmp 36) (.tmp 37) false, 32, "way.go:51", #[⟨2, .data⟩, ⟨3, .data⟩], none⟩) rfl (fun K hK => ?_) (AllReady.cons (o := ⟨some 40, .buildSlice 32 1 #[(0, .tmp 39)], 32, "way.go:51", #[⟨5, .data⟩], none⟩) rfl (fun K hK => ?_) AllReady.nil))
                  · first | (obtain ⟨u, hlk, hnext⟩ := HG w5.drew (Stay.drew w5); refine step_lookup_run rfl _ _ _ rfl (by first | rfl | (simp [Act.eval]; done) | simp [Act.eval, Act.put]) (by first | rfl | (simp [Act.eval]; done) | simp [Act.eval, Act.put]) hlk ?_) | (obtain ⟨u, hlk, hnext⟩ := HG (w5.drew.alloc (.cells #[.int .i64 (i : Int)] 3)) ((Stay.drew w5).alloc _); refine step_lookup_run rfl _ _ _ rfl (by first | rfl | (simp [Act.eval]; done) | simp [Act.eval, Act.put]) (by first | rfl | (simp [Act.eval]; done) | simp [Act.eval, Act.put]) hlk ?_)
                    (try go_simp)
                    refine hK _ _ ?_
                    clear hK K
                    refine wpAny_ready (rs := [6]) (by kernel_rfl) (by simp) (AllReady.cons (o := ⟨some 40, .buildSlice 32 1 #[(0, .tmp 39)], 32, "way.go:51", #[⟨5, .data⟩], none⟩) rfl (fun K hK => ?_) AllReady.nil)
                    · go_simp
                      refine hK _ _ ?_
                      clear hK K
                      refine wpAny_ready (rs := [7]) (by kernel_rfl) (by simp) (AllReady.cons (o := ⟨some 41, .call { callee := .builtin .append, args := #[.tmp 38, .tmp 40], argTypes := #[32, 32] }, 32, "way.go:51", #[⟨4, .data⟩, ⟨6, .data⟩], none⟩) rfl (fun K hK => ?_) AllReady.nil)
                      · obtain ⟨a1, n1, c1, W2, W3, hap, f3, hup, hf1, hf2, hf3⟩ := hnext (w5.drew.alloc (.cells #[.int .i64 (i : Int)] 3)) w5.drew.heap.size (by first | exact Stay.refl _ | exact Stay.new _ _) (new_cell _ _ _)
                        refine step_append_run rfl _ _ _ _ rfl (by first | rfl | (simp [Act.eval]; done) | simp [Act.eval, Act.put]) (by first | rfl | (simp [Act.eval]; done) | simp [Act.eval, Act.put]) hap ?_
                        (try go_simp)
                        refine hK _ _ ?_
                        clear hK K
                        refine wpAny_ready (rs := [8]) (by kernel_rfl) (by simp) (AllReady.cons (o := ⟨none, .mapUpdate 90 (.tmp 34) (.tmp 35) (.tmp 41), 0, "way.go:51", #[⟨0, .data⟩, ⟨1, .data⟩, ⟨7, .data⟩, ⟨7, .chain⟩, ⟨0, .phase⟩, ⟨1, .phase⟩, ⟨2, .phase⟩, ⟨3, .phase⟩, ⟨4, .phase⟩, ⟨5, .phase⟩, ⟨6, .phase⟩, ⟨7, .phase⟩], none⟩) rfl (fun K hK => ?_) AllReady.nil)
                        · refine step_update_run rfl _ _ _ _ rfl (by first | rfl | (simp [Act.eval]; done) | simp [Act.eval, Act.put]) (by first | rfl | (simp [Act.eval]; done) | simp [Act.eval, Act.put]) (by first | rfl | (simp [Act.eval]; done) | simp [Act.eval, Act.put]) hup ?_
                          (try go_simp)
                          refine hK _ _ ?_
                          clear hK K
                          refine wpAny_done (by kernel_rfl) ?_ _
                          gi_wp2
                          rw [HL.out] at hf1
                          first | exact HF2.out w5.drew W3 (Stay.drew w5) hf1 hf2 hf3 _ | exact HF2.out _ W3 ((Stay.drew w5).alloc _) hf1 hf2 hf3 _
                  · go_simp
                    refine hK _ _ ?_
                    clear hK K
                    refine wpAny_ready (rs := [4]) (by kernel_rfl) (by simp) (AllReady.cons (o := ⟨some 38, .lookup 90 (.tmp 36) (.tmp 37) false, 32, "way.go:51", #[⟨2, .data⟩, ⟨3, .data⟩], none⟩) rfl (fun K hK => ?_) AllReady.nil)
                    · first | (obtain ⟨u, hlk, hnext⟩ := HG w5.drew (Stay.drew w5); refine step_lookup_run rfl _ _ _ rfl (by first | rfl | (simp [Act.eval]; done) | simp [Act.eval, Act.put]) (by first | rfl | (simp [Act.eval]; done) | simp [Act.eval, Act.put]) hlk ?_) | (obtain ⟨u, hlk, hnext⟩ := HG (w5.drew.alloc (.cells #[.int .i64 (i : Int)] 3)) ((Stay.drew w5).alloc _); refine step_lookup_run rfl _ _ _ rfl (by first | rfl | (simp [Act.eval]; done) | simp [Act.eval, Act.put]) (by first | rfl | (simp [Act.eval]; done) | simp [Act.eval, Act.put]) hlk ?_)
                      (try go_simp)
                      refine hK _ _ ?_
                      clear hK K
                      refine wpAny_ready (rs := [7]) (by kernel_rfl) (by simp) (AllReady.cons (o := ⟨some 41, .call { callee := .builtin .append, args := #[.tmp 38, .tmp 40], argTypes := #[32, 32] }, 32, "way.go:51", #[⟨4, .data⟩, ⟨6, .data⟩], none⟩) rfl (fun K hK => ?_) AllReady.nil)
                      · obtain ⟨a1, n1, c1, W2, W3, hap, f3, hup, hf1, hf2, hf3⟩ := hnext (w5.drew.alloc (.cells #[.int .i64 (i : Int)] 3)) w5.drew.heap.size (by first | exact Stay.refl _ | exact Stay.new _ _) (new_cell _ _ _)
                        refine step_append_run rfl _ _ _ _ rfl (by first | rfl | (simp [Act.eval]; done) | simp [Act.eval, Act.put]) (by first | rfl | (simp [Act.eval]; done) | simp [Act.eval, Act.put]) hap ?_
                        (try go_simp)
                        refine hK _ _ ?_
                        clear hK K
                        refine wpAny_ready (rs := [8]) (by kernel_rfl) (by simp) (AllReady.cons (o := ⟨none, .mapUpdate 90 (.tmp 34) (.tmp 35) (.tmp 41), 0, "way.go:51", #[⟨0, .data⟩, ⟨1, .data⟩, ⟨7, .data⟩, ⟨7, .chain⟩, ⟨0, .phase⟩, ⟨1, .phase⟩, ⟨2, .phase⟩, ⟨3, .phase⟩, ⟨4, .phase⟩, ⟨5, .phase⟩, ⟨6, .phase⟩, ⟨7, .phase⟩], none⟩) rfl (fun K hK => ?_) AllReady.nil)
                        · refine step_update_run rfl _ _ _ _ rfl (by first | rfl | (simp [Act.eval]; done) | simp [Act.eval, Act.put]) (by first | rfl | (simp [Act.eval]; done) | simp [Act.eval, Act.put]) (by first | rfl | (simp [Act.eval]; done) | simp [Act.eval, Act.put]) hup ?_
                          (try go_simp)
                          refine hK _ _ ?_
                          clear hK K
                          refine wpAny_done (by kernel_rfl) ?_ _
                          gi_wp2
                          rw [HL.out] at hf1
                          first | exact HF2.out w5.drew W3 (Stay.drew w5) hf1 hf2 hf3 _ | exact HF2.out _ W3 ((Stay.drew w5).alloc _) hf1 hf2 hf3 _
                · first | (obtain ⟨u, hlk, hnext⟩ := HG w5.drew (Stay.drew w5); refine step_lookup_run rfl _ _ _ rfl (by first | rfl | (simp [Act.eval]; done) | simp [Act.eval, Act.put]) (by first | rfl | (simp [Act.eval]; done) | simp [Act.eval, Act.put]) hlk ?_) | (obtain ⟨u, hlk, hnext⟩ := HG (w5.drew.alloc (.cells #[.int .i64 (i : Int)] 3)) ((Stay.drew w5).alloc _); refine step_lookup_run rfl _ _ _ rfl (by first | rfl | (simp [Act.eval]; done) | simp [Act.eval, Act.put]) (by first | rfl | (simp [Act.eval]; done) | simp [Act.eval, Act.put]) hlk ?_)
                  (try go_simp)
                  refine hK _ _ ?_
                  clear hK K
                  refine wpAny_ready (rs := [0, 6]) (by kernel_rfl) (by simp) (AllReady.cons (o := ⟨some 34, .load 90 (.tmp 6), 90, "way.go:51", #[], none⟩) rfl (fun K hK => ?_) (AllReady.cons (o := ⟨some 40, .buildSlice 32 1 #[(0, .tmp 39)], 32, "way.go:51", #[⟨5, .data⟩], none⟩) rfl (fun K hK => ?_) AllReady.nil))
                  · go_simp
                    refine hK _ _ ?_
                    clear hK K
                    refine wpAny_ready (rs := [6]) (by kernel_rfl) (by simp) (AllReady.cons (o := ⟨some 40, .buildSlice 32 1 #[(0, .tmp 39)], 32, "way.go:51", #[⟨5, .data⟩], none⟩) rfl (fun K hK => ?_) AllReady.nil)
                    · go_simp
                      refine hK _ _ ?_
                      clear hK K
                      refine wpAny_ready (rs := [7]) (by kernel_rfl) (by simp) (AllReady.cons (o := ⟨some 41, .call { callee := .builtin .append, args := #[.tmp 38, .tmp 40], argTypes := #[32, 32] }, 32, "way.go:51", #[⟨4, .data⟩, ⟨6, .data⟩], none⟩) rfl (fun K hK => ?_) AllReady.nil)
                      · obtain ⟨a1, n1, c1, W2, W3, hap, f3, hup, hf1, hf2, hf3⟩ := hnext (w5.drew.alloc (.cells #[.int .i64 (i : Int)] 3)) w5.drew.heap.size (by first | exact Stay.refl _ | exact Stay.new _ _) (new_cell _ _ _)
                        refine step_append_run rfl _ _ _ _ rfl (by first | rfl | (simp [Act.eval]; done) | simp [Act.eval, Act.put]) (by first | rfl | (simp [Act.eval]; done) | simp [Act.eval, Act.put]) hap ?_
                        (try go_simp)
                        refine hK _ _ ?_
                        clear hK K
                        refine wpAny_ready (rs := [8]) (by kernel_rfl) (by simp) (AllReady.cons (o := ⟨none, .mapUpdate 90 (.tmp 34) (.tmp 35) (.tmp 41), 0, "way.go:51", #[⟨0, .data⟩, ⟨1, .data⟩, ⟨7, .data⟩, ⟨7, .chain⟩, ⟨0, .phase⟩, ⟨1, .phase⟩, ⟨2, .phase⟩, ⟨3, .phase⟩, ⟨4, .phase⟩, ⟨5, .phase⟩, ⟨6, .phase⟩, ⟨7, .phase⟩], none⟩) rfl (fun K hK => ?_) AllReady.nil)
                        · refine step_update_run rfl _ _ _ _ rfl (by first | rfl | (simp [Act.eval]; done) | simp [Act.eval, Act.put]) (by first | rfl | (simp [Act.eval]; done) | simp [Act.eval, Act.put]) (by first | rfl | (simp [Act.eval]; done) | simp [Act.eval, Act.put]) hup ?_
                          (try go_simp)
                          refine hK _ _ ?_
                          clear hK K
                          refine wpAny_done (by kernel_rfl) ?_ _
                          gi_wp2
                          rw [HL.out] at hf1
                          first | exact HF2.out w5.drew W3 (Stay.drew w5) hf1 hf2 hf3 _ | exact HF2.out _ W3 ((Stay.drew w5).alloc _) hf1 hf2 hf3 _
                  · go_simp
                    refine hK _ _ ?_
                    clear hK K
                    refine wpAny_ready (rs := [0, 7]) (by kernel_rfl) (by simp) (AllReady.cons (o := ⟨some 34, .load 90 (.tmp 6), 90, "way.go:51", #[], none⟩) rfl (fun K hK => ?_) (AllReady.cons (o := ⟨some 41, .call { callee := .builtin .append, args := #[.tmp 38, .tmp 40], argTypes := #[32, 32] }, 32, "way.go:51", #[⟨4, .data⟩, ⟨6, .data⟩], none⟩) rfl (fun K hK => ?_) AllReady.nil))
                    · go_simp
                      refine hK _ _ ?_
                      clear hK K
                      refine wpAny_ready (rs := [7]) (by kernel_rfl) (by simp) (AllReady.cons (o := ⟨some 41, .call { callee := .builtin .append, args := #[.tmp 38, .tmp 40], argTypes := #[32, 32] }, 32, "way.go:51", #[⟨4, .data⟩, ⟨6, .data⟩], none⟩) rfl (fun K hK => ?_) AllReady.nil)
                      · obtain ⟨a1, n1, c1, W2, W3, hap, f3, hup, hf1, hf2, hf3⟩ := hnext (w5.drew.alloc (.cells #[.int .i64 (i : Int)] 3)) w5.drew.heap.size (by first | exact Stay.refl _ | exact Stay.new _ _) (new_cell _ _ _)
                        refine step_append_run rfl _ _ _ _ rfl (by first | rfl | (simp [Act.eval]; done) | simp [Act.eval, Act.put]) (by first | rfl | (simp [Act.eval]; done) | simp [Act.eval, Act.put]) hap ?_
                        (try go_simp)
                        refine hK _ _ ?_
                        clear hK K
                        refine wpAny_ready (rs := [8]) (by kernel_rfl) (by simp) (AllReady.cons (o := ⟨none, .mapUpdate 90 (.tmp 34) (.tmp 35) (.tmp 41), 0, "way.go:51", #[⟨0, .data⟩, ⟨1, .data⟩, ⟨7, .data⟩, ⟨7, .chain⟩, ⟨0, .phase⟩, ⟨1, .phase⟩, ⟨2, .phase⟩, ⟨3, .phase⟩, ⟨4, .phase⟩, ⟨5, .phase⟩, ⟨6, .phase⟩, ⟨7, .phase⟩], none⟩) rfl (fun K hK => ?_) AllReady.nil)
                        · refine step_update_run rfl _ _ _ _ rfl (by first | rfl | (simp [Act.eval]; done) | simp [Act.eval, Act.put]) (by first | rfl | (simp [Act.eval]; done) | simp [Act.eval, Act.put]) (by first | rfl | (simp [Act.eval]; done) | simp [Act.eval, Act.put]) hup ?_
                          (try go_simp)
                          refine hK _ _ ?_
                          clear hK K
                          refine wpAny_done (by kernel_rfl) ?_ _
                          gi_wp2
                          rw [HL.out] at hf1
                          first | exact HF2.out w5.drew W3 (Stay.drew w5) hf1 hf2 hf3 _ | exact HF2.out _ W3 ((Stay.drew w5).alloc _) hf1 hf2 hf3 _
                    · obtain ⟨a1, n1, c1, W2, W3, hap, f3, hup, hf1, hf2, hf3⟩ := hnext (w5.drew.alloc (.cells #[.int .i64 (i : Int)] 3)) w5.drew.heap.size (by first | exact Stay.refl _ | exact Stay.new _ _) (new_cell _ _ _)
                      refine step_append_run rfl _ _ _ _ rfl (by first | rfl | (simp [Act.eval]; done) | simp [Act.eval, Act.put]) (by first | rfl | (simp [Act.eval]; done) | simp [Act.eval, Act.put]) hap ?_
                      (try go_simp)
                      refine hK _ _ ?_
                      clear hK K
                      refine wpAny_ready (rs := [0]) (by kernel_rfl) (by simp) (AllReady.cons (o := ⟨some 34, .load 90 (.tmp 6), 90, "way.go:51", #[], none⟩) rfl (fun K hK => ?_) AllReady.nil)
                      · go_simp
                        refine hK _ _ ?_
                        clear hK K
                        refine wpAny_ready (rs := [8]) (by kernel_rfl) (by simp) (AllReady.cons (o := ⟨none, .mapUpdate 90 (.tmp 34) (.tmp 35) (.tmp 41), 0, "way.go:51", #[⟨0, .data⟩, ⟨1, .data⟩, ⟨7, .data⟩, ⟨7, .chain⟩, ⟨0, .phase⟩, ⟨1, .phase⟩, ⟨2, .phase⟩, ⟨3, .phase⟩, ⟨4, .phase⟩, ⟨5, .phase⟩, ⟨6, .phase⟩, ⟨7, .phase⟩], none⟩) rfl (fun K hK => ?_) AllReady.nil)
                        · refine step_update_run rfl _ _ _ _ rfl (by first | rfl | (simp [Act.eval]; done) | simp [Act.eval, Act.put]) (by first | rfl | (simp [Act.eval]; done) | simp [Act.eval, Act.put]) (by first | rfl | (simp [Act.eval]; done) | simp [Act.eval, Act.put]) hup ?_
                          (try go_simp)
                          refine hK _ _ ?_
                          clear hK K
                          refine wpAny_done (by kernel_rfl) ?_ _
                          gi_wp2
                          rw [HL.out] at hf1
                          first | exact HF2.out w5.drew W3 (Stay.drew w5) hf1 hf2 hf3 _ | exact HF2.out _ W3 ((Stay.drew w5).alloc _) hf1 hf2 hf3 _
                · go_simp
                  refine hK _ _ ?_
                  clear hK K
                  refine wpAny_ready (rs := [0, 4]) (by kernel_rfl) (by simp) (AllReady.cons (o := ⟨some 34, .load 90 (.tmp 6), 90, "way.go:51", #[], none⟩) rfl (fun K hK => ?_) (AllReady.cons (o := ⟨some 38, .lookup 90 (.tmp 36) (.tmp 37) false, 32, "way.go:51", #[⟨2, .data⟩, ⟨3, .data⟩], none⟩) rfl (fun K hK => ?_) AllReady.nil))
                  · go_simp
                    refine hK _ _ ?_
                    clear hK K
                    refine wpAny_ready (rs := [4]) (by kernel_rfl) (by simp) (AllReady.cons (o := ⟨some 38, .lookup 90 (.tmp 36) (.tmp 37) false, 32, "way.go:51", #[⟨2, .data⟩, ⟨3, .data⟩], none⟩) rfl (fun K hK => ?_) AllReady.nil)
                    · first | (obtain ⟨u, hlk, hnext⟩ := HG w5.drew (Stay.drew w5); refine step_lookup_run rfl _ _ _ rfl (by first | rfl | (simp [Act.eval]; done) | simp [Act.eval, Act.put]) (by first | rfl | (simp [Act.eval]; done) | simp [Act.eval, Act.put]) hlk ?_) | (obtain ⟨u, hlk, hnext⟩ := HG (w5.drew.alloc (.cells #[.int .i64 (i : Int)] 3)) ((Stay.drew w5).alloc _); refine step_lookup_run rfl _ _ _ rfl (by first | rfl | (simp [Act.eval]; done) | simp [Act.eval, Act.put]) (by first | rfl | (simp [Act.eval]; done) | simp [Act.eval, Act.put]) hlk ?_)
                      (try go_simp)
                      refine hK _ _ ?_
                      clear hK K
                      refine wpAny_ready (rs := [7]) (by kernel_rfl) (by simp) (AllReady.cons (o := ⟨some 41, .call { callee := .builtin .append, args := #[.tmp 38, .tmp 40], argTypes := #[32, 32] }, 32, "way.go:51", #[⟨4, .data⟩, ⟨6, .data⟩], none⟩) rfl (fun K hK => ?_) AllReady.nil)
                      · obtain ⟨a1, n1, c1, W2, W3, hap, f3, hup, hf1, hf2, hf3⟩ := hnext (w5.drew.alloc (.cells #[.int .i64 (i : Int)] 3)) w5.drew.heap.size (by first | exact Stay.refl _ | exact Stay.new _ _) (new_cell _ _ _)
                        refine step_append_run rfl _ _ _ _ rfl (by first | rfl | (simp [Act.eval]; done) | simp [Act.eval, Act.put]) (by first | rfl | (simp [Act.eval]; done) | simp [Act.eval, Act.put]) hap ?_
                        (try go_simp)
                        refine hK _ _ ?_
                        clear hK K
                        refine wpAny_ready (rs := [8]) (by kernel_rfl) (by simp) (AllReady.cons (o := ⟨none, .mapUpdate 90 (.tmp 34) (.tmp 35) (.tmp 41), 0, "way.go:51", #[⟨0, .data⟩, ⟨1, .data⟩, ⟨7, .data⟩, ⟨7, .chain⟩, ⟨0, .phase⟩, ⟨1, .phase⟩, ⟨2, .phase⟩, ⟨3, .phase⟩, ⟨4, .phase⟩, ⟨5, .phase⟩, ⟨6, .phase⟩, ⟨7, .phase⟩], none⟩) rfl (fun K hK => ?_) AllReady.nil)
                        · refine step_update_run rfl _ _ _ _ rfl (by first | rfl | (simp [Act.eval]; done) | simp [Act.eval, Act.put]) (by first | rfl | (simp [Act.eval]; done) | simp [Act.eval, Act.put]) (by first | rfl | (simp [Act.eval]; done) | simp [Act.eval, Act.put]) hup ?_
                          (try go_simp)
                          refine hK _ _ ?_
                          clear hK K
                          refine wpAny_done (by kernel_rfl) ?_ _
                          gi_wp2
                          rw [HL.out] at hf1
                          first | exact HF2.out w5.drew W3 (Stay.drew w5) hf1 hf2 hf3 _ | exact HF2.out _ W3 ((Stay.drew w5).alloc _) hf1 hf2 hf3 _
                  · first | (obtain ⟨u, hlk, hnext⟩ := HG w5.drew (Stay.drew w5); refine step_lookup_run rfl _ _ _ rfl (by first | rfl | (simp [Act.eval]; done) | simp [Act.eval, Act.put]) (by first | rfl | (simp [Act.eval]; done) | simp [Act.eval, Act.put]) hlk ?_) | (obtain ⟨u, hlk, hnext⟩ := HG (w5.drew.alloc (.cells #[.int .i64 (i : Int)] 3)) ((Stay.drew w5).alloc _); refine step_lookup_run rfl _ _ _ rfl (by first | rfl | (simp [Act.eval]; done) | simp [Act.eval, Act.put]) (by first | rfl | (simp [Act.eval]; done) | simp [Act.eval, Act.put]) hlk ?_)
                    (try go_simp)
                    refine hK _ _ ?_
                    clear hK K
                    refine wpAny_ready (rs := [0, 7]) (by kernel_rfl) (by simp) (AllReady.cons (o := ⟨some 34, .load 90 (.tmp 6), 90, "way.go:51", #[], none⟩) rfl (fun K hK => ?_) (AllReady.cons (o := ⟨some 41, .call { callee := .builtin .append, args := #[.tmp 38, .tmp 40], argTypes := #[32, 32] }, 32, "way.go:51", #[⟨4, .data⟩, ⟨6, .data⟩], none⟩) rfl (fun K hK => ?_) AllReady.nil))
                    · go_simp
                      refine hK _ _ ?_
                      clear hK K
                      refine wpAny_ready (rs := [7]) (by kernel_rfl) (by simp) (AllReady.cons (o := ⟨some 41, .call { callee := .builtin .append, args := #[.tmp 38, .tmp 40], argTypes := #[32, 32] }, 32, "way.go:51", #[⟨4, .data⟩, ⟨6, .data⟩], none⟩) rfl (fun K hK => ?_) AllReady.nil)
                      · obtain ⟨a1, n1, c1, W2, W3, hap, f3, hup, hf1, hf2, hf3⟩ := hnext (w5.drew.alloc (.cells #[.int .i64 (i : Int)] 3)) w5.drew.heap.size (by first | exact Stay.refl _ | exact Stay.new _ _) (new_cell _ _ _)
                        refine step_append_run rfl _ _ _ _ rfl (by first | rfl | (simp [Act.eval]; done) | simp [Act.eval, Act.put]) (by first | rfl | (simp [Act.eval]; done) | simp [Act.eval, Act.put]) hap ?_
                        (try go_simp)
                        refine hK _ _ ?_
                        clear hK K
                        refine wpAny_ready (rs := [8]) (by kernel_rfl) (by simp) (AllReady.cons (o := ⟨none, .mapUpdate 90 (.tmp 34) (.tmp 35) (.tmp 41), 0, "way.go:51", #[⟨0, .data⟩, ⟨1, .data⟩, ⟨7, .data⟩, ⟨7, .chain⟩, ⟨0, .phase⟩, ⟨1, .phase⟩, ⟨2, .phase⟩, ⟨3, .phase⟩, ⟨4, .phase⟩, ⟨5, .phase⟩, ⟨6, .phase⟩, ⟨7, .phase⟩], none⟩) rfl (fun K hK => ?_) AllReady.nil)
                        · refine step_update_run rfl _ _ _ _ rfl (by first | rfl | (simp [Act.eval]; done) | simp [Act.eval, Act.put]) (by first | rfl | (simp [Act.eval]; done) | simp [Act.eval, Act.put]) (by first | rfl | (simp [Act.eval]; done) | simp [Act.eval, Act.put]) hup ?_
                          (try go_simp)
                          refine hK _ _ ?_
                          clear hK K
                          refine wpAny_done (by kernel_rfl) ?_ _
                          gi_wp2
                          rw [HL.out] at hf1
                          first | exact HF2.out w5.drew W3 (Stay.drew w5) hf1 hf2 hf3 _ | exact HF2.out _ W3 ((Stay.drew w5).alloc _) hf1 hf2 hf3 _
                    · obtain ⟨a1, n1, c1, W2, W3, hap, f3, hup, hf1, hf2, hf3⟩ := hnext (w5.drew.alloc (.cells #[.int .i64 (i : Int)] 3)) w5.drew.heap.size (by first | exact Stay.refl _ | exact Stay.new _ _) (new_cell _ _ _)
                      refine step_append_run rfl _ _ _ _ rfl (by first | rfl | (simp [Act.eval]; done) | simp [Act.eval, Act.put]) (by first | rfl | (simp [Act.eval]; done) | simp [Act.eval, Act.put]) hap ?_
                      (try go_simp)
                      refine hK _ _ ?_
                      clear hK K
                      refine wpAny_ready (rs := [0]) (by kernel_rfl) (by simp) (AllReady.cons (o := ⟨some 34, .load 90 (.tmp 6), 90, "way.go:51", #[], none⟩) rfl (fun K hK => ?_) AllReady.nil)
                      · go_simp
                        refine hK _ _ ?_
                        clear hK K
                        refine wpAny_ready (rs := [8]) (by kernel_rfl) (by simp) (AllReady.cons (o := ⟨none, .mapUpdate 90 (.tmp 34) (.tmp 35) (.tmp 41), 0, "way.go:51", #[⟨0, .data⟩, ⟨1, .data⟩, ⟨7, .data⟩, ⟨7, .chain⟩, ⟨0, .phase⟩, ⟨1, .phase⟩, ⟨2, .phase⟩, ⟨3, .phase⟩, ⟨4, .phase⟩, ⟨5, .phase⟩, ⟨6, .phase⟩, ⟨7, .phase⟩], none⟩) rfl (fun K hK => ?_) AllReady.nil)
                        · refine step_update_run rfl _ _ _ _ rfl (by first | rfl | (simp [Act.eval]; done) | simp [Act.eval, Act.put]) (by first | rfl | (simp [Act.eval]; done) | simp [Act.eval, Act.put]) (by first | rfl | (simp [Act.eval]; done) | simp [Act.eval, Act.put]) hup ?_
                          (try go_simp)
                          refine hK _ _ ?_
                          clear hK K
                          refine wpAny_done (by kernel_rfl) ?_ _
                          gi_wp2
                          rw [HL.out] at hf1
                          first | exact HF2.out w5.drew W3 (Stay.drew w5) hf1 hf2 hf3 _ | exact HF2.out _ W3 ((Stay.drew w5).alloc _) hf1 hf2 hf3 _
              · go_simp
                refine hK _ _ ?_
                clear hK K
                refine wpAny_ready (rs := [0, 2]) (by kernel_rfl) (by simp) (AllReady.cons (o := ⟨some 34, .load 90 (.tmp 6), 90, "way.go:51", #[], none⟩) rfl (fun K hK => ?_) (AllReady.cons (o := ⟨some 36, .load 90 (.tmp 6), 90, "way.go:51", #[], none⟩) rfl (fun K hK => ?_) AllReady.nil))
                · go_simp
                  refine hK _ _ ?_
                  clear hK K
                  refine wpAny_ready (rs := [2]) (by kernel_rfl) (by simp) (AllReady.cons (o := ⟨some 36, .load 90 (.tmp 6), 90, "way.go:51", #[], none⟩) rfl (fun K hK => ?_) AllReady.nil)
                  · go_simp
                    refine hK _ _ ?_
                    clear hK K
                    refine wpAny_ready (rs := [4]) (by kernel_rfl) (by simp) (AllReady.cons (o := ⟨some 38, .lookup 90 (.tmp 36) (.tmp 37) false, 32, "way.go:51", #[⟨2, .data⟩, ⟨3, .data⟩], none⟩) rfl (fun K hK => ?_) AllReady.nil)
                    · first | (obtain ⟨u, hlk, hnext⟩ := HG w5.drew (Stay.drew w5); refine step_lookup_run rfl _ _ _ rfl (by first | rfl | (simp [Act.eval]; done) | simp [Act.eval, Act.put]) (by first | rfl | (simp [Act.eval]; done) | simp [Act.eval, Act.put]) hlk ?_) | (obtain ⟨u, hlk, hnext⟩ := HG (w5.drew.alloc (.cells #[.int .i64 (i : Int)] 3)) ((Stay.drew w5).alloc _); refine step_lookup_run rfl _ _ _ rfl (by first | rfl | (simp [Act.eval]; done) | simp [Act.eval, Act.put]) (by first | rfl | (simp [Act.eval]; done) | simp [Act.eval, Act.put]) hlk ?_)
                      (try go_simp)
                      refine hK _ _ ?_
                      clear hK K
                      refine wpAny_ready (rs := [7]) (by kernel_rfl) (by simp) (AllReady.cons (o := ⟨some 41, .call { callee := .builtin .append, args := #[.tmp 38, .tmp 40], argTypes := #[32, 32] }, 32, "way.go:51", #[⟨4, .data⟩, ⟨6, .data⟩], none⟩) rfl (fun K hK => ?_) AllReady.nil)
                      · obtain ⟨a1, n1, c1, W2, W3, hap, f3, hup, hf1, hf2, hf3⟩ := hnext (w5.drew.alloc (.cells #[.int .i64 (i : Int)] 3)) w5.drew.heap.size (by first | exact Stay.refl _ | exact Stay.new _ _) (new_cell _ _ _)
                        refine step_append_run rfl _ _ _ _ rfl (by first | rfl | (simp [Act.eval]; done) | simp [Act.eval, Act.put]) (by first | rfl | (simp [Act.eval]; done) | simp [Act.eval, Act.put]) hap ?_
                        (try go_simp)
                        refine hK _ _ ?_
                        clear hK K
                        refine wpAny_ready (rs := [8]) (by kernel_rfl) (by simp) (AllReady.cons (o := ⟨none, .mapUpdate 90 (.tmp 34) (.tmp 35) (.tmp 41), 0, "way.go:51", #[⟨0, .data⟩, ⟨1, .data⟩, ⟨7, .data⟩, ⟨7, .chain⟩, ⟨0, .phase⟩, ⟨1, .phase⟩, ⟨2, .phase⟩, ⟨3, .phase⟩, ⟨4, .phase⟩, ⟨5, .phase⟩, ⟨6, .phase⟩, ⟨7, .phase⟩], none⟩) rfl (fun K hK => ?_) AllReady.nil)
                        · refine step_update_run rfl _ _ _ _ rfl (by first | rfl | (simp [Act.eval]; done) | simp [Act.eval, Act.put]) (by first | rfl | (simp [Act.eval]; done) | simp [Act.eval, Act.put]) (by first | rfl | (simp [Act.eval]; done) | simp [Act.eval, Act.put]) hup ?_
                          (try go_simp)
                          refine hK _ _ ?_
                          clear hK K
                          refine wpAny_done (by kernel_rfl) ?_ _
                          gi_wp2
                          rw [HL.out] at hf1
                          first | exact HF2.out w5.drew W3 (Stay.drew w5) hf1 hf2 hf3 _ | exact HF2.out _ W3 ((Stay.drew w5).alloc _) hf1 hf2 hf3 _
                · go_simp
                  refine hK _ _ ?_
                  clear hK K
                  refine wpAny_ready (rs := [0, 4]) (by kernel_rfl) (by simp) (AllReady.cons (o := ⟨some 34, .load 90 (.tmp 6), 90, "way.go:51", #[], none⟩) rfl (fun K hK => ?_) (AllReady.cons (o := ⟨some 38, .lookup 90 (.tmp 36) (.tmp 37) false, 32, "way.go:51", #[⟨2, .data⟩, ⟨3, .data⟩], none⟩) rfl (fun K hK => ?_) AllReady.nil))
                  · go_simp
                    refine hK _ _ ?_
                    clear hK K
                    refine wpAny_ready (rs := [4]) (by kernel_rfl) (by simp) (AllReady.cons (o := ⟨some 38, .lookup 90 (.tmp 36) (.tmp 37) false, 32, "way.go:51", #[⟨2, .data⟩, ⟨3, .data⟩], none⟩) rfl (fun K hK => ?_) AllReady.nil)
                    · first | (obtain ⟨u, hlk, hnext⟩ := HG w5.drew (Stay.drew w5); refine step_lookup_run rfl _ _ _ rfl (by first | rfl | (simp [Act.eval]; done) | simp [Act.eval, Act.put]) (by first | rfl | (simp [Act.eval]; done) | simp [Act.eval, Act.put]) hlk ?_) | (obtain ⟨u, hlk, hnext⟩ := HG (w5.drew.alloc (.cells #[.int .i64 (i : Int)] 3)) ((Stay.drew w5).alloc _); refine step_lookup_run rfl _ _ _ rfl (by first | rfl | (simp [Act.eval]; done) | simp [Act.eval, Act.put]) (by first | rfl | (simp [Act.eval]; done) | simp [Act.eval, Act.put]) hlk ?_)
                      (try go_simp)
                      refine hK _ _ ?_
                      clear hK K
                      refine wpAny_ready (rs := [7]) (by kernel_rfl) (by simp) (AllReady.cons (o := ⟨some 41, .call { callee := .builtin .append, args := #[.tmp 38, .tmp 40], argTypes := #[32, 32] }, 32, "way.go:51", #[⟨4, .data⟩, ⟨6, .data⟩], none⟩) rfl (fun K hK => ?_) AllReady.nil)
                      · obtain ⟨a1, n1, c1, W2, W3, hap, f3, hup, hf1, hf2, hf3⟩ := hnext (w5.drew.alloc (.cells #[.int .i64 (i : Int)] 3)) w5.drew.heap.size (by first | exact Stay.refl _ | exact Stay.new _ _) (new_cell _ _ _)
                        refine step_append_run rfl _ _ _ _ rfl (by first | rfl | (simp [Act.eval]; done) | simp [Act.eval, Act.put]) (by first | rfl | (simp [Act.eval]; done) | simp [Act.eval, Act.put]) hap ?_
                        (try go_simp)
                        refine hK _ _ ?_
                        clear hK K
                        refine wpAny_ready (rs := [8]) (by kernel_rfl) (by simp) (AllReady.cons (o := ⟨none, .mapUpdate 90 (.tmp 34) (.tmp 35) (.tmp 41), 0, "way.go:51", #[⟨0, .data⟩, ⟨1, .data⟩, ⟨7, .data⟩, ⟨7, .chain⟩, ⟨0, .phase⟩, ⟨1, .phase⟩, ⟨2, .phase⟩, ⟨3, .phase⟩, ⟨4, .phase⟩, ⟨5, .phase⟩, ⟨6, .phase⟩, ⟨7, .phase⟩], none⟩) rfl (fun K hK => ?_) AllReady.nil)
                        · refine step_update_run rfl _ _ _ _ rfl (by first | rfl | (simp [Act.eval]; done) | simp [Act.eval, Act.put]) (by first | rfl | (simp [Act.eval]; done) | simp [Act.eval, Act.put]) (by first | rfl | (simp [Act.eval]; done) | simp [Act.eval, Act.put]) hup ?_
                          (try go_simp)
                          refine hK _ _ ?_
                          clear hK K
                          refine wpAny_done (by kernel_rfl) ?_ _
                          gi_wp2
                          rw [HL.out] at hf1
                          first | exact HF2.out w5.drew W3 (Stay.drew w5) hf1 hf2 hf3 _ | exact HF2.out _ W3 ((Stay.drew w5).alloc _) hf1 hf2 hf3 _
                  · first | (obtain ⟨u, hlk, hnext⟩ := HG w5.drew (Stay.drew w5); refine step_lookup_run rfl _ _ _ rfl (by first | rfl | (simp [Act.eval]; done) | simp [Act.eval, Act.put]) (by first | rfl | (simp [Act.eval]; done) | simp [Act.eval, Act.put]) hlk ?_) | (obtain ⟨u, hlk, hnext⟩ := HG (w5.drew.alloc (.cells #[.int .i64 (i : Int)] 3)) ((Stay.drew w5).alloc _); refine step_lookup_run rfl _ _ _ rfl (by first | rfl | (simp [Act.eval]; done) | simp [Act.eval, Act.put]) (by first | rfl | (simp [Act.eval]; done) | simp [Act.eval, Act.put]) hlk ?_)
                    (try go_simp)
                    refine hK _ _ ?_
                    clear hK K
                    refine wpAny_ready (rs := [0, 7]) (by kernel_rfl) (by simp) (AllReady.cons (o := ⟨some 34, .load 90 (.tmp 6), 90, "way.go:51", #[], none⟩) rfl (fun K hK => ?_) (AllReady.cons (o := ⟨some 41, .call { callee := .builtin .append, args := #[.tmp 38, .tmp 40], argTypes := #[32, 32] }, 32, "way.go:51", #[⟨4, .data⟩, ⟨6, .data⟩], none⟩) rfl (fun K hK => ?_) AllReady.nil))
                    · go_simp
                      refine hK _ _ ?_
                      clear hK K
                      refine wpAny_ready (rs := [7]) (by kernel_rfl) (by simp) (AllReady.cons (o := ⟨some 41, .call { callee := .builtin .append, args := #[.tmp 38, .tmp 40], argTypes := #[32, 32] }, 32, "way.go:51", #[⟨4, .data⟩, ⟨6, .data⟩], none⟩) rfl (fun K hK => ?_) AllReady.nil)
                      · obtain ⟨a1, n1, c1, W2, W3, hap, f3, hup, hf1, hf2, hf3⟩ := hnext (w5.drew.alloc (.cells #[.int .i64 (i : Int)] 3)) w5.drew.heap.size (by first | exact Stay.refl _ | exact Stay.new _ _) (new_cell _ _ _)
                        refine step_append_run rfl _ _ _ _ rfl (by first | rfl | (simp [Act.eval]; done) | simp [Act.eval, Act.put]) (by first | rfl | (simp [Act.eval]; done) | simp [Act.eval, Act.put]) hap ?_
                        (try go_simp)
                        refine hK _ _ ?_
                        clear hK K
                        refine wpAny_ready (rs := [8]) (by kernel_rfl) (by simp) (AllReady.cons (o := ⟨none, .mapUpdate 90 (.tmp 34) (.tmp 35) (.tmp 41), 0, "way.go:51", #[⟨0, .data⟩, ⟨1, .data⟩, ⟨7, .data⟩, ⟨7, .chain⟩, ⟨0, .phase⟩, ⟨1, .phase⟩, ⟨2, .phase⟩, ⟨3, .phase⟩, ⟨4, .phase⟩, ⟨5, .phase⟩, ⟨6, .phase⟩, ⟨7, .phase⟩], none⟩) rfl (fun K hK => ?_) AllReady.nil)
                        · refine step_update_run rfl _ _ _ _ rfl (by first | rfl | (simp [Act.eval]; done) | simp [Act.eval, Act.put]) (by first | rfl | (simp [Act.eval]; done) | simp [Act.eval, Act.put]) (by first | rfl | (simp [Act.eval]; done) | simp [Act.eval, Act.put]) hup ?_
                          (try go_simp)
                          refine hK _ _ ?_
                          clear hK K
                          refine wpAny_done (by kernel_rfl) ?_ _
                          gi_wp2
                          rw [HL.out] at hf1
                          first | exact HF2.out w5.drew W3 (Stay.drew w5) hf1 hf2 hf3 _ | exact HF2.out _ W3 ((Stay.drew w5).alloc _) hf1 hf2 hf3 _
                    · obtain ⟨a1, n1, c1, W2, W3, hap, f3, hup, hf1, hf2, hf3⟩ := hnext (w5.drew.alloc (.cells #[.int .i64 (i : Int)] 3)) w5.drew.heap.size (by first | exact Stay.refl _ | exact Stay.new _ _) (new_cell _ _ _)
                      refine step_append_run rfl _ _ _ _ rfl (by first | rfl | (simp [Act.eval]; done) | simp [Act.eval, Act.put]) (by first | rfl | (simp [Act.eval]; done) | simp [Act.eval, Act.put]) hap ?_
                      (try go_simp)
                      refine hK _ _ ?_
                      clear hK K
                      refine wpAny_ready (rs := [0]) (by kernel_rfl) (by simp) (AllReady.cons (o := ⟨some 34, .load 90 (.tmp 6), 90, "way.go:51", #[], none⟩) rfl (fun K hK => ?_) AllReady.nil)
                      · go_simp
                        refine hK _ _ ?_
                        clear hK K
                        refine wpAny_ready (rs := [8]) (by kernel_rfl) (by simp) (AllReady.cons (o := ⟨none, .mapUpdate 90 (.tmp 34) (.tmp 35) (.tmp 41), 0, "way.go:51", #[⟨0, .data⟩, ⟨1, .data⟩, ⟨7, .data⟩, ⟨7, .chain⟩, ⟨0, .phase⟩, ⟨1, .phase⟩, ⟨2, .phase⟩, ⟨3, .phase⟩, ⟨4, .phase⟩, ⟨5, .phase⟩, ⟨6, .phase⟩, ⟨7, .phase⟩], none⟩) rfl (fun K hK => ?_) AllReady.nil)
                        · refine step_update_run rfl _ _ _ _ rfl (by first | rfl | (simp [Act.eval]; done) | simp [Act.eval, Act.put]) (by first | rfl | (simp [Act.eval]; done) | simp [Act.eval, Act.put]) (by first | rfl | (simp [Act.eval]; done) | simp [Act.eval, Act.put]) hup ?_
                          (try go_simp)
                          refine hK _ _ ?_
                          clear hK K
                          refine wpAny_done (by kernel_rfl) ?_ _
                          gi_wp2
                          rw [HL.out] at hf1
                          first | exact HF2.out w5.drew W3 (Stay.drew w5) hf1 hf2 hf3 _ | exact HF2.out _ W3 ((Stay.drew w5).alloc _) hf1 hf2 hf3 _
          · have hgt : decide (fa > (i : Int)) = false := by simpa using hlt2
            gi_wp2_with (first
              | (gi_at_lookup; refine wpListIn_lookup_own_int _ rfl _ _ _ rfl 9 3 .i64 lawS Try.underlying66 Try.underlying3 (zeroI _) bm _ Dm rfl hD _ _ rfl hkey ?_; intro c hat hwc; obtain rfl : fa = c := (by rw [hat0] at hat; simpa using hat); clear hat hwc))
            refine ⟨Holds.refl _ _, Nat.le_refl _, ?_, HX.out.1⟩
            rw [HA1.out]
            simpa using hlt2
    · obtain rfl : i = ls.length := by omega
      obtain ⟨a0, b0, c0, rfl, -⟩ := hT.own.form encIOk
      have HH : Hid (TkI w bm (takeN bs ls ls.length).1 (takeN bs ls ls.length).2 n (.slice a0 (takeN bs ls ls.length).1.length c0) wr ∧ Marks V.heap.size wr.heap.size D wr) := ⟨hT, hMk⟩
      clear hT hMk hwl HT0 HM
      gi_wp2
      refine leaves_marks (T := OwI) HH.out.2 fun w' hw' => ⟨_, results_tmp rfl _ _ _, ?_⟩
      show R _ _
      rw [HR.out]
      have hT' := HH.out.1.hold hw' (by omega)
      exact ⟨a0, c0, rfl, hT'.own.base (by omega), hT'.bel⟩
end Go.Proofs.Ytpnjmldbohecdaa
