/- The faults of a program: Faults. -/
import Derived.Test.YtnmeljenldadfaaEM
import Derived.Test.YtnmeljenldadfaaEH
namespace Go.Proofs.Ytnmeljenldadfaa
open Go.RowKit Go.Maps Go.Shelf
attribute [local go_sem] Oper.semAt_some

def OwL (t : TypeId) : Prop := t = 45
theorem owL_not {t : TypeId} (h : t ≠ 45) : ¬ OwL t := h

set_option maxRecDepth 100000 in
set_option maxHeartbeats 4000000 in
theorem sFaults_any (x : Pr) (w : World) (hM : LsR w x.ra x.rb x.ro x.rules) (hf : ∀ r ∈ x.rules, r.fit w) (hn : x.rules.length ≤ 1048576) (hl : (faultsF 0 x.rules).length ≤ 4294967296) : Calls Try.prog 24 #[x.v] w (NewR 45 3 encLo w (faultsF 0 x.rules)) := by
  obtain ⟨ia, ib, io, ic, ins, oa, ob, oo, oc, outs, ra, rb, ro, rc, rules⟩ := x
  dsimp only [Pr.v] at *
  obtain ⟨R, hR⟩ : ∃ R, R = NewR 45 3 encLo w (faultsF 0 rules) := ⟨_, rfl⟩
  rw [← hR]
  have HR : Hid (R = NewR 45 3 encLo w (faultsF 0 rules)) := hR
  obtain ⟨V0, hV0⟩ : ∃ V0, V0 = w.alloc (.cells #[.slice ia ins.length ic, .slice oa outs.length oc, .slice ra rules.length rc] 43) := ⟨_, rfl⟩
  have s0 : Stay w V0 := by rw [hV0]; exact Stay.new _ _
  have z0 : V0.heap.size = w.heap.size + 1 := by rw [hV0]; simp
  obtain ⟨V1, hV1⟩ : ∃ V1, V1 = V0.alloc (.cells #[.slice none 0 0] 37) := ⟨_, rfl⟩
  have s1 : Stay V0 V1 := by rw [hV1]; exact Stay.new _ _
  have z1 : V1.heap.size = w.heap.size + 2 := by rw [hV1]; simp [z0]
  have hN0 : NI 45 37 3 encLo V0 [] (.slice none 0 0) V1 := ⟨by rw [hV1]; exact heap_new _ _, OwnR.nil, s1⟩
  have hB0 : V0.heap[w.heap.size]? = some (.cells #[.slice ia ins.length ic, .slice oa outs.length oc, .slice ra rules.length rc] 43 (0, 0)) := by rw [hV0]; exact heap_new _ _
  have c2 : V1.cell? ⟨w.heap.size, 2, none⟩ = some (.slice ra rules.length rc) := by
    have h := (s1.block w.heap.size (by omega)).trans hB0
    simp [World.cell?, h]
  rw [hV1, hV0] at c2
  have HN0 : Hid (NI 45 37 3 encLo V0 [] (.slice none 0 0) V1) := hN0
  have HM : Hid (LsR V0 ra rb ro rules ∧ (∀ r ∈ rules, r.fit V0) ∧ (faultsF 0 rules).length ≤ 4294967296) := ⟨⟨hM.1.stay s0, fun r hr => Ru.stay (hM.2 r hr) s0⟩, fun r hr => (hf r hr).stay s0, hl⟩
  clear hM hf hl hR hN0
  refine (callsIn_wide (n := 8)).1 (callsIn_of_wp_marks Try.func24 rfl trivial ?_ rfl)
  simp only [Try.ntmps24, List.size_toArray, List.length_cons, List.length_nil, Nat.reduceAdd, Nat.reduceSub, Array.replicate_succ, Array.replicate_zero, List.push_toArray, List.append_toArray, List.nil_append, List.cons_append]
  gi_wp2
  rw [← hV0, ← hV1]
  refine wpIn_loop (fun a wr => ∃ (i : Nat) (D : List Deferred) (v u4 u5 u6 u7 u12 u13 u14 u15 u16 u17 u18 u19 u20 u21 u22 u23 u24 u25 u26 u27 u28 u29 : Value), i ≤ rules.length ∧ a = { tmps := #[.agg #[.slice ia ins.length ic, .slice oa outs.length oc, .slice ra rules.length rc], .pointer (some ⟨w.heap.size, 0, none⟩), .slice none 0 0, .pointer (some ⟨w.heap.size + 1, 0, none⟩), u4, u5, u6, u7, .pointer (some ⟨w.heap.size, 2, none⟩), .slice ra rules.length rc, .int .i64 (rules.length : Int), .int .i64 (i : Int), u12, u13, u14, u15, u16, u17, u18, u19, u20, u21, u22, u23, u24, u25, u26, u27, u28, u29], defers := D } ∧ NI 45 37 3 encLo V0 (faultsF 0 (rules.take i)) v wr ∧ V1.heap.size ≤ wr.heap.size ∧ Marks V1.heap.size wr.heap.size D wr) (fun a _ => rules.length - (intOf (a.tmps.getD 11 undef)).toNat) ?start ?round
  case start => exact ⟨0, _, _, _, _, _, _, _, _, _, _, _, _, _, _, _, _, _, _, _, _, _, _, _, _, Nat.zero_le _, rfl, HN0.out, Nat.le_refl _, Marks.nil _ _ _⟩
  case round =>
    rintro a wr ⟨i, D, v, u4, u5, u6, u7, u12, u13, u14, u15, u16, u17, u18, u19, u20, u21, u22, u23, u24, u25, u26, u27, u28, u29, hi, rfl, hN, hzr, hMk⟩
    by_cases hlt : i < rules.length
    · have hki : (i : Int) < (rules.length : Int) := by omega
      obtain ⟨⟨hra, hrec⟩, hrin⟩ := HM.out.1
      obtain rfl := hra (by omega)
      have hfit := HM.out.2.1 _ (List.getElem_mem hlt)
      have d0 := below_cell hN.bel (World.block_lt_of_cell? _ _ (hrec i hlt 0 _ rfl)) (hrec i hlt 0 _ rfl)
      have d1 := below_cell hN.bel (World.block_lt_of_cell? _ _ (hrec i hlt 1 _ rfl)) (hrec i hlt 1 _ rfl)
      have d2 := below_cell hN.bel (World.block_lt_of_cell? _ _ (hrec i hlt 2 _ rfl)) (hrec i hlt 2 _ rfl)
      have hls := fun W => loose_any rules[i] W
      have HB : Hid (NI 45 37 3 encLo V0 (faultsF 0 (rules.take i)) v wr ∧ Marks V1.heap.size wr.heap.size D wr) := ⟨hN, hMk⟩
      clear hra hrec hrin hN hMk HN0
      generalize hr : rules[i] = r at *
      obtain ⟨⟨hp, ha, hb, ho, hcp, hts⟩, ba, bb, bo, bc, bls⟩ := r
      dsimp only [Ru.v, At.sl, encRu] at *
      rw [Nat.add_zero] at d0
      gi_wp2_with (refine ⟨trivial, ?_⟩; gi_at_call 39; refine CallsIn.mono (callsIn_wide.2 (hls _)) ?_; rintro e w' ⟨rfl, rfl⟩)
      clear hls d0 d1 d2
      obtain ⟨V2, hV2⟩ : ∃ V2, V2 = ((wr.alloc (.cells #[.int .i64 (i : Int)] 3)).alloc (.cells #[.string hp, .slice ha hts.length hcp, .slice ba bls.length bc] 27)).alloc (.cells #[.string hp, .slice ha hts.length hcp, .slice ba bls.length bc] 27) := ⟨_, rfl⟩
      rw [← hV2]
      have z2 : V2.heap.size = wr.heap.size + 3 := by rw [hV2]; simp
      have st2 : Stay wr V2 := by rw [hV2]; exact ((Stay.new _ _).alloc _).alloc _
      have g0 : V2.heap[wr.heap.size]? = some (.cells #[.int .i64 (i : Int)] 3 (0, 0)) := by
        rw [hV2]; exact (Below.heap_alloc _ _ _ (by simp only [World.size_alloc]; omega)).trans ((Below.heap_alloc _ _ _ (by simp)).trans (heap_new _ _))
      have g2 : V2.heap[wr.heap.size + 1 + 1]? = some (.cells #[.string hp, .slice ha hts.length hcp, .slice ba bls.length bc] 27 (0, 0)) := by
        have := heap_new ((wr.alloc (.cells #[.int .i64 (i : Int)] 3)).alloc (.cells #[.string hp, .slice ha hts.length hcp, .slice ba bls.length bc] 27)) (.cells #[.string hp, .slice ha hts.length hcp, .slice ba bls.length bc] 27)
        rw [World.size_alloc, World.size_alloc] at this
        rw [hV2]; exact this
      have hN2 := HB.out.1.stay st2
      have hb2 : Below V0.heap.size V0 V2 := hN2.bel
      have hin2 : Ru.fit ⟨⟨hp, ha, hb, ho, hcp, hts⟩, ba, bb, bo, bc, bls⟩ V2 := hfit.stay hb2
      have hseq := loose_seq OwL ⟨owL_not (by decide), owL_not (by decide), owL_not (by decide), owL_not (by decide), owL_not (by decide), owL_not (by decide), owL_not (by decide)⟩ ⟨⟨hp, ha, hb, ho, hcp, hts⟩, ba, bb, bo, bc, bls⟩ (wr.heap.size + 1 + 1) (fun i => i < V0.heap.size ∨ i = wr.heap.size + 1 + 1) V2 hin2.ins g2 hin2.small (hfit.reads.mono fun i h => .inl h) hin2.shorts (.inr rfl) (fun i h => by omega)
      have hft := faults_few hlt HM.out.2.2
      have HT : Hid (faultsF 0 (rules.take (i + 1)) = faultsF 0 (rules.take i) ++ (looseP rules[i]).map (fun p => ((i : Int), p))) := faultsF_take hlt
      rw [hr] at hft HT
      have hsx : ∀ p ∈ looseP ⟨⟨hp, ha, hb, ho, hcp, hts⟩, ba, bb, bo, bc, bls⟩, p.2.size ≤ 1048576 := fun p hp' => placesR_short hin2.shorts p (sel_mem (sel_mem (c := looseC (bindP bls)) hp'))
      generalize looseP ⟨⟨hp, ha, hb, ho, hcp, hts⟩, ba, bb, bo, bc, bls⟩ = xs at *
      obtain ⟨F, hF⟩ : ∃ F, F = faultsF 0 (rules.take i) := ⟨_, rfl⟩
      rw [← hF] at hft HT HB hN2
      have hMk := HB.out.2
      have hM2 : Marks V1.heap.size wr.heap.size D V2 := hMk.kept (fun r _ h _ => st2.block r h)
      have hclone : ∀ args w, (callFunc 40 args).run Try.prog w = .ok (.enter 40 args) w := enters_of Try.func40 (by kernel_rfl) rfl
      clear hF hr hV2 HB hfit hin2 hMk hb2
      refine' range_list (α := Int × ByteArray) (T := OwL) (by decide) (gf := 59) (lb := #[.pointer (some ⟨wr.heap.size + 1 + 1, 0, none⟩)]) rfl (enters_of Try.func59 (by kernel_rfl) rfl) hseq (fun i h => by omega) (fun _ => rfl)
        (fun k A => ∃ v, NI 45 37 3 encLo V0 (F ++ (xs.take k).map (fun p => ((i : Int), p))) v A ∧ Kep OwL (fun i => i < V0.heap.size ∨ i = wr.heap.size + 1 + 1) V1.heap.size V2 A) (fun _ _ _ => False) (fun k A A' hA hb => ?hI) (fun c k A A' hA hb => hA) ⟨_, by simpa using hN2, Kep.refl _ _ _ _⟩ (fun _ W => W) (fun _ W => Stay.refl W) _ ?assign ?body ?done ?stop
      case hI =>
        obtain ⟨v, h1, h2⟩ := hA
        exact ⟨v, h1.hold (T := OwL) rfl (hb.mono (by omega)), h2.below (fun i h => by omega) (Nat.le_refl _) hb⟩
      case assign =>
        intro l' y W' K hK
        dsimp only [encIS]
        gi_wp2
        exact hK
      case stop => exact fun _ _ _ _ h => h.elim
      case done =>
        rintro A ⟨v', hA, hKA⟩ hdd
        rw [List.take_of_length_le (Nat.le_refl _)] at hA
        have hMA : Marks V1.heap.size A.heap.size ({ target := .collected V2.heap.size, args := #[] } :: D) A := (hM2.kept (fun r h1 h2 h3 => hKA.get (.inr ⟨h1, by omega, not_tyd_o h3 rfl⟩))).cons V2.heap.size (by omega) (by omega) (Array.getElem?_eq_some_iff.1 hdd).1 hdd
        have HH : Hid (NI 45 37 3 encLo V0 (faultsF 0 (rules.take (i + 1))) v' A ∧ V1.heap.size ≤ A.heap.size ∧ Marks V1.heap.size A.heap.size ({ target := .collected V2.heap.size, args := #[] } :: D) A) := ⟨by rw [HT.out]; exact hA, by have := hKA.2; omega, hMA⟩
        clear hA hKA hdd hMA hN2 hM2 HT hseq g0 g2
        gi_wp2
        refine ⟨⟨i + 1, _, _, _, _, _, _, _, _, _, _, _, _, _, _, _, _, _, _, _, _, _, _, _, _, by omega, by rw [Int.natCast_add]; rfl, HH.out⟩, ?_⟩
        simp [intOf]
        omega
      case body =>
        intro l' k hk W' X hX ho' hWs hl' hXs
        obtain ⟨v', hX, hKX⟩ := hX
        have htk : F ++ (xs.take (k + 1)).map (fun p => ((i : Int), p)) = F ++ (xs.take k).map (fun p => ((i : Int), p)) ++ [((i : Int), xs[k])] := by rw [List.take_add_one, List.getElem?_eq_getElem hk, Option.toList_some, List.map_append, ← List.append_assoc]; rfl
        have hlen : (F ++ (xs.take k).map (fun p => ((i : Int), p))).length ≤ 4294967296 := by rw [List.length_append, List.length_map, List.length_take]; omega
        have hcl := clone_any xs[k].2 X.drew (hsx _ (List.getElem_mem hk))
        have hbi := (hKX.get (i := wr.heap.size) (.inr ⟨by omega, by omega, not_tyd g0 (owL_not (by decide))⟩)).trans g0
        have hbr := (hKX.get (i := wr.heap.size + 1 + 1) (.inl (.inr rfl))).trans g2
        have ci : X.cell? ⟨wr.heap.size, 0, none⟩ = some (.int .i64 (i : Int)) := by simp [World.cell?, hbi]
        have HP : Hid (∀ w1, Stay X w1 → ∃ a1 n1 c1 W2, (Builtin.append_ #[37, 37] 37 #[v', .slice (some ⟨w1.heap.size, 0, none⟩) 1 1]).run Try.prog (w1.alloc (.cells #[.int .i64 (i : Int), .int .i64 xs[k].1, .string xs[k].2] 45)) = .ok (.slice a1 n1 c1) W2 ∧
          (w1.cell? ⟨w.heap.size + 1, 0, none⟩ = some v' ∧ (∀ o, (w1.alloc o).cell? ⟨w.heap.size + 1, 0, none⟩ = some v') ∧ W2.cell? ⟨w.heap.size + 1, 0, none⟩ = some v' ∧ W2.frozen? ⟨w.heap.size + 1, 0, none⟩ = false) ∧ w1.cell? ⟨wr.heap.size, 0, none⟩ = some (.int .i64 (i : Int)) ∧ ∀ a',
          listPost OwL V2.heap.size (fun i => i < V0.heap.size ∨ i = wr.heap.size + 1 + 1) (fun k A => ∃ v, NI 45 37 3 encLo V0 (F ++ (xs.take k).map (fun p => ((i : Int), p))) v A ∧ Kep OwL (fun i => i < V0.heap.size ∨ i = wr.heap.size + 1 + 1) V1.heap.size V2 A) (fun _ _ _ => False) (k + 1) X .normal a' (W2.setCell ⟨w.heap.size + 1, 0, none⟩ (.slice a1 n1 c1))) := fun w1 h1 => by
          obtain ⟨a1, n1, c1, W2, r, hc, hN, hsz, hkp⟩ := hX.push (T := OwL) encLoOk Try.underlying37 infoLo rfl rfl ((i : Int), xs[k]) (by unfold maxLen; omega) (by omega) h1 37
          rw [z0] at hc hN hsz hkp
          have hkx := hKX.2
          have hKW : Kep OwL (fun i => i < V0.heap.size ∨ i = wr.heap.size + 1 + 1) V1.heap.size X (W2.setCell ⟨w.heap.size + 1, 0, none⟩ (.slice a1 n1 c1)) := ⟨fun q hq => hkp q (by
              rcases hq with (hq | hq) | hq
              · omega
              · omega
              · have := hq.1; omega) (by
              rcases hq with (hq | hq) | hq
              · omega
              · omega
              · exact hq.2.1) (by
              rcases hq with (hq | hq) | hq
              · exact .inl (by omega)
              · exact .inr (by rw [hq]; exact not_tyd hbr (owL_not (by decide)))
              · exact .inr hq.2.2), hsz⟩
          refine ⟨a1, n1, c1, W2, r, hc, h1.cell ci, fun a' => ⟨hKW.1.mono fun q hq => ?_, hsz, _, by rw [htk]; exact hN, hKX.trans hKW⟩⟩
          rcases hq with hq | hq
          · exact .inl hq
          · exact .inr ⟨by have := hq.1; omega, hq.2⟩
        have c0 : X.drew.cell? ⟨w.heap.size + 1, 0, none⟩ = some v' := (Stay.drew X).cell (by have := hX.cell; rwa [z0] at this)
        have ci' : X.drew.cell? ⟨wr.heap.size, 0, none⟩ = some (.int .i64 (i : Int)) := (Stay.drew X).cell ci
        clear hX hKX hN2 hM2 hseq htk ho' hbi hbr ci HT g0 g2
        generalize xs[k] = p at *
        obtain ⟨pi, ps⟩ := p
        dsimp only [encIS] at *
        gi_wp2
        refine region_round (by kernel_rfl) (by rfl) (by rintro ⟨a, w, h⟩; exact h) ?_
        refine wpAny_take (i := 2) (v := .int .i64 pi) rfl (by kernel_rfl) (by kernel_rfl) (by kernel_rfl) (fun _ _ _ h => h) (Or.inl ⟨by rfl, fun W => by first | (go_simp; done) | (go_simp; with_reducible rfl)⟩) ?_
        refine wpAny_take (i := 3) (v := .string ps) rfl (by kernel_rfl) (by kernel_rfl) (by kernel_rfl) (fun _ _ _ h => h) (Or.inl ⟨by rfl, fun W => by first | (go_simp; done) | (go_simp; with_reducible rfl)⟩) ?_
        refine wpAny_ready (rs := [0, 1, 4]) (by kernel_rfl) (by simp) (AllReady.cons (o := { dst := some 20, op := Op.load 37 (Operand.tmp 3), type := 37, pos := "safe.go:39", after := #[], guard := none }) rfl (fun K hK => ?_) (AllReady.cons (o := { dst := some 21, op := Op.load 3 (Operand.tmp 4), type := 3, pos := "safe.go:39", after := #[], guard := none }) rfl (fun K hK => ?_) (AllReady.cons (o := { dst := some 24, op := Op.call { callee := Callee.value (Operand.func 40), args := #[Operand.tmp 23], argTypes := #[9] }, type := 9, pos := "safe.go:39", after := #[{ on := 3, ground := Ground.data }], guard := none }) rfl (fun K hK => ?_) AllReady.nil)))
        · go_simp
          refine hK _ _ ?_
          clear hK K
          refine wpAny_ready (rs := [1, 4]) (by kernel_rfl) (by simp) (AllReady.cons (o := { dst := some 21, op := Op.load 3 (Operand.tmp 4), type := 3, pos := "safe.go:39", after := #[], guard := none }) rfl (fun K hK => ?_) (AllReady.cons (o := { dst := some 24, op := Op.call { callee := Callee.value (Operand.func 40), args := #[Operand.tmp 23], argTypes := #[9] }, type := 9, pos := "safe.go:39", after := #[{ on := 3, ground := Ground.data }], guard := none }) rfl (fun K hK => ?_) AllReady.nil))
          · go_simp
            refine hK _ _ ?_
            clear hK K
            refine wpAny_ready (rs := [4]) (by kernel_rfl) (by simp) (AllReady.cons (o := { dst := some 24, op := Op.call { callee := Callee.value (Operand.func 40), args := #[Operand.tmp 23], argTypes := #[9] }, type := 9, pos := "safe.go:39", after := #[{ on := 3, ground := Ground.data }], guard := none }) rfl (fun K hK => ?_) AllReady.nil)
            · refine step_goG (by rfl) 40 _ _ rfl (args := #[.string ps]) (by first | rfl | (simp [Act.eval]; done) | simp [Act.eval, Act.put]) hclone ?_
              refine hcl.mono ?_
              rintro e w1 ⟨rfl, s1⟩
              obtain ⟨a1, n1, c1, W2, hap, ⟨f1, f2, f3, f4⟩, f5, hfin⟩ := HP.out w1 ((Stay.drew X).trans s1)
              refine ⟨_, rfl, ?_⟩
              (try go_simp)
              refine hK _ _ ?_
              clear hK K
              refine wpAny_take (i := 5) (v := .agg #[.int .i64 (i : Int), .int .i64 pi, .string ps]) rfl (by kernel_rfl) (by kernel_rfl) (by kernel_rfl) (fun _ _ _ h => h) (Or.inl ⟨by rfl, fun W => by first | (go_simp; done) | (go_simp; with_reducible rfl)⟩) ?_
              refine wpAny_ready (rs := [6]) (by kernel_rfl) (by simp) (AllReady.cons (o := { dst := some 26, op := Op.buildSlice 37 1 #[(0, Operand.tmp 25)], type := 37, pos := "safe.go:39", after := #[{ on := 5, ground := Ground.data }], guard := none }) rfl (fun K hK => ?_) AllReady.nil)
              · go_simp
                refine hK _ _ ?_
                clear hK K
                refine wpAny_ready (rs := [7]) (by kernel_rfl) (by simp) (AllReady.cons (o := { dst := some 27, op := Op.call { callee := Callee.builtin Builtin.append, args := #[Operand.tmp 20, Operand.tmp 26], argTypes := #[37, 37] }, type := 37, pos := "safe.go:39", after := #[{ on := 0, ground := Ground.data }, { on := 6, ground := Ground.data }, { on := 4, ground := Ground.chain }], guard := none }) rfl (fun K hK => ?_) AllReady.nil)
                · refine step_append_run rfl _ _ _ _ rfl (by first | rfl | simp [Act.eval, Act.put]) (by first | rfl | simp [Act.eval, Act.put]) hap ?_
                  (try go_simp)
                  refine hK _ _ ?_
                  clear hK K
                  refine wpAny_ready (rs := [8]) (by kernel_rfl) (by simp) (AllReady.cons (o := { dst := none, op := Op.store 37 (Operand.tmp 3) (Operand.tmp 27), type := 0, pos := "safe.go:39", after := #[{ on := 7, ground := Ground.data }, { on := 7, ground := Ground.chain }, { on := 0, ground := Ground.phase }, { on := 1, ground := Ground.phase }, { on := 2, ground := Ground.phase }, { on := 3, ground := Ground.phase }, { on := 4, ground := Ground.phase }, { on := 5, ground := Ground.phase }, { on := 6, ground := Ground.phase }, { on := 7, ground := Ground.phase }], guard := none }) rfl (fun K hK => ?_) AllReady.nil)
                  · go_simp
                    refine hK _ _ ?_
                    clear hK K
                    refine wpAny_done (by kernel_rfl) ?_ _
                    gi_wp2
                    exact hfin _
          · refine step_goG (by rfl) 40 _ _ rfl (args := #[.string ps]) (by first | rfl | (simp [Act.eval]; done) | simp [Act.eval, Act.put]) hclone ?_
            refine hcl.mono ?_
            rintro e w1 ⟨rfl, s1⟩
            obtain ⟨a1, n1, c1, W2, hap, ⟨f1, f2, f3, f4⟩, f5, hfin⟩ := HP.out w1 ((Stay.drew X).trans s1)
            refine ⟨_, rfl, ?_⟩
            (try go_simp)
            refine hK _ _ ?_
            clear hK K
            refine wpAny_ready (rs := [1]) (by kernel_rfl) (by simp) (AllReady.cons (o := { dst := some 21, op := Op.load 3 (Operand.tmp 4), type := 3, pos := "safe.go:39", after := #[], guard := none }) rfl (fun K hK => ?_) AllReady.nil)
            · go_simp
              refine hK _ _ ?_
              clear hK K
              refine wpAny_take (i := 5) (v := .agg #[.int .i64 (i : Int), .int .i64 pi, .string ps]) rfl (by kernel_rfl) (by kernel_rfl) (by kernel_rfl) (fun _ _ _ h => h) (Or.inl ⟨by rfl, fun W => by first | (go_simp; done) | (go_simp; with_reducible rfl)⟩) ?_
              refine wpAny_ready (rs := [6]) (by kernel_rfl) (by simp) (AllReady.cons (o := { dst := some 26, op := Op.buildSlice 37 1 #[(0, Operand.tmp 25)], type := 37, pos := "safe.go:39", after := #[{ on := 5, ground := Ground.data }], guard := none }) rfl (fun K hK => ?_) AllReady.nil)
              · go_simp
                refine hK _ _ ?_
                clear hK K
                refine wpAny_ready (rs := [7]) (by kernel_rfl) (by simp) (AllReady.cons (o := { dst := some 27, op := Op.call { callee := Callee.builtin Builtin.append, args := #[Operand.tmp 20, Operand.tmp 26], argTypes := #[37, 37] }, type := 37, pos := "safe.go:39", after := #[{ on := 0, ground := Ground.data }, { on := 6, ground := Ground.data }, { on := 4, ground := Ground.chain }], guard := none }) rfl (fun K hK => ?_) AllReady.nil)
                · refine step_append_run rfl _ _ _ _ rfl (by first | rfl | simp [Act.eval, Act.put]) (by first | rfl | simp [Act.eval, Act.put]) hap ?_
                  (try go_simp)
                  refine hK _ _ ?_
                  clear hK K
                  refine wpAny_ready (rs := [8]) (by kernel_rfl) (by simp) (AllReady.cons (o := { dst := none, op := Op.store 37 (Operand.tmp 3) (Operand.tmp 27), type := 0, pos := "safe.go:39", after := #[{ on := 7, ground := Ground.data }, { on := 7, ground := Ground.chain }, { on := 0, ground := Ground.phase }, { on := 1, ground := Ground.phase }, { on := 2, ground := Ground.phase }, { on := 3, ground := Ground.phase }, { on := 4, ground := Ground.phase }, { on := 5, ground := Ground.phase }, { on := 6, ground := Ground.phase }, { on := 7, ground := Ground.phase }], guard := none }) rfl (fun K hK => ?_) AllReady.nil)
                  · go_simp
                    refine hK _ _ ?_
                    clear hK K
                    refine wpAny_done (by kernel_rfl) ?_ _
                    gi_wp2
                    exact hfin _
        · go_simp
          refine hK _ _ ?_
          clear hK K
          refine wpAny_ready (rs := [0, 4]) (by kernel_rfl) (by simp) (AllReady.cons (o := { dst := some 20, op := Op.load 37 (Operand.tmp 3), type := 37, pos := "safe.go:39", after := #[], guard := none }) rfl (fun K hK => ?_) (AllReady.cons (o := { dst := some 24, op := Op.call { callee := Callee.value (Operand.func 40), args := #[Operand.tmp 23], argTypes := #[9] }, type := 9, pos := "safe.go:39", after := #[{ on := 3, ground := Ground.data }], guard := none }) rfl (fun K hK => ?_) AllReady.nil))
          · go_simp
            refine hK _ _ ?_
            clear hK K
            refine wpAny_ready (rs := [4]) (by kernel_rfl) (by simp) (AllReady.cons (o := { dst := some 24, op := Op.call { callee := Callee.value (Operand.func 40), args := #[Operand.tmp 23], argTypes := #[9] }, type := 9, pos := "safe.go:39", after := #[{ on := 3, ground := Ground.data }], guard := none }) rfl (fun K hK => ?_) AllReady.nil)
            · refine step_goG (by rfl) 40 _ _ rfl (args := #[.string ps]) (by first | rfl | (simp [Act.eval]; done) | simp [Act.eval, Act.put]) hclone ?_
              refine hcl.mono ?_
              rintro e w1 ⟨rfl, s1⟩
              obtain ⟨a1, n1, c1, W2, hap, ⟨f1, f2, f3, f4⟩, f5, hfin⟩ := HP.out w1 ((Stay.drew X).trans s1)
              refine ⟨_, rfl, ?_⟩
              (try go_simp)
              refine hK _ _ ?_
              clear hK K
              refine wpAny_take (i := 5) (v := .agg #[.int .i64 (i : Int), .int .i64 pi, .string ps]) rfl (by kernel_rfl) (by kernel_rfl) (by kernel_rfl) (fun _ _ _ h => h) (Or.inl ⟨by rfl, fun W => by first | (go_simp; done) | (go_simp; with_reducible rfl)⟩) ?_
              refine wpAny_ready (rs := [6]) (by kernel_rfl) (by simp) (AllReady.cons (o := { dst := some 26, op := Op.buildSlice 37 1 #[(0, Operand.tmp 25)], type := 37, pos := "safe.go:39", after := #[{ on := 5, ground := Ground.data }], guard := none }) rfl (fun K hK => ?_) AllReady.nil)
              · go_simp
                refine hK _ _ ?_
                clear hK K
                refine wpAny_ready (rs := [7]) (by kernel_rfl) (by simp) (AllReady.cons (o := { dst := some 27, op := Op.call { callee := Callee.builtin Builtin.append, args := #[Operand.tmp 20, Operand.tmp 26], argTypes := #[37, 37] }, type := 37, pos := "safe.go:39", after := #[{ on := 0, ground := Ground.data }, { on := 6, ground := Ground.data }, { on := 4, ground := Ground.chain }], guard := none }) rfl (fun K hK => ?_) AllReady.nil)
                · refine step_append_run rfl _ _ _ _ rfl (by first | rfl | simp [Act.eval, Act.put]) (by first | rfl | simp [Act.eval, Act.put]) hap ?_
                  (try go_simp)
                  refine hK _ _ ?_
                  clear hK K
                  refine wpAny_ready (rs := [8]) (by kernel_rfl) (by simp) (AllReady.cons (o := { dst := none, op := Op.store 37 (Operand.tmp 3) (Operand.tmp 27), type := 0, pos := "safe.go:39", after := #[{ on := 7, ground := Ground.data }, { on := 7, ground := Ground.chain }, { on := 0, ground := Ground.phase }, { on := 1, ground := Ground.phase }, { on := 2, ground := Ground.phase }, { on := 3, ground := Ground.phase }, { on := 4, ground := Ground.phase }, { on := 5, ground := Ground.phase }, { on := 6, ground := Ground.phase }, { on := 7, ground := Ground.phase }], guard := none }) rfl (fun K hK => ?_) AllReady.nil)
                  · go_simp
                    refine hK _ _ ?_
                    clear hK K
                    refine wpAny_done (by kernel_rfl) ?_ _
                    gi_wp2
                    exact hfin _
          · refine step_goG (by rfl) 40 _ _ rfl (args := #[.string ps]) (by first | rfl | (simp [Act.eval]; done) | simp [Act.eval, Act.put]) hclone ?_
            refine hcl.mono ?_
            rintro e w1 ⟨rfl, s1⟩
            obtain ⟨a1, n1, c1, W2, hap, ⟨f1, f2, f3, f4⟩, f5, hfin⟩ := HP.out w1 ((Stay.drew X).trans s1)
            refine ⟨_, rfl, ?_⟩
            (try go_simp)
            refine hK _ _ ?_
            clear hK K
            refine wpAny_take (i := 5) (v := .agg #[.int .i64 (i : Int), .int .i64 pi, .string ps]) rfl (by kernel_rfl) (by kernel_rfl) (by kernel_rfl) (fun _ _ _ h => h) (Or.inl ⟨by rfl, fun W => by first | (go_simp; done) | (go_simp; with_reducible rfl)⟩) ?_
            refine wpAny_ready (rs := [0, 6]) (by kernel_rfl) (by simp) (AllReady.cons (o := { dst := some 20, op := Op.load 37 (Operand.tmp 3), type := 37, pos := "safe.go:39", after := #[], guard := none }) rfl (fun K hK => ?_) (AllReady.cons (o := { dst := some 26, op := Op.buildSlice 37 1 #[(0, Operand.tmp 25)], type := 37, pos := "safe.go:39", after := #[{ on := 5, ground := Ground.data }], guard := none }) rfl (fun K hK => ?_) AllReady.nil))
            · go_simp
              refine hK _ _ ?_
              clear hK K
              refine wpAny_ready (rs := [6]) (by kernel_rfl) (by simp) (AllReady.cons (o := { dst := some 26, op := Op.buildSlice 37 1 #[(0, Operand.tmp 25)], type := 37, pos := "safe.go:39", after := #[{ on := 5, ground := Ground.data }], guard := none }) rfl (fun K hK => ?_) AllReady.nil)
              · go_simp
                refine hK _ _ ?_
                clear hK K
                refine wpAny_ready (rs := [7]) (by kernel_rfl) (by simp) (AllReady.cons (o := { dst := some 27, op := Op.call { callee := Callee.builtin Builtin.append, args := #[Operand.tmp 20, Operand.tmp 26], argTypes := #[37, 37] }, type := 37, pos := "safe.go:39", after := #[{ on := 0, ground := Ground.data }, { on := 6, ground := Ground.data }, { on := 4, ground := Ground.chain }], guard := none }) rfl (fun K hK => ?_) AllReady.nil)
                · refine step_append_run rfl _ _ _ _ rfl (by first | rfl | simp [Act.eval, Act.put]) (by first | rfl | simp [Act.eval, Act.put]) hap ?_
                  (try go_simp)
                  refine hK _ _ ?_
                  clear hK K
                  refine wpAny_ready (rs := [8]) (by kernel_rfl) (by simp) (AllReady.cons (o := { dst := none, op := Op.store 37 (Operand.tmp 3) (Operand.tmp 27), type := 0, pos := "safe.go:39", after := #[{ on := 7, ground := Ground.data }, { on := 7, ground := Ground.chain }, { on := 0, ground := Ground.phase }, { on := 1, ground := Ground.phase }, { on := 2, ground := Ground.phase }, { on := 3, ground := Ground.phase }, { on := 4, ground := Ground.phase }, { on := 5, ground := Ground.phase }, { on := 6, ground := Ground.phase }, { on := 7, ground := Ground.phase }], guard := none }) rfl (fun K hK => ?_) AllReady.nil)
                  · go_simp
                    refine hK _ _ ?_
                    clear hK K
                    refine wpAny_done (by kernel_rfl) ?_ _
                    gi_wp2
                    exact hfin _
            · go_simp
              refine hK _ _ ?_
              clear hK K
              refine wpAny_ready (rs := [0]) (by kernel_rfl) (by simp) (AllReady.cons (o := { dst := some 20, op := Op.load 37 (Operand.tmp 3), type := 37, pos := "safe.go:39", after := #[], guard := none }) rfl (fun K hK => ?_) AllReady.nil)
              · go_simp
                refine hK _ _ ?_
                clear hK K
                refine wpAny_ready (rs := [7]) (by kernel_rfl) (by simp) (AllReady.cons (o := { dst := some 27, op := Op.call { callee := Callee.builtin Builtin.append, args := #[Operand.tmp 20, Operand.tmp 26], argTypes := #[37, 37] }, type := 37, pos := "safe.go:39", after := #[{ on := 0, ground := Ground.data }, { on := 6, ground := Ground.data }, { on := 4, ground := Ground.chain }], guard := none }) rfl (fun K hK => ?_) AllReady.nil)
                · refine step_append_run rfl _ _ _ _ rfl (by first | rfl | simp [Act.eval, Act.put]) (by first | rfl | simp [Act.eval, Act.put]) hap ?_
                  (try go_simp)
                  refine hK _ _ ?_
                  clear hK K
                  refine wpAny_ready (rs := [8]) (by kernel_rfl) (by simp) (AllReady.cons (o := { dst := none, op := Op.store 37 (Operand.tmp 3) (Operand.tmp 27), type := 0, pos := "safe.go:39", after := #[{ on := 7, ground := Ground.data }, { on := 7, ground := Ground.chain }, { on := 0, ground := Ground.phase }, { on := 1, ground := Ground.phase }, { on := 2, ground := Ground.phase }, { on := 3, ground := Ground.phase }, { on := 4, ground := Ground.phase }, { on := 5, ground := Ground.phase }, { on := 6, ground := Ground.phase }, { on := 7, ground := Ground.phase }], guard := none }) rfl (fun K hK => ?_) AllReady.nil)
                  · go_simp
                    refine hK _ _ ?_
                    clear hK K
                    refine wpAny_done (by kernel_rfl) ?_ _
                    gi_wp2
                    exact hfin _
        · refine step_goG (by rfl) 40 _ _ rfl (args := #[.string ps]) (by first | rfl | (simp [Act.eval]; done) | simp [Act.eval, Act.put]) hclone ?_
          refine hcl.mono ?_
          rintro e w1 ⟨rfl, s1⟩
          obtain ⟨a1, n1, c1, W2, hap, ⟨f1, f2, f3, f4⟩, f5, hfin⟩ := HP.out w1 ((Stay.drew X).trans s1)
          refine ⟨_, rfl, ?_⟩
          (try go_simp)
          refine hK _ _ ?_
          clear hK K
          refine wpAny_ready (rs := [0, 1]) (by kernel_rfl) (by simp) (AllReady.cons (o := { dst := some 20, op := Op.load 37 (Operand.tmp 3), type := 37, pos := "safe.go:39", after := #[], guard := none }) rfl (fun K hK => ?_) (AllReady.cons (o := { dst := some 21, op := Op.load 3 (Operand.tmp 4), type := 3, pos := "safe.go:39", after := #[], guard := none }) rfl (fun K hK => ?_) AllReady.nil))
          · go_simp
            refine hK _ _ ?_
            clear hK K
            refine wpAny_ready (rs := [1]) (by kernel_rfl) (by simp) (AllReady.cons (o := { dst := some 21, op := Op.load 3 (Operand.tmp 4), type := 3, pos := "safe.go:39", after := #[], guard := none }) rfl (fun K hK => ?_) AllReady.nil)
            · go_simp
              refine hK _ _ ?_
              clear hK K
              refine wpAny_take (i := 5) (v := .agg #[.int .i64 (i : Int), .int .i64 pi, .string ps]) rfl (by kernel_rfl) (by kernel_rfl) (by kernel_rfl) (fun _ _ _ h => h) (Or.inl ⟨by rfl, fun W => by first | (go_simp; done) | (go_simp; with_reducible rfl)⟩) ?_
              refine wpAny_ready (rs := [6]) (by kernel_rfl) (by simp) (AllReady.cons (o := { dst := some 26, op := Op.buildSlice 37 1 #[(0, Operand.tmp 25)], type := 37, pos := "safe.go:39", after := #[{ on := 5, ground := Ground.data }], guard := none }) rfl (fun K hK => ?_) AllReady.nil)
              · go_simp
                refine hK _ _ ?_
                clear hK K
                refine wpAny_ready (rs := [7]) (by kernel_rfl) (by simp) (AllReady.cons (o := { dst := some 27, op := Op.call { callee := Callee.builtin Builtin.append, args := #[Operand.tmp 20, Operand.tmp 26], argTypes := #[37, 37] }, type := 37, pos := "safe.go:39", after := #[{ on := 0, ground := Ground.data }, { on := 6, ground := Ground.data }, { on := 4, ground := Ground.chain }], guard := none }) rfl (fun K hK => ?_) AllReady.nil)
                · refine step_append_run rfl _ _ _ _ rfl (by first | rfl | simp [Act.eval, Act.put]) (by first | rfl | simp [Act.eval, Act.put]) hap ?_
                  (try go_simp)
                  refine hK _ _ ?_
                  clear hK K
                  refine wpAny_ready (rs := [8]) (by kernel_rfl) (by simp) (AllReady.cons (o := { dst := none, op := Op.store 37 (Operand.tmp 3) (Operand.tmp 27), type := 0, pos := "safe.go:39", after := #[{ on := 7, ground := Ground.data }, { on := 7, ground := Ground.chain }, { on := 0, ground := Ground.phase }, { on := 1, ground := Ground.phase }, { on := 2, ground := Ground.phase }, { on := 3, ground := Ground.phase }, { on := 4, ground := Ground.phase }, { on := 5, ground := Ground.phase }, { on := 6, ground := Ground.phase }, { on := 7, ground := Ground.phase }], guard := none }) rfl (fun K hK => ?_) AllReady.nil)
                  · go_simp
                    refine hK _ _ ?_
                    clear hK K
                    refine wpAny_done (by kernel_rfl) ?_ _
                    gi_wp2
                    exact hfin _
          · go_simp
            refine hK _ _ ?_
            clear hK K
            refine wpAny_take (i := 5) (v := .agg #[.int .i64 (i : Int), .int .i64 pi, .string ps]) rfl (by kernel_rfl) (by kernel_rfl) (by kernel_rfl) (fun _ _ _ h => h) (Or.inl ⟨by rfl, fun W => by first | (go_simp; done) | (go_simp; with_reducible rfl)⟩) ?_
            refine wpAny_ready (rs := [0, 6]) (by kernel_rfl) (by simp) (AllReady.cons (o := { dst := some 20, op := Op.load 37 (Operand.tmp 3), type := 37, pos := "safe.go:39", after := #[], guard := none }) rfl (fun K hK => ?_) (AllReady.cons (o := { dst := some 26, op := Op.buildSlice 37 1 #[(0, Operand.tmp 25)], type := 37, pos := "safe.go:39", after := #[{ on := 5, ground := Ground.data }], guard := none }) rfl (fun K hK => ?_) AllReady.nil))
            · go_simp
              refine hK _ _ ?_
              clear hK K
              refine wpAny_ready (rs := [6]) (by kernel_rfl) (by simp) (AllReady.cons (o := { dst := some 26, op := Op.buildSlice 37 1 #[(0, Operand.tmp 25)], type := 37, pos := "safe.go:39", after := #[{ on := 5, ground := Ground.data }], guard := none }) rfl (fun K hK => ?_) AllReady.nil)
              · go_simp
                refine hK _ _ ?_
                clear hK K
                refine wpAny_ready (rs := [7]) (by kernel_rfl) (by simp) (AllReady.cons (o := { dst := some 27, op := Op.call { callee := Callee.builtin Builtin.append, args := #[Operand.tmp 20, Operand.tmp 26], argTypes := #[37, 37] }, type := 37, pos := "safe.go:39", after := #[{ on := 0, ground := Ground.data }, { on := 6, ground := Ground.data }, { on := 4, ground := Ground.chain }], guard := none }) rfl (fun K hK => ?_) AllReady.nil)
                · refine step_append_run rfl _ _ _ _ rfl (by first | rfl | simp [Act.eval, Act.put]) (by first | rfl | simp [Act.eval, Act.put]) hap ?_
                  (try go_simp)
                  refine hK _ _ ?_
                  clear hK K
                  refine wpAny_ready (rs := [8]) (by kernel_rfl) (by simp) (AllReady.cons (o := { dst := none, op := Op.store 37 (Operand.tmp 3) (Operand.tmp 27), type := 0, pos := "safe.go:39", after := #[{ on := 7, ground := Ground.data }, { on := 7, ground := Ground.chain }, { on := 0, ground := Ground.phase }, { on := 1, ground := Ground.phase }, { on := 2, ground := Ground.phase }, { on := 3, ground := Ground.phase }, { on := 4, ground := Ground.phase }, { on := 5, ground := Ground.phase }, { on := 6, ground := Ground.phase }, { on := 7, ground := Ground.phase }], guard := none }) rfl (fun K hK => ?_) AllReady.nil)
                  · go_simp
                    refine hK _ _ ?_
                    clear hK K
                    refine wpAny_done (by kernel_rfl) ?_ _
                    gi_wp2
                    exact hfin _
            · go_simp
              refine hK _ _ ?_
              clear hK K
              refine wpAny_ready (rs := [0]) (by kernel_rfl) (by simp) (AllReady.cons (o := { dst := some 20, op := Op.load 37 (Operand.tmp 3), type := 37, pos := "safe.go:39", after := #[], guard := none }) rfl (fun K hK => ?_) AllReady.nil)
              · go_simp
                refine hK _ _ ?_
                clear hK K
                refine wpAny_ready (rs := [7]) (by kernel_rfl) (by simp) (AllReady.cons (o := { dst := some 27, op := Op.call { callee := Callee.builtin Builtin.append, args := #[Operand.tmp 20, Operand.tmp 26], argTypes := #[37, 37] }, type := 37, pos := "safe.go:39", after := #[{ on := 0, ground := Ground.data }, { on := 6, ground := Ground.data }, { on := 4, ground := Ground.chain }], guard := none }) rfl (fun K hK => ?_) AllReady.nil)
                · refine step_append_run rfl _ _ _ _ rfl (by first | rfl | simp [Act.eval, Act.put]) (by first | rfl | simp [Act.eval, Act.put]) hap ?_
                  (try go_simp)
                  refine hK _ _ ?_
                  clear hK K
                  refine wpAny_ready (rs := [8]) (by kernel_rfl) (by simp) (AllReady.cons (o := { dst := none, op := Op.store 37 (Operand.tmp 3) (Operand.tmp 27), type := 0, pos := "safe.go:39", after := #[{ on := 7, ground := Ground.data }, { on := 7, ground := Ground.chain }, { on := 0, ground := Ground.phase }, { on := 1, ground := Ground.phase }, { on := 2, ground := Ground.phase }, { on := 3, ground := Ground.phase }, { on := 4, ground := Ground.phase }, { on := 5, ground := Ground.phase }, { on := 6, ground := Ground.phase }, { on := 7, ground := Ground.phase }], guard := none }) rfl (fun K hK => ?_) AllReady.nil)
                  · go_simp
                    refine hK _ _ ?_
                    clear hK K
                    refine wpAny_done (by kernel_rfl) ?_ _
                    gi_wp2
                    exact hfin _
    · obtain rfl : i = rules.length := by omega
      rw [List.take_of_length_le (Nat.le_refl _)] at hN
      have cA := hN.cell
      rw [z0] at cA
      have HH : Hid (NI 45 37 3 encLo V0 (faultsF 0 rules) v wr ∧ Marks V1.heap.size wr.heap.size D wr) := ⟨hN, hMk⟩
      clear hN hMk HN0 HM
      gi_wp2
      refine leaves_marks (T := OwL) HH.out.2 fun w' hw' => ⟨_, results_tmp rfl _ _ _, ?_⟩
      show R _ _
      rw [HR.out]
      have hN' := HH.out.1.hold (T := OwL) rfl (hw'.mono (by omega))
      obtain ⟨a, b, c, rfl, -⟩ := hN'.own.form encLoOk
      exact ⟨a, c, rfl, hN'.own.base (by omega), Below.trans s0 (Below.mono hN'.bel (by omega))⟩
end Go.Proofs.Ytnmeljenldadfaa
