/- The document's Read. -/
import Derived.Test.YthpecmdfppdkaaaFRc
import Derived.Test.YthpecmdfppdkaaaFO
namespace Go.Proofs.Ythpecmdfppdkaaa
open Go.RowKit Go.Maps

theorem toG_snoc (l : List (List (List UInt8))) (x : List (List UInt8)) : toG (l ++ [x]) = toG l ++ [x.map toB] := by simp [toG]

set_option maxRecDepth 100000 in
set_option maxHeartbeats 8000000 in
theorem rRead_any (s : ByteArray) (z : Int) (w : World) (hs : s.size ≤ 1048576) : Calls Try.prog 23 #[.string s, .int .i64 z] w fun e w' => ∃ v us, e = .returned (.tuple #[v, .int .i64 (readT s.data.toList z).2.1, .int .i64 (readT s.data.toList z).2.2]) ∧ OwnG w.heap.size w' v us (toG (readT s.data.toList z).1) ∧ Stay w w' := by
  by_cases hz : 0 ≤ z ∧ z ≤ 16
  · obtain ⟨m, rfl, hm⟩ : ∃ m : Nat, z = (m : Int) ∧ m ≤ 16 := ⟨z.toNat, by omega, by omega⟩
    have hz1 : ¬ (m : Int) < 0 := by omega
    have hz2 : ¬ (16 : Int) < (m : Int) := by omega
    have hsc := rScan_any s w (by omega)
    have hl := fun V => rlines_any s V (by omega)
    obtain ⟨R, hR⟩ : ∃ R, R = readT s.data.toList (m : Int) := ⟨_, rfl⟩
    rw [← hR]
    unfold readT at hR
    rw [if_pos (by simp; omega), Int.toNat_natCast] at hR
    cases hT : scanT s.data.toList with
    | some k =>
      rw [hT] at hsc hR
      simp only [plcZ, errZ] at hsc
      have HR : Hid (R = ([], (k : Int), 11)) := hR
      clear hR hT hz hl
      go_enter Try.func23, Try.ntmps23
      go_wp2_with (go_at_call 21; refine hsc.mono ?_; rintro e W1 ⟨rfl, hs1⟩; clear hsc)
      go_ret3
      rw [HR.out]
      first | exact ⟨_, [], rfl, OwnG.nil, hs1⟩ | exact ⟨_, rfl, ⟨[], OwnG.nil⟩, hs1⟩
    | none =>
      rw [hT] at hsc hR
      simp only [plcZ, errZ] at hsc
      have hok : ∀ x ∈ lns 0 [] s.data.toList, (splitT x.2).2 = none := eachT_none.1 hT
      have hat := fun k (h : k < (lns 0 [] s.data.toList).length) => lns_at h
      have hln := lns_len s.data.toList [] 0
      rw [data_len] at hln
      simp only [List.length_nil, Nat.zero_add] at hln
      have HR : Hid (R = _) := hR
      clear hR hT hz
      generalize lns 0 [] s.data.toList = T at *
      obtain ⟨n, hn⟩ : ∃ n, n = T.length := ⟨_, rfl⟩
      have HN : Hid (n = T.length) := hn
      have hnl : n ≤ 1048576 := by rw [hn]; omega
      have HA : Hid ((∀ x ∈ T, (splitT x.2).2 = none) ∧ ∀ k (h : k < T.length), T[k].1 + T[k].2.length ≤ s.size) := ⟨hok, hat⟩
      clear hn hln hok hat
      go_enter Try.func23, Try.ntmps23
      go_wp2_with (first
        | (go_at_call 21; refine hsc.mono ?_; rintro e W1 ⟨rfl, hs1⟩; have hl1 := hl W1; clear hsc hl)
        | (go_at_call 43; refine hl1.mono ?_; rintro e W2 ⟨o, t, rfl, hown, hs2⟩; obtain ⟨a, c, rfl, hsp⟩ := hown.out.spot; obtain ⟨a', c', rfl, hsp'⟩ := hown.plc.spot; rw [List.length_map, ← HN.out] at hsp; rw [List.length_map, ← HN.out] at hsp'; rw [List.length_map, List.length_map, ← HN.out] at hown ⊢; have HO : Hid (OwnP W1.heap.size W2 (.slice a n c) (.slice a' n c') (T.map fun x => toB x.2) (T.map Prod.fst)) := hown; clear hown hl1))
      go_loopw [11, 12] (fun v i wr => ∃ k : Nat, k ≤ n ∧ i = .int .i64 (k : Int) ∧ Stay W2 wr ∧ eachT (arT m) T = eachT (arT m) (T.drop k) ∧ ∃ us, OwnG W2.heap.size wr v us (toG ((T.take k).map fun x => tupL x.2 m))) (fun _ i _ => n - (intOf i).toNat)
      case atStart => exact ⟨0, Nat.zero_le _, rfl, Stay.refl _, rfl, [], OwnG.nil⟩
      case round =>
        obtain ⟨k, hk, rfl, hst, hu, us, hG⟩ := hrel
        by_cases hlt : k < n
        · have hki : (k : Int) < (n : Int) := by omega
          have hkT : k < T.length := by rw [← HN.out]; exact hlt
          obtain ⟨G, rfl, _⟩ := hsp (by omega)
          obtain ⟨G', rfl, _⟩ := hsp' (by omega)
          obtain ⟨hc1, -⟩ := (HO.out.out.stay hst).at (j := k) (x := toB T[k].2) (by rw [List.getElem?_map, List.getElem?_eq_getElem hkT]; rfl)
          have hc2 := (HO.out.plc.stay hst).at (j := k) (x := T[k].1) (by rw [List.getElem?_map, List.getElem?_eq_getElem hkT]; rfl)
          have hbd := HA.out.2 k hkT
          rw [eachT_drop hkT] at hu
          have hsn := HA.out.1 _ (List.getElem_mem hkT)
          have hcnt := split_count hsn
          have hsp := rSplit_any (toB T[k].2) wr (by rw [toB_size]; omega)
          rw [data_toB] at hsp
          have htk : (T.take (k + 1)).map (fun x => tupL x.2 m) = (T.take k).map (fun x => tupL x.2 m) ++ [tupL T[k].2 m] := by
            rw [List.take_succ_eq_append_getElem hkT, List.map_append]; rfl
          have hgl : (toG ((T.take k).map fun x => tupL x.2 m)).length = k := by
            simp [toG]; omega
          have hxl : (toB T[k].2).toList = T[k].2 := by rw [ByteArray.toList_eq]; exact data_toB _
          have hcl := List.count_le_length (a := (9 : UInt8)) (l := T[k].2)
          generalize T[k].2 = x at *
          generalize T[k].1 = p at *
          simp only [hsn, plcZ, errZ, okL] at hsp
          have fin : ∀ (V : World) (v : Value) (t : List (List UInt8)), Stay W2 V → Stay wr V → OwnS wr.heap.size V v (t.map toB) → tupL x m = t → ∃ v' V', (Builtin.append_ #[47, 47] 47 #[u11, .slice (some ⟨V.heap.size, 0, none⟩) 1 1]).run Try.prog (V.alloc (.cells #[v] 31)) = .ok v' V' ∧ Stay W2 V' ∧ ∃ us', OwnG W2.heap.size V' v' us' (toG ((T.take (k + 1)).map fun x => tupL x.2 m)) := fun V v t h2 hr ho ht => by
            have hGV := hG.stay hr
            obtain ⟨v', V', hap, ho', hg, -, -⟩ := hGV.push 47 (ho.low hst.size) (fun j hj e => by have := (ho.lt j hj).1; have := (hG.lt j e).2; omega) (by rw [hgl]; omega) h2.size
            refine ⟨v', V', hap, ?_, _, by rw [htk, toG_snoc, ht]; exact ho'⟩
            exact (Turn.of_grown hg).stay (h2.alloc _) (fun j hj e => by have := (hG.lt j (.inl e)).1; omega)
          have bad : ∀ V, arT m x = some 0 → Stay wr V → R = ([], (p : Int), 12) ∧ Stay w V := fun V ha hV => by
            rw [ha] at hu
            refine ⟨?_, ((hs1.trans hs2).trans hst).trans hV⟩
            have := HR.out
            rw [hu] at this
            simpa using this
          have next : arT m x = none → eachT (arT m) T = eachT (arT m) (T.drop (k + 1)) := fun ha => by rw [ha] at hu; exact hu
          clear hu hgl htk hkT hsp' hG
          by_cases he : x = []
          · have hq : (toB x).toList = [] := hxl.trans he
            by_cases hm0 : m = 0
            · -- the line of a tuple of no constants
              subst he
              have ha : arT m [] = none := by rw [hm0]; rfl
              have hnx := next ha
              have hf := fun V h2 hr => fin V (.slice none 0 0) [] h2 hr OwnS.nil (by rw [hm0]; rfl)
              have HX : Hid (Stay W2 wr ∧ eachT (arT m) T = eachT (arT m) (T.drop (k + 1))) := ⟨hst, hnx⟩
              have hmm : ((m : Int) == 0) = true := by simp; omega
              have hmm2 : ((0 : Int) == (m : Int)) = true := by simp; omega
              clear hm0
              clear fin bad next hnx ha hsn hcnt hcl hxl
              generalize toB [] = xb at *
              go_wp2_with (first
                | (go_at_call 14; refine hsp.mono ?_; rintro e W3 ⟨v, rfl, ho, hs3⟩; obtain ⟨v', V', hap, hst', hG'⟩ := hf W3 (HX.out.1.trans hs3) hs3; have hc3 := hs3.cell hc1; have HF : Hid (Stay W2 V' ∧ ∃ us', OwnG W2.heap.size V' v' us' (toG ((T.take (k + 1)).map fun x => tupL x.2 m))) := ⟨hst', hG'⟩; clear ho hsp hf hs3 hst' hG' hst)
                | (at_builtin; refine wpList_append_run rfl _ _ 47 47 rfl _ _ rfl rfl hap ?_))
              go_roundw
              case rel => exact ⟨k + 1, by omega, by simp, HF.out.1, HX.out.2, HF.out.2⟩
              case measure => simp [intOf]; omega
            · have hmm : ((m : Int) == 0) = false := by simp; omega
              by_cases hm1 : m = 1
              · subst he
                have ha : arT m [] = none := by rw [hm1]; rfl
                have hnx := next ha
                have hf := fun V v h2 hr ho => fin V v (splitT []).1 h2 hr ho (by rw [hm1]; rfl)
                have HX : Hid (Stay W2 wr ∧ eachT (arT m) T = eachT (arT m) (T.drop (k + 1))) := ⟨hst, hnx⟩
                have hne : ((1 : Int) == (m : Int)) = true := by simp; omega
                clear hm1 hm0
                have hl1 : ((splitT []).1.map toB).length = 1 := rfl
                clear fin bad next hnx ha hsn hcnt hcl hxl
                generalize (splitT []).1.map toB = ts at *
                generalize toB [] = xb at *
                go_wp2_with (first
                  | (go_at_call 14; refine hsp.mono ?_; rintro e W3 ⟨v, rfl, ho, hs3⟩; obtain ⟨v', V', hap, hst', hG'⟩ := hf W3 v (HX.out.1.trans hs3) hs3 ho; obtain ⟨a3, c3, rfl, -⟩ := ho.spot; rw [hl1] at hap ⊢; have HF : Hid (Stay W2 V' ∧ ∃ us', OwnG W2.heap.size V' v' us' (toG ((T.take (k + 1)).map fun x => tupL x.2 m))) := ⟨hst', hG'⟩; clear ho hsp hf hs3 hst' hG' hst)
                  | (at_builtin; refine wpList_append_run rfl _ _ 47 47 rfl _ _ rfl rfl hap ?_))
                go_roundw
                case rel => exact ⟨k + 1, by omega, by simp, HF.out.1, HX.out.2, HF.out.2⟩
                case measure => simp [intOf]; omega
              · subst he
                have ha : arT m [] = some 0 := by
                  unfold arT fieldsZ
                  rw [if_neg]
                  rw [if_neg (by omega)]
                  simp; omega
                have HB : Hid (∀ V, Stay wr V → R = ([], (p : Int), 12) ∧ Stay w V) := fun V hV => bad V ha hV
                have hl1 : ((splitT []).1.map toB).length = 1 := rfl
                have hne : ((1 : Int) == (m : Int)) = false := by simp; omega
                clear fin bad next ha hsn hcnt hcl hxl
                generalize (splitT []).1.map toB = ts at *
                generalize toB [] = xb at *
                go_wp2_with (first
                  | (go_at_call 14; refine hsp.mono ?_; rintro e W3 ⟨v, rfl, ho, hs3⟩; obtain ⟨a3, c3, rfl, -⟩ := ho.spot; rw [hl1]; have hc3 := hs3.cell hc2; have HS3 : Hid (Stay wr W3) := hs3; clear ho hsp hs3))
                go_quiet (fail)
                go_wp2
                go_ret3
                obtain ⟨e1, e2⟩ := HB.out _ (HS3.out.trans (Stay.drewN _ nq))
                rw [e1]
                first | exact ⟨_, [], rfl, OwnG.nil, e2⟩ | exact ⟨_, rfl, ⟨[], OwnG.nil⟩, e2⟩
          · have hq : ¬ (toB x).toList = [] := fun e => he (hxl.symm.trans e)
            have hq2 : ((toB x).toList == ([] : List UInt8)) = false := by simpa using hq
            have hq3 : ((toB x).toList = []) = False := eq_false hq
            have hfz : fieldsZ x (m : Int) = (x.count 9 : Nat) + 1 := by unfold fieldsZ; rw [if_neg (fun h => he h.1)]
            have hl1 : ((splitT x).1.map toB).length = x.count 9 + 1 := by rw [List.length_map, hcnt]
            by_cases hma : x.count 9 + 1 = m
            · have ha : arT m x = none := by unfold arT; rw [hfz, if_pos (by omega)]
              have hnx := next ha
              have hf := fun V v h2 hr ho => fin V v (splitT x).1 h2 hr ho (by unfold tupL; rw [if_neg (by omega)])
              have HX : Hid (Stay W2 wr ∧ eachT (arT m) T = eachT (arT m) (T.drop (k + 1))) := ⟨hst, hnx⟩
              have hmm : ((m : Int) == 0) = false := by simp; omega
              rw [hma] at hl1
              clear fin bad next hnx ha hsn hcnt hcl hxl hfz hma he
              generalize (splitT x).1.map toB = ts at *
              generalize toB x = xb at *
              go_wp2_with (first
                | (go_at_call 14; refine hsp.mono ?_; rintro e W3 ⟨v, rfl, ho, hs3⟩; obtain ⟨v', V', hap, hst', hG'⟩ := hf W3 v (HX.out.1.trans hs3) hs3 ho; obtain ⟨a3, c3, rfl, -⟩ := ho.spot; rw [hl1] at hap ⊢; have HF : Hid (Stay W2 V' ∧ ∃ us', OwnG W2.heap.size V' v' us' (toG ((T.take (k + 1)).map fun x => tupL x.2 m))) := ⟨hst', hG'⟩; clear ho hsp hf hs3 hst' hG' hst)
                | (at_builtin; refine wpList_append_run rfl _ _ 47 47 rfl _ _ rfl rfl hap ?_))
              go_roundw
              case rel => exact ⟨k + 1, by omega, by simp, HF.out.1, HX.out.2, HF.out.2⟩
              case measure => simp [intOf]; omega
            · have ha : arT m x = some 0 := by unfold arT; rw [hfz, if_neg (by omega)]
              have HB : Hid (∀ V, Stay wr V → R = ([], (p : Int), 12) ∧ Stay w V) := fun V hV => bad V ha hV
              have hne : ((x.count 9 : Int) + 1 == (m : Int)) = false := by simp; omega
              have hcb : x.count 9 ≤ 1048576 := by omega
              clear fin bad next ha hsn hcnt hcl hxl hfz hma
              generalize (splitT x).1.map toB = ts at *
              generalize toB x = xb at *
              generalize x.count 9 = q at *
              by_cases hm0 : m = 0
              · have hmm : ((m : Int) == 0) = true := by simp; omega
                clear hm0 he
                go_wp2_with (first
                  | (go_at_call 14; refine hsp.mono ?_; rintro e W3 ⟨v, rfl, ho, hs3⟩; obtain ⟨a3, c3, rfl, -⟩ := ho.spot; rw [hl1]; have hc3 := hs3.cell hc2; have hc4 := hs3.cell hc1; have HS3 : Hid (Stay wr W3) := hs3; clear ho hsp hs3))
                go_quiet (fail)
                go_wp2
                go_ret3
                obtain ⟨e1, e2⟩ := HB.out _ (HS3.out.trans (Stay.drewN _ nq))
                rw [e1]
                first | exact ⟨_, [], rfl, OwnG.nil, e2⟩ | exact ⟨_, rfl, ⟨[], OwnG.nil⟩, e2⟩
              · have hmm : ((m : Int) == 0) = false := by simp; omega
                go_wp2_with (first
                  | (go_at_call 14; refine hsp.mono ?_; rintro e W3 ⟨v, rfl, ho, hs3⟩; obtain ⟨a3, c3, rfl, -⟩ := ho.spot; rw [hl1]; have hc3 := hs3.cell hc2; have HS3 : Hid (Stay wr W3) := hs3; clear ho hsp hs3))
                go_quiet (fail)
                go_wp2
                go_ret3
                obtain ⟨e1, e2⟩ := HB.out _ (HS3.out.trans (Stay.drewN _ nq))
                rw [e1]
                first | exact ⟨_, [], rfl, OwnG.nil, e2⟩ | exact ⟨_, rfl, ⟨[], OwnG.nil⟩, e2⟩
        · have hki : ¬ (k : Int) < (n : Int) := by omega
          rw [List.drop_eq_nil_of_le (by rw [← HN.out]; omega), eachT] at hu
          rw [List.take_of_length_le (by rw [← HN.out]; omega)] at hG
          have HF : Hid (R = (T.map (fun x => tupL x.2 m), -1, 0) ∧ OwnG w.heap.size wr u11 us (toG (T.map fun x => tupL x.2 m)) ∧ Stay w wr) := by
            refine ⟨?_, hG.low (hs1.trans hs2).size, (hs1.trans hs2).trans hst⟩
            have := HR.out
            rw [hu] at this
            exact this
          clear hu hsp hsp' hG
          go_wp2
          go_ret3
          rw [HF.out.1]
          first | exact ⟨_, us, rfl, HF.out.2.1, HF.out.2.2⟩ | exact ⟨_, rfl, ⟨us, HF.out.2.1⟩, HF.out.2.2⟩
  · have hR : readT s.data.toList z = ([], -1, 2) := by unfold readT; rw [if_neg (by simp; omega)]
    rw [hR]
    by_cases h0 : z < 0
    · clear hz hR
      go_enter Try.func23, Try.ntmps23
      go_wp2
      go_ret3
      first | exact ⟨_, [], rfl, OwnG.nil, Stay.refl _⟩ | exact ⟨_, rfl, ⟨[], OwnG.nil⟩, Stay.refl _⟩
    · have h1 : (16 : Int) < z := by omega
      clear hz hR
      go_enter Try.func23, Try.ntmps23
      go_wp2
      go_ret3
      first | exact ⟨_, [], rfl, OwnG.nil, Stay.refl _⟩ | exact ⟨_, rfl, ⟨[], OwnG.nil⟩, Stay.refl _⟩
end Go.Proofs.Ythpecmdfppdkaaa
