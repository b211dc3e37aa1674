/- FactsThere: the walk. -/
import Derived.Test.YthpecmdfppdkaaaFTm
import Derived.Test.YthpecmdfppdkaaaFFa
namespace Go.Proofs.Ythpecmdfppdkaaa
open Go.RowKit Go.Maps

theorem line_ok {t : List (List UInt8)} (h1 : t.length ≤ 16) (h2 : ∀ y ∈ t, y.length ≤ 1024) : lineT (t.map toB) = (lineL t, 0) := by
  have hr := refZ_one (ss := t.map toB) (by rw [List.length_map]; exact h1)
  have hl : longB (t.map toB) = false := by
    unfold longB
    rw [List.any_eq_false]
    intro x hx
    obtain ⟨y, hy, rfl⟩ := List.mem_map.1 hx
    have := h2 y hy
    rw [toB_size]; simp; omega
  rw [hl] at hr
  unfold lineT
  rw [hr, dat_toB]; rfl
theorem sumG_small : ∀ (l : List (List ByteArray)), (∀ t ∈ l, t.length ≤ 16 ∧ ∀ s ∈ t, s.size ≤ 1024) → sumG l ≤ l.length * 16401
  | [], _ => by simp [sumG]
  | t :: l, h => by
    have h1 := sumG_small l (fun x hx => h x (List.mem_cons_of_mem _ hx))
    obtain ⟨h2, h3⟩ := h t (List.mem_cons_self ..)
    have h4 := sumL_small t h3
    rw [sumG, List.length_cons]
    have : t.length * 1025 ≤ 16 * 1025 := Nat.mul_le_mul_right _ h2
    omega
theorem last_at {s : ByteArray} {k : Nat} (hk : s.size = k + 1) : s.data.toList.getLast? = some (s[k]'(by omega)) := by
  have hl : s.data.toList.length = k + 1 := by rw [data_len]; exact hk
  rw [List.getLast?_eq_getElem?, hl, Nat.add_sub_cancel, List.getElem?_eq_getElem (by omega), data_at]

set_option maxRecDepth 100000 in
set_option maxHeartbeats 8000000 in
theorem there_walk (s : ByteArray) (z : Int) (w : World) (hs : s.size ≤ 1048576) : Calls Try.prog 8 #[.string s, .int .i64 z] w fun e w' => e = .returned (.bool true) ∧ Stay w w' := by
  have hn := lnum_any
  have hkn := known_any w
  have hrd := fun V => Read_any s z V (by omega)
  by_cases h0 : (readT s.data.toList z).2.2 = 0
  · obtain ⟨e1, e2, e3, e4, e5, e6, e7⟩ := read_ok h0
    rw [data_len] at e4
    rw [e1, h0] at hrd
    generalize (readT s.data.toList z).1 = ts at *
    have hgs : sumG (toG ts) ≤ (toG ts).length * 16401 := sumG_small _ (fun t ht => by
      obtain ⟨u, hu, rfl⟩ := List.mem_map.1 ht
      have := e7 u hu
      refine ⟨by rw [List.length_map]; omega, fun x hx => ?_⟩
      obtain ⟨y, hy, rfl⟩ := List.mem_map.1 hx
      rw [toB_size]; exact this.2.1 y hy)
    have hgl : (toG ts).length = ts.length := by simp [toG]
    have hwt : writeT (toG ts) z = (s.data.toList ++ endL [] s.data.toList, 0) := by
      unfold writeT; rw [if_pos e2, e3]
    have HE : Hid (∀ t ∈ ts, (t.length : Int) = z ∧ (∀ y ∈ t, y.length ≤ 1024) ∧ (splitT (lineL t)).2 = none ∧ (0 < z → (splitT (lineL t)).1 = t) ∧ (lineL t).length ≤ s.data.toList.length) := e7
    clear e1 e2 e3 e7 h0
    -- what is wanted, and the last byte
    have main : ∀ (X : ByteArray), (toB (s.data.toList ++ endL [] s.data.toList) = X) →
        (∀ (W : World) (a : Option Addr) (b c : Nat) (xs : List Tx), TxsS W a b 0 xs → xs.map Tx.xs = toG ts → Calls Try.prog 27 #[.slice a xs.length c, .int .i64 z] W fun e w' => e = .returned (.tuple #[.string X, .int .i64 0]) ∧ Stay W w') := fun X hX W a b c xs hT hxs => by
      have hxl : xs.length = ts.length := by rw [← hgl, ← hxs, List.length_map]
      have := Write_any (c := c) hT (by omega) (fun t ht => by
        have hm : t.xs ∈ toG ts := by rw [← hxs]; exact List.mem_map.2 ⟨t, ht, rfl⟩
        obtain ⟨u, hu, e⟩ := List.mem_map.1 hm
        have := (HE.out u hu).1
        rw [← e, List.length_map]; omega) (by rw [hxs]; omega) z
      rw [hxs, hwt] at this
      rw [show (⟨(s.data.toList ++ endL [] s.data.toList).toArray⟩ : ByteArray) = X from hX] at this
      exact this
    have loop : ∀ (W wr : World) (a : Option Addr) (b c : Nat) (xs : List Tx), TxsS W a b 0 xs → xs.map Tx.xs = toG ts → Stay W wr → ∀ k (hk : k < xs.length),
        a = some ⟨b, 0, none⟩ ∧ wr.cell? ⟨b, k, none⟩ = some (.slice xs[k].a xs[k].xs.length xs[k].c) ∧ ∃ line, Calls Try.prog 18 #[.slice xs[k].a xs[k].xs.length xs[k].c] wr (fun e w' => e = .returned (.tuple #[.string line, .int .i64 0]) ∧ Stay wr w') ∧
          ∀ V, Stay wr V → Calls Try.prog 13 #[.string line] V fun e w' => ∃ v, e = .returned (.tuple #[v, .int .i64 (-1), .int .i64 0]) ∧ Stay V w' ∧ (0 < z → ∀ V', Stay w' V' → Calls Try.prog 16 #[v, .slice xs[k].a xs[k].xs.length xs[k].c] V' fun e w'' => e = .returned (.bool true) ∧ Stay V' w'') := fun W wr a b c xs hT hxs hst k hk => by
      have hT2 := hT.stay hst
      obtain ⟨hc, hS⟩ := hT2.2 k hk
      rw [Nat.zero_add] at hc
      have hkt : k < ts.length := by rw [← hgl, ← hxs, List.length_map]; exact hk
      have hxe : xs[k].xs = ts[k].map toB := by
        have : (xs.map Tx.xs)[k]'(by simpa using hk) = (toG ts)[k]'(by rw [hgl]; exact hkt) := by simp only [hxs]
        simpa [toG] using this
      obtain ⟨m1, m2, m3, m4, m5⟩ := HE.out ts[k] (List.getElem_mem hkt)
      have hL := Line_any (c := xs[k].c) hS (by rw [hxe, List.length_map]; omega)
      rw [hxe, line_ok (by omega) m2, ← hxe] at hL
      refine ⟨hT.1 (by omega), hc, _, hL, fun V hV => ?_⟩
      have hsp := Split_any (toB (lineL ts[k])) V (by rw [toB_size]; rw [data_len] at m5; omega)
      rw [data_toB, m3] at hsp
      refine hsp.mono fun e w' ⟨v, he, ho, hs'⟩ => ⟨v, he, hs', fun hz V' hV' => ?_⟩
      have hok : okL (splitT (lineL ts[k])) = ts[k] := by unfold okL; rw [m3]; exact m4 hz
      rw [hok, ← hxe] at ho
      obtain ⟨⟨a2, b2, o2, c2, ys⟩, rfl, e, hS', _⟩ := (ho.stay hV').tx
      dsimp only at e
      subst e
      have hlm : xs[k].xs.length ≤ maxLen := by rw [hxe, List.length_map]; unfold maxLen; omega
      refine (sameTexts_any V' a2 xs[k].a b2 o2 xs[k].b xs[k].o c2 xs[k].c xs[k].xs xs[k].xs hS' (StrsS.stay hS ((hV.trans hs').trans hV')) hlm hlm).mono fun e w'' h => ⟨by rw [h.1]; simp, ?_⟩
      obtain ⟨q, hq⟩ := h.2
      rw [hq]; exact Stay.drewN _ _
    have HLP : Hid _ := loop
    have HGL : Hid ((toG ts).length = ts.length) := hgl
    clear loop hgs hgl hwt e5 e6
    by_cases hz0 : s.size = 0
    · have hL0 : s.data.toList = [] := List.eq_nil_of_length_eq_zero (by rw [data_len]; exact hz0)
      have hmain := main s (by rw [show endL [] s.data.toList = [] by rw [hL0]; rfl, List.append_nil, toB_data])
      have hsz0 : ¬ (0 : Int) < (s.size : Int) := by omega
      clear hL0 hz0
      clear main
      go_enter Try.func8, Try.ntmps8
      go_wp2_with (first
        | (go_at_call 17; refine hkn.mono ?_; rintro e W1 ⟨rfl, hs1⟩; clear hkn)
        | (go_at_call 22; refine (hrd _).mono ?_; rintro e W2 ⟨v, us, rfl, hG, hs2⟩; obtain ⟨a, b, c, xs, rfl, hT, hxs, -⟩ := hG.txs; have hwr := hmain W2 a b c xs hT hxs; have HT : Hid (TxsS W2 a b 0 xs ∧ xs.map Tx.xs = toG ts) := ⟨hT, hxs⟩; have HXL : Hid (xs.length = ts.length) := (by show _ = _; rw [← HGL.out, ← hxs, List.length_map]); clear hG hrd hxs hT hmain)
        | (go_at_call 27; refine hwr.mono ?_; rintro e W3 ⟨rfl, hs3⟩; clear hwr)
        | (go_at_call 15; refine (hn _ _).mono ?_; rintro e w' ⟨rfl, hw'⟩; have hw2 := hw'.symm; subst hw2))
      obtain ⟨n, hnn⟩ : ∃ n, n = xs.length := ⟨_, rfl⟩
      have HN : Hid (n = xs.length) := hnn
      have hnl : n ≤ 1048577 := by rw [hnn, HXL.out]; omega
      rw [← hnn]
      clear hnn
      go_loopw [11] (fun i wr => ∃ k : Nat, k ≤ n ∧ i = .int .i64 (k : Int) ∧ Stay W3 wr) (fun i _ => n - (intOf i).toNat)
      case atStart => exact ⟨0, Nat.zero_le _, rfl, Stay.refl _⟩
      case round =>
        obtain ⟨k', hk', rfl, hst⟩ := hrel
        by_cases hlt : k' < n
        · have hki : (k' : Int) < (n : Int) := by omega
          have hkx : k' < xs.length := by rw [← HN.out]; exact hlt
          obtain ⟨hab, hcell, line, hL, hSp⟩ := HLP.out W2 wr a b c xs HT.out.1 HT.out.2 (hs3.trans hst) k' hkx
          subst hab
          generalize xs[k'] = t at *
          obtain ⟨ta, tb, to, tc, tx⟩ := t
          dsimp only at *
          generalize tx.length = tn at *
          by_cases hz : 0 < z
          · go_wp2_with (first
              | (go_at_call 18; refine hL.mono ?_; rintro e W4 ⟨rfl, hs4⟩; have hSp4 := hSp W4 hs4; have hc4 := hs4.cell hcell; clear hL hSp)
              | (go_at_call 13; refine hSp4.mono ?_; rintro e W5 ⟨v5, rfl, hs5, hsame⟩; have hsm := hsame hz W5 (Stay.refl _); have hc5 := hs5.cell hc4; clear hSp4 hsame)
              | (go_at_call 16; refine hsm.mono ?_; rintro e W6 ⟨rfl, hs6⟩; clear hsm)
              | (go_at_call 15; refine (hn _ _).mono ?_; rintro e w' ⟨rfl, hw'⟩; have hw2 := hw'.symm; subst hw2))
            go_roundw
            case rel => exact ⟨k' + 1, by omega, by simp, ((hst.trans hs4).trans hs5).trans hs6⟩
            case measure => simp [intOf]; omega
          · go_wp2_with (first
              | (go_at_call 18; refine hL.mono ?_; rintro e W4 ⟨rfl, hs4⟩; have hSp4 := hSp W4 hs4; clear hL hSp)
              | (go_at_call 13; refine hSp4.mono ?_; rintro e W5 ⟨v5, rfl, hs5, hsame⟩; clear hSp4 hsame)
              | (go_at_call 15; refine (hn _ _).mono ?_; rintro e w' ⟨rfl, hw'⟩; have hw2 := hw'.symm; subst hw2))
            go_roundw
            case rel => exact ⟨k' + 1, by omega, by simp, (hst.trans hs4).trans hs5⟩
            case measure => simp [intOf]; omega
        · have hki : ¬ (k' : Int) < (n : Int) := by omega
          go_wp2
          go_ret
          exact ⟨rfl, ((hs1.trans hs2).trans hs3).trans hst⟩
    · obtain ⟨k, hk⟩ : ∃ k, s.size = k + 1 := ⟨s.size - 1, by omega⟩
      have hla := last_at hk
      have hks : k < s.size := by omega
      obtain ⟨b0, hb0⟩ : ∃ b0, s[k] = b0 := ⟨_, rfl⟩
      rw [hb0] at hla
      have hct : s[k].toNat = b0.toNat := by rw [hb0]
      have hb2 : b0.toNat < 256 := UInt8.toNat_lt b0
      have hsz0 : (0 : Int) < (s.size : Int) := by omega
      have hi1 : (s.size : Int) - 1 = (k : Int) := by omega
      have hi2 : (k : Int) < (s.size : Int) := by omega
      have hne : s.data.toList ≠ [] := fun e => by rw [e] at hla; simp at hla
      by_cases h10 : b0 = 10
      · subst h10
        have hmain := main s (by rw [show endL [] s.data.toList = [] by unfold endL; rw [if_neg (by simpa using hne), if_pos hla], List.append_nil, toB_data])
        rw [show UInt8.toNat 10 = 10 from rfl] at hct
        clear hla hne hk hz0 hb0
        clear main
        go_enter Try.func8, Try.ntmps8
        go_wp2_with (first
          | (go_at_call 17; refine hkn.mono ?_; rintro e W1 ⟨rfl, hs1⟩; clear hkn)
          | (go_at_call 22; refine (hrd _).mono ?_; rintro e W2 ⟨v, us, rfl, hG, hs2⟩; obtain ⟨a, b, c, xs, rfl, hT, hxs, -⟩ := hG.txs; have hwr := hmain W2 a b c xs hT hxs; have HT : Hid (TxsS W2 a b 0 xs ∧ xs.map Tx.xs = toG ts) := ⟨hT, hxs⟩; have HXL : Hid (xs.length = ts.length) := (by show _ = _; rw [← HGL.out, ← hxs, List.length_map]); clear hG hrd hxs hT hmain)
          | (go_at_call 27; refine hwr.mono ?_; rintro e W3 ⟨rfl, hs3⟩; clear hwr)
          | (go_at_call 15; refine (hn _ _).mono ?_; rintro e w' ⟨rfl, hw'⟩; have hw2 := hw'.symm; subst hw2))
        obtain ⟨n, hnn⟩ : ∃ n, n = xs.length := ⟨_, rfl⟩
        have HN : Hid (n = xs.length) := hnn
        have hnl : n ≤ 1048577 := by rw [hnn, HXL.out]; omega
        rw [← hnn]
        clear hnn
        go_loopw [11] (fun i wr => ∃ k : Nat, k ≤ n ∧ i = .int .i64 (k : Int) ∧ Stay W3 wr) (fun i _ => n - (intOf i).toNat)
        case atStart => exact ⟨0, Nat.zero_le _, rfl, Stay.refl _⟩
        case round =>
          obtain ⟨k', hk', rfl, hst⟩ := hrel
          by_cases hlt : k' < n
          · have hki : (k' : Int) < (n : Int) := by omega
            have hkx : k' < xs.length := by rw [← HN.out]; exact hlt
            obtain ⟨hab, hcell, line, hL, hSp⟩ := HLP.out W2 wr a b c xs HT.out.1 HT.out.2 (hs3.trans hst) k' hkx
            subst hab
            generalize xs[k'] = t at *
            obtain ⟨ta, tb, to, tc, tx⟩ := t
            dsimp only at *
            generalize tx.length = tn at *
            by_cases hz : 0 < z
            · go_wp2_with (first
                | (go_at_call 18; refine hL.mono ?_; rintro e W4 ⟨rfl, hs4⟩; have hSp4 := hSp W4 hs4; have hc4 := hs4.cell hcell; clear hL hSp)
                | (go_at_call 13; refine hSp4.mono ?_; rintro e W5 ⟨v5, rfl, hs5, hsame⟩; have hsm := hsame hz W5 (Stay.refl _); have hc5 := hs5.cell hc4; clear hSp4 hsame)
                | (go_at_call 16; refine hsm.mono ?_; rintro e W6 ⟨rfl, hs6⟩; clear hsm)
                | (go_at_call 15; refine (hn _ _).mono ?_; rintro e w' ⟨rfl, hw'⟩; have hw2 := hw'.symm; subst hw2))
              go_roundw
              case rel => exact ⟨k' + 1, by omega, by simp, ((hst.trans hs4).trans hs5).trans hs6⟩
              case measure => simp [intOf]; omega
            · go_wp2_with (first
                | (go_at_call 18; refine hL.mono ?_; rintro e W4 ⟨rfl, hs4⟩; have hSp4 := hSp W4 hs4; clear hL hSp)
                | (go_at_call 13; refine hSp4.mono ?_; rintro e W5 ⟨v5, rfl, hs5, hsame⟩; clear hSp4 hsame)
                | (go_at_call 15; refine (hn _ _).mono ?_; rintro e w' ⟨rfl, hw'⟩; have hw2 := hw'.symm; subst hw2))
              go_roundw
              case rel => exact ⟨k' + 1, by omega, by simp, (hst.trans hs4).trans hs5⟩
              case measure => simp [intOf]; omega
          · have hki : ¬ (k' : Int) < (n : Int) := by omega
            go_wp2
            go_ret
            exact ⟨rfl, ((hs1.trans hs2).trans hs3).trans hst⟩
      · have hmain := main (s ++ ⟨#[10]⟩) (by
          rw [show endL [] s.data.toList = [10] by unfold endL; rw [if_neg (by simpa using hne), if_neg (by rw [hla]; simpa using h10)], ← toB_app, toB_data]; rfl)
        have q10 := byte_ne h10
        rw [show ((UInt8.toNat 10 : Nat) : Int) = 10 from rfl] at q10
        have hsum : (s ++ (⟨#[10]⟩ : ByteArray)).size = s.size + 1 := by rw [ByteArray.size_append]; rfl
        clear hla hne hk hz0 hb0 h10
        clear main
        go_enter Try.func8, Try.ntmps8
        go_wp2_with (first
          | (go_at_call 17; refine hkn.mono ?_; rintro e W1 ⟨rfl, hs1⟩; clear hkn)
          | (go_at_call 22; refine (hrd _).mono ?_; rintro e W2 ⟨v, us, rfl, hG, hs2⟩; obtain ⟨a, b, c, xs, rfl, hT, hxs, -⟩ := hG.txs; have hwr := hmain W2 a b c xs hT hxs; have HT : Hid (TxsS W2 a b 0 xs ∧ xs.map Tx.xs = toG ts) := ⟨hT, hxs⟩; have HXL : Hid (xs.length = ts.length) := (by show _ = _; rw [← HGL.out, ← hxs, List.length_map]); clear hG hrd hxs hT hmain)
          | (go_at_call 27; refine hwr.mono ?_; rintro e W3 ⟨rfl, hs3⟩; clear hwr)
          | (go_at_call 15; refine (hn _ _).mono ?_; rintro e w' ⟨rfl, hw'⟩; have hw2 := hw'.symm; subst hw2))
        obtain ⟨n, hnn⟩ : ∃ n, n = xs.length := ⟨_, rfl⟩
        have HN : Hid (n = xs.length) := hnn
        have hnl : n ≤ 1048577 := by rw [hnn, HXL.out]; omega
        rw [← hnn]
        clear hnn
        go_loopw [11] (fun i wr => ∃ k : Nat, k ≤ n ∧ i = .int .i64 (k : Int) ∧ Stay W3 wr) (fun i _ => n - (intOf i).toNat)
        case atStart => exact ⟨0, Nat.zero_le _, rfl, Stay.refl _⟩
        case round =>
          obtain ⟨k', hk', rfl, hst⟩ := hrel
          by_cases hlt : k' < n
          · have hki : (k' : Int) < (n : Int) := by omega
            have hkx : k' < xs.length := by rw [← HN.out]; exact hlt
            obtain ⟨hab, hcell, line, hL, hSp⟩ := HLP.out W2 wr a b c xs HT.out.1 HT.out.2 (hs3.trans hst) k' hkx
            subst hab
            generalize xs[k'] = t at *
            obtain ⟨ta, tb, to, tc, tx⟩ := t
            dsimp only at *
            generalize tx.length = tn at *
            by_cases hz : 0 < z
            · go_wp2_with (first
                | (go_at_call 18; refine hL.mono ?_; rintro e W4 ⟨rfl, hs4⟩; have hSp4 := hSp W4 hs4; have hc4 := hs4.cell hcell; clear hL hSp)
                | (go_at_call 13; refine hSp4.mono ?_; rintro e W5 ⟨v5, rfl, hs5, hsame⟩; have hsm := hsame hz W5 (Stay.refl _); have hc5 := hs5.cell hc4; clear hSp4 hsame)
                | (go_at_call 16; refine hsm.mono ?_; rintro e W6 ⟨rfl, hs6⟩; clear hsm)
                | (go_at_call 15; refine (hn _ _).mono ?_; rintro e w' ⟨rfl, hw'⟩; have hw2 := hw'.symm; subst hw2))
              go_roundw
              case rel => exact ⟨k' + 1, by omega, by simp, ((hst.trans hs4).trans hs5).trans hs6⟩
              case measure => simp [intOf]; omega
            · go_wp2_with (first
                | (go_at_call 18; refine hL.mono ?_; rintro e W4 ⟨rfl, hs4⟩; have hSp4 := hSp W4 hs4; clear hL hSp)
                | (go_at_call 13; refine hSp4.mono ?_; rintro e W5 ⟨v5, rfl, hs5, hsame⟩; clear hSp4 hsame)
                | (go_at_call 15; refine (hn _ _).mono ?_; rintro e w' ⟨rfl, hw'⟩; have hw2 := hw'.symm; subst hw2))
              go_roundw
              case rel => exact ⟨k' + 1, by omega, by simp, (hst.trans hs4).trans hs5⟩
              case measure => simp [intOf]; omega
          · have hki : ¬ (k' : Int) < (n : Int) := by omega
            go_wp2
            go_ret
            exact ⟨rfl, ((hs1.trans hs2).trans hs3).trans hst⟩
  · obtain ⟨e1, e2⟩ := read_bad h0
    rw [e1] at hrd
    rw [data_len] at e2
    rcases e2 with e2 | ⟨k, hk, e2 | e2⟩
    · rw [e2] at hrd
      clear e1 e2 h0
      dsimp only at hrd
      go_enter Try.func8, Try.ntmps8
      go_wp2_with (first
        | (go_at_call 17; refine hkn.mono ?_; rintro e W1 ⟨rfl, hs1⟩; clear hkn)
        | (go_at_call 22; refine (hrd _).mono ?_; rintro e W2 ⟨v, us, rfl, hG, hs2⟩; obtain ⟨a, b, c, xs, rfl, -, hxs, -⟩ := hG.txs; obtain rfl : xs = [] := (by simpa [toG] using hxs); clear hG hrd hxs)
        | (go_at_call 15; refine (hn _ _).mono ?_; rintro e w' ⟨rfl, hw'⟩; have hw2 := hw'.symm; subst hw2))
      go_ret
      exact ⟨rfl, hs1.trans hs2⟩
    · rw [e2] at hrd
      clear e1 e2 h0
      dsimp only at hrd
      have hk1 : ((k : Int) == -1) = false := by simp
      have hk2 : (k : Int) ≤ (s.size : Int) := by omega
      go_enter Try.func8, Try.ntmps8
      go_wp2_with (first
        | (go_at_call 17; refine hkn.mono ?_; rintro e W1 ⟨rfl, hs1⟩; clear hkn)
        | (go_at_call 22; refine (hrd _).mono ?_; rintro e W2 ⟨v, us, rfl, hG, hs2⟩; obtain ⟨a, b, c, xs, rfl, -, hxs, -⟩ := hG.txs; obtain rfl : xs = [] := (by simpa [toG] using hxs); clear hG hrd hxs)
        | (go_at_call 15; refine (hn _ _).mono ?_; rintro e w' ⟨rfl, hw'⟩; have hw2 := hw'.symm; subst hw2))
      go_ret
      exact ⟨rfl, hs1.trans hs2⟩
    · rw [e2] at hrd
      clear e1 e2 h0
      dsimp only at hrd
      have hk1 : ((k : Int) == -1) = false := by simp
      have hk2 : (k : Int) ≤ (s.size : Int) := by omega
      go_enter Try.func8, Try.ntmps8
      go_wp2_with (first
        | (go_at_call 17; refine hkn.mono ?_; rintro e W1 ⟨rfl, hs1⟩; clear hkn)
        | (go_at_call 22; refine (hrd _).mono ?_; rintro e W2 ⟨v, us, rfl, hG, hs2⟩; obtain ⟨a, b, c, xs, rfl, -, hxs, -⟩ := hG.txs; obtain rfl : xs = [] := (by simpa [toG] using hxs); clear hG hrd hxs)
        | (go_at_call 15; refine (hn _ _).mono ?_; rintro e w' ⟨rfl, hw'⟩; have hw2 := hw'.symm; subst hw2))
      go_ret
      exact ⟨rfl, hs1.trans hs2⟩
end Go.Proofs.Ythpecmdfppdkaaa
