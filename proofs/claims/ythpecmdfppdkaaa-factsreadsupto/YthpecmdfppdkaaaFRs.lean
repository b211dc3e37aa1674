/- The document's turned, Split. -/
import Derived.Test.YthpecmdfppdkaaaFY
namespace Go.Proofs.Ythpecmdfppdkaaa
open Go.RowKit Go.Maps

theorem turned_any (d : UInt8) (w : World) : Calls Try.prog 35 #[.int .u8 (d.toNat : Int)] w fun e w' => e = .returned (.tuple #[.int .u8 (((turnB d).getD 0).toNat : Int), .bool (turnB d).isSome]) ∧ w' = w := by
  unfold turnB
  by_cases h1 : d = 116
  · subst h1
    rw [show ((UInt8.toNat 116 : Nat) : Int) = 116 from rfl]
    go_enter Try.func35, Try.ntmps35
    go_wp2
    go_ret2
    exact ⟨rfl, rfl⟩
  have q1 := byte_ne h1
  rw [show ((UInt8.toNat 116 : Nat) : Int) = 116 from rfl] at q1
  rw [if_neg h1]
  by_cases h2 : d = 110
  · subst h2
    rw [show ((UInt8.toNat 110 : Nat) : Int) = 110 from rfl]
    clear q1 h1
    go_enter Try.func35, Try.ntmps35
    go_wp2
    go_ret2
    exact ⟨rfl, rfl⟩
  have q2 := byte_ne h2
  rw [show ((UInt8.toNat 110 : Nat) : Int) = 110 from rfl] at q2
  rw [if_neg h2]
  by_cases h3 : d = 92
  · subst h3
    rw [show ((UInt8.toNat 92 : Nat) : Int) = 92 from rfl]
    clear q1 h1 q2 h2
    go_enter Try.func35, Try.ntmps35
    go_wp2
    go_ret2
    exact ⟨rfl, rfl⟩
  have q3 := byte_ne h3
  rw [show ((UInt8.toNat 92 : Nat) : Int) = 92 from rfl] at q3
  rw [if_neg h3]
  clear h1 h2 h3
  go_enter Try.func35, Try.ntmps35
  go_wp2
  go_ret2
  exact ⟨rfl, rfl⟩

/-- Two lists of one's own, no block in both. -/
structure OwnT (base : Nat) (w : World) (o f : Value) (cs : List (List UInt8)) (c : List UInt8) : Prop where
  out : OwnS base w o (cs.map toB)
  field : OwnB base w f c
  apart : ∀ k, o.ownBlock = some k → f.ownBlock ≠ some k
section
variable {base : Nat} {w w' : World} {o f : Value} {cs : List (List UInt8)} {c : List UInt8}
theorem OwnT.nil : OwnT base w (.slice none 0 0) (.slice none 0 0) [] [] := ⟨OwnS.nil, OwnB.nil, fun k h => by simp [Value.ownBlock] at h⟩
theorem OwnB.turn {S : Nat → Prop} (h : OwnB base w f c) (ht : Turn S w w') (hn : ∀ k, f.ownBlock = some k → ¬ S k) : OwnB base w' f c := ht.row h hn
/-- A byte more. -/
theorem OwnT.byte (h : OwnT base w o f cs c) (x : UInt8) (hb : c.length + 1 ≤ 140737488355328) (hbase : base ≤ w.heap.size) :
    ∃ f' w', (Builtin.append_ #[65, 65] 65 #[f, .slice (some ⟨w.heap.size, 0, none⟩) 1 1]).run Try.prog (w.alloc (.cells #[.int .u8 (x.toNat : Int)] 5)) = .ok f' w' ∧ OwnT base w' o f' cs (c ++ [x]) ∧ Turn (fun k => base ≤ k) w w' := by
  obtain ⟨f', w', hr, h1, h2, h3⟩ := h.field.add 65 [x] (by simpa using hb) hbase
  refine ⟨f', w', hr, ⟨h.out.turn h2 (fun k hk e => h.apart k hk e), h1, fun k hk e => ?_⟩, h2.mono (fun i _ e => (h.field.lt i e).1)⟩
  rcases h3 with e3 | e3
  · exact h.apart k hk (e3.symm.trans e)
  · have := (h.out.lt k hk).2
    have e4 := Option.some.inj (e3.symm.trans e)
    omega
/-- The field more. -/
theorem OwnT.text (h : OwnT base w o f cs c) (hb : (cs.length + 1) * 16 ≤ 140737488355328) (hbase : base ≤ w.heap.size) :
    ∃ o' w', (Builtin.append_ #[31, 31] 31 #[o, .slice (some ⟨w.heap.size, 0, none⟩) 1 1]).run Try.prog (w.alloc (.cells #[.string (toB c)] 9)) = .ok o' w' ∧ OwnT base w' o' (.slice none 0 0) (cs ++ [c]) [] ∧ Turn (fun k => base ≤ k) w w' := by
  obtain ⟨v', A', hap, ho', hg, hv1, hv2⟩ := (h.out.stay (Stay.new w (.cells #[.string (toB c)] 9))).add 31 (strs_new w [toB c] 9) (c := 1) (fun e => by simp at e) (by rw [List.length_map, List.length_singleton]; exact hb) (by simp; omega)
  refine ⟨v', A', hap, ⟨by rw [List.map_append]; exact ho', OwnB.nil, fun k _ e => by simp [Value.ownBlock] at e⟩, ?_⟩
  exact (Turn.of_stay (Stay.new w _)).then (Turn.of_grown hg) (fun i _ e => (h.out.lt i e).1)
end

set_option maxRecDepth 100000 in
set_option maxHeartbeats 8000000 in
theorem rSplit_any (s : ByteArray) (w : World) (hs : s.size ≤ 4398046511104) : Calls Try.prog 14 #[.string s] w fun e w' => ∃ v, e = .returned (.tuple #[v, .int .i64 (plcZ (splitT s.data.toList).2), .int .i64 (errZ (splitT s.data.toList).2)]) ∧ OwnS w.heap.size w' v ((okL (splitT s.data.toList)).map toB) ∧ Stay w w' := by
  obtain ⟨L, hL⟩ : ∃ L, s.data.toList = L := ⟨_, rfl⟩
  have HL : Hid (s.data.toList = L) := hL
  have HLen : Hid (L.length = s.size) := by show L.length = s.size; rw [← hL]; simp
  rw [hL]
  obtain ⟨T, hTT⟩ : ∃ T, splitT L = T := ⟨_, rfl⟩
  have HT : Hid (splitT L = T) := hTT
  rw [hTT]
  clear hL hTT
  have htu := turned_any
  have bad : ∀ (cs : List (List UInt8)) (k : Nat) (V : World), splitT L = (cs, some k) → Stay w V → ∃ v, Ending.returned (.tuple #[.slice none 0 0, .int .i64 (k : Int), .int .i64 11]) = .returned (.tuple #[v, .int .i64 (plcZ T.2), .int .i64 (errZ T.2)]) ∧ OwnS w.heap.size V v ((okL T).map toB) ∧ Stay w V := fun cs k V he hV => by
    rw [← HT.out, he]
    exact ⟨_, rfl, OwnS.nil, hV⟩
  go_enter Try.func14, Try.ntmps14
  go_wp2
  go_loopw [5, 6, 7] (fun o f i wr => ∃ k c cs, k ≤ s.size ∧ i = .int .i64 ((k : Nat) : Int) ∧ OwnT w.heap.size wr o f cs c ∧ c.length ≤ 1024 ∧ cs.length ≤ k ∧ Stay w wr ∧ splitT L = lfin cs k (walkP c (L.drop k))) (fun _ _ i _ => s.size - (intOf i).toNat)
  case atStart => exact ⟨0, [], [], Nat.zero_le _, rfl, OwnT.nil, Nat.zero_le _, Nat.zero_le _, Stay.refl _, by rw [lfin_nil]; rfl⟩
  case round =>
    obtain ⟨k, c, cs, hk, rfl, hown, hcl, hcs, hst, hu⟩ := hrel
    have hsz := hst.size
    have low : ∀ {V V' : World}, Stay w V → Turn (fun k => w.heap.size ≤ k) V V' → Stay w V' := fun hV hT => hT.stay hV (fun k hk e => by omega)
    obtain ⟨n, hn⟩ : ∃ n, n = c.length := ⟨_, rfl⟩
    by_cases hlt : k < s.size
    · have hkL : k < L.length := by rw [HLen.out]; exact hlt
      have hki2 : (k : Int) < (s.size : Int) := by omega
      rw [walkP_at _ L k hkL] at hu
      have hLs : L[k] = s[k] := by
        have e0 : s.data.toList[k]'(by rw [HL.out]; exact hkL) = s[k] := rfl
        rw [← e0]
        congr 1
        exact HL.out.symm
      rw [hLs] at hu
      obtain ⟨b, hb⟩ : ∃ b, s[k] = b := ⟨_, rfl⟩
      rw [hb] at hu
      have hct : s[k].toNat = b.toNat := by rw [hb]
      have hb2 : b.toNat < 256 := UInt8.toNat_lt b
      clear hb hLs hkL
      obtain ⟨fa, fn, fc, rfl⟩ := own_one hown.field
      obtain rfl : fn = c.length := by
        obtain ⟨a', c', e'⟩ := hown.field.slice
        simp at e'; exact e'.2.1
      rw [← hn] at hown hcl ⊢
      have HN : Hid (n = c.length) := hn
      clear hn
      by_cases h9 : b = 9
      · subst h9
        rw [if_pos rfl, lfin_put] at hu
        rw [show UInt8.toNat 9 = 9 from rfl] at hct
        have hcv := hown.field.str
        obtain ⟨o', V, hap, ho', hT⟩ := hown.text (by omega) hsz
        have HF : Hid (OwnT w.heap.size V o' (.slice none 0 0) (cs ++ [c]) [] ∧ Stay w V ∧ splitT L = lfin (cs ++ [c]) (k + 1) (walkP [] (L.drop (k + 1)))) := ⟨ho', low hst hT, hu⟩
        generalize toB c = tc at hcv hap
        clear ho' hT hown hst hu bad htu low
        go_wp2_with (at_builtin; refine wpList_append_run rfl _ _ 31 31 rfl _ _ rfl rfl hap ?_)
        go_roundw
        case rel => exact ⟨k + 1, [], cs ++ [c], by omega, by simp, HF.out.1, Nat.zero_le _, by simp; omega, HF.out.2.1, HF.out.2.2⟩
        case measure => simp [intOf]; omega
      rw [if_neg h9] at hu
      have q9 := byte_ne h9
      rw [show ((UInt8.toNat 9 : Nat) : Int) = 9 from rfl] at q9
      by_cases h10 : b = 10
      · subst h10
        rw [if_pos (.inl rfl), lfin_no] at hu
        rw [show UInt8.toNat 10 = 10 from rfl] at hct
        have HF := fun V hV => bad cs k V hu hV
        clear hu bad htu low h9 q9 hown
        go_wp2_with fail
        go_ret3
        exact HF _ hst
      have q10 := byte_ne h10
      rw [show ((UInt8.toNat 10 : Nat) : Int) = 10 from rfl] at q10
      by_cases hfull : n = 1024
      · rw [if_pos (.inr (HN.out ▸ hfull)), lfin_no] at hu
        have HF := fun V hV => bad cs k V hu hV
        have hnb : ((n : Int) == 1024) = true := by simp; omega
        clear hu bad htu low hown
        go_wp2_with fail
        go_ret3
        exact HF _ hst
      rw [if_neg (by intro h; rcases h with h | h; exact h10 h; exact hfull (HN.out.trans h))] at hu
      have hnb : ((n : Int) == 1024) = false := by simp; omega
      by_cases h92 : b = 92
      · subst h92
        rw [if_pos rfl, lfin_skip] at hu
        rw [show UInt8.toNat 92 = 92 from rfl] at hct
        clear q9 h9 q10 h10
        by_cases hlt2 : k + 1 < s.size
        · have hkL : k + 1 < L.length := by rw [HLen.out]; exact hlt2
          rw [walkE_at _ L (k + 1) hkL] at hu
          have hLs : L[k + 1] = s[k + 1] := by
            have e0 : s.data.toList[k + 1]'(by rw [HL.out]; exact hkL) = s[k + 1] := rfl
            rw [← e0]
            congr 1
            exact HL.out.symm
          rw [hLs] at hu
          obtain ⟨d, hd⟩ : ∃ d, s[k + 1] = d := ⟨_, rfl⟩
          rw [hd] at hu
          have hdt : s[k + 1].toNat = d.toNat := by rw [hd]
          have hd2 : d.toNat < 256 := UInt8.toNat_lt d
          have htd := turned_any d
          have hne : ((k : Int) + 1 == (s.size : Int)) = false := by simp; omega
          have hki3 : (k : Int) + 1 < (s.size : Int) := by omega
          clear hd hLs hkL htu
          cases htb : turnB d with
          | none =>
            rw [htb] at hu htd
            dsimp only at hu
            rw [lfin_no] at hu
            have HF := fun V hV => bad cs (k + 1) V hu hV
            simp only [Option.getD_none, Option.isSome_none] at htd
            clear hu bad low hown htb
            go_wp2_with (go_at_call 35; refine (htd _).mono ?_; rintro e w' ⟨rfl, hw'⟩; have hw2 := hw'.symm; subst hw2)
            go_ret3
            exact HF _ hst
          | some x =>
            rw [htb] at hu htd
            dsimp only at hu
            rw [lfin_skip] at hu
            obtain ⟨f', V, hap, ho', hT⟩ := hown.byte x (by rw [← HN.out]; omega) hsz
            have HF : Hid (OwnT w.heap.size V u5 f' cs (c ++ [x]) ∧ Stay w V ∧ splitT L = lfin cs (k + 1 + 1) (walkP (c ++ [x]) (L.drop (k + 1 + 1)))) := ⟨ho', low hst hT, hu⟩
            simp only [Option.getD_some, Option.isSome_some] at htd
            clear ho' hT hown hu bad low htb
            have hx2 : x.toNat < 256 := UInt8.toNat_lt x
            go_wp2_with (first
              | (go_at_call 35; refine (htd _).mono ?_; rintro e w' ⟨rfl, hw'⟩; have hw2 := hw'.symm; subst hw2)
              | (at_builtin; refine wpList_append_run rfl _ _ 65 65 rfl _ _ rfl rfl hap ?_))
            go_roundw
            case rel => exact ⟨k + 1 + 1, c ++ [x], cs, by omega, by simp, HF.out.1, by rw [List.length_append, List.length_singleton, ← HN.out]; omega, by omega, HF.out.2.1, HF.out.2.2⟩
            case measure => simp [intOf]; omega
        · rw [walkE_end _ L (k + 1) (by rw [HLen.out]; omega), lfin_no] at hu
          have HF := fun V hV => bad cs (k + 1) V hu hV
          have hne : ((k : Int) + 1 == (s.size : Int)) = true := by simp; omega
          clear hu bad htu low hown
          go_wp2_with fail
          go_ret3
          exact HF _ hst
      rw [if_neg h92, lfin_skip] at hu
      have q92 := byte_ne h92
      rw [show ((UInt8.toNat 92 : Nat) : Int) = 92 from rfl] at q92
      obtain ⟨f', V, hap, ho', hT⟩ := hown.byte b (by rw [← HN.out]; omega) hsz
      have HF : Hid (OwnT w.heap.size V u5 f' cs (c ++ [b]) ∧ Stay w V ∧ splitT L = lfin cs (k + 1) (walkP (c ++ [b]) (L.drop (k + 1)))) := ⟨ho', low hst hT, hu⟩
      clear ho' hT hown hst h9 h10 h92 hu bad htu low
      go_wp2_with (at_builtin; refine wpList_append_run rfl _ _ 65 65 rfl _ _ rfl rfl hap ?_)
      go_roundw
      case rel => exact ⟨k + 1, c ++ [b], cs, by omega, by simp, HF.out.1, by rw [List.length_append, List.length_singleton, ← HN.out]; omega, by omega, HF.out.2.1, HF.out.2.2⟩
      case measure => simp [intOf]; omega
    · have hki : ¬ (k : Int) < (s.size : Int) := by omega
      rw [walkP_end _ L k (by rw [HLen.out]; omega), lfin_end] at hu
      have hcv := hown.field.str
      obtain ⟨o', V, hap, ho', hT⟩ := hown.text (by omega) hsz
      have HF : Hid (OwnS w.heap.size V o' ((cs ++ [c]).map toB) ∧ Stay w V ∧ T = (cs ++ [c], none)) := ⟨ho'.out, low hst hT, HT.out.symm.trans hu⟩
      generalize toB c = tc at hcv hap
      clear ho' hT hown hst hu bad htu low
      go_wp2_with (at_builtin; refine wpList_append_run rfl _ _ 31 31 rfl _ _ rfl rfl hap ?_)
      go_ret3
      rw [HF.out.2.2]
      exact ⟨_, rfl, HF.out.1, HF.out.2.1⟩
end Go.Proofs.Ythpecmdfppdkaaa
