/- The document's Escape, Line. -/
import Derived.Test.YtbbgembkdhcidaaFX
namespace Go.Proofs.Ytbbgembkdhcidaa
open Go.RowKit Go.Maps

/-- A list of bytes in memory of its own. -/
def OwnB (base : Nat) (w : World) (v : Value) (l : List UInt8) : Prop := w.ownsRow base 5 1 v l.length (Lib.byteCells l)
section
variable {base : Nat} {w w' : World} {v : Value} {l : List UInt8}
theorem OwnB.nil : OwnB base w (.slice none 0 0) [] := World.ownsRow_nil _ _ _ _
theorem OwnB.stay (h : OwnB base w v l) (hs : Stay w w') : OwnB base w' v l := (Turn.of_stay (S := fun _ => False) hs).row h (fun _ _ h => h)
theorem OwnB.lt (h : OwnB base w v l) : ∀ k, v.ownBlock = some k → base ≤ k ∧ k < w.heap.size := World.ownsRow.lt h
/-- Bytes more. -/
theorem OwnB.add (ty : TypeId) (h : OwnB base w v l) (bs : List UInt8) (hb : l.length + bs.length ≤ 140737488355328) (hbase : base ≤ w.heap.size) :
    ∃ v' w', (Builtin.append_ #[42, 42] ty #[v, .slice (some ⟨w.heap.size, 0, none⟩) bs.length bs.length]).run Try.prog (w.alloc (.cells (Lib.byteCells bs).toArray 5)) = .ok v' w' ∧ OwnB base w' v' (l ++ bs) ∧ Turn (fun k => v.ownBlock = some k) w w' ∧ (v'.ownBlock = v.ownBlock ∨ v'.ownBlock = some (w.heap.size + 1)) := by
  obtain ⟨i0, hi, hz0, hz1, hz2⟩ := info_parts infoU8
  obtain ⟨v', w', hr, h2, h3, h4, h5⟩ := run_append_own_at (P := Try.prog) (w.alloc (.cells (Lib.byteCells bs).toArray 5)) base 42 ty 5 i0 (.int .u8 0) 1 1 Try.underlying42 hi hz0 hz1 hz2 rfl (by decide) v l.length (Lib.byteCells l) (World.ownsRow.alloc h _) ⟨w.heap.size, 0, none⟩ bs.length bs.length (Lib.byteCells bs) (by rw [Lib.byteCells_length]; omega) (new_cells w (Lib.byteCells bs) _) (fun u hu => by simp only [Lib.byteCells, List.mem_map] at hu; obtain ⟨x, _, rfl⟩ := hu; rfl) (by unfold maxLen; omega) (by omega) (by simp; omega)
  rw [World.size_alloc] at h5
  refine ⟨v', w', hr, ?_, (Turn.of_stay (Stay.new w _)).trans (Turn.of_grown h3), h5⟩
  unfold OwnB
  rw [List.length_append, byteCells_app]
  exact h2
/-- As a text. -/
theorem OwnB.str (h : OwnB base w v l) : (convert 42 9 v).run Try.prog w = .ok (.string (toB l)) w := by
  rcases h.2 with ⟨rfl, h0⟩ | ⟨g, cap, cur, rfl, _⟩
  · have e : l = [] := List.eq_nil_of_length_eq_zero h0
    subst e
    rw [run_convert_bytes_string w 42 9 5 none 0 0 Try.underlying42 Try.underlying5 Try.underlying9]
    rfl
  · refine run_convert_bytes_back (P := Try.prog) w 42 9 5 ⟨g, 0, none⟩ cap l Try.underlying42 Try.underlying5 Try.underlying9 (fun j hj => ?_)
    exact World.ownsRow.cells h (g := g) rfl j _ (by simp [Lib.byteCells, hj])
theorem OwnB.slice (h : OwnB base w v l) : ∃ a c, v = .slice a l.length c := by
  rcases h.2 with ⟨e, h0⟩ | ⟨g, cap, cur, e, _⟩
  · exact ⟨none, 0, by rw [e, h0]⟩
  · exact ⟨_, _, e⟩
end

set_option maxRecDepth 100000 in
set_option maxHeartbeats 4000000 in
theorem rEscape_any (s : ByteArray) (w : World) : Calls Try.prog 34 #[.string s] w fun e w' => e = .returned (.tuple #[.string (toB (escT s.data.toList).1), .int .i64 (escT s.data.toList).2]) ∧ Stay w w' := by
  unfold escT
  rw [data_len]
  by_cases hl : s.size ≤ 1024
  · rw [if_pos hl]
    have hgt : ¬ (1024 : Int) < (s.size : Int) := by omega
    go_enter Try.func34, Try.ntmps34
    go_wp2
    go_loopw [4, 5] (fun v i wr => ∃ k : Nat, k ≤ s.size ∧ i = .int .i64 (k : Int) ∧ OwnB w.heap.size wr v (escL (s.data.toList.take k)) ∧ Stay w wr) (fun _ i _ => s.size - (intOf i).toNat)
    case atStart => exact ⟨0, Nat.zero_le _, rfl, OwnB.nil, Stay.refl _⟩
    case round =>
      obtain ⟨k, hk, rfl, hown, hst⟩ := hrel
      have hsz := hst.size
      have hlk : (escL (s.data.toList.take k)).length ≤ 2048 := by
        have h1 := escL_len (s.data.toList.take k)
        have h2 : (s.data.toList.take k).length ≤ s.size := by rw [List.length_take]; simp; omega
        omega
      by_cases hlt : k < s.size
      · have hki : (k : Int) < (s.size : Int) := by omega
        have HE : Hid (escL (s.data.toList.take (k + 1)) = escL (s.data.toList.take k) ++ escB s[k]) := by
          show _ = _
          rw [escL_take _ _ (by rw [data_len]; exact hlt), data_at _ _ hlt]
        generalize escL (s.data.toList.take k) = cs at hown HE hlk
        obtain ⟨c, hcc⟩ : ∃ c, s[k] = c := ⟨_, rfl⟩
        rw [hcc] at HE
        have hct : s[k].toNat = c.toNat := by rw [hcc]
        have hc : c.toNat < 256 := UInt8.toNat_lt c
        clear hcc
        have fin : ∀ (bs : List UInt8) (v' : Value) (V : World), escB c = bs → OwnB w.heap.size V v' (cs ++ bs) → Turn (fun k => u4.ownBlock = some k) wr V → OwnB w.heap.size V v' (escL (s.data.toList.take (k + 1))) ∧ Stay w V := fun bs v' V he ho ht => by
          refine ⟨by rw [HE.out, he]; exact ho, ht.stay hst (fun j hj e => ?_)⟩
          have := (hown.lt j e).1; omega
        by_cases h9 : c = 9
        · subst h9
          rw [show UInt8.toNat 9 = 9 from rfl] at hct
          obtain ⟨v', V, hap, ho', hT, _⟩ := hown.add 42 [92, 116] (by simp; omega) hsz
          have HF : Hid (OwnB w.heap.size V v' (escL (s.data.toList.take (k + 1))) ∧ Stay w V) := fin _ _ _ rfl ho' hT
          clear fin ho' hT hown hst
          go_wp2_with (at_builtin; refine wpList_append_run rfl _ _ 42 42 rfl _ _ rfl rfl hap ?_)
          go_roundw
          case rel => exact ⟨k + 1, by omega, by simp, HF.out.1, HF.out.2⟩
          case measure => simp [intOf]; omega
        have q9 := byte_ne h9
        rw [show ((UInt8.toNat 9 : Nat) : Int) = 9 from rfl] at q9
        by_cases h10 : c = 10
        · subst h10
          rw [show UInt8.toNat 10 = 10 from rfl] at hct
          obtain ⟨v', V, hap, ho', hT, _⟩ := hown.add 42 [92, 110] (by simp; omega) hsz
          have HF : Hid (OwnB w.heap.size V v' (escL (s.data.toList.take (k + 1))) ∧ Stay w V) := fin _ _ _ rfl ho' hT
          clear fin ho' hT hown hst q9 h9
          go_wp2_with (at_builtin; refine wpList_append_run rfl _ _ 42 42 rfl _ _ rfl rfl hap ?_)
          go_roundw
          case rel => exact ⟨k + 1, by omega, by simp, HF.out.1, HF.out.2⟩
          case measure => simp [intOf]; omega
        have q10 := byte_ne h10
        rw [show ((UInt8.toNat 10 : Nat) : Int) = 10 from rfl] at q10
        by_cases h92 : c = 92
        · subst h92
          rw [show UInt8.toNat 92 = 92 from rfl] at hct
          obtain ⟨v', V, hap, ho', hT, _⟩ := hown.add 42 [92, 92] (by simp; omega) hsz
          have HF : Hid (OwnB w.heap.size V v' (escL (s.data.toList.take (k + 1))) ∧ Stay w V) := fin _ _ _ rfl ho' hT
          clear fin ho' hT hown hst q9 h9 q10 h10
          go_wp2_with (at_builtin; refine wpList_append_run rfl _ _ 42 42 rfl _ _ rfl rfl hap ?_)
          go_roundw
          case rel => exact ⟨k + 1, by omega, by simp, HF.out.1, HF.out.2⟩
          case measure => simp [intOf]; omega
        have q92 := byte_ne h92
        rw [show ((UInt8.toNat 92 : Nat) : Int) = 92 from rfl] at q92
        obtain ⟨v', V, hap, ho', hT, _⟩ := hown.add 42 [c] (by simp; omega) hsz
        have HF : Hid (OwnB w.heap.size V v' (escL (s.data.toList.take (k + 1))) ∧ Stay w V) := fin _ _ _ (by unfold escB; rw [if_neg h9, if_neg h10, if_neg h92]) ho' hT
        clear fin ho' hT hown hst h9 h10 h92
        go_wp2_with (at_builtin; refine wpList_append_run rfl _ _ 42 42 rfl _ _ rfl rfl hap ?_)
        go_roundw
        case rel => exact ⟨k + 1, by omega, by simp, HF.out.1, HF.out.2⟩
        case measure => simp [intOf]; omega
      · have hki : ¬ (k : Int) < (s.size : Int) := by omega
        have hE : s.data.toList.take k = s.data.toList := List.take_of_length_le (by rw [data_len]; omega)
        rw [hE] at hown
        have hcv := hown.str
        clear hE hown
        go_wp2
        go_ret2
        exact ⟨rfl, hst⟩
  · rw [if_neg hl]
    have hgt : (1024 : Int) < (s.size : Int) := by omega
    go_enter Try.func34, Try.ntmps34
    go_wp2
    go_ret2
    exact ⟨rfl, Stay.refl _⟩

theorem toB_app (a b : List UInt8) : toB a ++ toB b = toB (a ++ b) := by
  apply ByteArray.ext
  simp [toB]
theorem lineT_no16 {ss : List ByteArray} (h : ¬ ss.length ≤ 16) : lineT ss = ([], 2) := by
  have : refZ [ss] ss.length = 2 := by unfold refZ; rw [if_neg]; simp; omega
  unfold lineT
  rw [this]; rfl
theorem refZ_one {ss : List ByteArray} (h : ss.length ≤ 16) : refZ [ss] ss.length = if longB ss then 3 else 0 := by
  unfold refZ
  rw [if_pos (by simp [misB]; omega)]
  simp
set_option maxRecDepth 100000 in
set_option maxHeartbeats 4000000 in
theorem rLine_any {w : World} {a : Option Addr} {b off c : Nat} {ss : List ByteArray} (h : StrsS w a b off ss) : Calls Try.prog 19 #[.slice a ss.length c] w fun e w' => e = .returned (.tuple #[.string (toB (lineT ss).1), .int .i64 (lineT ss).2]) ∧ Stay w w' := by
  by_cases h16 : ss.length ≤ 16
  · obtain ⟨n, hn⟩ : ∃ n, n = ss.length := ⟨_, rfl⟩
    obtain ⟨R, hR⟩ : ∃ R, R = lineT ss := ⟨_, rfl⟩
    have HX : Hid (StrsS w a b off ss ∧ n = ss.length ∧ R = lineT ss) := ⟨h, hn, hR⟩
    rw [← hn, ← hR]
    rw [← hn] at h16
    have hgt : ¬ (16 : Int) < (n : Int) := by omega
    clear h hn hR
    go_enter Try.func19, Try.ntmps19
    go_wp2
    go_loopw [4, 5, 6, 7] (fun s i _ _ wr => ∃ k : Nat, k ≤ n ∧ i = .int .i64 (k : Int) ∧ s = .string (toB (lineL ((dat ss).take k))) ∧ (∀ x ∈ ss.take k, x.size ≤ 1024) ∧ Stay w wr) (fun _ i _ _ _ => n - (intOf i).toNat)
    case atStart => exact ⟨0, Nat.zero_le _, rfl, rfl, fun x hx => by simp at hx, Stay.refl _⟩
    case round =>
      obtain ⟨k, hk, rfl, rfl, hsm, hst⟩ := hrel
      by_cases hlt : k < n
      · have hki : (k : Int) < (n : Int) := by omega
        have hks : k < ss.length := by rw [← HX.out.2.1]; exact hlt
        obtain rfl := HX.out.1.1 (by omega)
        have hc0 := (HX.out.1.stay hst).2 k hks
        have hes := fun W => rEscape_any ss[k] W
        have hkd : k < (dat ss).length := by rw [dat_len]; exact hks
        have hlk := lineL_take hkd
        rw [dat_at ss k hks] at hlk
        have hts : ss.take (k + 1) = ss.take k ++ [ss[k]] := List.take_succ_eq_append_getElem hks
        have hmem : ss[k] ∈ ss := List.getElem_mem hks
        have hlen : (lineL ((dat ss).take k)).length ≤ 32800 := by
          have h1 := lineL_len ((dat ss).take k)
          have h2 : (dat ss).take k = dat (ss.take k) := by simp [dat, List.map_take]
          have h3 := sumL_small (ss.take k) hsm
          rw [List.length_take] at h3
          rw [h2] at h1 ⊢
          have : min k ss.length ≤ 16 := by omega
          have := Nat.mul_le_mul_right 1025 this
          omega
        generalize ss[k] = s at *
        unfold escT at hes
        rw [data_len] at hes
        by_cases hs : s.size ≤ 1024
        · rw [if_pos hs] at hes
          have hel := escL_len s.data.toList
          rw [data_len] at hel
          have hsm2 : ∀ x ∈ ss.take (k + 1), x.size ≤ 1024 := fun x hx => by
            rw [hts] at hx
            rcases List.mem_append.1 hx with h | h
            · exact hsm x h
            · rw [List.mem_singleton] at h; rw [h]; exact hs
          dsimp only at hes
          by_cases hk0 : k = 0
          · rw [if_pos hk0] at hlk
            have e0 : lineL ((dat ss).take k) = [] := by rw [hk0]; rfl
            rw [e0]
            have HE : Hid (lineL ((dat ss).take (k + 1)) = escL s.data.toList ∧ (∀ x ∈ ss.take (k + 1), x.size ≤ 1024) ∧ Stay w wr) := ⟨hlk, hsm2, hst⟩
            have hk1 : ¬ (0 : Int) < (k : Int) := by omega
            have happ : toB [] ++ toB (escL s.data.toList) = toB (escL s.data.toList) := by rw [toB_app]; rfl
            have hsz : (toB (escL s.data.toList)).size ≤ 4096 := by rw [toB_size]; omega
            have hsz0 : (toB []).size = 0 := rfl
            have HEB : Hid (toB (lineL ((dat ss).take (k + 1))) = toB (escL s.data.toList)) := by show _ = _; rw [HE.out.1]
            generalize toB (escL s.data.toList) = eb at *
            clear hlk hst hsm hsm2 hts hk0 e0 hlen hmem
            go_wp2_with (go_at_call 34; refine (hes _).mono ?_; rintro e W1 ⟨rfl, hs1⟩)
            go_roundw
            case rel => exact ⟨k + 1, by omega, by simp, by rw [HEB.out], HE.out.2.1, HE.out.2.2.trans hs1⟩
            case measure => simp [intOf]; omega
          · rw [if_neg hk0] at hlk
            have hk1 : (0 : Int) < (k : Int) := by omega
            have happ1 : toB (lineL ((dat ss).take k)) ++ (⟨#[9]⟩ : ByteArray) = toB (lineL ((dat ss).take k) ++ [9]) := toB_app _ [9]
            have happ2 : toB (lineL ((dat ss).take k) ++ [9]) ++ toB (escL s.data.toList) = toB (lineL ((dat ss).take (k + 1))) := by rw [toB_app, hlk]; simp
            have hsz1 : (toB (lineL ((dat ss).take k))).size ≤ 32800 := by rw [toB_size]; exact hlen
            have hsz2 : (toB (lineL ((dat ss).take k) ++ [9])).size ≤ 32801 := by rw [toB_size, List.length_append, List.length_singleton]; omega
            have hsz3 : (toB (escL s.data.toList)).size ≤ 4096 := by rw [toB_size]; omega
            have HE : Hid ((∀ x ∈ ss.take (k + 1), x.size ≤ 1024) ∧ Stay w wr) := ⟨hsm2, hst⟩
            obtain ⟨x3, hx3⟩ : ∃ x3, x3 = toB (lineL ((dat ss).take (k + 1))) := ⟨_, rfl⟩
            rw [← hx3] at happ2
            have HX3 : Hid (x3 = toB (lineL ((dat ss).take (k + 1)))) := hx3
            clear hx3 hlk hst hsm hsm2 hts hk0 hlen hmem
            generalize toB (lineL ((dat ss).take k) ++ [9]) = x2 at happ1 happ2 hsz2
            generalize toB (escL s.data.toList) = eb at happ2 hsz3 hes
            generalize toB (lineL ((dat ss).take k)) = x1 at happ1 hsz1 ⊢
            go_wp2_with (go_at_call 34; refine (hes _).mono ?_; rintro e W1 ⟨rfl, hs1⟩)
            go_roundw
            case rel => exact ⟨k + 1, by omega, by simp, by rw [HX3.out], HE.out.1, HE.out.2.trans hs1⟩
            case measure => simp [intOf]; omega
        · rw [if_neg hs] at hes
          have HR : Hid (R = ([], 3)) := by
            show R = ([], 3)
            have hlong : longB ss = true := by
              unfold longB
              rw [List.any_eq_true]
              exact ⟨s, hmem, decide_eq_true (by omega)⟩
            have := refZ_one (ss := ss) (by rw [← HX.out.2.1]; omega)
            rw [hlong] at this
            rw [HX.out.2.2]
            unfold lineT
            rw [this]; rfl
          dsimp only at hes
          clear hlk hsm hts hlen hmem
          go_wp2_with (go_at_call 34; refine (hes _).mono ?_; rintro e W1 ⟨rfl, hs1⟩)
          go_ret2
          exact ⟨by rw [HR.out]; rfl, hst.trans hs1⟩
      · have hki : ¬ (k : Int) < (n : Int) := by omega
        have HR : Hid (R = (lineL ((dat ss).take k), 0)) := by
          show R = _
          have ht : ss.take k = ss := List.take_of_length_le (by rw [← HX.out.2.1]; omega)
          have htd : (dat ss).take k = dat ss := List.take_of_length_le (by rw [dat_len, ← HX.out.2.1]; omega)
          rw [ht] at hsm
          have hlong : longB ss = false := by
            unfold longB
            rw [List.any_eq_false]
            intro x hx
            have := hsm x hx
            simp; omega
          have := refZ_one (ss := ss) (by rw [← HX.out.2.1]; omega)
          rw [hlong] at this
          rw [HX.out.2.2, htd]
          unfold lineT
          rw [this]; rfl
        clear hsm
        go_wp2
        go_ret2
        exact ⟨by rw [HR.out]; rfl, hst⟩
  · rw [lineT_no16 h16]
    have hgt : (16 : Int) < (ss.length : Int) := by omega
    generalize ss.length = n at *
    clear h
    go_enter Try.func19, Try.ntmps19
    go_wp2
    go_ret2
    exact ⟨rfl, Stay.refl _⟩
end Go.Proofs.Ytbbgembkdhcidaa
