/- The document's lines. -/
import Derived.Test.YthpecmdfppdkaaaFRu
namespace Go.Proofs.Ythpecmdfppdkaaa
open Go.RowKit Go.Maps

/-- A list of numbers in memory of its own. -/
def OwnZ (base : Nat) (w : World) (v : Value) (l : List Nat) : Prop := w.ownsRow base 3 1 v l.length (l.map fun (z : Nat) => Value.int .i64 (z : Int))
section
variable {base : Nat} {w w' : World} {v : Value} {l : List Nat}
theorem OwnZ.nil : OwnZ base w (.slice none 0 0) [] := World.ownsRow_nil _ _ _ _
theorem OwnZ.turn {S : Nat → Prop} (h : OwnZ base w v l) (ht : Turn S w w') (hn : ∀ k, v.ownBlock = some k → ¬ S k) : OwnZ base w' v l := ht.row h hn
theorem OwnZ.stay (h : OwnZ base w v l) (hs : Stay w w') : OwnZ base w' v l := h.turn (S := fun _ => False) (Turn.of_stay hs) (fun _ _ h => h)
theorem OwnZ.lt (h : OwnZ base w v l) : ∀ k, v.ownBlock = some k → base ≤ k ∧ k < w.heap.size := World.ownsRow.lt h
theorem OwnZ.add (h : OwnZ base w v l) (z : Nat) (hb : (l.length + 1) * 8 ≤ 140737488355328) (hbase : base ≤ w.heap.size) :
    ∃ v' w', (Builtin.append_ #[83, 83] 83 #[v, .slice (some ⟨w.heap.size, 0, none⟩) 1 1]).run Try.prog (w.alloc (.cells #[.int .i64 (z : Int)] 3)) = .ok v' w' ∧ OwnZ base w' v' (l ++ [z]) ∧ Turn (fun k => v.ownBlock = some k) w w' ∧ (v'.ownBlock = v.ownBlock ∨ v'.ownBlock = some (w.heap.size + 1)) := by
  obtain ⟨i0, hi, hz0, hz1, hz2⟩ := info_parts infoInt
  obtain ⟨v', w', hr, h2, h3, h4, h5⟩ := run_append_own_at (P := Try.prog) (w.alloc (.cells #[.int .i64 (z : Int)] 3)) base 83 83 3 i0 (.int .i64 0) 1 8 Try.underlying83 hi hz0 hz1 hz2 rfl (by decide) v l.length (l.map fun (z : Nat) => Value.int .i64 (z : Int)) (World.ownsRow.alloc h _) ⟨w.heap.size, 0, none⟩ 1 1 [.int .i64 (z : Int)] rfl (new_cells w [.int .i64 (z : Int)] _) (fun u hu => by simp at hu; rw [hu]; rfl) (by unfold maxLen; omega) (by omega) (by simp; omega)
  rw [World.size_alloc] at h5
  refine ⟨v', w', hr, ?_, (Turn.of_stay (Stay.new w _)).trans (Turn.of_grown h3), h5⟩
  unfold OwnZ
  rw [List.length_append, List.map_append]
  exact h2
theorem OwnZ.at {G n c : Nat} (h : OwnZ base w (.slice (some ⟨G, 0, none⟩) n c) l) {j x : Nat} (hj : l[j]? = some x) : w.cell? ⟨G, j, none⟩ = some (.int .i64 (x : Int)) := by
  obtain rfl : n = l.length := by
    rcases h.2 with ⟨hv, hl⟩ | ⟨g, cap, cur, hv, hb, hh, h1, h2, h3, h4⟩
    · cases hv
    · simp only [Value.slice.injEq] at hv; exact hv.2.1
  exact row_cell h j _ (by rw [List.getElem?_map, hj]; rfl)
theorem OwnZ.spot (h : OwnZ base w v l) : ∃ a c, v = .slice a l.length c ∧ (0 < l.length → ∃ G, a = some ⟨G, 0, none⟩ ∧ base ≤ G) := by
  rcases h.2 with ⟨hv, hl⟩ | ⟨g, cap, cur, hv, hb, hh, h1, h2, h3, h4⟩
  · exact ⟨none, 0, by rw [hv, hl], fun h0 => by omega⟩
  · exact ⟨_, cap, hv, fun _ => ⟨g, rfl, hb⟩⟩
end
/-- Texts and places, in memory of their own, each. -/
structure OwnP (base : Nat) (w : World) (o t : Value) (xs : List ByteArray) (zs : List Nat) : Prop where
  out : OwnS base w o xs
  plc : OwnZ base w t zs
  apart : ∀ k, o.ownBlock = some k → t.ownBlock ≠ some k
section
variable {base : Nat} {w w' : World} {o t : Value} {xs : List ByteArray} {zs : List Nat}
theorem OwnP.nil : OwnP base w (.slice none 0 0) (.slice none 0 0) [] [] := ⟨OwnS.nil, OwnZ.nil, fun k h => by simp [Value.ownBlock] at h⟩
theorem OwnP.stay (h : OwnP base w o t xs zs) (hs : Stay w w') : OwnP base w' o t xs zs := ⟨h.out.stay hs, h.plc.stay hs, h.apart⟩
theorem OwnP.place (h : OwnP base w o t xs zs) (z : Nat) (hb : (zs.length + 1) * 8 ≤ 140737488355328) (hbase : base ≤ w.heap.size) :
    ∃ t' w', (Builtin.append_ #[83, 83] 83 #[t, .slice (some ⟨w.heap.size, 0, none⟩) 1 1]).run Try.prog (w.alloc (.cells #[.int .i64 (z : Int)] 3)) = .ok t' w' ∧ OwnP base w' o t' xs (zs ++ [z]) ∧ Turn (fun k => base ≤ k) w w' := by
  obtain ⟨f', w', hr, h1, h2, h3⟩ := h.plc.add z hb hbase
  refine ⟨f', w', hr, ⟨h.out.turn h2 (fun k hk e => h.apart k hk e), h1, fun k hk e => ?_⟩, h2.mono (fun i _ e => (h.plc.lt i e).1)⟩
  rcases h3 with e3 | e3
  · exact h.apart k hk (e3.symm.trans e)
  · have := (h.out.lt k hk).2
    have e4 := Option.some.inj (e3.symm.trans e)
    omega
theorem OwnP.text (h : OwnP base w o t xs zs) (x : ByteArray) (hb : (xs.length + 1) * 16 ≤ 140737488355328) (hbase : base ≤ w.heap.size) :
    ∃ o' w', (Builtin.append_ #[31, 31] 31 #[o, .slice (some ⟨w.heap.size, 0, none⟩) 1 1]).run Try.prog (w.alloc (.cells #[.string x] 9)) = .ok o' w' ∧ OwnP base w' o' t (xs ++ [x]) zs ∧ Turn (fun k => base ≤ k) w w' := by
  obtain ⟨v', A', hap, ho', hg, hv1, hv2⟩ := (h.out.stay (Stay.new w (.cells #[.string x] 9))).add 31 (strs_new w [x] 9) (c := 1) (fun e => by simp at e) (by simpa using hb) (by simp; omega)
  have hT : Turn (fun k => o.ownBlock = some k) w A' := (Turn.of_stay (Stay.new w _)).trans (Turn.of_grown hg)
  refine ⟨v', A', hap, ⟨ho', h.plc.turn hT (fun k hk e => h.apart k e hk), fun k hk e => ?_⟩, hT.mono (fun i _ e => (h.out.lt i e).1)⟩
  rcases hv2 with e3 | e3
  · exact h.apart k (e3.symm.trans hk) e
  · rw [World.size_alloc] at e3
    have := (h.plc.lt k e).2
    have e4 := Option.some.inj (e3.symm.trans hk)
    omega
end

set_option maxRecDepth 100000 in
set_option maxHeartbeats 8000000 in
theorem rlines_any (s : ByteArray) (w : World) (hs : s.size ≤ 4398046511104) : Calls Try.prog 43 #[.string s] w fun e w' => ∃ o t, e = .returned (.tuple #[o, t]) ∧ OwnP w.heap.size w' o t ((lns 0 [] s.data.toList).map fun x => toB x.2) ((lns 0 [] s.data.toList).map Prod.fst) ∧ Stay w w' := by
  obtain ⟨L, hL⟩ : ∃ L, s.data.toList = L := ⟨_, rfl⟩
  have HL : Hid (s.data.toList = L) := hL
  have HLen : Hid (L.length = s.size) := by show L.length = s.size; rw [← hL]; simp
  rw [hL]
  obtain ⟨T, hTT⟩ : ∃ T, lns 0 [] L = T := ⟨_, rfl⟩
  have HT : Hid (lns 0 [] L = T) := hTT
  rw [hTT]
  clear hL hTT
  have hex : ∀ f k, s.extract f k = toB ((L.drop f).take (k - f)) := fun f k => by rw [← HL.out, ← toB_data (s.extract f k), Lib.extract_data]
  have HEX : Hid (∀ f k, s.extract f k = toB ((L.drop f).take (k - f))) := hex
  clear hex
  go_enter Try.func43, Try.ntmps43
  go_wp2
  go_loopw [4, 5, 6, 7] (fun o t fr i wr => ∃ k f ls, k ≤ s.size ∧ f ≤ k ∧ fr = .int .i64 ((f : Nat) : Int) ∧ i = .int .i64 ((k : Nat) : Int) ∧ OwnP w.heap.size wr o t (ls.map fun x => toB x.2) (ls.map Prod.fst) ∧ ls.length ≤ k ∧ Stay w wr ∧ lns 0 [] L = ls ++ lns f ((L.drop f).take (k - f)) (L.drop k)) (fun _ _ _ i _ => s.size - (intOf i).toNat)
  case atStart => exact ⟨0, 0, [], Nat.zero_le _, Nat.zero_le _, rfl, rfl, OwnP.nil, Nat.zero_le _, Stay.refl _, by simp⟩
  case round =>
    obtain ⟨k, f, ls, hk, hfk, rfl, rfl, hown, hcs, hst, hu⟩ := hrel
    have hsz := hst.size
    have low : ∀ {V V' : World}, Stay w V → Turn (fun k => w.heap.size ≤ k) V V' → Stay w V' := fun hV hT => hT.stay hV (fun k hk e => by omega)
    have hcl : ((L.drop f).take (k - f)).length = k - f := by rw [List.length_take, List.length_drop, HLen.out]; omega
    by_cases hlt : k < s.size
    · have hkL : k < L.length := by rw [HLen.out]; exact hlt
      have hki2 : (k : Int) < (s.size : Int) := by omega
      have hfi : (f : Int) ≤ (k : Int) := by omega
      have hki3 : (k : Int) ≤ (s.size : Int) := by omega
      rw [List.drop_eq_getElem_cons hkL, lns] at hu
      have hLs : L[k] = s[k] := by
        have e0 : s.data.toList[k]'(by rw [HL.out]; exact hkL) = s[k] := rfl
        rw [← e0]
        congr 1
        exact HL.out.symm
      rw [hLs] at hu
      obtain ⟨b, hb⟩ : ∃ b, s[k] = b := ⟨_, rfl⟩
      have hLb : L[k] = b := hLs.trans hb
      rw [hb] at hu
      have hct : s[k].toNat = b.toNat := by rw [hb]
      have hb2 : b.toNat < 256 := UInt8.toNat_lt b
      clear hb hLs
      by_cases h10 : b = 10
      · subst h10
        rw [if_pos rfl, hcl, show f + (k - f) + 1 = k + 1 by omega] at hu
        rw [show UInt8.toNat 10 = 10 from rfl] at hct
        obtain ⟨o', V, hap, ho', hT⟩ := hown.text (s.extract f k) (by rw [List.length_map]; omega) hsz
        obtain ⟨t', V2, hap2, ho2, hT2⟩ := ho'.place f (by rw [List.length_map]; omega) (low hst hT).size
        have HF : Hid (OwnP w.heap.size V2 o' t' ((ls ++ [(f, (L.drop f).take (k - f))]).map fun x => toB x.2) ((ls ++ [(f, (L.drop f).take (k - f))]).map Prod.fst) ∧ Stay w V2 ∧ lns 0 [] L = (ls ++ [(f, (L.drop f).take (k - f))]) ++ lns (k + 1) ((L.drop (k + 1)).take (k + 1 - (k + 1))) (L.drop (k + 1))) := by
          refine ⟨?_, low (low hst hT) hT2, by rw [hu]; simp⟩
          rw [List.map_append, List.map_append, List.map_singleton, List.map_singleton, ← HEX.out f k]
          exact ho2
        clear ho' hT ho2 hT2 hown hst hu low hcl hkL hLb
        go_wp2_with (first
          | (at_builtin; refine wpList_append_run rfl _ _ 31 31 rfl _ _ rfl rfl hap ?_; clear hap)
          | (at_builtin; refine wpList_append_run rfl _ _ 83 83 rfl _ _ rfl rfl hap2 ?_; clear hap2))
        go_roundw
        case rel => exact ⟨k + 1, k + 1, ls ++ [(f, (L.drop f).take (k - f))], by omega, Nat.le_refl _, by simp, by simp, HF.out.1, by rw [List.length_append, List.length_singleton]; omega, HF.out.2.1, HF.out.2.2⟩
        case measure => simp [intOf]; omega
      · rw [if_neg h10] at hu
        have q10 := byte_ne h10
        rw [show ((UInt8.toNat 10 : Nat) : Int) = 10 from rfl] at q10
        have HF : Hid (OwnP w.heap.size wr u4 u5 (ls.map fun x => toB x.2) (ls.map Prod.fst) ∧ Stay w wr ∧ lns 0 [] L = ls ++ lns f ((L.drop f).take (k + 1 - f)) (L.drop (k + 1))) := by
          refine ⟨hown, hst, ?_⟩
          rw [hu]
          congr 2
          rw [show k + 1 - f = (k - f) + 1 by omega, List.take_succ_eq_append_getElem (by rw [List.length_drop]; omega), List.getElem_drop]
          congr 1
          simp only [show f + (k - f) = k by omega, hLb]
        clear hown hst hu low hcl hkL hLb h10
        go_wp2
        go_roundw
        case rel => exact ⟨k + 1, f, ls, by omega, by omega, by simp, by simp, HF.out.1, by omega, HF.out.2.1, HF.out.2.2⟩
        case measure => simp [intOf]; omega
    · have hki : ¬ (k : Int) < (s.size : Int) := by omega
      have hkn : L.drop k = [] := List.drop_eq_nil_of_le (by rw [HLen.out]; omega)
      rw [hkn, lns] at hu
      clear hkn
      obtain rfl : k = s.size := by omega
      by_cases hf : f < s.size
      · have hfi : (f : Int) < (s.size : Int) := by omega
        have hfi2 : (f : Int) ≤ (s.size : Int) := by omega
        rw [if_neg (by intro e; rw [e] at hcl; simp at hcl; omega)] at hu
        obtain ⟨o', V, hap, ho', hT⟩ := hown.text (s.extract f s.size) (by rw [List.length_map]; omega) hsz
        obtain ⟨t', V2, hap2, ho2, hT2⟩ := ho'.place f (by rw [List.length_map]; omega) (low hst hT).size
        have HF : Hid (OwnP w.heap.size V2 o' t' (T.map fun x => toB x.2) (T.map Prod.fst) ∧ Stay w V2) := by
          refine ⟨?_, low (low hst hT) hT2⟩
          rw [← HT.out, hu, List.map_append, List.map_append, List.map_singleton, List.map_singleton, ← HEX.out f s.size]
          exact ho2
        clear ho' hT ho2 hT2 hown hst hu low hcl
        go_wp2_with (first
          | (at_builtin; refine wpList_append_run rfl _ _ 31 31 rfl _ _ rfl rfl hap ?_; clear hap)
          | (at_builtin; refine wpList_append_run rfl _ _ 83 83 rfl _ _ rfl rfl hap2 ?_; clear hap2))
        go_ret2
        exact ⟨_, _, rfl, HF.out.1, HF.out.2⟩
      · have hfi : ¬ (f : Int) < (s.size : Int) := by omega
        rw [if_pos (List.eq_nil_of_length_eq_zero (by rw [hcl]; omega)), List.append_nil] at hu
        have HF : Hid (OwnP w.heap.size wr u4 u5 (T.map fun x => toB x.2) (T.map Prod.fst) ∧ Stay w wr) := by
          refine ⟨?_, hst⟩
          rw [← HT.out, hu]; exact hown
        clear hown hst hu low hcl
        go_wp2
        go_ret2
        exact ⟨_, _, rfl, HF.out.1, HF.out.2⟩
end Go.Proofs.Ythpecmdfppdkaaa
