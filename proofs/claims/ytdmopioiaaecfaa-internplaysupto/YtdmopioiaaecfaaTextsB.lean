/- Texts, by the program and by the document: the walks. -/
import Derived.Test.YtdmopioiaaecfaaTextsA
namespace Go.Proofs.Ytdmopioiaaecfaa
open Go.RowKit Go.Maps

/-- What a call of Texts leaves: the list v, in new memory. -/
def Told (w : World) (us : List ByteArray) (v : Value) (w' : World) : Prop :=
  w'.ownsRow w.heap.size 9 1 v us.length (us.map Value.string) ∧ Below w.heap.size w w'

section
variable {w : World} {bt bm g cap : Nat} {ts : List ByteArray}

set_option maxRecDepth 100000 in
set_option maxHeartbeats 400000 in
theorem texts_yes (h : Tab w bt bm g cap ts) (zs : List Int) (a : Option Addr) (b off c : Nat) (hS : IntsS w a b off zs) (hb : b < w.heap.size) (hlen : zs.length * 16 ≤ 281474976710656) :
    Calls Try.prog 25 #[.pointer (some ⟨bt, 0, none⟩), .slice a zs.length c] w fun e w' => ∃ v, e = .returned (.tuple #[v, .int .i64 (terr ts zs)]) ∧ Told w (ttx ts zs) v w' := by
  obtain ⟨i0, hi, hz0, hz1, hz2⟩ := info_parts info9
  have hm := made_yes w bt bm h.c1
  have H : Hid (Tab w bt bm g cap ts ∧ IntsS w a b off zs) := ⟨h, hS⟩
  have hltT := h.lt
  clear h hS
  go_enter Try.func25, Try.ntmps25
  go_wp2_with (first | (go_at_call 34; refine Calls.mono hm ?_; rintro e w' ⟨rfl, rfl⟩) | (at_make; refine wpList_make_full _ rfl _ _ 27 rfl 0 9 i0 (.string ⟨#[]⟩) 1 Try.underlying27 hi hz0 hz1 _ _ _ _ zs.length rfl rfl rfl rfl (by rw [hz2]; omega) (by unfold maxLen; omega) (Nat.zero_le _) ?_; intro w1 hown hgrow))
  have HN : Hid (RowAt w1 w'.heap.size 9 zs.length [] ∧ Below w'.heap.size w' w1) := ⟨RowAt.of_row hown, ((Turn.of_grown hgrow).mono (S' := fun _ => False) (fun _ _ e => by simp at e)).below (Nat.le_refl _) (fun _ e => e.elim)⟩
  clear hown hgrow
  go_loopw [19] (fun i wr => ∃ k : Nat, k ≤ zs.length ∧ i = .int .i64 k ∧ (zs.take k).all (good ts) = true ∧ RowAt wr w'.heap.size 9 zs.length (((zs.take k).map (textAt ts)).map Value.string) ∧ Below w'.heap.size w' wr) (fun i _ => zs.length - (intOf i).toNat)
  case atStart => exact ⟨0, Nat.zero_le _, rfl, by simp, by simpa using HN.out.1, HN.out.2⟩
  case round =>
    obtain ⟨k, hk, rfl, hg, hI, hB⟩ := hrel
    by_cases hlt : k < zs.length
    · obtain rfl := H.out.2.1 (by omega)
      have hcell : wr.cell? ⟨b, off + k, none⟩ = some (.int .i64 zs[k]) := (hB.cell (p := ⟨b, off + k, none⟩) hb).trans (H.out.2.2 k hlt)
      have hT : Tab wr bt bm g cap ts := H.out.1.kept (Turn.of_below hB) (by rintro k (rfl | rfl | rfl) <;> omega)
      have hte := text_any hT zs[k]
      have hkb : (k : Int) < (zs.length : Int) := by omega
      by_cases hgk : good ts zs[k] = true
      · rw [hgk] at hte
        have hl : (((zs.take k).map (textAt ts)).map Value.string).length = k := by simp; omega
        have hts : zs.take (k + 1) = zs.take k ++ [zs[k]] := by rw [List.take_succ_eq_append_getElem hlt]
        have hs := hI.snoc (by omega) (Value.string (textAt ts zs[k]))
        rw [hl] at hs
        have HF : Hid ((zs.take (k + 1)).all (good ts) = true ∧ RowAt (wr.setCell ⟨w'.heap.size, k, none⟩ (.string (textAt ts zs[k]))) w'.heap.size 9 zs.length (((zs.take (k + 1)).map (textAt ts)).map Value.string) ∧ Below w'.heap.size w' (wr.setCell ⟨w'.heap.size, k, none⟩ (.string (textAt ts zs[k])))) := by
          refine ⟨all_take_succ hlt hg hgk, ?_, hB.setCell (p := ⟨w'.heap.size, k, none⟩) (Nat.le_refl _) _⟩
          rw [hts, List.map_append, List.map_append]
          exact hs
        obtain ⟨v2, hv2⟩ := hI.spot k hlt
        have hf2 := hI.frozen k
        generalize textAt ts zs[k] = s at hte HF
        generalize zs[k] = z at hte hcell
        clear hT hg hI hB hl hts hs
        go_wp2_with (go_at_call 30; refine Calls.mono hte ?_; rintro e w2 ⟨rfl, hw⟩; have hw' := hw.symm; subst hw')
        go_roundw
        case rel => exact ⟨k + 1, by omega, by go_num, HF.out⟩
        case measure => simp [intOf]; omega
      · have hgk' : good ts zs[k] = false := by simpa using hgk
        rw [hgk'] at hte
        have HF : Hid ((ttx ts zs = [] ∧ terr ts zs = 2) ∧ Below w'.heap.size w' wr) := ⟨ttx_no hlt hgk', hB⟩
        generalize textAt ts zs[k] = s at hte
        generalize zs[k] = z at hte hcell
        clear hT hg hI hB hgk hgk'
        go_wp2_with (go_at_call 30; refine Calls.mono hte ?_; rintro e w2 ⟨rfl, hw⟩; have hw' := hw.symm; subst hw')
        go_ret2
        rw [HF.out.1.1, HF.out.1.2]
        exact ⟨_, rfl, by simpa using World.ownsRow_nil wr w'.heap.size 9 1, HF.out.2⟩
    · have e : zs.take k = zs := List.take_of_length_le (by omega)
      rw [e] at hg hI
      have HF : Hid ((ttx ts zs = zs.map (textAt ts) ∧ terr ts zs = 0) ∧ RowAt wr w'.heap.size 9 zs.length ((zs.map (textAt ts)).map Value.string) ∧ Below w'.heap.size w' wr) := ⟨ttx_yes hg, hI, hB⟩
      clear hg hI hB e
      go_wp2
      go_ret2
      rw [HF.out.1.1, HF.out.1.2]
      refine ⟨_, rfl, ?_, HF.out.2.2⟩
      have := HF.out.2.1.row (base := w'.heap.size) (by simp) (Nat.le_refl _) (by unfold maxLen; omega)
      simpa using this
end

section
variable {w : World} {br : Nat} {sv : Value} {ls : List ByteArray}

set_option maxRecDepth 100000 in
theorem rtext_any (h : RTab w br sv ls) (z : Int) :
    Calls Try.prog 38 #[.pointer (some ⟨br, 0, none⟩), .int .i64 z] w fun e w' => e = .returned (.tuple #[.string (textAt ls z), .bool (good ls z)]) ∧ w' = w := by
  have hlen := rlen_yes h
  have c0 := h.c0
  obtain ⟨a, cap, rfl, hmax, b, ha, hcell⟩ := h.slice
  by_cases hz0 : z < 0
  · have hg : good ls z = false := by unfold good; simp; omega
    have ht : textAt ls z = ⟨#[]⟩ := by unfold textAt; rw [hg]; rfl
    rw [hg, ht]
    clear h hcell ha
    go_enter Try.func38, Try.ntmps38
    go_wp2_with (go_at_call 14; refine Calls.mono hlen ?_; rintro e w' ⟨rfl, hw⟩; have hw' := hw.symm; subst hw')
    go_ret2
    exact ⟨rfl, rfl⟩
  · obtain ⟨k, rfl⟩ : ∃ k : Nat, z = k := ⟨z.toNat, by omega⟩
    by_cases hk : k < ls.length
    · have hg : good ls (k : Int) = true := by unfold good; simp; omega
      have ht : textAt ls (k : Int) = ls[k] := by unfold textAt; rw [hg, if_pos rfl]; simp [hk]
      rw [hg, ht]
      obtain rfl := ha (by omega)
      have hc := hcell k hk
      have hkb : (k : Int) < (ls.length : Int) := by omega
      have hkc : ((ls.length : Int) ≤ (k : Int)) = False := by simp; omega
      generalize ls[k] = s at hc
      clear h hcell ha hg ht hz0
      go_enter Try.func38, Try.ntmps38
      go_wp2_with (go_at_call 14; refine Calls.mono hlen ?_; rintro e w' ⟨rfl, hw⟩; have hw' := hw.symm; subst hw')
      go_ret2
      exact ⟨rfl, rfl⟩
    · have hg : good ls (k : Int) = false := by unfold good; simp; omega
      have ht : textAt ls (k : Int) = ⟨#[]⟩ := by unfold textAt; rw [hg]; rfl
      rw [hg, ht]
      have hkc : (ls.length : Int) ≤ (k : Int) := by omega
      clear h hcell ha hg ht hz0
      go_enter Try.func38, Try.ntmps38
      go_wp2_with (go_at_call 14; refine Calls.mono hlen ?_; rintro e w' ⟨rfl, hw⟩; have hw' := hw.symm; subst hw')
      go_ret2
      exact ⟨rfl, rfl⟩

set_option maxRecDepth 100000 in
set_option maxHeartbeats 400000 in
theorem rtexts_yes (h : RTab w br sv ls) (zs : List Int) (a : Option Addr) (b off c : Nat) (hS : IntsS w a b off zs) (hb : b < w.heap.size) (hlen : zs.length * 16 ≤ 140737488355328) :
    Calls Try.prog 26 #[.pointer (some ⟨br, 0, none⟩), .slice a zs.length c] w fun e w' => ∃ v, e = .returned (.tuple #[v, .int .i64 (terr ls zs)]) ∧ Told w (ttx ls zs) v w' := by
  obtain ⟨i0, hi, hz0, hz1, hz2⟩ := info_parts info9
  have H : Hid (RTab w br sv ls ∧ IntsS w a b off zs) := ⟨h, hS⟩
  clear h hS
  go_enter Try.func26, Try.ntmps26
  go_wp2
  go_loopw [6, 7] (fun v i wr => ∃ k : Nat, k ≤ zs.length ∧ i = .int .i64 k ∧ (zs.take k).all (good ls) = true ∧ wr.ownsRow w.heap.size 9 1 v k (((zs.take k).map (textAt ls)).map Value.string) ∧ Below w.heap.size w wr) (fun _ i _ => zs.length - (intOf i).toNat)
  case atStart => exact ⟨0, Nat.zero_le _, rfl, by simp, by simpa using World.ownsRow_nil w w.heap.size 9 1, Below.refl _ _⟩
  case round =>
    obtain ⟨k, hk, rfl, hg, hI, hB⟩ := hrel
    obtain ⟨av, cv, rfl⟩ := row_shape hI
    by_cases hlt : k < zs.length
    · obtain rfl := H.out.2.1 (by omega)
      have hcell : wr.cell? ⟨b, off + k, none⟩ = some (.int .i64 zs[k]) := (hB.cell (p := ⟨b, off + k, none⟩) hb).trans (H.out.2.2 k hlt)
      have hT : RTab wr br sv ls := H.out.1.below hB
      have hte := rtext_any hT zs[k]
      have hkb : (k : Int) < (zs.length : Int) := by omega
      have hs0 := hB.size
      by_cases hgk : good ls zs[k] = true
      · rw [hgk] at hte
        have hts : zs.take (k + 1) = zs.take k ++ [zs[k]] := by rw [List.take_succ_eq_append_getElem hlt]
        have HF : Hid (∀ s, s = textAt ls zs[k] → (zs.take (k + 1)).all (good ls) = true ∧ ((zs.take (k + 1)).map (textAt ls)).map Value.string = ((zs.take k).map (textAt ls)).map Value.string ++ [.string s]) := by
          rintro s rfl
          refine ⟨all_take_succ hlt hg hgk, ?_⟩
          rw [hts, List.map_append, List.map_append]
          rfl
        have HB : Hid (Below w.heap.size w wr) := hB
        generalize hs : textAt ls zs[k] = s at hte
        have HS : Hid (textAt ls zs[k] = s) := hs
        clear hs
        have HF2 := HF.out s HS.out.symm
        have HG : Hid _ := HF2
        clear HF HS HF2
        generalize zs[k] = z at hte hcell
        clear hT hg hB hts
        have hkm : (k + 1) * 16 ≤ 140737488355328 := by omega
        go_wp2_with (first | (go_at_call 38; refine Calls.mono hte ?_; rintro e w2 ⟨rfl, hw⟩; have hw' := hw.symm; subst hw') | (at_builtin; refine wpList_append_own _ rfl _ _ 27 rfl w.heap.size 9 i0 _ 1 16 Try.underlying27 hi hz0 hz1 hz2 rfl (by decide) _ _ _ rfl (hI.alloc _) ⟨wr.heap.size, 0, none⟩ 1 1 [.string s] rfl rfl (cell_one_new _ _ _) (by simp [Value.oneCell']) (by unfold maxLen; omega) hkm (by rw [World.size_alloc]; omega) ?_; intro v' w3 hown hgrow hnil))
        have HB3 : Hid (Below w.heap.size w w3) := (HB.out.alloc hs0 _).grown hgrow (by rw [World.size_alloc]; omega) (fun j e => (hI.lt j e).1)
        clear hgrow hnil hI
        go_roundw
        case rel => exact ⟨k + 1, by omega, by go_num, HG.out.1, by rw [HG.out.2]; exact hown, HB3.out⟩
        case measure => simp [intOf]; omega
      · have hgk' : good ls zs[k] = false := by simpa using hgk
        rw [hgk'] at hte
        have HF : Hid ((ttx ls zs = [] ∧ terr ls zs = 2) ∧ Below w.heap.size w wr) := ⟨ttx_no hlt hgk', hB⟩
        generalize textAt ls zs[k] = s at hte
        generalize zs[k] = z at hte hcell
        clear hT hg hI hB hgk hgk'
        go_wp2_with (go_at_call 38; refine Calls.mono hte ?_; rintro e w2 ⟨rfl, hw⟩; have hw' := hw.symm; subst hw')
        go_ret2
        rw [HF.out.1.1, HF.out.1.2]
        exact ⟨_, rfl, by simpa using World.ownsRow_nil wr w.heap.size 9 1, HF.out.2⟩
    · have e : zs.take k = zs := List.take_of_length_le (by omega)
      obtain rfl : k = zs.length := by omega
      rw [e] at hg hI
      have HF : Hid ((ttx ls zs = zs.map (textAt ls) ∧ terr ls zs = 0) ∧ wr.ownsRow w.heap.size 9 1 (.slice av zs.length cv) zs.length ((zs.map (textAt ls)).map Value.string) ∧ Below w.heap.size w wr) := ⟨ttx_yes hg, hI, hB⟩
      clear hg hI hB e
      go_wp2
      go_ret2
      rw [HF.out.1.1, HF.out.1.2]
      refine ⟨_, rfl, ?_, HF.out.2.2⟩
      have := HF.out.2.1
      simpa using this
end
end Go.Proofs.Ytdmopioiaaecfaa
