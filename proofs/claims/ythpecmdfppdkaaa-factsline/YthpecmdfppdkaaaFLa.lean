/- FactsLine: the walk. -/
import Derived.Test.YthpecmdfppdkaaaFZ
namespace Go.Proofs.Ythpecmdfppdkaaa
open Go.RowKit Go.Maps

theorem st_size (W : World) : (sizeOf (Try.prog.elem 31)).run Try.prog W = .ok 1 W ∧ Try.prog.underlying 31 = some (.slice (Try.prog.elem 31)) := by
  obtain ⟨i0, hi, hz0, hz1, hz2⟩ := info_parts infoSt
  have he : Try.prog.elem 31 = 9 := by simp [Program.elem, Try.underlying31]
  rw [he]
  exact ⟨by simp [sizeOf, typeInfo, hi, hz1], Try.underlying31⟩
/-- t[:k]. -/
theorem cutS_to (G n cap k : Nat) (h : k ≤ cap) : ∀ W, (Instr.slice 31 (.slice (some ⟨G, 0, none⟩) n cap) none (some (.int .i64 (k : Int))) none).run Try.prog W = .ok (.slice (some ⟨G, 0, none⟩) k cap) W := fun W => by
  have hs := st_size W
  rw [run_slice_h W 31 _ _ _ hs.2 .i64 (k : Int) (by omega) (by omega), hs.1]
  simp [sliced, Result.andThen, add_at]

/-- A list of one's own with one behind it. -/
theorem OwnS.last {base : Nat} {w : World} {v : Value} {l : List ByteArray} {x : ByteArray} (h : OwnS base w v (l ++ [x])) : ∃ G cap, v = .slice (some ⟨G, 0, none⟩) (l.length + 1) cap ∧ l.length + 1 ≤ cap ∧ base ≤ G ∧ StrsS w (some ⟨G, 0, none⟩) G 0 l ∧ w.cell? ⟨G, l.length, none⟩ = some (.string x) := by
  have h0 := h
  rcases h.2 with ⟨hv, hl⟩ | ⟨g, cap, cur, hv, hb, hh, h1, h2, h3, h4⟩
  · simp at hl
  · subst hv
    refine ⟨g, cap, by simp, by simpa using h1, hb, ?_, ?_⟩
    · have := h0.tx
      obtain ⟨t, e1, e2, e3, _, e5, _⟩ := this
      have eb := e5 g rfl
      have ea : t.a = some ⟨g, 0, none⟩ := by
        have := e1; unfold Tx.v at this; simp at this; exact this.1.symm
      have e3' : StrsS w t.a t.b t.o t.xs := e3
      rw [e2, ea, eb] at e3'
      have ho : t.o = 0 := by have := e3'.1 (by simp); simpa using this.symm
      rw [ho] at e3'
      refine ⟨fun _ => rfl, fun j hj => ?_⟩
      have := e3'.2 j (by simp; omega)
      rw [this, List.getElem_append_left hj]
    · exact row_cell h0 l.length _ (by simp)

set_option maxRecDepth 100000 in
set_option maxHeartbeats 4000000 in
theorem fline_walk (w : World) (a : Option Addr) (b off c : Nat) (ss : List ByteArray) (h : StrsS w a b off ss) (ha : a = none → c = 0 ∧ ss = []) (hl : (ss.length + 1) * 16 ≤ 140737488355328) :
    Calls Try.prog 4 #[.slice a ss.length c] w fun e w' => e = .returned (.bool true) ∧ Stay w w' := by
  have hn := lnum_any
  have hk := known_any
  obtain ⟨v1, W1, hap1, ho1, hg1, _, _⟩ := (OwnS.nil (base := w.heap.size) (w := w)).add 31 h ha (by simp; omega) (Nat.le_refl _)
  rw [List.nil_append] at ho1
  have hs1 : Stay w W1 := (Turn.of_grown hg1).stay (Stay.refl _) (fun k _ e => by simp [Value.ownBlock] at e)
  obtain ⟨v2, W2, hap2, ho2, hg2, _, _⟩ := (ho1.stay (Stay.new W1 (.cells #[.string ⟨#[109, 97, 114, 107]⟩] 9))).add 31 (strs_new W1 [⟨#[109, 97, 114, 107]⟩] 9) (c := 1) (fun e => by simp at e) (by simp; omega) (by have := hs1.size; simp; omega)
  have hs2 : Stay w W2 := (Turn.of_grown hg2).stay (hs1.alloc _) (fun k hk e => by have := (ho1.lt k e).1; omega)
  obtain ⟨G, cap, rfl, hc1, hGb, hS2, hm2⟩ := ho2.last
  have hL := Line_any (c := cap) hS2 (by omega)
  have hR := fun V (hV : Stay w V) => rLine_any (c := c) (h.stay hV)
  have hE := fun V (hV : Stay w V) (hV2 : Stay W2 V) => sameTexts_any V (some ⟨G, 0, none⟩) a G 0 b off cap c ss ss (hS2.stay hV2) (h.stay hV) (by unfold maxLen; omega) (by unfold maxLen; omega)
  have hcut := cutS_to G (ss.length + 1) cap ss.length (by omega)
  obtain ⟨X, hX⟩ : ∃ X, X = toB (lineT ss).1 := ⟨_, rfl⟩
  have hXe : (⟨(lineT ss).1.toArray⟩ : ByteArray) = X := hX.symm
  rw [hXe] at hL
  simp only [← hX, decide_true] at hR hE
  have HH : Hid (Stay w W2 ∧ W1.heap.size = W1.heap.size) := ⟨hs2, rfl⟩
  clear ho1 ho2 hg1 hg2 hS2 hs1 hs2 h hX hXe ha
  simp only [List.length_singleton] at hap2
  generalize (lineT ss).2 = z at *
  generalize ss.length = n at *
  go_enter Try.func4, Try.ntmps4
  go_wp2_with (first
    | (at_builtin; refine wpList_append_run rfl _ _ 31 31 rfl _ _ rfl rfl hap1 ?_; clear hap1)
    | (at_builtin; refine wpList_append_run rfl _ _ 31 31 rfl _ _ rfl rfl hap2 ?_; clear hap2)
    | (go_at_call 18; refine hL.mono ?_; rintro e W3 ⟨rfl, hs3⟩; have hR3 := hR W3 (HH.out.1.trans hs3); have hm3 := hs3.cell hm2; clear hL hR)
    | (go_at_call 19; refine hR3.mono ?_; rintro e W4 ⟨rfl, hs4⟩; have hE4 := hE W4 ((HH.out.1.trans hs3).trans hs4) (hs3.trans hs4); have hm4 := hs4.cell hm3; clear hR3 hE)
    | (go_at_call 16; refine hE4.mono ?_; rintro e W5 ⟨rfl, hq5⟩; have hs5 : Stay W4 W5 := by (obtain ⟨q, hq⟩ := hq5; rw [hq]; exact Stay.drewN _ _)
       have hm5 := hs5.cell hm4; clear hE4 hq5)
    | (go_at_call 17; refine (hk _).mono ?_; rintro e W6 ⟨rfl, hs6⟩)
    | (go_at_call 15; refine (hn _ _).mono ?_; rintro e w' ⟨rfl, hw'⟩; have hw2 := hw'.symm; subst hw2))
  go_ret
  exact ⟨rfl, (((HH.out.1.trans hs3).trans hs4).trans hs5).trans hs6⟩
end Go.Proofs.Ythpecmdfppdkaaa
