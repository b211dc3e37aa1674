/- inOrder: a new list of what there is. -/
import Derived.Test.YtdnophgcdnghkaaIZi
import Derived.Laws.MakeOwn
namespace Go.Proofs.Ytdnophgcdnghkaa.I
open Go.RowKit Go.Maps Go.Proofs.Ytdnophgcdnghkaa

section
variable {w : World} {bt pb N len reach : Nat} {fp : Nat × Nat × Int} {cv : Value} {came : List E} {places : List Nat}

theorem run_makeEnts (n : Nat) (hn : 40 * n ≤ 281474976710656) (W : World) :
    (Instr.makeSlice 62 (.int .i64 0) (.int .i64 n)).run Try.prog W = .ok (.slice (some ⟨W.heap.size, 0, none⟩) 0 n) (W.alloc (.cells (madeCells #[(.int .i64 0), (.int .i64 0), .int .u64 0, .int .i64 0, .bool false] (n * 5)) 75)) := by
  obtain ⟨i, hi, hz0, hz1, hz2⟩ := info_parts infoEnt
  have h := run_make (P := Try.prog) W 62 75 i _ Try.underlying62 hi hz0 .i64 .i64 0 n (by omega) (by omega) (by rw [hz2]; omega) (by omega)
  rw [hz1] at h
  simpa [Value.cells] using h

set_option maxRecDepth 100000 in
set_option maxHeartbeats 1000000 in
theorem inOrder_any (h : Tab w bt fp cv pb N len reach came places) (hsz : came.length ≤ 68719476736) :
    Calls Try.prog 36 #[.pointer (some ⟨bt, 0, none⟩)] w fun e' w' => ∃ g cap, e' = .returned (.slice (some ⟨g, 0, none⟩) (live came).length cap) ∧ w.heap.size ≤ g ∧ Came w' g cap (live came) ∧ Stay w w' := by
  have hm := made_yes h.box.c0
  have c4 := h.box.c4
  have c2 := h.box.c2
  have hbl := h.box.lt
  have hcnt : len ≤ came.length := by rw [h.cnt]; exact live_length_le came
  obtain ⟨i0, hi, hz0, hz1, hz2⟩ := info_parts infoEnt
  have hmk := run_makeEnts len (by omega) w
  have HO : Hid ((w.alloc (.cells (madeCells #[(.int .i64 0), (.int .i64 0), .int .u64 0, .int .i64 0, .bool false] (len * 5)) 75)).ownsRow w.heap.size 75 5 (.slice (some ⟨w.heap.size, 0, none⟩) 0 len) 0 []) := by
    refine ⟨rfl, .inr ⟨w.heap.size, len, _, rfl, Nat.le_refl _, heap_new w _, Nat.zero_le _, by unfold maxLen; omega, by simp [size_madeCells], by simp⟩⟩
  have HTb : Hid (Tab w bt fp cv pb N len reach came places) := h
  obtain ⟨a, cap0, hcv, hcell⟩ : ∃ (a : Option Addr) (cap : Nat), cv = .slice a came.length cap ∧ ∀ (i : Nat) (e : E), came[i]? = some e → ∃ g, a = some ⟨g, 0, none⟩ ∧ Came w g cap came := by
    rcases h.row with ⟨rfl, rfl⟩ | ⟨g, cap, rfl, hC⟩
    · exact ⟨none, 0, rfl, fun i e he => by simp at he⟩
    · exact ⟨some ⟨g, 0, none⟩, cap, rfl, fun i e he => ⟨g, rfl, hC⟩⟩
  rw [hcv] at c2
  have HCL : Hid (∀ (i : Nat) (e : E), came[i]? = some e → ∃ g, a = some ⟨g, 0, none⟩ ∧ Came w g cap0 came) := hcell
  have HS0 : Hid (Stay w (w.alloc (.cells (madeCells #[(.int .i64 0), (.int .i64 0), .int .u64 0, .int .i64 0, .bool false] (len * 5)) 75))) := Stay.new w _
  generalize madeCells #[(.int .i64 0), (.int .i64 0), .int .u64 0, .int .i64 0, .bool false] (len * 5) = mc at hmk HO HS0
  clear h hcv hcell
  go_enter Try.func36, Try.ntmps36
  go_wp2_with fail
  refine hm.mono ?_
  rintro e9 w9 ⟨rfl, hw⟩
  have hw' := hw.symm; subst hw'
  clear hm
  go_wp2_with fail
  generalize w.alloc (.cells mc 75) = w1 at HO HS0 ⊢
  clear hmk c4 c2
  go_loopw [3, 5, 19] (fun ul _ue ui wr => ∃ (i : Nat), i ≤ came.length ∧ ui = .int .i64 (i : Int) ∧ wr.ownsRow w.heap.size 75 5 ul (live (came.take i)).length (flat (live (came.take i))) ∧ ul ≠ .slice none 0 0 ∧ Stay w wr) (fun _ul _ue ui _ => came.length - (intOf ui).toNat)
  case atStart => exact ⟨0, Nat.zero_le _, rfl, by simpa [live, flat] using HO.out, by simp, HS0.out⟩
  case round =>
    obtain ⟨i, hi2, rfl, hown, hnn, hS⟩ := hrel
    by_cases hlt : i < came.length
    · obtain ⟨e, he⟩ : ∃ e, came[i]? = some e := ⟨_, List.getElem?_eq_getElem hlt⟩
      obtain ⟨g0, rfl, hC⟩ := HCL.out i e he
      obtain ⟨c0, c1, c2, c3, c4⟩ := (hC.turn (S := fun _ => False) (Turn.of_stay hS) (fun e => e)).cells i e he
      have hii : (i : Int) < (came.length : Int) := by omega
      have hllt := live_take he
      have hll := live_take_le came i
      have HR : Hid (wr.ownsRow w.heap.size 75 5 u3 (live (came.take i)).length (flat (live (came.take i))) ∧ u3 ≠ .slice none 0 0 ∧ Stay w wr ∧ came[i]? = some e) := ⟨hown, hnn, hS, he⟩
      have HLT : Hid (live (came.take (i + 1)) = if e.there = true then live (came.take i) ++ [e] else live (came.take i)) := hllt
      have hss := hS.size
      clear hS he hnn hC hllt
      cases hth : e.there with
      | false =>
        rw [hth] at c4
        clear hown
        go_wp2_with fail
        obtain ⟨hown, hnn, hS, he⟩ := HR.out
        have hl2 := HLT.out
        rw [hth, if_neg (by decide)] at hl2
        refine ⟨⟨i + 1, hlt, by simp, by rw [hl2]; exact hown.alloc _, hnn, hS.alloc _⟩, by simp [intOf]; omega⟩
      | true =>
        rw [hth] at c4
        have hown2 := (hown.alloc (.cells #[.int .i64 (e.key), .int .i64 (e.val), .int .u64 e.hash, .int .i64 e.place, .bool true] 75)).alloc (.cells #[.int .i64 (e.key), .int .i64 (e.val), .int .u64 e.hash, .int .i64 e.place, .bool true] 75)
        have hnews : ∀ j u, (encE e)[j]? = some u → ((wr.alloc (.cells #[.int .i64 (e.key), .int .i64 (e.val), .int .u64 e.hash, .int .i64 e.place, .bool true] 75)).alloc (.cells #[.int .i64 (e.key), .int .i64 (e.val), .int .u64 e.hash, .int .i64 e.place, .bool true] 75)).cell? ((⟨wr.heap.size + 1, 0, none⟩ : Addr).add j) = some u := by
          have := new_cells (wr.alloc (.cells #[.int .i64 (e.key), .int .i64 (e.val), .int .u64 e.hash, .int .i64 e.place, .bool true] 75)) (encE e) 75
          rw [World.size_alloc] at this
          unfold encE at this ⊢
          rw [hth] at this ⊢
          exact this
        have h1c : ∀ u ∈ encE e, u.oneCell' = true := by simp [encE, Value.oneCell']
        have h63 : (live (came.take i)).length + 1 ≤ maxLen := by unfold maxLen; omega
        have hby : ((live (came.take i)).length + 1) * 40 ≤ 140737488355328 := by omega
        have hbs : w.heap.size ≤ ((wr.alloc (.cells #[.int .i64 (e.key), .int .i64 (e.val), .int .u64 e.hash, .int .i64 e.place, .bool true] 75)).alloc (.cells #[.int .i64 (e.key), .int .i64 (e.val), .int .u64 e.hash, .int .i64 e.place, .bool true] 75)).heap.size := by simp; omega
        clear hown
        go_wp2_with (at_builtin; refine wpList_append_own_at _ rfl _ _ 62 rfl w.heap.size 75 i0 _ 5 40 Try.underlying62 hi hz0 hz1 hz2 rfl (by decide) _ _ _ rfl hown2 ⟨wr.heap.size + 1, 0, none⟩ 1 1 (encE e) rfl rfl hnews h1c h63 hby hbs ?_; intro v' w2 hown3 hgrow hnil hloc; have H3 : Hid _ := And.intro hown3 (And.intro hgrow hnil); clear hown3 hgrow hnil hloc hown2 hnews)
        obtain ⟨hown3, hgrow, hnil⟩ := H3.out
        obtain ⟨hown, hnn, hS, he⟩ := HR.out
        have hl2 := HLT.out
        rw [hth, if_pos rfl] at hl2
        refine ⟨⟨i + 1, hlt, by simp, ?_, ?_, ?_⟩, by simp [intOf]; omega⟩
        · rw [hl2, List.length_append, flat_append]
          simpa [flat] using hown3
        · intro h0; have := (hnil.1 h0).2; omega
        · have hS2 : Stay w ((wr.alloc (.cells #[.int .i64 (e.key), .int .i64 (e.val), .int .u64 e.hash, .int .i64 e.place, .bool true] 75)).alloc (.cells #[.int .i64 (e.key), .int .i64 (e.val), .int .u64 e.hash, .int .i64 e.place, .bool true] 75)) := (hS.alloc _).alloc _
          refine ⟨hgrow.os.trans hS2.os, hgrow.tape.trans hS2.tape, hgrow.output.trans hS2.output, Nat.le_trans hS2.size hgrow.size, fun k hk => (hgrow.block k (Nat.lt_of_lt_of_le hk hS2.size) (fun e => ?_)).trans (hS2.block k hk)⟩
          have := (hown.lt k e.symm).1
          omega
    · obtain rfl : i = came.length := by omega
      rw [List.take_length] at hown
      rcases hown.2 with ⟨h0, _⟩ | ⟨g, cap, cur, rfl, hb, h1, h2, h3, h4, h5⟩
      · exact absurd h0 hnn
      · have HF : Hid (w.heap.size ≤ g ∧ Came wr g cap (live came) ∧ Stay w wr) := ⟨hb, ⟨cur, h1, h2, h3, h4, h5⟩, hS⟩
        clear hown hnn hS h1 h2 h4 h5 hb
        go_wp2_with fail
        go_ret
        exact ⟨g, cap, rfl, HF.out⟩
end
end Go.Proofs.Ytdnophgcdnghkaa.I
