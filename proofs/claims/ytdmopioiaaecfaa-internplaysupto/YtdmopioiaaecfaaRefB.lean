/- The table of the document: Put. -/
import Derived.Test.YtdmopioiaaecfaaRefA
namespace Go.Proofs.Ytdmopioiaaecfaa
open Go.RowKit Go.Maps

/-- What a call that puts leaves of the document's table. -/
def RPuts (w : World) (br : Nat) (sv : Value) (us : List ByteArray) (w' : World) : Prop :=
  ∃ sv', RTab w' br sv' us ∧ (∀ k, sv'.ownBlock = some k → sv.ownBlock = some k ∨ w.heap.size ≤ k) ∧ Turn (rfoot br sv) w w'

section
variable {w w' : World} {br : Nat} {sv : Value} {ls : List ByteArray}

theorem RTab.ne (h : RTab w br sv ls) : sv.ownBlock ≠ some br := fun e => by
  rcases h.row.2 with ⟨hx, _⟩ | ⟨g, cap, cur, hv, _, hh, _⟩
  · rw [hx] at e; simp [Value.ownBlock] at e
  · rw [hv] at e
    simp [Value.ownBlock] at e
    subst e
    rw [h.box] at hh
    simp at hh

theorem RTab.grown (h : RTab w br sv ls) {o : Obj} {w1 : World} {v' : Value} (hgrow : (w.alloc o).grownBy w1 sv.ownBlock) (hloc : v'.ownBlock = sv.ownBlock ∨ v'.ownBlock = some (w.alloc o).heap.size) {s : ByteArray} (hn : s ∉ ls)
    (hown : w1.ownsRow 0 9 1 v' (ls.length + 1) (ls.map Value.string ++ [.string s])) :
    w1.cell? ⟨br, 0, none⟩ = some sv ∧ w1.frozen? ⟨br, 0, none⟩ = false ∧ RPuts w br sv (ls ++ [s]) (w1.setCell ⟨br, 0, none⟩ v') := by
  have hlt := h.lt br (.inl rfl)
  have ht : Turn (fun k => some k = sv.ownBlock) w w1 := (Turn.alloc _ w o).trans (Turn.of_grown hgrow) (fun i _ e => e)
  have hb1 : w1.heap[br]? = w.heap[br]? := ht.block br hlt (fun e => h.ne e.symm)
  have hvb : v'.ownBlock ≠ some br := by
    rcases hloc with e | e
    · rw [e]; exact h.ne
    · rw [e, World.size_alloc]; intro e2; simp at e2; omega
  refine ⟨(World.cell?_of_block (a := ⟨br, 0, none⟩) hb1).trans h.c0, (World.frozen?_of_block (a := ⟨br, 0, none⟩) hb1).trans h.f0, v', ⟨?_, ?_, ?_⟩, ?_, ?_⟩
  · rw [h.box] at hb1
    simp only [World.setCell, Array.getElem?_modify, hb1]
    simp
  · have hr2 := (Turn.setCell (fun k => k = br) w1 ⟨br, 0, none⟩ v' rfl).row hown (fun k hk e => hvb (e ▸ hk))
    simpa using hr2
  · have := put1_nodup h.nodup s
    unfold put1 at this
    rwa [if_neg (by rw [contains_iff]; exact hn)] at this
  · intro k hk
    rcases hloc with e | e
    · exact .inl (e ▸ hk)
    · rw [e, World.size_alloc] at hk; simp at hk; exact .inr (by omega)
  · exact (ht.mono (S' := rfoot br sv) (fun i _ e => .inr e.symm)).trans (Turn.setCell (rfoot br sv) w1 _ _ (.inl rfl)) (fun _ _ e => e)

theorem RTab.self (h : RTab w br sv ls) : RPuts w br sv ls w := ⟨sv, h, fun _ hk => .inl hk, Turn.refl _ _⟩

set_option maxRecDepth 100000 in
set_option maxHeartbeats 400000 in
theorem rput_there (h : RTab w br sv ls) (s : ByteArray) (hc : ls.contains s = true) :
    Calls Try.prog 23 #[.pointer (some ⟨br, 0, none⟩), .string s] w fun e w' => e = .returned (.tuple #[.int .i64 (ls.idxOf s), .int .i64 0]) ∧ w' = w := by
  have hf := rfind_yes h s
  rw [hc, show found ls s = ls.idxOf s by unfold found; rw [if_pos hc]] at hf
  clear h hc
  go_enter Try.func23, Try.ntmps23
  go_wp2_with (go_at_call 47; refine Calls.mono hf ?_; rintro e w' ⟨rfl, rfl⟩)
  go_ret2
  exact ⟨rfl, rfl⟩

set_option maxRecDepth 100000 in
set_option maxHeartbeats 400000 in
theorem rput_new (h : RTab w br sv ls) (s : ByteArray) (hn : s ∉ ls) (hb : (ls.length + 1) * 16 ≤ 140737488355328) :
    Calls Try.prog 23 #[.pointer (some ⟨br, 0, none⟩), .string s] w fun e w' => e = .returned (.tuple #[.int .i64 ls.length, .int .i64 0]) ∧ RPuts w br sv (ls ++ [s]) w' := by
  obtain ⟨i0, hi, hz0, hz1, hz2⟩ := info_parts info9
  have hf := rfind_yes h s
  rw [(contains_no ls s).2 hn] at hf
  generalize found ls s = fd at hf
  have c0 := h.c0
  have hrow := h.row
  have H : Hid (RTab w br sv ls) := h
  have hsl : ∃ a cap, sv = .slice a ls.length cap := by obtain ⟨a, cap, e, _⟩ := h.slice; exact ⟨a, cap, e⟩
  obtain ⟨a, cap, rfl⟩ := hsl
  clear h
  go_enter Try.func23, Try.ntmps23
  go_wp2_with (first | (go_at_call 47; refine Calls.mono hf ?_; rintro e w' ⟨rfl, hw⟩; have hw' := hw.symm; subst hw') | (at_builtin; refine wpList_append_own_at _ rfl _ _ 27 rfl 0 9 i0 _ 1 16 Try.underlying27 hi hz0 hz1 hz2 rfl (by decide) _ _ _ rfl (hrow.alloc _) ⟨w.heap.size, 0, none⟩ 1 1 [.string s] rfl rfl (cell_one_new _ _ _) (by simp [Value.oneCell']) (by unfold maxLen; omega) (by omega) (Nat.zero_le _) ?_; intro v' w1 hown hgrow hnil hloc; obtain ⟨d0, df, hp⟩ := H.out.grown hgrow hloc hn hown; obtain ⟨g', cap', rfl⟩ := row_at hown; have HP : Hid (RPuts w br (.slice a ls.length cap) (ls ++ [s]) (w1.setCell ⟨br, 0, none⟩ (.slice (some ⟨g', 0, none⟩) (ls.length + 1) cap'))) := hp; clear hgrow hloc hnil hp hown hrow c0 hf))
  go_ret2
  exact ⟨rfl, HP.out⟩

theorem rput_yes (h : RTab w br sv ls) (s : ByteArray) (hb : (ls.length + 1) * 16 ≤ 140737488355328) :
    Calls Try.prog 23 #[.pointer (some ⟨br, 0, none⟩), .string s] w fun e w' => e = .returned (.tuple #[.int .i64 ((put1 ls s).idxOf s), .int .i64 0]) ∧ RPuts w br sv (put1 ls s) w' := by
  by_cases hc : ls.contains s = true
  · refine (rput_there h s hc).mono ?_
    rintro e w' ⟨he, rfl⟩
    unfold put1
    rw [if_pos hc]
    exact ⟨he, h.self⟩
  · have hn : s ∉ ls := by rwa [contains_iff] at hc
    refine (rput_new h s hn hb).mono ?_
    rintro e w' ⟨he, hp⟩
    unfold put1
    rw [if_neg hc, idx_snoc hn]
    exact ⟨he, hp⟩
end
end Go.Proofs.Ytdmopioiaaecfaa
