/- PutAll: what it answers, and what turns in memory. -/
import Derived.Test.YtdmopioiaaecfaaWalksB
namespace Go.Proofs.Ytdmopioiaaecfaa
open Go.RowKit Go.Maps

/-- The slice value with the address a and the length of ss holds the texts ss. -/
def StrsAt (w : World) (a : Option Addr) (b off : Nat) (ss : List ByteArray) : Prop :=
  (0 < ss.length → a = some ⟨b, off, none⟩) ∧ ∀ j (h : j < ss.length), w.cell? ⟨b, off + j, none⟩ = some (.string ss[j])

theorem StrsAt.kept {S : Nat → Prop} {w w' : World} {a : Option Addr} {b off : Nat} {ss : List ByteArray} (h : StrsAt w a b off ss) (ht : Turn S w w') (hn : ¬ S b) : StrsAt w' a b off ss :=
  ⟨h.1, fun j hj => ht.cell (h.2 j hj) hn⟩

/-- Block b is a row of n ints, of which the first are zs. -/
def IntsAt (w : World) (b n : Nat) (zs : List Int) : Prop :=
  ∃ cur, w.heap[b]? = some (.cells cur 3 (0, 0)) ∧ cur.size = n ∧ zs.length ≤ n ∧ ∀ j (h : j < zs.length), cur[j]? = some (.int .i64 zs[j])

theorem IntsAt.kept {S : Nat → Prop} {w w' : World} {b n : Nat} {zs : List Int} (h : IntsAt w b n zs) (ht : Turn S w w') (hn : ¬ S b) : IntsAt w' b n zs := by
  obtain ⟨cur, h1, h2⟩ := h
  exact ⟨cur, (ht.block b (Array.getElem?_eq_some_iff.1 h1).1 hn).trans h1, h2⟩

theorem IntsAt.lt {w : World} {b n : Nat} {zs : List Int} (h : IntsAt w b n zs) : b < w.heap.size := by
  obtain ⟨cur, h1, h2⟩ := h
  exact (Array.getElem?_eq_some_iff.1 h1).1

theorem IntsAt.cell {w : World} {b n : Nat} {zs : List Int} (h : IntsAt w b n zs) (k : Nat) (hk : k < zs.length) : w.cell? ⟨b, k, none⟩ = some (.int .i64 zs[k]) := by
  obtain ⟨cur, h1, h2, h3, h4⟩ := h
  simp [World.cell?, h1, h4 k hk]

theorem IntsAt.spot {w : World} {b n : Nat} {zs : List Int} (h : IntsAt w b n zs) (k : Nat) (hk : k < n) : ∃ v, w.cell? ⟨b, k, none⟩ = some v := by
  obtain ⟨cur, h1, h2, h3, h4⟩ := h
  exact ⟨cur[k]'(by omega), by simp [World.cell?, h1, h2, hk]⟩

theorem IntsAt.frozen {w : World} {b n : Nat} {zs : List Int} (h : IntsAt w b n zs) (k : Nat) : w.frozen? ⟨b, k, none⟩ = false := by
  obtain ⟨cur, h1, h2, h3, h4⟩ := h
  simp [World.frozen?, h1]

theorem IntsAt.ne {w : World} {b n : Nat} {zs : List Int} (h : IntsAt w b n zs) {bt bm g cap : Nat} {ts : List ByteArray} (hT : Tab w bt bm g cap ts) : ∀ k, foot bt bm g k → k ≠ b := by
  obtain ⟨cur, h1, _⟩ := h
  have t1 := hT.box
  obtain ⟨es, clock, t2, _⟩ := hT.map
  obtain ⟨cu, t3, _⟩ := hT.rowBlock
  rintro k (rfl | rfl | rfl) e
  · subst e; rw [h1] at t1; simp at t1
  · subst e; rw [h1] at t2; simp at t2
  · subst e; rw [h1] at t3; simp at t3

/-- One more number is stored behind the first ones. -/
theorem IntsAt.snoc {w : World} {b n : Nat} {zs : List Int} (h : IntsAt w b n zs) (hk : zs.length < n) (z : Int) : IntsAt (w.setCell ⟨b, zs.length, none⟩ (.int .i64 z)) b n (zs ++ [z]) := by
  obtain ⟨cur, h1, h2, h3, h4⟩ := h
  refine ⟨cur.setIfInBounds zs.length (.int .i64 z), ?_, by simpa using h2, by simp; omega, fun j hj => ?_⟩
  · simp only [World.setCell, Array.getElem?_modify, h1]
    simp
  · rw [Array.getElem?_setIfInBounds]
    by_cases e : zs.length = j
    · subst e
      rw [if_pos rfl, if_pos (by omega)]
      simp
    · rw [if_neg e]
      have hj' : j < zs.length := by simp at hj; omega
      rw [h4 j hj', List.getElem_append_left hj']

theorem ints_of_row {w : World} {b n : Nat} {xs : List Value} (h : w.ownsRow 0 3 1 (.slice (some ⟨b, 0, none⟩) n n) n xs) : IntsAt w b n [] := by
  rcases h.2 with ⟨hx, _⟩ | ⟨g', cap', cur, hv, _, hh, h1, h2, h3, h4⟩
  · simp at hx
  · simp only [Value.slice.injEq, Option.some.injEq, Addr.mk.injEq, and_true, true_and] at hv
    obtain ⟨rfl, rfl⟩ := hv
    exact ⟨cur, hh, by simpa using h3, by simp, fun j hj => by simp at hj⟩

section
variable {w : World} {bt bm g cap : Nat} {ts : List ByteArray}

set_option maxRecDepth 100000 in
set_option maxHeartbeats 400000 in
theorem putAll_yes (h : Tab w bt bm g cap ts) (ss : List ByteArray) (a : Option Addr) (b off c : Nat) (hS : StrsAt w a b off ss) (hb : ∀ k, foot bt bm g k → k ≠ b)
    (hsz : ∀ s ∈ ss, s.size ≤ 281474976710656) (hlen : (ts.length + ss.length) * 16 ≤ 140737488355328) :
    Calls Try.prog 18 #[.pointer (some ⟨bt, 0, none⟩), .slice a ss.length c] w fun e w' =>
      e = .returned (.tuple #[.slice (some ⟨w.heap.size, 0, none⟩) ss.length ss.length, .int .i64 0]) ∧ IntsAt w' w.heap.size ss.length ((nums ts ss).map Int.ofNat) ∧ Puts w bt bm g (putAll ts ss) w' := by
  obtain ⟨i0, hi, hz0, hz1, hz2⟩ := info_parts info3
  have hm := made_yes w bt bm h.c1
  have H : Hid (Tab w bt bm g cap ts) := h
  have HS : Hid (StrsAt w a b off ss) := hS
  clear h hS
  go_enter Try.func18, Try.ntmps18
  go_wp2_with (first | (go_at_call 34; refine Calls.mono hm ?_; rintro e w' ⟨rfl, rfl⟩) | (at_make; refine wpList_make_full _ rfl _ _ 31 rfl 0 3 i0 (.int .i64 0) 1 Try.underlying31 hi hz0 hz1 _ _ _ _ ss.length rfl rfl rfl rfl (by rw [hz2]; omega) (by unfold maxLen; omega) (Nat.zero_le _) ?_; intro w1 hown hgrow))
  have HN : Hid (IntsAt w1 w'.heap.size ss.length [] ∧ Turn (fun _ => False) w' w1) := ⟨ints_of_row hown, (Turn.of_grown hgrow).mono (fun _ _ e => by simp at e)⟩
  clear hown hgrow
  go_loopw [17] (fun i wr => ∃ k : Nat, k ≤ ss.length ∧ i = .int .i64 k ∧ IntsAt wr w'.heap.size ss.length ((nums ts (ss.take k)).map Int.ofNat) ∧ Puts w' bt bm g (putAll ts (ss.take k)) wr) (fun i _ => ss.length - (intOf i).toNat)
  case atStart =>
    refine ⟨0, Nat.zero_le _, rfl, by simpa [nums] using HN.out.1, ?_⟩
    refine ⟨g, cap, H.out.kept HN.out.2 (fun _ _ e => e), .inl rfl, HN.out.2.mono (fun _ _ e => e.elim)⟩
  case round =>
    obtain ⟨k, hk, rfl, hI, gk, capk, hT, hg, ht⟩ := hrel
    by_cases hlt : k < ss.length
    · obtain rfl := HS.out.1 (by omega)
      have hmem : ss[k] ∈ ss := List.getElem_mem hlt
      have hcell := (HS.out.kept ht (fun e => hb _ e rfl)).2 k hlt
      have hpl := putAll_len ts (ss.take k)
      have hput := put_yes hT ss[k] (hsz _ hmem) (by rw [List.length_take] at hpl; omega)
      have hts : ss.take (k + 1) = ss.take k ++ [ss[k]] := by rw [List.take_succ_eq_append_getElem hlt]
      have hzl : (nums ts (ss.take k)).length = k := by rw [nums_length, List.length_take]; omega
      have HP : Hid (∀ w2, Puts wr bt bm gk (put1 (putAll ts (ss.take k)) ss[k]) w2 → IntsAt w2 w'.heap.size ss.length ((nums ts (ss.take k)).map Int.ofNat) ∧
          (∀ z, z = ((put1 (putAll ts (ss.take k)) ss[k]).idxOf ss[k] : Int) → IntsAt (w2.setCell ⟨w'.heap.size, k, none⟩ (.int .i64 z)) w'.heap.size ss.length ((nums ts (ss.take (k + 1))).map Int.ofNat) ∧
          Puts w' bt bm g (putAll ts (ss.take (k + 1))) (w2.setCell ⟨w'.heap.size, k, none⟩ (.int .i64 z)))) := by
        rintro w2 ⟨g2, cap2, h1, h2, h3⟩
        have hne := hI.ne hT
        have hI2 := hI.kept h3 (fun e => hne _ e rfl)
        refine ⟨hI2, ?_⟩
        rintro z rfl
        have hne2 := hI2.ne h1
        have hs1 := hI2.snoc (by simp [hzl]; omega) ((put1 (putAll ts (ss.take k)) ss[k]).idxOf ss[k] : Int)
        rw [List.length_map, hzl] at hs1
        refine ⟨by rw [hts, nums_snoc, List.map_append]; exact hs1, g2, cap2, ?_, ?_, ?_⟩
        · rw [hts, putAll_snoc]
          exact h1.kept (Turn.setCell (fun k => k = w'.heap.size) w2 _ _ rfl) (fun i hi e => hne2 i hi e)
        · rcases h2 with rfl | h2
          · exact hg
          · exact .inr (Nat.le_trans ht.size h2)
        · refine (ht.trans h3 ?_).trans (Turn.setCell (fun k => k = w'.heap.size) w2 _ _ rfl) (fun i hi e => by omega)
          rintro i hi (e | e | e)
          · exact .inl e
          · exact .inr (.inl e)
          · rcases hg with rfl | hg
            · exact .inr (.inr e)
            · omega
      clear hmem hpl hts hT hg ht hI hzl hsz hb
      generalize ss[k] = s at hcell hput HP
      generalize put1 (putAll ts (ss.take k)) s = us at hput HP
      go_wp2_with (go_at_call 22; refine Calls.mono hput ?_; rintro e w2 ⟨rfl, hp⟩; have hI2 := (HP.out _ hp).1; obtain ⟨v2, hv2⟩ := hI2.spot k hlt; have hf2 := hI2.frozen k; have HPu : Hid _ := hp; clear hp hI2)
      go_roundw
      case rel => exact ⟨k + 1, by omega, by go_num, (HP.out _ HPu.out).2 _ rfl⟩
      case measure => simp [intOf]; omega
    · go_wp2
      go_ret2
      have e : ss.take k = ss := List.take_of_length_le (by omega)
      rw [e] at hI hT
      exact ⟨rfl, hI, gk, capk, hT, hg, ht⟩
end

end Go.Proofs.Ytdmopioiaaecfaa
