/- The table of the document: PutAll. -/
import Derived.Test.YtdmopioiaaecfaaRefB
namespace Go.Proofs.Ytdmopioiaaecfaa
open Go.RowKit Go.Maps

section
variable {w w' : World} {br : Nat} {sv : Value} {ls : List ByteArray}

theorem RPuts.size {us : List ByteArray} (h : RPuts w br sv us w') : w.heap.size ≤ w'.heap.size := by
  obtain ⟨_, _, _, ht⟩ := h
  exact ht.size

/-- A row of ints shares no block with the document's table. -/
theorem RTab.noInts (h : RTab w br sv ls) {base n : Nat} {v : Value} {xs : List Value} (hr : w.ownsRow base 3 1 v n xs) : ∀ k, v.ownBlock = some k → ¬ rfoot br sv k := by
  intro k hk hf
  rcases hr.2 with ⟨hx, _⟩ | ⟨g, cap, cur, hv, _, hh, _⟩
  · rw [hx] at hk; simp [Value.ownBlock] at hk
  · rw [hv] at hk
    simp [Value.ownBlock] at hk
    subst hk
    rcases hf with e | e
    · rw [e, h.box] at hh; simp at hh
    · rcases h.row.2 with ⟨hx, _⟩ | ⟨g2, cap2, cur2, hv2, _, hh2, _⟩
      · rw [hx] at e; simp [Value.ownBlock] at e
      · rw [hv2] at e
        simp [Value.ownBlock] at e
        subst e
        rw [hh] at hh2
        simp at hh2

/-- Behind k rounds of the document's PutAll. -/
def RRound (w : World) (br : Nat) (sv : Value) (ls ss : List ByteArray) (k : Nat) (v : Value) (wr : World) : Prop :=
  wr.ownsRow w.heap.size 3 1 v k (((nums ls (ss.take k)).map Int.ofNat).map (Value.int .i64)) ∧ RPuts w br sv (putAll ls (ss.take k)) wr

theorem row_shape {w : World} {base : Nat} {e : TypeId} {n : Nat} {v : Value} {xs : List Value} (h : w.ownsRow base e 1 v n xs) : ∃ a c, v = .slice a n c := by
  rcases h.2 with ⟨hx, hn⟩ | ⟨g, cap, cur, hv, _⟩
  · exact ⟨none, 0, by rw [hx, hn]⟩
  · exact ⟨_, _, hv⟩

set_option maxRecDepth 100000 in
set_option maxHeartbeats 400000 in
theorem rputAll_yes (h : RTab w br sv ls) (ss : List ByteArray) (a : Option Addr) (b off c : Nat) (hS : StrsAt w a b off ss) (hb : ∀ k, rfoot br sv k → k ≠ b) (hlen : (ls.length + ss.length) * 16 ≤ 140737488355328) :
    Calls Try.prog 20 #[.pointer (some ⟨br, 0, none⟩), .slice a ss.length c] w fun e w' => ∃ v, e = .returned (.tuple #[v, .int .i64 0]) ∧
      w'.ownsRow w.heap.size 3 1 v ss.length (((nums ls ss).map Int.ofNat).map (Value.int .i64)) ∧ RPuts w br sv (putAll ls ss) w' := by
  obtain ⟨i0, hi, hz0, hz1, hz2⟩ := info_parts info3
  have H : Hid (RTab w br sv ls ∧ StrsAt w a b off ss ∧ ∀ k, rfoot br sv k → k ≠ b) := ⟨h, hS, hb⟩
  clear h hS hb
  go_enter Try.func20, Try.ntmps20
  go_wp2
  go_loopw [6, 7] (fun v i wr => ∃ k : Nat, k ≤ ss.length ∧ i = .int .i64 k ∧ RRound w br sv ls ss k v wr) (fun _ i _ => ss.length - (intOf i).toNat)
  case atStart => exact ⟨0, Nat.zero_le _, rfl, by simpa [nums] using World.ownsRow_nil w w.heap.size 3 1, by simpa [putAll] using H.out.1.self⟩
  case round =>
    obtain ⟨k, hk, rfl, hR⟩ := hrel
    obtain ⟨av, cv, rfl⟩ := row_shape hR.1
    have HR : Hid (RRound w br sv ls ss k (.slice av k cv) wr) := hR
    clear hR
    by_cases hlt : k < ss.length
    · obtain rfl := H.out.2.1.1 (by omega)
      have hcell : wr.cell? ⟨b, off + k, none⟩ = some (.string ss[k]) := by
        obtain ⟨_, _, _, _, ht⟩ := HR.out
        exact ht.cell (H.out.2.1.2 k hlt) (fun e => H.out.2.2 _ e rfl)
      have hkb : (k : Int) < (ss.length : Int) := by omega
      obtain ⟨hrow, sk, hTk, hsk, htk⟩ := HR.out
      have hpl := putAll_len ls (ss.take k)
      have hput := rput_yes hTk ss[k] (by rw [List.length_take] at hpl; omega)
      have hts : ss.take (k + 1) = ss.take k ++ [ss[k]] := by rw [List.take_succ_eq_append_getElem hlt]
      have HN : Hid (nums ls (ss.take (k + 1)) = nums ls (ss.take k) ++ [(put1 (putAll ls (ss.take k)) ss[k]).idxOf ss[k]] ∧ putAll ls (ss.take (k + 1)) = put1 (putAll ls (ss.take k)) ss[k]) := by
        rw [hts, nums_snoc, putAll_snoc]; exact ⟨rfl, rfl⟩
      have HK : Hid (RTab wr br sk (putAll ls (ss.take k)) ∧ (∀ j, sk.ownBlock = some j → sv.ownBlock = some j ∨ w.heap.size ≤ j) ∧ Turn (rfoot br sv) w wr) := ⟨hTk, hsk, htk⟩
      clear hpl hts hTk hsk htk
      generalize ss[k] = s at hcell hput HN
      generalize (put1 (putAll ls (ss.take k)) s) = us at hput HN
      have hkm : (k + 1) * 8 ≤ 140737488355328 := by omega
      go_wp2_with (first | (go_at_call 23; refine Calls.mono hput ?_; rintro e w2 ⟨rfl, s2, hT2, hs2, ht2⟩; have hrow2 := ht2.row hrow (HK.out.1.noInts hrow); have HP : Hid (RTab w2 br s2 us ∧ (∀ j, s2.ownBlock = some j → sk.ownBlock = some j ∨ wr.heap.size ≤ j) ∧ Turn (rfoot br sk) wr w2) := ⟨hT2, hs2, ht2⟩; clear hput hrow hT2 hs2 ht2) | (at_builtin; refine wpList_append_own _ rfl _ _ 31 rfl w.heap.size 3 i0 (.int .i64 0) 1 8 Try.underlying31 hi hz0 hz1 hz2 rfl (by decide) _ _ _ rfl (hrow2.alloc _) ⟨w2.heap.size, 0, none⟩ 1 1 [.int .i64 (us.idxOf s)] rfl rfl (cell_one_new _ _ _) (by simp [Value.oneCell']) (by unfold maxLen; omega) hkm (by have := HK.out.2.2.size; have := HP.out.2.2.size; rw [World.size_alloc]; omega) ?_; intro v' w3 hown hgrow hnil))
      have hT3 : Turn (fun j => some j = (Value.slice av k cv).ownBlock) w2 w3 := (Turn.alloc _ w2 _).trans (Turn.of_grown hgrow) (fun i _ e => e)
      have hno := HP.out.1.noInts hrow2
      have hvb : ∀ j, (Value.slice av k cv).ownBlock = some j → w.heap.size ≤ j := fun j e => (hrow2.lt j e).1
      have HF : Hid (RRound w br sv ls ss (k + 1) v' w3) := by
        refine ⟨?_, s2, ?_, ?_, ?_⟩
        · rw [HN.out.1, List.map_append, List.map_append]
          exact hown
        · rw [HN.out.2]
          exact HP.out.1.kept hT3 (fun j hj e => hno j e.symm hj)
        · intro j hj
          have h1 := HK.out.2.2.size
          rcases HP.out.2.1 j hj with e | e
          · exact HK.out.2.1 j e
          · exact .inr (by omega)
        · refine (HK.out.2.2.trans HP.out.2.2 ?_).trans hT3 (fun i hi e => by have := hvb i e.symm; omega)
          rintro i hi (e | e)
          · exact .inl e
          · rcases HK.out.2.1 i e with e2 | e2
            · exact .inr e2
            · omega
      clear hown hgrow hnil hT3 hno hvb hrow2
      go_roundw
      case rel => exact ⟨k + 1, by omega, by go_num, HF.out⟩
      case measure => simp [intOf]; omega
    · obtain rfl : k = ss.length := by omega
      go_wp2
      go_ret2
      have e : ss.take ss.length = ss := List.take_length
      have hR := HR.out
      unfold RRound at hR
      rw [e] at hR
      exact ⟨_, rfl, hR⟩
end
end Go.Proofs.Ytdmopioiaaecfaa
