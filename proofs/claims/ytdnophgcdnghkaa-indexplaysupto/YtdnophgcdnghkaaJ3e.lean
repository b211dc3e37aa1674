/- The document's table of layer 3 in memory: its pairs in the order in which they came; where a key stands among them. The document's table of layer 3: Get, Put, New. The document's table of layer 3: Put. The document's table of layer 3: Take, home, New. The document's table of layer 3: home, New, Copy. -/
import Derived.Test.YtdnophgcdnghkaaIFi
import Derived.Test.YtdnophgcdnghkaaCR
import Derived.Test.YtdnophgcdnghkaaIT
import Derived.OwnWalk
import Derived.Deep.RegionLaw
namespace Go.Proofs.Ytdnophgcdnghkaa.I
open Go.RowKit Go.Maps

def encPr (p : Int × Int) : List Value := [.int .i64 p.1, .int .i64 p.2]
theorem encPrOk : EncOk 2 encPr := ⟨fun _ => rfl, fun _ u hu => by simp [encPr] at hu; rcases hu with rfl | rfl <;> rfl, by decide⟩
theorem infoPr : (Try.prog.info? 77).map (fun i => (i.zero, i.size, i.bytes)) = some (some (.agg #[.int .i64 0, .int .i64 0]), 2, 16) := by kernel_rfl
/-- Which of the pairs has the key. -/
def atN (way : Int) (ps : List (Int × Int)) (key : Int) : Option Nat := ps.findIdx? (fun p => sameOf way p.1 key)
def atZ : Option Nat → Int
  | some i => (i : Int)
  | none => -1
theorem atN_some {way : Int} {ps : List (Int × Int)} {key : Int} {j : Nat} (hj : j < ps.length) (hs : sameOf way ps[j].1 key = true) (hno : ∀ k (h : k < j), sameOf way (ps[k]'(by omega)).1 key = false) : atN way ps key = some j := by
  unfold atN
  rw [List.findIdx?_eq_some_iff_getElem]
  exact ⟨hj, hs, fun k hk => by simp [hno k hk]⟩
theorem atN_none {way : Int} {ps : List (Int × Int)} {key : Int} (hno : ∀ k (h : k < ps.length), sameOf way ps[k].1 key = false) : atN way ps key = none := by
  unfold atN
  rw [List.findIdx?_eq_none_iff]
  intro p hp
  obtain ⟨k, hk, rfl⟩ := List.mem_iff_getElem.1 hp
  simp [hno k hk]

/-- The document's table: a box with the way, the pairs and the size; the pairs lie in a row of their own. -/
structure RTab (w : World) (br : Nat) (way : Int) (a : Option Addr) (b c : Nat) (ps : List (Int × Int)) (size : Nat) : Prop where
  box : w.heap[br]? = some (.cells #[.int .i64 way, .slice a ps.length c, .int .i64 (size : Int)] 54 (0, 0))
  own : OwnR 77 2 encPr 0 w (.slice a ps.length c) ps
  at0 : 0 < ps.length → a = some ⟨b, 0, none⟩
  apart : (Value.slice a ps.length c).ownBlock ≠ some br
  keys : ∀ p ∈ ps, KeyOk p.1 ∧ KeyOk p.2
  wayOk : KeyOk way
variable {w w' : World} {br : Nat} {way : Int} {a : Option Addr} {b c : Nat} {ps : List (Int × Int)} {size : Nat}
theorem RTab.stay (h : RTab w br way a b c ps size) (hs : Stay w w') : RTab w' br way a b c ps size :=
  ⟨(hs.block br (Array.getElem?_eq_some_iff.1 h.box).1).trans h.box, h.own.stay hs, h.at0, h.apart, h.keys, h.wayOk⟩
theorem RTab.recs (h : RTab w br way a b c ps size) : RecS 2 encPr w a b 0 ps := by
  obtain ⟨a1, b1, c1, hv, hR, -, hp, -⟩ := h.own.form encPrOk
  simp only [Value.slice.injEq] at hv
  obtain ⟨rfl, -, rfl⟩ := hv
  rcases Nat.eq_zero_or_pos ps.length with h0 | h0
  · exact ⟨fun h1 => by omega, fun j hj => by omega⟩
  · have e1 := hp h0
    have e2 := h.at0 h0
    rw [e1] at e2
    simp only [Option.some.injEq, Addr.mk.injEq] at e2
    obtain ⟨rfl, -⟩ := e2
    exact hR
theorem RTab.cells (h : RTab w br way a b c ps size) : w.cell? ⟨br, 0, none⟩ = some (.int .i64 way) ∧ w.cell? ⟨br, 1, none⟩ = some (.slice a ps.length c) ∧ w.cell? ⟨br, 2, none⟩ = some (.int .i64 (size : Int)) := by
  simp [World.cell?, h.box]

set_option maxRecDepth 100000 in
set_option maxHeartbeats 2000000 in
theorem rAt_any (h : RTab w br way a b c ps size) (key : Int) (hk : KeyOk key) (hn : ps.length ≤ 1099511627776) : Calls Try.prog 45 #[.pointer (some ⟨br, 0, none⟩), .int .i64 key] w fun e w' => e = .returned (.int .i64 (atZ (atN way ps key))) ∧ Stay w w' := by
  obtain ⟨rv, hrv⟩ : ∃ rv, rv = atZ (atN way ps key) := ⟨_, rfl⟩
  rw [← hrv]
  have HV : Hid (rv = atZ (atN way ps key)) := hrv
  have HT : Hid (RTab w br way a b c ps size) := h
  obtain ⟨n, hn'⟩ : ∃ n, n = ps.length := ⟨_, rfl⟩
  have HN : Hid (n = ps.length) := hn'
  have hsm := fun j (hj : j < ps.length) W => rsame_any W way ps[j].1 key h.wayOk (h.keys _ (List.getElem_mem hj)).1 hk
  rw [← hn'] at hn
  clear h hrv hn'
  go_enter Try.func45, Try.ntmps45
  go_wp2
  go_loopw [5] (fun u wr => ∃ j : Nat, j ≤ n ∧ u = .int .i64 (j : Int) ∧ (∀ k, k < j → ∀ h : k < ps.length, sameOf way ps[k].1 key = false) ∧ Stay w wr) (fun u _ => n - (intOf u).toNat)
  case atStart => exact ⟨0, Nat.zero_le _, rfl, fun k hk => absurd hk (Nat.not_lt_zero _), Stay.refl _⟩
  case round =>
    obtain ⟨j, hj, rfl, hno, hst⟩ := hrel
    obtain ⟨c0, c1, c2⟩ := (HT.out.stay hst).cells
    rw [← HN.out] at c1
    have HS : Hid (Stay w wr ∧ ∀ k, k < j → ∀ h : k < ps.length, sameOf way ps[k].1 key = false) := ⟨hst, hno⟩
    clear hno
    by_cases hlt : j < n
    · have hki : (j : Int) < (n : Int) := by omega
      have hjl : j < ps.length := by have := HN.out; omega
      obtain rfl := HT.out.at0 (by omega)
      have d0 := (HT.out.stay hst).recs.2 j hjl 0 _ rfl
      rw [Nat.zero_add, Nat.add_zero] at d0
      have hs := hsm j hjl
      clear hsm hst
      generalize hp : ps[j] = p at *
      obtain ⟨p1, p2⟩ := p
      dsimp only at *
      have HP : Hid (ps[j] = (p1, p2)) := hp
      clear hp
      cases hc : sameOf way p1 key
      · rw [hc] at hs
        go_wp2_with fail
        go_quiet ((first | (go_at_call 23; exact Calls.quiet_of_same (hs _))))
        go_wp2_with fail
        go_roundw
        case rel =>
          refine ⟨j + 1, by omega, by simp, fun k hk hkl => ?_, HS.out.1.trans (Stay.drewN _ _)⟩
          rcases Nat.lt_or_eq_of_le (Nat.le_of_lt_succ hk) with g | g
          · exact HS.out.2 k g hkl
          · subst g
            rw [HP.out]
            exact hc
        case measure => simp [intOf]; omega
      · rw [hc] at hs
        have HX : Hid (rv = (j : Int)) := by
          show _ = _
          rw [HV.out, atN_some hjl (by rw [HP.out]; exact hc) (fun k hk => HS.out.2 k hk (by omega))]
          rfl
        go_wp2_with fail
        go_quiet ((first | (go_at_call 23; exact Calls.quiet_of_same (hs _))))
        go_wp2_with fail
        go_ret
        exact ⟨by rw [HX.out]; rfl, HS.out.1.trans (Stay.drewN _ _)⟩
    · obtain rfl : n = j := by omega
      have HX : Hid (rv = -1) := by
        show _ = _
        rw [HV.out, atN_none (fun k hk => HS.out.2 k (by have := HN.out; omega) hk)]
        rfl
      clear hsm hst
      go_wp2_with fail
      go_ret
      exact ⟨by rw [HX.out]; rfl, HS.out.1⟩
end Go.Proofs.Ytdnophgcdnghkaa.I
namespace Go.Proofs.Ytdnophgcdnghkaa.I
open Go.RowKit Go.Maps

theorem atN_lt {way : Int} {ps : List (Int × Int)} {key : Int} {i : Nat} (h : atN way ps key = some i) : i < ps.length := by
  unfold atN at h
  rw [List.findIdx?_eq_some_iff_getElem] at h
  exact h.1
/-- What Get tells. -/
def getV (ps : List (Int × Int)) : Option Nat → Int
  | some i => (ps[i]?.getD (0, 0)).2
  | none => 0
variable {w w' : World} {br : Nat} {way : Int} {a : Option Addr} {b c : Nat} {ps : List (Int × Int)} {size : Nat}
theorem RTab.pair (h : RTab w br way a b c ps size) {i : Nat} (hi : i < ps.length) : a = some ⟨b, 0, none⟩ ∧ w.cell? ⟨b, i * 2, none⟩ = some (.int .i64 ps[i].1) ∧ w.cell? ⟨b, i * 2 + 1, none⟩ = some (.int .i64 ps[i].2) := by
  have h0 := h.recs.2 i hi 0 _ rfl
  have h1 := h.recs.2 i hi 1 _ rfl
  rw [Nat.zero_add, Nat.add_zero] at h0
  rw [Nat.zero_add] at h1
  exact ⟨h.at0 (by omega), h0, h1⟩

set_option maxRecDepth 100000 in
theorem rGet_any (h : RTab w br way a b c ps size) (key : Int) (hk : KeyOk key) (hn : ps.length ≤ 1099511627776) : Calls Try.prog 26 #[.pointer (some ⟨br, 0, none⟩), .int .i64 key] w fun e w' => e = .returned (.tuple #[.int .i64 (getV ps (atN way ps key)), .bool (atN way ps key).isSome]) ∧ Stay w w' := by
  have hat := rAt_any h key hk hn
  cases ho : atN way ps key with
  | none =>
    rw [ho] at hat
    dsimp only [atZ, getV, Option.isSome] at hat ⊢
    clear h
    go_enter Try.func26, Try.ntmps26
    go_wp2_with (go_at_call 45; refine hat.mono ?_; rintro e w1 ⟨rfl, s1⟩)
    go_ret2
    exact ⟨rfl, s1⟩
  | some i =>
    rw [ho] at hat
    have hi := atN_lt ho
    dsimp only [atZ, getV, Option.isSome] at hat ⊢
    rw [List.getElem?_eq_getElem hi, Option.getD_some]
    have HT : Hid (RTab w br way a b c ps size) := h
    have hi0 : ¬ ((i : Int) < 0) := by omega
    have hii : (i : Int) < (ps.length : Int) := by omega
    clear h ho hk
    go_enter Try.func26, Try.ntmps26
    go_wp2_with (go_at_call 45; refine hat.mono ?_; rintro e w1 ⟨rfl, s1⟩; obtain ⟨c0, c1, c2⟩ := (HT.out.stay s1).cells; obtain ⟨rfl, d0, d1⟩ := (HT.out.stay s1).pair hi)
    go_ret2
    exact ⟨rfl, s1⟩

theorem row_setR {base : Nat} {w : World} {e : TypeId} {m G n k c : Nat} {xs : List Value} (h : w.ownsRow base e m (.slice (some ⟨G, 0, none⟩) n c) k xs) (hk : xs.length = k * m) (j : Nat) (x : Value) : (w.setCell ⟨G, j, none⟩ x).ownsRow base e m (.slice (some ⟨G, 0, none⟩) n c) k (xs.set j x) := by
  refine ⟨by rw [List.length_set]; exact h.1, ?_⟩
  rcases h.2 with ⟨hv, hl⟩ | ⟨g, cap, cur, hv, hb, hh, h1, h2, h3, h4⟩
  · cases hv
  · simp only [Value.slice.injEq, Option.some.injEq, Addr.mk.injEq, and_true] at hv
    obtain ⟨rfl, rfl, rfl⟩ := hv
    refine .inr ⟨G, c, _, rfl, hb, heap_setCell_same w G j cur _ _ hh, h1, h2, by simpa using h3, ?_⟩
    rw [Array.toList_setIfInBounds, List.take_set, h4]
theorem cells_setV : ∀ (ps : List (Int × Int)) (i : Nat) (hi : i < ps.length) (v : Int), cellsR encPr (ps.set i (ps[i].1, v)) = (cellsR encPr ps).set (i * 2 + 1) (.int .i64 v)
  | p :: ps, 0, _, v => by simp [cellsR, encPr]
  | p :: ps, i + 1, hi, v => by
    have ih := cells_setV ps i (by simpa using hi) v
    rw [show (i + 1) * 2 + 1 = (i * 2 + 1) + 2 by omega]
    simp only [cellsR, List.flatMap_cons, List.set_cons_succ, List.getElem_cons_succ] at ih ⊢
    rw [ih]
    simp [encPr]
theorem own_frozen {base : Nat} {v : Value} (h : OwnR 77 2 encPr base w v ps) {G n k : Nat} (hv : v = .slice (some ⟨G, 0, none⟩) n k) (j : Nat) : w.frozen? ⟨G, j, none⟩ = false := by
  subst hv
  rcases h.2 with ⟨hv, hl⟩ | ⟨g, cap, cur, hv, hb, hh, h1, h2, h3, h4⟩
  · cases hv
  · simp only [Value.slice.injEq, Option.some.injEq, Addr.mk.injEq, and_true] at hv
    obtain ⟨rfl, rfl, rfl⟩ := hv
    simp [World.frozen?, hh]
end Go.Proofs.Ytdnophgcdnghkaa.I
namespace Go.Proofs.Ytdnophgcdnghkaa.I
open Go.RowKit Go.Maps

theorem own_push1 {α : Type} {n : Nat} {enc : α → List Value} (he : EncOk n enc) {P : Program} {s t : TypeId} (hu : P.underlying s = some (.slice t)) {z : Value} {bytes : Nat} (hinfo : (P.info? t).map (fun i => (i.zero, i.size, i.bytes)) = some (some z, n, bytes)) (hz : z.cells.size = n)
    {W : World} {v : Value} {xs : List α} {base : Nat} (hown : OwnR t n enc base W v xs) (m : α) (hm : xs.length + 1 ≤ maxLen) (hb : (xs.length + 1) * bytes ≤ 140737488355328) (hbase : base ≤ W.heap.size) (ty : TypeId) :
    ∃ a1 b1 c1 w2, (Builtin.append_ #[s, s] ty #[v, .slice (some ⟨W.heap.size, 0, none⟩) 1 1]).run P (W.alloc (.cells (enc m).toArray t)) = .ok (.slice a1 (xs.length + 1) c1) w2 ∧ OwnR t n enc base w2 (.slice a1 (xs.length + 1) c1) (xs ++ [m]) ∧ a1 = some ⟨b1, 0, none⟩ ∧ w2.os = W.os ∧ w2.tape = W.tape ∧ w2.output = W.output ∧
      (∀ k, k < W.heap.size → v.ownBlock ≠ some k → w2.heap[k]? = W.heap[k]?) ∧ ((Value.slice a1 (xs.length + 1) c1).ownBlock = v.ownBlock ∨ (Value.slice a1 (xs.length + 1) c1).ownBlock = some (W.heap.size + 1)) ∧ W.heap.size < w2.heap.size := by
  have hlit := recs_lit he W [m] t
  rw [show cellsR enc [m] = enc m by simp [cellsR]] at hlit
  obtain ⟨v', w2, hr, ho, hg, _, hat⟩ := append_recs (P := P) (ty := ty) he hu hinfo hz (hown.alloc (.cells (enc m).toArray t)) hlit (c := 1) (fun h => nomatch h) (by simpa using hm) (by simpa using hb) (by rw [World.size_alloc]; omega)
  obtain ⟨a1, b1, k1, rfl, -, -, hp, -⟩ := ho.form he
  have h0 := hp (by simp)
  rw [List.length_append, List.length_singleton] at hr ho hat
  have hsz := hg.size
  rw [World.size_alloc] at hsz hat
  exact ⟨a1, b1, k1, w2, hr, ho, h0, hg.os, hg.tape, hg.output, fun k hk hn => (hg.block k (by rw [World.size_alloc]; omega) (fun e => hn e.symm)).trans (Below.heap_alloc _ _ _ hk), hat, by omega⟩

/-- Which blocks a table of the document's holds. -/
def rfoot (br : Nat) (a : Option Addr) (n c k : Nat) : Prop := k = br ∨ (Value.slice a n c).ownBlock = some k
variable {w w' : World} {br : Nat} {way : Int} {a : Option Addr} {b c : Nat} {ps : List (Int × Int)} {size : Nat}
theorem RTab.ownB (h : RTab w br way a b c ps size) (h0 : 0 < ps.length) : (Value.slice a ps.length c).ownBlock = some b ∧ b ≠ br ∧ b < w.heap.size := by
  have e := h.at0 h0
  have ho : (Value.slice a ps.length c).ownBlock = some b := by rw [e]; rfl
  exact ⟨ho, fun e => h.apart (e ▸ ho), (h.own.lt b ho).2⟩
theorem RTab.lt (h : RTab w br way a b c ps size) (k : Nat) (hk : rfoot br a ps.length c k) : k < w.heap.size := by
  rcases hk with rfl | hk
  · exact (Array.getElem?_eq_some_iff.1 h.box).1
  · exact (h.own.lt k hk).2
theorem RTab.turn {S : Nat → Prop} (h : RTab w br way a b c ps size) (ht : Turn S w w') (hn : ∀ k, rfoot br a ps.length c k → ¬ S k) : RTab w' br way a b c ps size :=
  ⟨ht.heap h.box (hn br (.inl rfl)), ht.row h.own (fun k hk => hn k (.inr hk)), h.at0, h.apart, h.keys, h.wayOk⟩
theorem RTab.setV (h : RTab w br way a b c ps size) {i : Nat} (hi : i < ps.length) {v : Int} (hv : KeyOk v) : RTab (w.setCell ⟨b, i * 2 + 1, none⟩ (.int .i64 v)) br way a b c (ps.set i (ps[i].1, v)) size ∧ Turn (rfoot br a ps.length c) w (w.setCell ⟨b, i * 2 + 1, none⟩ (.int .i64 v)) := by
  obtain ⟨ho, hne, -⟩ := h.ownB (by omega)
  have e := h.at0 (by omega)
  refine ⟨⟨?_, ?_, fun _ => e, by rw [List.length_set]; exact h.apart, fun p hp => ?_, h.wayOk⟩, (Turn.refl _ w).set (.inr ho) _ _⟩
  · rw [List.length_set]
    exact (Below.heap_setCell _ _ _ _ (fun e => hne e.symm)).trans h.box
  · have := h.own
    unfold OwnR at this ⊢
    rw [List.length_set, cells_setV ps i hi v]
    subst e
    exact row_setR this (cellsR_len encPrOk ps) _ _
  · rcases List.mem_or_eq_of_mem_set hp with hp | rfl
    · exact h.keys p hp
    · exact ⟨(h.keys _ (List.getElem_mem hi)).1, hv⟩
theorem RTab.setS (h : RTab w br way a b c ps size) (s2 : Nat) : RTab (w.setCell ⟨br, 2, none⟩ (.int .i64 (s2 : Int))) br way a b c ps s2 ∧ Turn (rfoot br a ps.length c) w (w.setCell ⟨br, 2, none⟩ (.int .i64 (s2 : Int))) := by
  refine ⟨⟨?_, ?_, h.at0, h.apart, h.keys, h.wayOk⟩, (Turn.refl _ w).set (.inl rfl) _ _⟩
  · simp [World.setCell, Array.getElem?_modify, h.box]
  · exact ((Turn.refl (fun k => k = br) w).set rfl _ _).row h.own (fun k hk e => h.apart (e ▸ hk))
theorem RTab.frozen (h : RTab w br way a b c ps size) (j : Nat) : w.frozen? ⟨br, j, none⟩ = false := by simp [World.frozen?, h.box]
theorem RTab.push (h : RTab w br way a b c ps size) {key val : Int} (hk : KeyOk key) (hv : KeyOk val) (hn : ps.length ≤ 1099511627776) :
    ∃ a' b' c' W2, (Builtin.append_ #[52, 52] 52 #[.slice a ps.length c, .slice (some ⟨w.heap.size, 0, none⟩) 1 1]).run Try.prog (w.alloc (.cells #[.int .i64 key, .int .i64 val] 77)) = .ok (.slice a' (ps.length + 1) c') W2 ∧
      W2.cell? ⟨br, 1, none⟩ = some (.slice a ps.length c) ∧ W2.frozen? ⟨br, 1, none⟩ = false ∧ RTab (W2.setCell ⟨br, 1, none⟩ (.slice a' (ps.length + 1) c')) br way a' b' c' (ps ++ [(key, val)]) size ∧ Turn (rfoot br a ps.length c) w (W2.setCell ⟨br, 1, none⟩ (.slice a' (ps.length + 1) c')) ∧
      ((Value.slice a' (ps.length + 1) c').ownBlock = (Value.slice a ps.length c).ownBlock ∨ ∀ k, (Value.slice a' (ps.length + 1) c').ownBlock = some k → w.heap.size ≤ k) := by
  obtain ⟨a', b', c', W2, hr, hO, ha, e1, e2, e3, hblk, hat, hsz⟩ := own_push1 encPrOk Try.underlying52 infoPr rfl h.own (key, val) (by unfold maxLen; omega) (by omega) (Nat.zero_le _) 52
  have hbr := (Array.getElem?_eq_some_iff.1 h.box).1
  have hbx := (hblk br hbr h.apart).trans h.box
  have hap : (Value.slice a' (ps.length + 1) c').ownBlock ≠ some br := fun e => by
    rcases hat with g | g
    · exact h.apart (g ▸ e)
    · rw [g] at e
      have := Option.some.inj e
      omega
  refine ⟨a', b', c', W2, hr, by simp [World.cell?, hbx], by simp [World.frozen?, hbx], ⟨?_, ?_, fun _ => ha, by rw [List.length_append]; exact hap, fun p hp => ?_, h.wayOk⟩, ?_, ?_⟩
  · simp [World.setCell, Array.getElem?_modify, hbx]
  · have := ((Turn.refl (fun k => k = br) W2).set rfl 1 (.slice a' (ps.length + 1) c')).row hO (fun k hk e => hap (e ▸ hk))
    unfold OwnR
    rw [List.length_append, List.length_singleton]
    rw [List.length_append, List.length_singleton] at this
    exact this
  · rcases List.mem_append.1 hp with hp | hp
    · exact h.keys p hp
    · rw [List.mem_singleton] at hp
      subst hp
      exact ⟨hk, hv⟩
  · have ht : Turn (rfoot br a ps.length c) w W2 := ⟨e1, e2, e3, Nat.le_of_lt hsz, fun k hk hn => hblk k hk (fun e => hn (.inr e))⟩
    exact ht.set (.inl rfl) _ _
  · rcases hat with g | g
    · exact .inl g
    · exact .inr fun k hk => by rw [g] at hk; have := Option.some.inj hk; omega

set_option maxRecDepth 100000 in
set_option maxHeartbeats 1000000 in
theorem rPut_yes (h : RTab w br way a b c ps size) (key val : Int) (hk : KeyOk key) (hv : KeyOk val) (hn : ps.length ≤ 1099511627776) {i : Nat} (ho : atN way ps key = some i) :
    Calls Try.prog 19 #[.pointer (some ⟨br, 0, none⟩), .int .i64 key, .int .i64 val] w fun e w' => e = .returned (.tuple #[.int .i64 (getV ps (some i)), .bool true]) ∧ RTab w' br way a b c (ps.set i ((ps[i]?.getD (0, 0)).1, val)) size ∧ Turn (rfoot br a ps.length c) w w' := by
  have hat := rAt_any h key hk hn
  rw [ho] at hat
  have hi := atN_lt ho
  dsimp only [atZ, getV] at hat ⊢
  rw [List.getElem?_eq_getElem hi, Option.getD_some]
  have HT : Hid (RTab w br way a b c ps size) := h
  have hi0 : (0 : Int) ≤ (i : Int) := by omega
  have hii : (i : Int) < (ps.length : Int) := by omega
  clear h ho hk
  go_enter Try.func19, Try.ntmps19
  go_wp2_with (go_at_call 45; refine hat.mono ?_; rintro e w1 ⟨rfl, s1⟩; obtain ⟨c0, c1, c2⟩ := (HT.out.stay s1).cells; have hf := own_frozen (HT.out.stay s1).own (G := b) (n := ps.length) (k := c) (by rw [HT.out.at0 (by omega)]) (i * 2 + 1); obtain ⟨rfl, d0, d1⟩ := (HT.out.stay s1).pair hi; have HS : Hid (RTab (w1.setCell ⟨b, i * 2 + 1, none⟩ (.int .i64 val)) br way (some ⟨b, 0, none⟩) b c (ps.set i (ps[i].1, val)) size ∧ Turn (rfoot br (some ⟨b, 0, none⟩) ps.length c) w (w1.setCell ⟨b, i * 2 + 1, none⟩ (.int .i64 val))) := ⟨((HT.out.stay s1).setV hi hv).1, (Turn.of_stay s1).trans ((HT.out.stay s1).setV hi hv).2⟩)
  go_ret2
  exact ⟨rfl, HS.out⟩
def putS (n size : Nat) : Nat := if 3 * size < 4 * (n + 1) then 2 * size else size
set_option maxRecDepth 100000 in
set_option maxHeartbeats 1000000 in
theorem rPut_no (h : RTab w br way a b c ps size) (key val : Int) (hk : KeyOk key) (hv : KeyOk val) (hn : ps.length ≤ 1099511627776) (hsz : size ≤ 4398046511104) (ho : atN way ps key = none) :
    Calls Try.prog 19 #[.pointer (some ⟨br, 0, none⟩), .int .i64 key, .int .i64 val] w fun e w' => e = .returned (.tuple #[.int .i64 0, .bool false]) ∧ ∃ a' b' c', RTab w' br way a' b' c' (ps ++ [(key, val)]) (putS ps.length size) ∧ Turn (rfoot br a ps.length c) w w' ∧
      ((Value.slice a' (ps.length + 1) c').ownBlock = (Value.slice a ps.length c).ownBlock ∨ ∀ k, (Value.slice a' (ps.length + 1) c').ownBlock = some k → w.heap.size ≤ k) := by
  have hat := rAt_any h key hk hn
  rw [ho] at hat
  dsimp only [atZ] at hat
  obtain ⟨R, hR⟩ : ∃ R : Ending → World → Prop, R = fun e w' => e = .returned (.tuple #[.int .i64 0, .bool false]) ∧ ∃ a' b' c', RTab w' br way a' b' c' (ps ++ [(key, val)]) (putS ps.length size) ∧ Turn (rfoot br a ps.length c) w w' ∧
      ((Value.slice a' (ps.length + 1) c').ownBlock = (Value.slice a ps.length c).ownBlock ∨ ∀ k, (Value.slice a' (ps.length + 1) c').ownBlock = some k → w.heap.size ≤ k) := ⟨_, rfl⟩
  rw [← hR]
  have HR : Hid (R = fun e w' => e = .returned (.tuple #[.int .i64 0, .bool false]) ∧ ∃ a' b' c', RTab w' br way a' b' c' (ps ++ [(key, val)]) (putS ps.length size) ∧ Turn (rfoot br a ps.length c) w w' ∧
      ((Value.slice a' (ps.length + 1) c').ownBlock = (Value.slice a ps.length c).ownBlock ∨ ∀ k, (Value.slice a' (ps.length + 1) c').ownBlock = some k → w.heap.size ≤ k)) := hR
  have HT : Hid (RTab w br way a b c ps size) := h
  have HK : Hid (KeyOk key ∧ KeyOk val) := ⟨hk, hv⟩
  obtain ⟨n, hn'⟩ : ∃ n, n = ps.length := ⟨_, rfl⟩
  have HN : Hid (n = ps.length) := hn'
  rw [← hn'] at hn
  clear h hk hv hR hn'
  have e4 : IntKind.i64.wrap (4 * ((n : Int) + 1)) = 4 * ((n : Int) + 1) := by simp only [IntKind.wrap_i64]; omega
  have e1 : IntKind.i64.wrap ((n : Int) + 1) = (n : Int) + 1 := by simp only [IntKind.wrap_i64]; omega
  have e3 : IntKind.i64.wrap (3 * (size : Int)) = 3 * (size : Int) := by simp only [IntKind.wrap_i64]; omega
  by_cases hb : 3 * size < 4 * (n + 1)
  · have hbi : (3 : Int) * (size : Int) < 4 * ((n : Int) + 1) := by omega
    obtain ⟨s2, hs2⟩ : ∃ s2 : Nat, s2 = 2 * size := ⟨_, rfl⟩
    have e2 : IntKind.i64.wrap (2 * (size : Int)) = (s2 : Int) := by simp only [IntKind.wrap_i64]; omega
    have H2 : Hid (s2 = 2 * size) := hs2
    clear hs2
    go_enter Try.func19, Try.ntmps19
    go_wp2_with (go_at_call 45; refine hat.mono ?_; rintro e w1 ⟨rfl, s1⟩; obtain ⟨c0, c1, c2⟩ := (HT.out.stay s1).cells; rw [← HN.out] at c1; have HS : Hid (Stay w w1) := s1; have f2 := (HT.out.stay s1).frozen 2; clear hat s1)
    go_region
    have tV : RTab (w1.setCell ⟨br, 2, none⟩ (.int .i64 (s2 : Int))).drew br way a b c ps s2 ∧ Turn (rfoot br a ps.length c) w (w1.setCell ⟨br, 2, none⟩ (.int .i64 (s2 : Int))).drew := ⟨((HT.out.stay HS.out).setS s2).1.stay (Stay.drew _), ((Turn.of_stay HS.out).trans ((HT.out.stay HS.out).setS s2).2).trans (Turn.of_stay (Stay.drew _))⟩
    obtain ⟨a', b', c', W2, hap, hc, hf, hI, ht, hat⟩ := tV.1.push HK.out.1 HK.out.2 (by have := HN.out; omega)
    have HX : Hid (R (.returned (.tuple #[.int .i64 0, .bool false])) (W2.setCell ⟨br, 1, none⟩ (.slice a' (n + 1) c'))) := by
      show R _ _
      rw [HR.out, HN.out]
      refine ⟨rfl, a', b', c', ?_, tV.2.trans ht, ?_⟩
      · rw [show putS ps.length size = s2 from by unfold putS; rw [← HN.out]; rw [if_pos hb, H2.out]]
        exact hI
      · rcases hat with g | g
        · exact .inl g
        · exact .inr fun k hk => Nat.le_trans tV.2.size (g k hk)
    obtain ⟨d0, d1, d2⟩ := tV.1.cells
    rw [← HN.out] at hap hc d1
    clear hI ht hat tV HR
    generalize hq : n + 1 = q  at hap HX
    have hap : (Builtin.append_ #[52, 52] 52 #[.slice a n c, .slice (some ⟨w1.heap.size, 0, none⟩) 1 1]).run Try.prog ((w1.setCell ⟨br, 2, none⟩ (.int .i64 (s2 : Int))).alloc (.cells #[.int .i64 key, .int .i64 val] 77)).drew = .ok (.slice a' q c') W2 := by
      have hh : ((w1.setCell ⟨br, 2, none⟩ (.int .i64 (s2 : Int))).drew).heap.size = w1.heap.size := by show (w1.setCell ⟨br, 2, none⟩ (.int .i64 (s2 : Int))).heap.size = _; simp [World.setCell]
      rw [hh] at hap
      exact hap
    clear hq c0 c1
    go_wp2_with (at_builtin; refine wpList_append_run rfl (.tmp 57) (.tmp 61) 52 52 rfl _ _ rfl rfl hap ?_; clear hap)
    exact HX.out
  · have hbi : ¬ (3 : Int) * (size : Int) < 4 * ((n : Int) + 1) := by omega
    go_enter Try.func19, Try.ntmps19
    go_wp2_with (go_at_call 45; refine hat.mono ?_; rintro e w1 ⟨rfl, s1⟩; obtain ⟨c0, c1, c2⟩ := (HT.out.stay s1).cells; rw [← HN.out] at c1; have HS : Hid (Stay w w1) := s1; clear hat s1)
    go_region
    have tV : RTab w1.drew br way a b c ps size ∧ Turn (rfoot br a ps.length c) w w1.drew := ⟨HT.out.stay (HS.out.trans (Stay.drew _)), Turn.of_stay (HS.out.trans (Stay.drew _))⟩
    obtain ⟨a', b', c', W2, hap, hc, hf, hI, ht, hat⟩ := tV.1.push HK.out.1 HK.out.2 (by have := HN.out; omega)
    have HX : Hid (R (.returned (.tuple #[.int .i64 0, .bool false])) (W2.setCell ⟨br, 1, none⟩ (.slice a' (n + 1) c'))) := by
      show R _ _
      rw [HR.out, HN.out]
      refine ⟨rfl, a', b', c', ?_, tV.2.trans ht, ?_⟩
      · rw [show putS ps.length size = size from by unfold putS; rw [← HN.out]; rw [if_neg hb]]
        exact hI
      · rcases hat with g | g
        · exact .inl g
        · exact .inr fun k hk => Nat.le_trans tV.2.size (g k hk)
    obtain ⟨d0, d1, d2⟩ := tV.1.cells
    rw [← HN.out] at hap hc d1
    clear hI ht hat tV HR
    generalize hq : n + 1 = q  at hap HX
    have hap : (Builtin.append_ #[52, 52] 52 #[.slice a n c, .slice (some ⟨w1.heap.size, 0, none⟩) 1 1]).run Try.prog (w1.alloc (.cells #[.int .i64 key, .int .i64 val] 77)).drew = .ok (.slice a' q c') W2 := hap
    clear hq c0 c1
    go_wp2_with (at_builtin; refine wpList_append_run rfl (.tmp 57) (.tmp 61) 52 52 rfl _ _ rfl rfl hap ?_; clear hap)
    exact HX.out
end Go.Proofs.Ytdnophgcdnghkaa.I
namespace Go.Proofs.Ytdnophgcdnghkaa.I
open Go.RowKit Go.Maps

/-- A list without the one at i, of its first j. -/
def restG {α : Type} (l : List α) (i j : Nat) : List α := l.take (min j i) ++ (l.drop (i + 1)).take (j - (i + 1))
section
variable {α : Type} {l : List α} {i j : Nat}
theorem restG_zero : restG l i 0 = [] := by simp [restG]
theorem restG_same : restG l i (i + 1) = restG l i i := by simp [restG]
theorem restG_step (h : j < l.length) (hne : j ≠ i) : restG l i (j + 1) = restG l i j ++ [l[j]] := by
  unfold restG
  rcases Nat.lt_or_gt_of_ne hne with h1 | h1
  · rw [Nat.min_eq_left (by omega), Nat.min_eq_left (by omega), show j + 1 - (i + 1) = 0 by omega, show j - (i + 1) = 0 by omega, List.take_zero, List.append_nil, List.append_nil, List.take_add_one, List.getElem?_eq_getElem h, Option.toList_some]
  · rw [Nat.min_eq_right (by omega), Nat.min_eq_right (by omega), show j + 1 - (i + 1) = j - (i + 1) + 1 by omega, List.take_add_one, List.getElem?_drop, show i + 1 + (j - (i + 1)) = j by omega, List.getElem?_eq_getElem h, Option.toList_some, List.append_assoc]
theorem restG_all (h : i < l.length) : restG l i l.length = l.eraseIdx i := by
  unfold restG
  rw [Nat.min_eq_right (by omega), List.take_of_length_le (l := l.drop (i + 1)) (by rw [List.length_drop]; omega), List.eraseIdx_eq_take_drop_succ]
theorem restG_len : (restG l i j).length ≤ j := by
  unfold restG
  rw [List.length_append, List.length_take, List.length_take]
  omega
end
theorem OwnR.down {α : Type} {t : TypeId} {n : Nat} {enc : α → List Value} {b0 base : Nat} {w : World} {v : Value} {xs : List α} (h : w.ownsRow base t n v xs.length (cellsR enc xs)) (hb : b0 ≤ base) : OwnR t n enc b0 w v xs := by
  refine ⟨h.1, ?_⟩
  rcases h.2 with hx | ⟨b, c, cur, hv, hbb, rest⟩
  · exact .inl hx
  · exact .inr ⟨b, c, cur, hv, Nat.le_trans hb hbb, rest⟩
variable {w w' : World} {br : Nat} {way : Int} {a : Option Addr} {b c : Nat} {ps : List (Int × Int)} {size : Nat}
/-- The pairs are another list, laid anew. -/
theorem RTab.setP (h : RTab w br way a b c ps size) {W : World} (hs : Stay w W) {v : Value} {rs : List (Int × Int)} (hO : OwnR 77 2 encPr w.heap.size W v rs) (hk : ∀ p ∈ rs, p ∈ ps) :
    ∃ a' b' c', v = .slice a' rs.length c' ∧ RTab (W.setCell ⟨br, 1, none⟩ v) br way a' b' c' rs size ∧ Turn (rfoot br a ps.length c) w (W.setCell ⟨br, 1, none⟩ v) ∧ ∀ k, v.ownBlock = some k → w.heap.size ≤ k := by
  obtain ⟨a', b', c', rfl, -, -, hp, -⟩ := hO.form encPrOk
  have hbr := (Array.getElem?_eq_some_iff.1 h.box).1
  have hbx := (hs.block br hbr).trans h.box
  have hap : (Value.slice a' rs.length c').ownBlock ≠ some br := fun e => by
    have := (hO.lt br e).1
    omega
  refine ⟨a', b', c', rfl, ⟨?_, ?_, hp, hap, fun p hp' => h.keys p (hk p hp'), h.wayOk⟩, (Turn.of_stay hs).set (.inl rfl) _ _, fun k hk => (hO.lt k hk).1⟩
  · simp [World.setCell, Array.getElem?_modify, hbx]
  · have := ((Turn.refl (fun k => k = br) W).set rfl 1 (.slice a' rs.length c')).row hO (fun k hk e => hap (e ▸ hk))
    exact Go.Proofs.Ytdnophgcdnghkaa.I.OwnR.down this (Nat.zero_le _)
set_option maxRecDepth 100000 in
theorem rTake_no (h : RTab w br way a b c ps size) (key : Int) (hk : KeyOk key) (hn : ps.length ≤ 1099511627776) (ho : atN way ps key = none) : Calls Try.prog 28 #[.pointer (some ⟨br, 0, none⟩), .int .i64 key] w fun e w' => e = .returned (.tuple #[.int .i64 0, .bool false]) ∧ Stay w w' := by
  have hat := rAt_any h key hk hn
  rw [ho] at hat
  dsimp only [atZ] at hat
  clear h
  go_enter Try.func28, Try.ntmps28
  go_wp2_with (go_at_call 45; refine hat.mono ?_; rintro e w1 ⟨rfl, s1⟩)
  go_ret2
  exact ⟨rfl, s1⟩
def TakeR (w : World) (br : Nat) (way : Int) (a : Option Addr) (c : Nat) (ps : List (Int × Int)) (size i : Nat) (e : Ending) (w' : World) : Prop :=
  e = .returned (.tuple #[.int .i64 (getV ps (some i)), .bool true]) ∧ ∃ a' b' c', RTab w' br way a' b' c' (ps.eraseIdx i) size ∧ Turn (rfoot br a ps.length c) w w' ∧ ∀ k, (Value.slice a' (ps.eraseIdx i).length c').ownBlock = some k → w.heap.size ≤ k
set_option maxRecDepth 100000 in
set_option maxHeartbeats 1000000 in
theorem rTake_yes (h : RTab w br way a b c ps size) (key : Int) (hk : KeyOk key) (hn : ps.length ≤ 1099511627776) {i : Nat} (ho : atN way ps key = some i) : Calls Try.prog 28 #[.pointer (some ⟨br, 0, none⟩), .int .i64 key] w (TakeR w br way a c ps size i) := by
  have hat := rAt_any h key hk hn
  rw [ho] at hat
  have hi := atN_lt ho
  obtain ⟨R, hR⟩ : ∃ R, R = TakeR w br way a c ps size i := ⟨_, rfl⟩
  rw [← hR]
  have HR : Hid (R = TakeR w br way a c ps size i) := hR
  have HT : Hid (RTab w br way a b c ps size) := h
  obtain ⟨n, hn'⟩ : ∃ n, n = ps.length := ⟨_, rfl⟩
  have HN : Hid (n = ps.length) := hn'
  rw [← hn'] at hn
  have hi0 : ¬ ((i : Int) < 0) := by omega
  have hii : (i : Int) < (n : Int) := by omega
  dsimp only [atZ] at hat
  clear h ho hk hR hn'
  go_enter Try.func28, Try.ntmps28
  go_wp2_with (go_at_call 45; refine hat.mono ?_; rintro e w1 ⟨rfl, s1⟩; have HS : Hid (Stay w w1) := s1; obtain ⟨c0, c1, c2⟩ := (HT.out.stay s1).cells; rw [← HN.out] at c1; obtain ⟨rfl, d0, d1⟩ := (HT.out.stay s1).pair hi; clear hat s1)
  have HO : Hid (getV ps (some i) = ps[i].2) := by show (ps[i]?.getD (0, 0)).2 = ps[i].2; rw [List.getElem?_eq_getElem hi, Option.getD_some]
  clear c0 c1 c2 d0 d1
  generalize ps[i].2 = old at *
  go_loopw [8, 9] (fun vv u wr => ∃ (j : Nat) (v0 : Value), v0 = vv ∧ j ≤ n ∧ u = .int .i64 (j : Int) ∧ OwnR 77 2 encPr w1.heap.size wr v0 (restG ps i j) ∧ Stay w1 wr) (fun _ u _ => n - (intOf u).toNat)
  case atStart => exact ⟨0, _, rfl, Nat.zero_le _, rfl, by rw [restG_zero]; exact OwnR.nil, Stay.refl _⟩
  case round =>
    obtain ⟨j, v0, rfl, hj, rfl, hO, hst⟩ := hrel
    obtain ⟨c0, c1, c2⟩ := (HT.out.stay (HS.out.trans hst)).cells
    rw [← HN.out] at c1
    by_cases hlt : j < n
    · have hji : (j : Int) < (n : Int) := by omega
      have hjl : j < ps.length := by have := HN.out; omega
      by_cases hne : j = i
      · have hnb : ((j : Int) != (i : Int)) = false := by simp [hne]
        have hre : restG ps i (j + 1) = restG ps i j := by rw [hne]; exact restG_same
        have HX : Hid (OwnR 77 2 encPr w1.heap.size wr v0 (restG ps i (j + 1)) ∧ Stay w1 wr) := ⟨by rw [hre]; exact hO, hst⟩
        clear hO hst hne hre
        go_wp2_with fail
        go_roundw
        case rel => exact ⟨j + 1, _, rfl, by omega, by simp, HX.out⟩
        case measure => simp [intOf]; omega
      · have hnb : ((j : Int) != (i : Int)) = true := by simp; omega
        obtain ⟨-, d0, d1⟩ := (HT.out.stay (HS.out.trans hst)).pair hjl
        have hrl := restG_len (l := ps) (i := i) (j := j)
        obtain ⟨a3, b3, c3, w5, hap, hO5, -, q1, q2, q3, hB5, -, hz5⟩ := own_push1 encPrOk Try.underlying52 infoPr rfl hO ps[j] (by unfold maxLen; omega) (by omega) hst.size 52
        have HX : Hid (OwnR 77 2 encPr w1.heap.size w5 (.slice a3 ((restG ps i j).length + 1) c3) (restG ps i (j + 1)) ∧ Stay w1 w5) := ⟨by rw [restG_step hjl hne]; exact hO5, ⟨q1.trans hst.os, q2.trans hst.tape, q3.trans hst.output, Nat.le_trans hst.size (Nat.le_of_lt hz5), fun k hk => (hB5 k (Nat.lt_of_lt_of_le hk hst.size) (fun e => by have := (hO.lt k e).1; omega)).trans (hst.block k hk)⟩⟩
        clear hO hst hO5 hB5 hne hrl q1 q2 q3 hz5
        dsimp only [encPr] at hap
        generalize ps[j] = p at *
        obtain ⟨p1, p2⟩ := p
        dsimp only at *
        generalize (restG ps i j).length + 1 = q at *
        go_wp2_with (at_builtin; refine wpList_append_run rfl (.tmp 35) (.tmp 43) 52 52 rfl _ _ rfl rfl hap ?_; clear hap)
        go_roundw
        case rel => exact ⟨j + 1, _, rfl, by omega, by simp, HX.out⟩
        case measure => simp [intOf]; omega
    · obtain rfl : n = j := by omega
      rw [HN.out, restG_all hi] at hO
      obtain ⟨a', b', c', rfl, hT', ht', hf'⟩ := (HT.out.stay HS.out).setP hst hO (fun p hp => List.mem_of_mem_eraseIdx hp)
      have hfz : wr.frozen? ⟨br, 1, none⟩ = false := (HT.out.stay (HS.out.trans hst)).frozen 1
      have HX : Hid (R (.returned (.tuple #[.int .i64 old, .bool true])) (wr.setCell ⟨br, 1, none⟩ (.slice a' (ps.eraseIdx i).length c'))) := by
        show R _ _
        rw [HR.out]
        exact ⟨by rw [HO.out], a', b', c', hT', (Turn.of_stay HS.out).trans ht', fun k hk => Nat.le_trans HS.out.size (hf' k hk)⟩
      clear hO hst hT' ht' hf' HR
      generalize (ps.eraseIdx i).length = q at *
      go_wp2_with fail
      exact HX.out
end Go.Proofs.Ytdnophgcdnghkaa.I
namespace Go.Proofs.Ytdnophgcdnghkaa.I
open Go.RowKit Go.Maps

variable {w w' : World} {br : Nat} {way : Int} {a : Option Addr} {b c : Nat} {ps : List (Int × Int)} {size : Nat}
theorem rNew_any (w : World) (way : Int) (hw : KeyOk way) : Calls Try.prog 8 #[.int .i64 way] w fun e w' => e = .returned (.pointer (some ⟨w.heap.size, 0, none⟩)) ∧ RTab w' w.heap.size way none 0 0 [] 8 ∧ Stay w w' := by
  have HW : Hid (KeyOk way) := hw
  clear hw
  go_enter Try.func8, Try.ntmps8
  go_wp2
  go_ret
  exact ⟨rfl, ⟨heap_new _ _, OwnR.nil, fun h => absurd h (Nat.lt_irrefl _), (fun e => by cases e), fun _ h => absurd h List.not_mem_nil, HW.out⟩, Stay.new _ _⟩

set_option maxRecDepth 100000 in
theorem rhome_any (h : RTab w br way a b c ps size) (key : Int) (hk : KeyOk key) (hs0 : 0 < size) (hs : size ≤ 4398046511104) : Calls Try.prog 51 #[.pointer (some ⟨br, 0, none⟩), .int .i64 key] w fun e w' => e = .returned (.int .i64 ((hashOf way key % size : Nat) : Int)) ∧ Stay w w' := by
  have hh := fun W => rhash_any W way key h.wayOk hk
  obtain ⟨c0, c1, c2⟩ := h.cells
  have hl := hash_lt way key
  obtain ⟨r, hr⟩ : ∃ r, r = hashOf way key % size := ⟨_, rfl⟩
  have hrl : r < size := by rw [hr]; exact Nat.mod_lt _ hs0
  rw [← hr]
  obtain ⟨x, hx⟩ : ∃ x, x = hashOf way key := ⟨_, rfl⟩
  rw [← hx] at hh hr hl
  have e1 : IntKind.u64.wrap (size : Int) = (size : Int) := by rw [wrapu]; omega
  have e2 : ((x : Int).tmod (size : Int)) = (r : Int) := by rw [hr]; rfl
  have e3 : IntKind.i64.wrap (r : Int) = (r : Int) := by simp only [IntKind.wrap_i64]; omega
  have e4 : ((size : Int) == 0) = false := by simp; omega
  have e5 : IntKind.u64.wrap (r : Int) = (r : Int) := by rw [wrapu]; omega
  clear hr hx h
  go_enter Try.func51, Try.ntmps51
  go_wp2_with fail
  go_quiet ((first | (go_at_call 21; exact Calls.quiet_of_same (hh _))))
  go_wp2_with fail
  go_ret
  exact ⟨rfl, Stay.drewN _ _⟩
theorem step_append_run {P : Program} {ops : Array Oper} {o : Oper} {a : Act} {w : World} {K : Act → World → Prop} {Q : Exit → Act → World → Prop} {E : Prop} (hg : o.guard = none) (s x : Operand) (t u : TypeId)
    (ho : o.op = .call { callee := .builtin .append, args := #[s, x], argTypes := #[t, u] }) {v z : Value} (hs : a.eval s = v) (hx : a.eval x = z) {v' : Value} {w' : World}
    (hr : (Builtin.append_ #[t, u] o.type #[v, z]).run P w = .ok v' w') (h : K (a.put o.dst v') w') : if Region.wanted o (yielded ops a.tmps) = true then Oper.wp P o a w K Q else E := by
  have hw : Region.wanted o (yielded ops a.tmps) = true := by simp [Region.wanted, hg]
  rw [if_pos hw]
  unfold Oper.wp
  simp only [execOp, ho, resolve, invoke, builtin, Sem.run_bind, Sem.run_pure, Result.andThen_ok, List.map_toArray, List.map_cons, List.map_nil, hs, hx, hr]
  exact h

def CopyR (w : World) (way : Int) (ps : List (Int × Int)) (size : Nat) (e : Ending) (w' : World) : Prop :=
  ∃ a' b' c', e = .returned (.pointer (some ⟨w.heap.size, 0, none⟩)) ∧ RTab w' w.heap.size way a' b' c' ps size ∧ Stay w w' ∧ ∀ k, (Value.slice a' ps.length c').ownBlock = some k → w.heap.size ≤ k
set_option maxRecDepth 100000 in
set_option maxHeartbeats 2000000 in
theorem rCopy_any (h : RTab w br way a b c ps size) (hn : ps.length ≤ 1099511627776) : Calls Try.prog 33 #[.pointer (some ⟨br, 0, none⟩)] w (CopyR w way ps size) := by
  obtain ⟨R, hR⟩ : ∃ R, R = CopyR w way ps size := ⟨_, rfl⟩
  rw [← hR]
  have HR : Hid (R = CopyR w way ps size) := hR
  have HT : Hid (RTab w br way a b c ps size) := h
  obtain ⟨n, hn'⟩ : ∃ n, n = ps.length := ⟨_, rfl⟩
  have HN : Hid (n = ps.length) := hn'
  rw [← hn'] at hn
  obtain ⟨c0, c1, c2⟩ := h.cells
  clear h hR hn'
  go_enter Try.func33, Try.ntmps33
  go_wp2_with fail
  go_region
  go_wp2_with fail
  clear c0 c1 c2
  go_loopw [4] (fun u wr => ∃ (j : Nat) (a' : Option Addr) (b' c' : Nat), j ≤ n ∧ u = .int .i64 (j : Int) ∧ RTab wr w.heap.size way a' b' c' (ps.take j) size ∧ Stay w wr ∧ ∀ k, (Value.slice a' (ps.take j).length c').ownBlock = some k → w.heap.size ≤ k) (fun u _ => n - (intOf u).toNat)
  case atStart => exact ⟨0, none, 0, 0, Nat.zero_le _, rfl, ⟨heap_new w _, OwnR.nil, fun h => absurd h (Nat.lt_irrefl _), (fun e => by cases e), fun _ h => absurd h List.not_mem_nil, HT.out.wayOk⟩, (Stay.new w _).trans (Stay.drew _), (fun k e => by cases e)⟩
  case round =>
    obtain ⟨j, a', b', c', hj, rfl, hC, hst, hfr⟩ := hrel
    obtain ⟨t0, t1, t2⟩ := (HT.out.stay hst).cells
    rw [← HN.out] at t1
    by_cases hlt : j < n
    · have hji : (j : Int) < (n : Int) := by omega
      have hjl : j < ps.length := by have := HN.out; omega
      obtain ⟨rfl, d0, d1⟩ := (HT.out.stay hst).pair hjl
      have htl : (ps.take j).length = j := by rw [List.length_take]; omega
      have htk : ps.take (j + 1) = ps.take j ++ [ps[j]] := by rw [List.take_add_one, List.getElem?_eq_getElem hjl, Option.toList_some]
      obtain ⟨a2, b2, c2', W2, hap, hc, hf, hI, ht, hat⟩ := (hC.stay (Stay.drew wr)).push (HT.out.keys _ (List.getElem_mem hjl)).1 (HT.out.keys _ (List.getElem_mem hjl)).2 (by rw [htl]; omega)
      obtain ⟨u0, u1, u2⟩ := hC.cells
      rw [htl] at hap hc u1
      have hst2 : Stay w (W2.setCell ⟨w.heap.size, 1, none⟩ (.slice a2 ((ps.take j).length + 1) c2')) := ht.stay (hst.trans (Stay.drew wr)) (fun k hk hr => by
        rcases hr with rfl | hr
        · omega
        · have := hfr k hr; omega)
      have HX : Hid (RTab (W2.setCell ⟨w.heap.size, 1, none⟩ (.slice a2 (j + 1) c2')) w.heap.size way a2 b2 c2' (ps.take (j + 1)) size ∧ Stay w (W2.setCell ⟨w.heap.size, 1, none⟩ (.slice a2 (j + 1) c2')) ∧ ∀ k, (Value.slice a2 (ps.take (j + 1)).length c2').ownBlock = some k → w.heap.size ≤ k) := by
        rw [htl] at hI hst2 hat
        refine ⟨by rw [htk]; exact hI, hst2, fun k hk => ?_⟩
        rw [htk, List.length_append, List.length_singleton, htl] at hk
        rcases hat with g | g
        · exact hfr k (by rw [htl, ← g]; exact hk)
        · exact Nat.le_trans hst.size (show wr.heap.size ≤ k from g k hk)
      have z1 : w.heap.size < wr.heap.size := (Array.getElem?_eq_some_iff.1 hC.box).1
      have z2 : br < wr.heap.size := World.block_lt_of_cell? wr _ t1
      have z3 : b < wr.heap.size := World.block_lt_of_cell? wr _ d0
      clear hI ht hat hC hst hfr hst2 htl htk
      generalize ps[j] = p at *
      obtain ⟨p1, p2⟩ := p
      dsimp only at *
      generalize hq : j + 1 = q at hap HX
      have HQ : Hid (j + 1 = q) := hq
      clear hq
      go_wp2_with fail
      go_region_law (first
        | (refine step_append_run rfl _ _ _ _ rfl (by first | rfl | simp [Act.eval, Act.put]) (by first | rfl | simp [Act.eval, Act.put]) hap ?_; clear hap))
      all_goals
        go_wp2_with fail
        go_roundw
        case rel =>
          have hqq := HQ.out
          subst hqq
          exact ⟨j + 1, a2, b2, c2', by omega, by simp, HX.out⟩
        case measure => simp [intOf]; omega
    · obtain rfl : n = j := by omega
      have HX : Hid (R (.returned (.pointer (some ⟨w.heap.size, 0, none⟩))) wr) := by
        show R _ _
        rw [HR.out]
        rw [HN.out, List.take_of_length_le (Nat.le_refl _)] at hC hfr
        exact ⟨a', b', c', rfl, hC, hst, hfr⟩
      clear hC hst hfr HR
      go_wp2_with fail
      exact HX.out
end Go.Proofs.Ytdnophgcdnghkaa.I
