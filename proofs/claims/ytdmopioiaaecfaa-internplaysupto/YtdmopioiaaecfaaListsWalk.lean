/- InternLists: its walk. -/
import Derived.Test.YtdmopioiaaecfaaTextsB
import Derived.Test.YtdmopioiaaecfaaGoes
import Derived.Test.YtdmopioiaaecfaaRanksWalk
namespace Go.Proofs.Ytdmopioiaaecfaa
open Go.RowKit Go.Maps

theorem IntsS.below {w w' : World} {a : Option Addr} {b off : Nat} {zs : List Int} (h : IntsS w a b off zs) (hB : Below w.heap.size w w') : IntsS w' a b off zs :=
  ⟨h.1, fun j hj => (hB.cell (p := ⟨b, off + j, none⟩) (World.block_lt_of_cell? w _ (h.2 j hj))).trans (h.2 j hj)⟩

theorem IntsS.pick {w : World} {a : Option Addr} {b off : Nat} {zs : List Int} (h : IntsS w a b off zs) (h0 : 0 < w.heap.size) : ∃ b', IntsS w a b' off zs ∧ b' < w.heap.size := by
  cases zs with
  | nil => exact ⟨0, ⟨fun h => absurd h (Nat.lt_irrefl _), fun j hj => by simp at hj⟩, h0⟩
  | cons z l => exact ⟨b, h, World.block_lt_of_cell? w _ (h.2 0 (by simp))⟩

theorem StrsAt.pick {w : World} {a : Option Addr} {b off : Nat} {ss : List ByteArray} (h : StrsAt w a b off ss) (n : Nat) : ∃ b', StrsAt w a b' off ss ∧ (b' < w.heap.size ∨ b' = n) := by
  cases ss with
  | nil => exact ⟨n, ⟨fun h => absurd h (Nat.lt_irrefl _), fun j hj => by simp at hj⟩, .inr rfl⟩
  | cons s l => exact ⟨b, h, .inl (World.block_lt_of_cell? w _ (h.2 0 (by simp)))⟩

/-- The document's table with no texts, in a new block. -/
theorem rtab_new (w : World) : RTab (w.alloc (.cells #[.slice none 0 0] 29)) w.heap.size (.slice none 0 0) [] :=
  ⟨heap_new _ _, by simpa using World.ownsRow_nil (w.alloc (.cells #[.slice none 0 0] 29)) 0 9 1, List.nodup_nil⟩

/-- A place of a row is written over. -/
theorem row_store {w : World} {base n k : Nat} {t : TypeId} {v : Value} {xs : List Value} (h : w.ownsRow base t 1 v n xs) (hk : k < n) (u : Value) :
    ∃ g c, v = .slice (some ⟨g, 0, none⟩) n c ∧ (∃ x, w.cell? ⟨g, k, none⟩ = some x) ∧ w.frozen? ⟨g, k, none⟩ = false ∧ (w.setCell ⟨g, k, none⟩ u).ownsRow base t 1 v n (xs.set k u) := by
  have hl := h.1
  rcases h.2 with ⟨hx, hn⟩ | ⟨g, cap, cur, hv, hb, hh, h1, h2, h3, h4⟩
  · omega
  · refine ⟨g, cap, hv, ⟨cur[k]'(by omega), by simp [World.cell?, hh, show k < cur.size by omega]⟩, by simp [World.frozen?, hh], by simpa using hl, .inr ⟨g, cap, cur.setIfInBounds k u, hv, hb, ?_, h1, h2, by simpa using h3, ?_⟩⟩
    · simp only [World.setCell, Array.getElem?_modify, hh]
      simp
    · rw [Array.toList_setIfInBounds, List.take_set, h4]

theorem row_base {w : World} {base base' n : Nat} {t : TypeId} {v : Value} {xs : List Value} (h : w.ownsRow base t 1 v n xs) (hb : base' ≤ base) : w.ownsRow base' t 1 v n xs :=
  ⟨h.1, h.2.imp id (fun ⟨g, cap, cur, h1, h2, h3⟩ => ⟨g, cap, cur, h1, Nat.le_trans hb h2, h3⟩)⟩

theorem row_below {w w' : World} {base n : Nat} {t : TypeId} {v : Value} {xs : List Value} (h : w.ownsRow base t 1 v n xs) (hB : Below w.heap.size w w') : w'.ownsRow base t 1 v n xs :=
  (Turn.of_below hB).row h (fun k hk e => by have := (h.lt k hk).2; omega)

theorem row_drewN {w : World} {base n m : Nat} {t : TypeId} {v : Value} {xs : List Value} (h : w.ownsRow base t 1 v n xs) : (w.drewN m).ownsRow base t 1 v n xs := (Turn.drewN (fun _ => False) w m).row h (fun _ _ e => e)

theorem below_drewN {n m : Nat} {w w' : World} (h : Below n w w') : Below n w (w'.drewN m) := ⟨h.os, h.tape, h.output, h.size, h.block⟩

theorem sameTexts_same (w : World) (a1 a2 : Option Addr) (b1 o1 b2 o2 c1 c2 : Nat) (xs : List ByteArray) (hx : StrsAt w a1 b1 o1 xs) (hy : StrsAt w a2 b2 o2 xs) (hlx : xs.length ≤ maxLen) :
    Calls Try.prog 27 #[.slice a1 xs.length c1, .slice a2 xs.length c2] w fun e w' => e = .returned (.bool true) ∧ ∃ n, w' = w.drewN n := by
  refine (sameTexts_any w a1 a2 b1 o1 b2 o2 c1 c2 xs xs hx hy hlx hlx).mono ?_
  rintro e w' ⟨q, rfl, hq, hn⟩
  rw [hq.2 rfl]
  exact ⟨rfl, hn⟩

/-- Three lists, told apart, and the two tables. -/
structure Lists (w wt : World) (bt bm g c br : Nat) (sv v1 v2 v3 : Value) (ts us : List ByteArray) (W : World) : Prop where
  below : Below w.heap.size w W
  grown : Below wt.heap.size wt W
  t : Tab wt bt bm g c ts
  r : RTab wt br sv ts
  l1 : W.ownsRow wt.heap.size 9 1 v1 us.length (us.map Value.string)
  l2 : W.ownsRow wt.heap.size 9 1 v2 us.length (us.map Value.string)
  l3 : W.ownsRow wt.heap.size 9 1 v3 us.length (us.map Value.string)
  apart2 : ∀ k, v1.ownBlock = some k → v2.ownBlock ≠ some k
  apart3 : ∀ k, v1.ownBlock = some k → v3.ownBlock ≠ some k
  own : ∀ k, v1.ownBlock = some k → w.heap.size ≤ k

theorem lists_drewN {w wt W : World} {bt bm g c br : Nat} {sv v1 v2 v3 : Value} {ts us : List ByteArray} (h : Lists w wt bt bm g c br sv v1 v2 v3 ts us W) (n : Nat) : Lists w wt bt bm g c br sv v1 v2 v3 ts us (W.drewN n) :=
  ⟨below_drewN h.below, below_drewN h.grown, h.t, h.r, row_drewN h.l1, row_drewN h.l2, row_drewN h.l3, h.apart2, h.apart3, h.own⟩

/-- Behind the stores and the appends to the first list. -/
theorem Lists.behind {w wt W W' : World} {bt bm g c br : Nat} {sv v1 v2 v3 : Value} {ts us : List ByteArray} (h : Lists w wt bt bm g c br sv v1 v2 v3 ts us W) (ht : Turn (fun j => v1.ownBlock = some j) W W') :
    Below w.heap.size w W' ∧ Tab W' bt bm g c ts ∧ RTab W' br sv ts ∧ W'.ownsRow wt.heap.size 9 1 v2 us.length (us.map Value.string) ∧ W'.ownsRow wt.heap.size 9 1 v3 us.length (us.map Value.string) := by
  have hlt := h.t.lt
  have hrl := h.r.lt
  have hge : ∀ k, v1.ownBlock = some k → wt.heap.size ≤ k := fun k hk => (h.l1.lt k hk).1
  refine ⟨h.below.trans (ht.below h.below.size h.own), ?_, ?_, ht.row h.l2 (fun k hk e => h.apart2 k e hk), ht.row h.l3 (fun k hk e => h.apart3 k e hk)⟩
  · exact (h.t.kept (Turn.of_below h.grown) (by rintro k (rfl | rfl | rfl) <;> omega)).kept ht (by rintro k (rfl | rfl | rfl) e <;> (have := hge _ e; omega))
  · exact (h.r.below h.grown).kept ht (fun k hk e => by have := hge _ e; have := hrl k hk; omega)

set_option maxRecDepth 100000 in
set_option maxHeartbeats 2000000 in
theorem lists_walk (w : World) (a a' : Option Addr) (b off cap b' off' cap' : Nat) (ss : List ByteArray) (zs : List Int) (hS : StrsAt w a b off ss) (hZ : IntsS w a' b' off' zs) (ha : a = none → cap = 0 ∧ ss = []) (hsz : ∀ s ∈ ss, s.size ≤ 281474976710656) (hb : (ss.length + 2) * 16 ≤ 140737488355328)
    (hz : (zs.length + 70) * 16 ≤ 140737488355328) :
    Calls Try.prog 5 #[.slice a ss.length cap, .slice a' zs.length cap'] w fun e w' => e = .returned (.bool true) ∧ Below w.heap.size w w' := by
  obtain ⟨i0, hi, hz0, hz1, hz2⟩ := info_parts info9
  have HS : Hid (StrsAt w a b off ss) := hS
  have HZ : Hid (IntsS w a' b' off' zs) := hZ
  have Hsz : Hid (∀ s ∈ ss, s.size ≤ 281474976710656) := hsz
  have Ha : Hid (a = none → cap = 0 ∧ ss = []) := ha
  clear hS hsz ha hZ
  go_enter Try.func5, Try.ntmps5
  go_wp2_with fail
  refine (new_any _).mono ?_
  rintro e w1 ⟨rfl, bm, g, c1, hT1, h1, h2, h3, hB1⟩
  have HT1 : Hid (Tab w1 (w.heap.size + 2) bm g c1 [] ∧ w.heap.size ≤ bm ∧ w.heap.size ≤ g ∧ Below w.heap.size w w1) := ⟨hT1, h2, h3, hB1⟩
  clear hT1 h1 h2 h3 hB1
  have hlt1 := HT1.out.1.lt
  have hs1 := HT1.out.2.2.2.size
  have hB1' : Below w.heap.size w (w1.alloc (.cells #[.slice none 0 0] 29)) := HT1.out.2.2.2.alloc hs1 _
  have hlent := lent_any (w1.alloc (.cells #[.slice none 0 0] 29)) a b off cap ss (HS.out.below hB1') Ha.out hb
  go_wp2_with fail
  refine hlent.mono ?_
  rintro e w2 ⟨bl, cl, rfl, hrow, hB2⟩
  clear hlent
  have hR2 : RTab w2 w1.heap.size (.slice none 0 0) [] := (rtab_new w1).below hB2
  have hT2 : Tab w2 (w.heap.size + 2) bm g c1 [] := (HT1.out.1.kept (Turn.alloc (fun _ => False) w1 (.cells #[.slice none 0 0] 29)) (fun _ _ e => e)).kept (Turn.of_below hB2) (by rw [World.size_alloc]; rintro k (rfl | rfl | rfl) <;> omega)
  obtain ⟨hl1, hl2⟩ := row_lt hrow
  rw [World.size_alloc] at hl1
  have hput := putAll_yes hT2 ss (some ⟨bl, 0, none⟩) bl 0 cl (strs_of_row hrow) (by rintro k (rfl | rfl | rfl) <;> omega) Hsz.out (by simp; omega)
  have HB2 : Hid (Below w.heap.size w w2 ∧ RTab w2 w1.heap.size (.slice none 0 0) [] ∧ w1.heap.size < w2.heap.size) := ⟨hB1'.trans (hB2.mono (by rw [World.size_alloc]; omega)), hR2, by omega⟩
  clear hT2 hR2 hB2 hrow hB1'
  go_wp2_with fail
  refine hput.mono ?_
  rintro e w3 ⟨rfl, _, gt, ct, hT3, hg3, ht3⟩
  have hB3 : Below w.heap.size w w3 := HB2.out.1.trans (ht3.below HB2.out.1.size (by have := HT1.out.2; rintro k (rfl | rfl | rfl) <;> omega))
  have hR3 : RTab w3 w1.heap.size (.slice none 0 0) [] := HB2.out.2.1.kept ht3 (by rintro k (rfl | e) (e2 | e2 | e2) <;> first | omega | simp [Value.ownBlock] at e)
  obtain ⟨bb, hSb, hbb⟩ := HS.out.pick w3.heap.size
  have hs3 := ht3.size
  have hs2 := HB2.out.2.2
  have hrput := rputAll_yes hR3 ss a bb off cap (hSb.below hB3) (by rintro k (rfl | e) <;> first | omega | simp [Value.ownBlock] at e) (by simp; omega)
  have HT3 : Hid (Tab w3 (w.heap.size + 2) bm gt ct (putAll [] ss) ∧ (gt = g ∨ w2.heap.size ≤ gt) ∧ Below w.heap.size w w3) := ⟨hT3, hg3, hB3⟩
  clear hput hT3 hg3 ht3 hB3 hR3 hSb hbb
  go_wp2_with fail
  refine hrput.mono ?_
  rintro e w4 ⟨vr, rfl, _, sv, hR4, hsv, ht4⟩
  have hT4 : Tab w4 (w.heap.size + 2) bm gt ct (putAll [] ss) := HT3.out.1.kept ht4 (by have := HT3.out.2.1; rintro k (rfl | rfl | rfl) (e | e) <;> first | omega | simp [Value.ownBlock] at e)
  have hB4 : Below w.heap.size w w4 := HT3.out.2.2.trans (ht4.below HT3.out.2.2.size (by rintro k (rfl | e) <;> first | omega | simp [Value.ownBlock] at e))
  have HT4 : Hid (Tab w4 (w.heap.size + 2) bm gt ct (putAll [] ss) ∧ RTab w4 w1.heap.size sv (putAll [] ss) ∧ Below w.heap.size w w4) := ⟨hT4, hR4, hB4⟩
  clear hrput hT4 hR4 hsv ht4 hB4 HT3 HB2 HT1 hlt1 hl1 hl2 hs3 hs2
  generalize w.heap.size + 2 = bt at HT4 ⊢
  generalize w1.heap.size = br at HT4 ⊢
  generalize hts : putAll [] ss = ts at HT4
  clear hts
  have hs4 := HT4.out.2.2.size
  obtain ⟨bz, hZ4, hbz⟩ := (HZ.out.below HT4.out.2.2).pick (by have := HT4.out.1.lt; omega)
  have HZ4 : Hid (IntsS w4 a' bz off' zs ∧ bz < w4.heap.size) := ⟨hZ4, hbz⟩
  have htx1 := texts_yes HT4.out.1 zs a' bz off' cap' hZ4 hbz (by omega)
  clear hZ4 hbz
  have hul := ttx_len ts zs
  generalize hus : ttx ts zs = us at htx1 hul
  have HUS : Hid (ttx ts zs = us) := hus
  generalize hte : terr ts zs = te at htx1
  have HTE : Hid (terr ts zs = te) := hte
  clear hus hte
  go_wp2_with fail
  refine htx1.mono ?_
  rintro e w5 ⟨v1, rfl, hr5, hB5⟩
  clear htx1
  have HV1 : Hid (w5.ownsRow w4.heap.size 9 1 v1 us.length (us.map Value.string) ∧ Below w4.heap.size w4 w5) := ⟨hr5, hB5⟩
  have hlt4 := HT4.out.1.lt
  have htx2 := texts_yes (HT4.out.1.kept (Turn.of_below hB5) (by rintro k (rfl | rfl | rfl) <;> omega)) zs a' bz off' cap' (HZ4.out.1.below hB5) (by have := HZ4.out.2; have := hB5.size; omega) (by omega)
  rw [HUS.out, HTE.out] at htx2
  clear hr5 hB5
  go_wp2_with fail
  refine htx2.mono ?_
  rintro e w6 ⟨v2, rfl, hr6, hB6⟩
  clear htx2
  have HV2 : Hid (w6.ownsRow w5.heap.size 9 1 v2 us.length (us.map Value.string) ∧ Below w5.heap.size w5 w6) := ⟨hr6, hB6⟩
  have hB46 : Below w4.heap.size w4 w6 := HV1.out.2.trans (hB6.mono HV1.out.2.size)
  have htx3 := rtexts_yes (HT4.out.2.1.below hB46) zs a' bz off' cap' (HZ4.out.1.below hB46) (by have := HZ4.out.2; have := hB46.size; omega) (by omega)
  rw [HUS.out, HTE.out] at htx3
  clear hr6 hB6
  go_wp2_with fail
  refine htx3.mono ?_
  rintro e w7 ⟨v3, rfl, hr7, hB7⟩
  have HL : Hid (Lists w w4 bt bm gt ct br sv v1 v2 v3 ts us w7) := by
    have h5 := HV1.out.2.size
    have h6 := HV2.out.2.size
    have k1 := row_below (row_below HV1.out.1 HV2.out.2) hB7
    have k2 := row_below HV2.out.1 hB7
    have hB47 := hB46.trans (hB7.mono hB46.size)
    refine ⟨HT4.out.2.2.trans (hB47.mono hs4), hB47, HT4.out.1, HT4.out.2.1, k1, row_base k2 h5, row_base hr7 (by omega), ?_, ?_, ?_⟩
    · intro k e e2
      have := (HV1.out.1.lt k e).2
      have := (HV2.out.1.lt k e2).1
      omega
    · intro k e e2
      have := (HV1.out.1.lt k e).2
      have := (hr7.lt k e2).1
      omega
    · intro k e
      have := (HV1.out.1.lt k e).1
      omega
  clear htx3 hr7 hB7 hB46 HV1 HV2 HT4 HZ4 HUS HTE hlt4 hs4
  obtain ⟨_, a1, d1, e1, hv1, hst1, hm1, _⟩ := row_strs HL.out.l1
  obtain ⟨_, a2, d2, e2, hv2, hst2, hm2, _⟩ := row_strs HL.out.l2
  obtain ⟨_, a3, d3, e3, hv3, hst3, hm3, _⟩ := row_strs HL.out.l3
  subst hv1 hv2 hv3
  clear hm2 hm3
  have hsm1 := sameTexts_same w7 a1 a3 d1 0 d3 0 e1 e3 us hst1 hst3 hm1
  have hsm2 : ∀ n, Calls Try.prog 27 #[.slice a2 us.length e2, .slice a3 us.length e3] (w7.drewN n) _ := fun n => sameTexts_same (w7.drewN n) a2 a3 d2 0 d3 0 e2 e3 us (hst2.kept (Turn.drewN (fun _ => False) w7 n) (fun e => e)) (hst3.kept (Turn.drewN (fun _ => False) w7 n) (fun e => e)) hm1
  clear hst1 hst2 hst3
  unfold maxLen at hm1
  have hm1' : (us.length : Int) ≤ 9223372036854775807 := by omega
  have HM : Hid (us.length ≤ zs.length) := hul
  clear hul hm1
  go_wp2_with (first | (go_at_call 24; refine Calls.mono (num_any _ _) ?_; rintro e w' ⟨rfl, hw⟩; have hw' := hw.symm; subst hw') | (go_at_call 27; refine Calls.mono hsm1 ?_; rintro e w' ⟨rfl, n1, rfl⟩; clear hsm1) | (go_at_call 27; refine Calls.mono (hsm2 _) ?_; rintro e w' ⟨rfl, n2, rfl⟩; clear hsm2))
  have HL8 : Hid (Lists w w4 bt bm gt ct br sv (.slice a1 us.length e1) (.slice a2 us.length e2) (.slice a3 us.length e3) ts us (w7.drewN (n1 + n2))) :=
    lists_drewN HL.out _
  clear HL
  generalize w7.drewN (n1 + n2) = w8 at HL8 ⊢
  go_loopw [13] (fun i wr => ∃ (k : Nat) (xs : List Value), k ≤ us.length ∧ i = .int .i64 k ∧ wr.ownsRow w4.heap.size 9 1 (.slice a1 us.length e1) us.length xs ∧ Turn (fun j => (Value.slice a1 us.length e1).ownBlock = some j) w8 wr) (fun i _ => us.length - (intOf i).toNat)
  case atStart => exact ⟨0, _, Nat.zero_le _, rfl, HL8.out.l1, Turn.refl _ _⟩
  case round =>
    obtain ⟨k, xs, hk, rfl, hI, ht⟩ := hrel
    have HT : Hid (Turn (fun j => (Value.slice a1 us.length e1).ownBlock = some j) w8 wr) := ht
    clear ht
    by_cases hlt : k < us.length
    · obtain ⟨g1, cc, hv, ⟨x, hx⟩, hfx, hst⟩ := row_store hI hlt (.string ⟨#[120]⟩)
      simp only [Value.slice.injEq, true_and] at hv
      obtain ⟨rfl, rfl⟩ := hv
      have hkb : (k : Int) < (us.length : Int) := by omega
      have HF : Hid (Turn (fun j => (Value.slice (some ⟨g1, 0, none⟩) us.length e1).ownBlock = some j) w8 (wr.setCell ⟨g1, k, none⟩ (.string ⟨#[120]⟩)) ∧ (wr.setCell ⟨g1, k, none⟩ (.string ⟨#[120]⟩)).ownsRow w4.heap.size 9 1 (.slice (some ⟨g1, 0, none⟩) us.length e1) us.length (xs.set k (.string ⟨#[120]⟩))) :=
        ⟨HT.out.trans (Turn.setCell (fun j => (Value.slice (some ⟨g1, 0, none⟩) us.length e1).ownBlock = some j) wr ⟨g1, k, none⟩ _ rfl) (fun _ _ e => e), hst⟩
      clear hst hI
      go_wp2
      go_roundw
      case rel => exact ⟨k + 1, _, by omega, by go_num, HF.out.2, HF.out.1⟩
      case measure => simp [intOf]; omega
    · go_wp2
      have hs8 := HL8.out.grown.size
      go_loopw [7, 14] (fun v i wr => ∃ (k : Nat) (xs : List Value), k ≤ 70 ∧ i = .int .i64 k ∧ wr.ownsRow w4.heap.size 9 1 v (us.length + k) xs ∧ (∀ j, v.ownBlock = some j → (Value.slice a1 us.length e1).ownBlock = some j ∨ w8.heap.size ≤ j) ∧ Turn (fun j => (Value.slice a1 us.length e1).ownBlock = some j) w8 wr) (fun _ i _ => 70 - (intOf i).toNat)
      case atStart => exact ⟨0, xs, Nat.zero_le _, rfl, hI, fun j e => .inl e, HT.out⟩
      case round =>
        clear HT hI
        obtain ⟨m, ys, hm, rfl, hI, hj, ht⟩ := hrel
        obtain ⟨av, cv, rfl⟩ := row_shape hI
        have HT : Hid ((∀ j, (Value.slice av (us.length + m) cv).ownBlock = some j → (Value.slice a1 us.length e1).ownBlock = some j ∨ w8.heap.size ≤ j) ∧ Turn (fun j => (Value.slice a1 us.length e1).ownBlock = some j) w8 wr) := ⟨hj, ht⟩
        clear hj ht
        have hs9 := HT.out.2.size
        by_cases hlt2 : m < 70
        · have hmb : (m : Int) < 70 := by omega
          have hbb : (us.length + m + 1) * 16 ≤ 140737488355328 := by have := HM.out; omega
          go_wp2_with (at_builtin; refine wpList_append_own_at _ rfl _ _ 27 rfl w4.heap.size 9 i0 _ 1 16 Try.underlying27 hi hz0 hz1 hz2 rfl (by decide) _ _ _ rfl (hI.alloc _) ⟨wr.heap.size, 0, none⟩ 1 1 [.string ⟨#[120]⟩] rfl rfl (cell_one_new _ _ _) (by simp [Value.oneCell']) (by unfold maxLen; omega) hbb (by rw [World.size_alloc]; omega) ?_; intro v' w3 hown hgrow hnil hloc)
          have HF : Hid ((∀ j, v'.ownBlock = some j → (Value.slice a1 us.length e1).ownBlock = some j ∨ w8.heap.size ≤ j) ∧ Turn (fun j => (Value.slice a1 us.length e1).ownBlock = some j) w8 w3) := by
            refine ⟨fun j e => ?_, (HT.out.2.trans (Turn.alloc _ wr _) (fun _ _ e => e)).trans (Turn.of_grown hgrow) (fun i hi e => ?_)⟩
            · rcases hloc with h | h
              · exact HT.out.1 j (h ▸ e)
              · rw [h, World.size_alloc] at e; simp at e; exact .inr (by omega)
            · rcases HT.out.1 i e.symm with h | h
              · exact h
              · omega
          clear hgrow hnil hloc hI
          go_roundw
          case rel => exact ⟨m + 1, _, by omega, by go_num, hown, HF.out⟩
          case measure => simp [intOf]; omega
        · obtain rfl : m = 70 := by omega
          clear hI
          obtain ⟨hbb, hTT, hRR, hll2, hll3⟩ := HL8.out.behind HT.out.2
          obtain ⟨_, a2', d2', e2', hv2, hst2, hm2, _⟩ := row_strs hll2
          obtain ⟨_, a3', d3', e3', hv3, hst3, hm3, _⟩ := row_strs hll3
          simp only [Value.slice.injEq, true_and] at hv2 hv3
          obtain ⟨rfl, rfl⟩ := hv2
          obtain ⟨rfl, rfl⟩ := hv3
          have hsm := sameTexts_same wr a2 a3 d2' 0 d3' 0 e2 e3 us hst2 hst3 hm2
          have hgo : ∀ n, Calls Try.prog 15 #[.pointer (some ⟨bt, 0, none⟩), .pointer (some ⟨br, 0, none⟩), .int .i64 0] (wr.drewN n) _ := fun n => callsIn_wide.1 (goes_yes (wr.drewN n) bt bm gt ct br sv ts 0 (hTT.kept (Turn.drewN (fun _ => False) wr n) (fun _ _ e => e)) (hRR.kept (Turn.drewN (fun _ => False) wr n) (fun _ _ e => e)) (by omega) (by omega))
          have HB : Hid (Below w.heap.size w wr) := hbb
          have h70 : (70 : Int) ≤ ((us.length + 70 : Nat) : Int) := by omega
          have h70' : (70 : Int) ≤ (us.length : Int) + 70 := by omega
          clear hTT hRR hll2 hll3 hst2 hst3 hm2 hm3 hbb
          go_wp2_with (first | (go_at_call 27; refine Calls.mono hsm ?_; rintro e w' ⟨rfl, n3, rfl⟩; clear hsm) | (go_at_call 15; refine Calls.mono (hgo _) ?_; rintro e w10 ⟨rfl, hB10⟩; clear hgo) | (go_at_call 17; refine Calls.mono (known_any _) ?_; rintro e w11 ⟨rfl, hB11⟩))
          go_ret
          have k1 : Below w.heap.size w (wr.drewN n3) := below_drewN HB.out
          have k2 := k1.trans (hB10.mono k1.size)
          exact ⟨rfl, k2.trans (hB11.mono k2.size)⟩
end Go.Proofs.Ytdmopioiaaecfaa
