/- A rule's loose variables, one by one: loose. -/
import Derived.Test.YtpnjmldbohecdaaQJ
namespace Go.Proofs.Ytpnjmldbohecdaa
open Go.RowKit Go.Maps Go.Shelf
attribute [local go_sem] Oper.semAt_some

theorem loose_any (x : Ru) (w : World) : Calls Try.prog 28 #[x.v] w fun e w' => e = .returned (.func (.func 46) #[] #[.pointer (some ⟨w.heap.size, 0, none⟩)]) ∧ w' = w.alloc (.cells #[.string x.head.pred, x.head.sl, .slice x.a x.body.length x.cap] 27) := by
  unfold Ru.v At.sl
  go_enter Try.func28, Try.ntmps28
  go_wp2
  go_ret
  exact ⟨rfl, rfl⟩

set_option maxRecDepth 100000 in
set_option maxHeartbeats 4000000 in
theorem loose_seq (Ow : TypeId → Prop) (hOw : ¬ Ow 87 ∧ ¬ Ow 3 ∧ ¬ Ow 51 ∧ ¬ Ow 27 ∧ ¬ Ow 78 ∧ ¬ Ow 61 ∧ ¬ Ow 66) (x : Ru) (Br : Nat) (Hs : Nat → Prop) (w : World) (hM : x.In w) (hB : w.heap[Br]? = some (.cells #[.string x.head.pred, x.head.sl, .slice x.a x.body.length x.cap] 27 (0, 0))) (hs : x.small) (hr : x.reads Hs) (ht : x.shorts) (hBr : Hs Br) (hHs : ∀ i, Hs i → i < w.heap.size) :
    SeqL Ow Try.prog 46 #[.pointer (some ⟨Br, 0, none⟩)] encIS Hs (looseP x) w := by
  obtain ⟨bs, hbs⟩ : ∃ bs, bs = bindP x.body := ⟨_, rfl⟩
  obtain ⟨xs, hxs⟩ : ∃ xs, xs = sel newC (placesR x) := ⟨_, rfl⟩
  unfold looseP
  rw [← hbs, ← hxs]
  intro l J Jx W hW hJ hJx hY h0
  have hBW : W.heap[Br]? = some (.cells #[.string x.head.pred, x.head.sl, .slice x.a x.body.length x.cap] 27 (0, 0)) := (hW.block Br (Array.getElem?_eq_some_iff.1 hB).1).trans hB
  have hMW := Ru.stay hM hW
  have hHW : ∀ i, Hs i → i < W.heap.size := fun i hi => Nat.lt_of_lt_of_le (hHs i hi) hW.size
  clear hM hB hHs hW
  have c2 : W.cell? ⟨Br, 2, none⟩ = some (.slice x.a x.body.length x.cap) := by simp [World.cell?, hBW]
  have hBl : Br < W.heap.size := hHW _ hBr
  obtain ⟨W1, hW1⟩ : ∃ W1, W1 = W.alloc (.cells #[.func (.yield l) #[] #[]] 87) := ⟨_, rfl⟩
  have sW1 : Stay W W1 := by rw [hW1]; exact Stay.new _ _
  have zW1 : W1.heap.size = W.heap.size + 1 := by rw [hW1]; simp
  have y1 : W1.heap[W.heap.size]? = some (.cells #[.func (.yield l) #[] #[]] 87 (0, 0)) := by rw [hW1]; exact heap_new _ _
  have hbn := bindersOf_ok x W1 (Ru.stay hMW sW1) hs (hr.mono fun i hi => by have := hHW i hi; omega) ht
  unfold Bnds at hbn
  rw [← hbs] at hbn
  have hsd := fun w => standing_any x w
  dsimp only [Ru.v, At.sl] at hsd hBW
  refine (callsIn_wide (n := 8)).1 (callsIn_of_wp_marks Try.func46 rfl trivial ?_ rfl)
  simp only [Try.ntmps46, List.size_toArray, List.length_cons, List.length_nil, Nat.reduceAdd, Nat.reduceSub, Array.replicate_succ, Array.replicate_zero, List.push_toArray, List.append_toArray, List.nil_append, List.cons_append]
  gi_wp2_with fail
  rw [← hW1]
  refine ⟨trivial, CallsIn.mono (callsIn_wide.2 hbn) ?_⟩
  rintro e w2 ⟨bm, rfl, hbm, hlm, s2⟩
  have s12 : Stay W w2 := sW1.trans s2
  obtain ⟨W3, hW3⟩ : ∃ W3, W3 = w2.alloc (.cells #[.map (some bm)] 66) := ⟨_, rfl⟩
  have s3 : Stay w2 W3 := by rw [hW3]; exact Stay.new _ _
  have zW3 : W3.heap.size = w2.heap.size + 1 := by rw [hW3]; simp
  have y3 : W3.heap[w2.heap.size]? = some (.cells #[.map (some bm)] 66 (0, 0)) := by rw [hW3]; exact heap_new _ _
  have b3 := ((s12.trans s3).block Br hBl).trans hBW
  have d0 : W3.cell? ⟨Br, 0, none⟩ = some (.string x.head.pred) := by simp [World.cell?, b3]
  have d1 : W3.cell? ⟨Br, 1, none⟩ = some (.slice x.head.a x.head.ts.length x.head.cap) := by simp [World.cell?, b3]
  have d2 : W3.cell? ⟨Br, 2, none⟩ = some (.slice x.a x.body.length x.cap) := by simp [World.cell?, b3]
  rw [hW3] at d0 d1 d2
  clear hbn
  gi_wp2_with (first | (refine ⟨trivial, ?_⟩; gi_at_call 23; refine CallsIn.mono (callsIn_wide.2 (hsd _)) ?_; rintro e w' ⟨rfl, rfl⟩) | (refine ⟨trivial, ?_⟩; gi_at_call 22; refine CallsIn.mono (callsIn_wide.2 (once_any _ _ _)) ?_; rintro e w' ⟨rfl, rfl⟩))
  rw [← hW3]
  obtain ⟨V, hV⟩ : ∃ V, V = (W3.alloc (.cells #[.string x.head.pred, .slice x.head.a x.head.ts.length x.head.cap, .slice x.a x.body.length x.cap] 27)).alloc (.cells #[.func (.func 42) #[] #[.pointer (some ⟨w2.heap.size + 1, 0, none⟩)]] 61) := ⟨_, rfl⟩
  rw [← hV]
  have sV : V.heap.size = w2.heap.size + 3 := by rw [hV]; simp [zW3]
  have z12 := s12.size
  have z1 := s2.size
  have st3 : Stay W3 V := by rw [hV]; exact (Stay.new _ _).alloc _
  have stV : Stay W V := (s12.trans s3).trans st3
  have v0 : V.heap[W.heap.size]? = some (.cells #[.func (.yield l) #[] #[]] 87 (0, 0)) := ((s2.trans (s3.trans st3)).block _ (by omega)).trans y1
  have v1 : V.heap[w2.heap.size]? = some (.cells #[.map (some bm)] 66 (0, 0)) := (st3.block _ (by omega)).trans y3
  have vb : BndM V bm bs := hbm.stay (s3.trans st3)
  have hbl := hbm.lt
  have v2 : V.heap[w2.heap.size + 1]? = some (.cells #[.string x.head.pred, .slice x.head.a x.head.ts.length x.head.cap, .slice x.a x.body.length x.cap] 27 (0, 0)) := by
    have := heap_new W3 (.cells #[.string x.head.pred, .slice x.head.a x.head.ts.length x.head.cap, .slice x.a x.body.length x.cap] 27)
    rw [zW3] at this
    rw [hV]; exact (Below.heap_alloc _ _ _ (by simp [zW3])).trans this
  have v3 : V.heap[w2.heap.size + 2]? = some (.cells #[.func (.func 42) #[] #[.pointer (some ⟨w2.heap.size + 1, 0, none⟩)]] 61 (0, 0)) := by
    have := heap_new (W3.alloc (.cells #[.string x.head.pred, .slice x.head.a x.head.ts.length x.head.cap, .slice x.a x.body.length x.cap] 27)) (.cells #[.func (.func 42) #[] #[.pointer (some ⟨w2.heap.size + 1, 0, none⟩)]] 61)
    rw [World.size_alloc, zW3] at this
    rw [hV]; exact this
  have f0 : Fr Ow W.heap.size V W.heap.size := ⟨Nat.le_refl _, by omega, not_tyd v0 hOw.1⟩
  have f1 : Fr Ow W.heap.size V w2.heap.size := ⟨z12, by omega, not_tyd v1 hOw.2.2.2.2.2.2⟩
  obtain ⟨om, hom, hoc⟩ := vb.obj
  have fb : Fr Ow W.heap.size V bm := ⟨by omega, by omega, not_tyd_o hom hoc⟩
  have hJV : J 0 V := hJ _ _ _ h0 (Bel.of_stay stV (Nat.le_refl _))
  have hHV : ∀ i, (Hs i ∨ Fr Ow W.heap.size V i) → i < V.heap.size := fun i hi => by
    rcases hi with hi | hi
    · have := hHW i hi; omega
    · exact hi.2.1
  have hq1 := stand_seq Ow ⟨hOw.1, hOw.2.1, hOw.2.2.1⟩ x (w2.heap.size + 1) (fun i => Hs i ∨ Fr Ow W.heap.size V i) V (Ru.stay hMW stV) v2 hs (hr.mono fun i h => .inl h) (.inr ⟨by omega, by omega, not_tyd v2 hOw.2.2.2.1⟩) hHV
  have hseq := once_seq Ow ⟨hOw.1, hOw.2.2.2.2.1⟩ (placesR x) 42 #[.pointer (some ⟨w2.heap.size + 1, 0, none⟩)] (enters_of Try.func42 (by kernel_rfl) rfl) (w2.heap.size + 2) (fun i => Hs i ∨ Fr Ow W.heap.size V i) V hq1 v3 (placesR_short ht) (by have := placesR_few hs; omega) (.inr ⟨by omega, by omega, not_tyd v3 hOw.2.2.2.2.2.1⟩) hHV
  rw [← hxs] at hseq
  have hsx : ∀ p ∈ xs, p.2.size ≤ 1048576 := fun p hp => placesR_short ht p (sel_mem (hxs ▸ hp))
  clear hV h0 hMW hW1 hW3 hxs hbs hq1 d0 d1 d2 b3 y1 y3 v2 v3 hbm st3 s3 c2 hsd hBW sW1 s2 s12
  refine' range_list (α := Int × ByteArray) (by decide) (gf := 40) (lb := #[.pointer (some ⟨w2.heap.size + 1 + 1, 0, none⟩)]) rfl (enters_of Try.func40 (by kernel_rfl) rfl) hseq hHV (fun _ => rfl)
    (fun k A => J (sel (looseC bs) (xs.take k)).length A ∧ Kep Ow Hs W.heap.size V A) (fun c _ A => c = .ret ∧ (∃ j, j < (sel (looseC bs) xs).length ∧ Jx (j + 1) A) ∧ V.heap.size ≤ A.heap.size) (fun k A A' hA hb => ?hI) (fun c k A A' hA hb => ?hIx) ⟨by simpa [sel, selF] using hJV, Kep.refl _ _ _ _⟩ (fun _ W => W) (fun _ W => Stay.refl W) _ ?assign ?body ?done ?stop
  case hI => exact ⟨hJ _ _ _ hA.1 (hb.mono (by omega)), hA.2.below (fun i hi => hHV i (.inl hi)) (Nat.le_refl _) hb⟩
  case hIx =>
    obtain ⟨h1, ⟨j, hj, h2⟩, h3⟩ := hA
    exact ⟨h1, ⟨j, hj, hJx _ _ _ h2 (hb.mono (by omega))⟩, Nat.le_trans h3 hb.size⟩
  case assign =>
    intro l' y W' K hK
    dsimp only [encIS]
    gi_wp2
    exact hK
  case stop =>
    rintro c k A hk ⟨rfl, ⟨j, hj, hI⟩, hz⟩ hdd
    gi_wp2
    exact leaves_marks ((Marks.nil W.heap.size V.heap.size A).cons (T := V.heap.size + 1) V.heap.size (Nat.le_refl _) (by omega) (by omega) hdd) fun w' hw' => ⟨_, results_none rfl _ _ _, ⟨_, rfl⟩, .inr ⟨j, hj, hJx _ _ _ hI hw'⟩⟩
  case done =>
    rintro A ⟨hJA, -⟩ hdd
    rw [List.take_of_length_le (Nat.le_refl _)] at hJA
    have HJ : Hid (J (sel (looseC bs) xs).length A) := hJA
    clear hJA hY hseq
    gi_wp2
    exact leaves_marks ((Marks.nil W.heap.size V.heap.size A).cons (T := V.heap.size + 1) V.heap.size (Nat.le_refl _) (by omega) (by omega) hdd) fun w' hw' => ⟨_, results_none rfl _ _ _, ⟨_, rfl⟩, .inl (hJ _ _ _ HJ.out hw')⟩
  case body =>
    intro l' k hk W' X hX ho hWs hl' hXs
    obtain ⟨hJX, hKX⟩ := hX
    have cY : X.cell? ⟨W.heap.size, 0, none⟩ = some (.func (.yield l) #[] #[]) := by
      have := (hKX.get (.inr f0)).trans v0
      simp [World.cell?, this]
    have cM : X.cell? ⟨w2.heap.size, 0, none⟩ = some (.map (some bm)) := by
      have := (hKX.get (.inr f1)).trans v1
      simp [World.cell?, this]
    obtain ⟨D, hD, h2, h3⟩ := vb.keep (hKX.get (.inr fb))
    have hkey := keyS (hsx _ (List.getElem_mem hk))
    have hh := h2 xs[k].2
    have hst := sel_take (looseC bs) hk
    have hcc : looseC bs (xs.take k) xs[k] = !inB (namesP bs) xs[k].2 := rfl
    have HX : Hid (J (sel (looseC bs) (xs.take k)).length X ∧ Kep Ow Hs W.heap.size V X) := ⟨hJX, hKX⟩
    clear hJX hKX ho hseq hJV vb v0 v1 h2 h3
    cases hc : looseC bs (xs.take k) xs[k]
    · rw [hc] at hst hcc
      have HS : Hid (sel (looseC bs) (xs.take (k + 1)) = sel (looseC bs) (xs.take k)) := by show _ = _; simpa using hst
      have hin : inB (namesP bs) xs[k].2 = true := by simpa using hcc.symm
      rw [hin] at hh
      generalize xs[k] = p at *
      obtain ⟨pi, ps⟩ := p
      clear hst hc hY hcc hin
      dsimp only [encIS] at *
      gi_wp2_with (first | (gi_at_lookup; refine wpListIn_lookup_own_ok_int _ rfl _ _ _ rfl 9 3 .i64 lawS Try.underlying66 Try.underlying3 (zeroI _) bm _ D rfl hD _ _ rfl hkey ?_; intro c hat hwc; rw [hh]))
      refine ⟨fun _ h => (by cases h), ?_⟩
      gi_wp2
      obtain ⟨hJX, hKX⟩ := HX.out
      exact ⟨Holds.refl _ _, Nat.le_refl _, by rw [HS.out]; exact hJX, hKX⟩
    · obtain ⟨hkk, hat⟩ := sel_at (looseC bs) hk hc
      rw [hc] at hst hcc
      have HS : Hid ((sel (looseC bs) (xs.take (k + 1))).length = (sel (looseC bs) (xs.take k)).length + 1) := by show _ = _; rw [hst]; simp
      have hin : inB (namesP bs) xs[k].2 = false := by simpa using hcc.symm
      rw [hin] at hh
      obtain ⟨fn, tmps, assign, body, hy, hR⟩ := yield_any (l' := l') (m' := 8 - 1 - 1 - 1) (hY _ hkk X HX.out.1 (by omega))
      rw [hat] at hy
      generalize xs[k] = p at *
      obtain ⟨pi, ps⟩ := p
      clear hst hc hY hcc hat hin
      dsimp only [encIS] at *
      gi_wp2_with (first | (gi_at_lookup; refine wpListIn_lookup_own_ok_int _ rfl _ _ _ rfl 9 3 .i64 lawS Try.underlying66 Try.underlying3 (zeroI _) bm _ D rfl hD _ _ rfl hkey ?_; intro c hat hwc; rw [hh]))
      refine hR.mono ?_
      rintro e9 W3 ⟨hh, hz, (⟨rfl, hJ3⟩ | ⟨rfl, hJx3⟩)⟩
      · have HH : Hid (Kep Ow Hs W.heap.size X W3 ∧ J ((sel (looseC bs) (xs.take k)).length + 1) W3) := ⟨⟨hh, hz⟩, hJ3⟩
        clear hR hh hz hJ3
        gi_wp2
        exact ⟨HX.out.2.join (by omega) HH.out.1.1, HH.out.1.2, by rw [HS.out]; exact HH.out.2, HX.out.2.trans HH.out.1⟩
      · have HH : Hid (Kep Ow Hs W.heap.size X W3 ∧ Jx ((sel (looseC bs) (xs.take k)).length + 1) W3) := ⟨⟨hh, hz⟩, hJx3⟩
        clear hR hh hz hJx3
        gi_wp2
        exact ⟨HX.out.2.join (by omega) HH.out.1.1, HH.out.1.2, rfl, ⟨_, hkk, HH.out.2⟩, by have := HH.out.1.2; omega⟩
end Go.Proofs.Ytpnjmldbohecdaa
