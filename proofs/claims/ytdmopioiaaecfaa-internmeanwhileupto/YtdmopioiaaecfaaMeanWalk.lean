/- InternMeanwhile: its walk. -/
import Derived.Test.YtdmopioiaaecfaaMeanA
import Derived.Sort.CutIn
namespace Go.Proofs.Ytdmopioiaaecfaa
open Go.RowKit Go.Maps Go.Shelf
attribute [local go_sem] Oper.semAt_some

theorem putAll_pre (ts : List ByteArray) : ∀ (l : List ByteArray) (k : Nat), k < ts.length → (putAll ts l)[k]? = ts[k]? := by
  intro l k hk
  induction l generalizing ts with
  | nil => rfl
  | cons s l ih =>
    rw [putAll_cons, ih (put1 ts s) (by have := put1_len ts s; omega)]
    unfold put1
    split
    · rfl
    · rw [List.getElem?_append_left hk]

theorem le16 {x : Nat} (h : x ≤ 8796093022208) : x * 16 ≤ 140737488355328 := Nat.le_trans (Nat.mul_le_mul_right 16 h) (by decide)

theorem mb_of (w : World) (s1 sc s4 bt bm gt : Nat) (sv : Value) (h1 : w.heap.size + 2 ≤ bt ∧ bt < s1) (h2 : w.heap.size + 2 ≤ bm ∧ bm < s1) (h3 : (w.heap.size + 2 ≤ gt ∧ gt < s1) ∨ (s1 + 3 ≤ gt ∧ gt < sc)) (hgb : gt ≠ bt ∧ gt ≠ bm) (h4 : s1 + 3 ≤ sc ∧ sc ≤ s4) (h5 : ∀ k, sv.ownBlock = some k → sc ≤ k ∧ k < s4) :
    MB w (s4 + 3) bt bm gt (s1 + 1) sv w.heap.size (w.heap.size + 1) s1 (s1 + 1 + 1) (s4 + 1) (s4 + 1 + 1) := by
  refine ⟨hgb, fun B hB => ?_, fun B hB => ?_, fun B hB => ?_, fun B hB => ?_, by omega⟩
  · rcases hB with (rfl | rfl | rfl | rfl | rfl | rfl) | (rfl | e)
    all_goals first
      | (refine ⟨by omega, ?_⟩; rintro (e2 | e2 | e2) <;> omega)
      | (have := h5 B e; refine ⟨by omega, ?_⟩; rintro (e2 | e2 | e2) <;> omega)
  · rcases hB with (rfl | rfl | rfl | rfl | rfl | rfl) | (rfl | rfl | rfl)
    all_goals
      refine ⟨by omega, ?_⟩
      rintro (e2 | e2)
      · omega
      · have := h5 _ e2; omega
  · rcases hB with rfl | rfl | rfl | rfl | rfl | (rfl | rfl | rfl) | (rfl | e)
    all_goals first
      | omega
      | (have := h5 B e; omega)
  · rcases hB with (rfl | rfl | rfl) | (rfl | e) | rfl
    all_goals first
      | omega
      | (have := h5 B e; omega)

set_option maxRecDepth 100000 in
set_option maxHeartbeats 2000000 in
theorem mean_walk (w : World) (a a' : Option Addr) (b off cap b' off' cap' : Nat) (ss ms : List ByteArray) (hS : StrsAt w a b off ss) (hM : StrsAt w a' b' off' ms) (ha : a = none → cap = 0 ∧ ss = []) (hsz : ∀ s ∈ ss, s.size ≤ 281474976710656) (hmz : ∀ s ∈ ms, s.size ≤ 281474976710656)
    (hb : ss.length + ms.length + 2 ≤ 8796093022208) :
    CallsIn Fence.wide 7 Try.prog 4 #[.slice a ss.length cap, .slice a' ms.length cap'] w fun e w' => e = .returned (.bool true) ∧ Below w.heap.size w w' := by
  have hb1 : (ss.length + 2) * 16 ≤ 140737488355328 := le16 (by omega)
  have hb2 : (([] : List ByteArray).length + ss.length) * 16 ≤ 140737488355328 := le16 (by simp; omega)
  have hfn := eql_func
  have HS : Hid (StrsAt w a b off ss) := hS
  have HM : Hid (StrsAt w a' b' off' ms) := hM
  have Hsz : Hid ((∀ s ∈ ss, s.size ≤ 281474976710656) ∧ (∀ s ∈ ms, s.size ≤ 281474976710656)) := ⟨hsz, hmz⟩
  have Ha : Hid (a = none → cap = 0 ∧ ss = []) := ha
  clear hS hsz ha hM hmz
  refine callsIn_of_wp_marks Try.func4 rfl trivial ?_ rfl
  simp only [Try.ntmps4, List.size_toArray, List.length_cons, List.length_nil, Nat.reduceAdd, Nat.reduceSub, Array.replicate_succ, Array.replicate_zero, List.push_toArray, List.append_toArray, List.nil_append, List.cons_append]
  gi_upto_region 2 with (refine ⟨trivial, ?_⟩; gi_at_call 8; refine CallsIn.mono (callsIn_wide.2 (new_any _)) ?_; rintro e w1 ⟨rfl, bm, g, c1, hT1, h1, h2, h3, hB1⟩)
  simp only [World.size_alloc] at hT1 h1 h2 h3 hB1
  have HT1 : Hid (Tab w1 (w.heap.size + 1 + 1 + 2) bm g c1 [] ∧ w.heap.size + 1 + 1 ≤ bm ∧ w.heap.size + 1 + 1 ≤ g ∧ Below (w.heap.size + 1 + 1) ((w.alloc (.cells #[.slice a' ms.length cap'] 27)).alloc (.cells #[.bool false] 4)) w1) := ⟨hT1, h2, h3, hB1⟩
  clear hT1 h1 h2 h3 hB1
  gi_upto_region 5 with fail
  obtain ⟨W2, hW2⟩ : ∃ W2, (((w1.alloc (.cells #[.pointer (some ⟨w.heap.size + 1 + 1 + 2, 0, none⟩)] 23)).alloc (.cells #[.slice none 0 0] 29)).alloc (.cells #[.pointer (some ⟨w1.heap.size + 1, 0, none⟩)] 26)) = W2 := ⟨_, rfl⟩
  have hlt1 := HT1.out.1.lt
  have hs1 : w.heap.size + 1 + 1 ≤ w1.heap.size := by have := HT1.out.2.2.2.size; simpa using this
  have hsz2 : W2.heap.size = w1.heap.size + 3 := by rw [← hW2]; simp
  have hB12 : Below w1.heap.size w1 W2 := by rw [← hW2]; exact (((Below.refl _ w1).alloc (Nat.le_refl _) _).alloc (by simp) _).alloc (by simp; omega) _
  have b3 : Boxed W2 w.heap.size 27 (.slice a' ms.length cap') := by
    have h1 : Boxed w1 w.heap.size 27 (.slice a' ms.length cap') := (HT1.out.2.2.2.block _ (by omega)).trans ((Boxed.new w 27 _).alloc _)
    exact (hB12.block _ (by omega)).trans h1
  have b4 : Boxed W2 (w.heap.size + 1) 4 (.bool false) := by
    have h0 := Boxed.new (w.alloc (.cells #[.slice a' ms.length cap'] 27)) 4 (.bool false)
    rw [World.size_alloc] at h0
    have h1 : Boxed w1 (w.heap.size + 1) 4 (.bool false) := (HT1.out.2.2.2.block _ (by omega)).trans h0
    exact (hB12.block _ (by omega)).trans h1
  have b5 : Boxed W2 w1.heap.size 23 (.pointer (some ⟨w.heap.size + 1 + 1 + 2, 0, none⟩)) := by rw [← hW2]; exact ((Boxed.new w1 23 _).alloc _).alloc _
  have hR2 : RTab W2 (w1.heap.size + 1) (.slice none 0 0) [] := by
    rw [← hW2]
    have h0 := rtab_new (w1.alloc (.cells #[.pointer (some ⟨w.heap.size + 1 + 1 + 2, 0, none⟩)] 23))
    rw [World.size_alloc] at h0
    exact h0.kept (Turn.alloc (fun _ => False) _ _) (fun _ _ e => e)
  have b6 : Boxed W2 (w1.heap.size + 1 + 1) 26 (.pointer (some ⟨w1.heap.size + 1, 0, none⟩)) := by
    rw [← hW2]
    have h0 := Boxed.new ((w1.alloc (.cells #[.pointer (some ⟨w.heap.size + 1 + 1 + 2, 0, none⟩)] 23)).alloc (.cells #[.slice none 0 0] 29)) 26 (.pointer (some ⟨w1.heap.size + 1, 0, none⟩))
    simpa only [World.size_alloc] using h0
  have hB2 : Below w.heap.size w W2 := by
    have h0 : Below w.heap.size w ((w.alloc (.cells #[.slice a' ms.length cap'] 27)).alloc (.cells #[.bool false] 4)) := ((Below.refl _ w).alloc (Nat.le_refl _) _).alloc (by simp) _
    have h1 := h0.trans (HT1.out.2.2.2.mono (by omega))
    exact h1.trans (hB12.mono (by omega))
  have hT2 : Tab W2 (w.heap.size + 1 + 1 + 2) bm g c1 [] := HT1.out.1.kept (Turn.of_below hB12) (by rintro k (rfl | rfl | rfl) <;> omega)
  rw [hW2]
  clear hW2 hB12
  have HG1 : Hid (w.heap.size + 1 + 1 ≤ bm ∧ w.heap.size + 1 + 1 ≤ g) := ⟨HT1.out.2.1, HT1.out.2.2.1⟩
  have HX : Hid (Boxed W2 w.heap.size 27 (.slice a' ms.length cap') ∧ Boxed W2 (w.heap.size + 1) 4 (.bool false) ∧ Boxed W2 w1.heap.size 23 (.pointer (some ⟨w.heap.size + 1 + 1 + 2, 0, none⟩)) ∧ Boxed W2 (w1.heap.size + 1 + 1) 26 (.pointer (some ⟨w1.heap.size + 1, 0, none⟩)) ∧ RTab W2 (w1.heap.size + 1) (.slice none 0 0) [] ∧ Below w.heap.size w W2 ∧ Tab W2 (w.heap.size + 1 + 1 + 2) bm g c1 []) := ⟨b3, b4, b5, b6, hR2, hB2, hT2⟩
  have c5 := b5.cell
  have hlent := lent_any W2.drew a b off cap ss (HS.out.below hB2.drew) Ha.out hb1
  have hput : ∀ w3, Below W2.heap.size W2.drew w3 → ∀ bl cl, w3.ownsRow W2.drew.heap.size 9 1 (.slice (some ⟨bl, 0, none⟩) (ss.length + 2) cl) (ss.length + 2) (ss.map Value.string ++ [mark, mark]) →
      Calls Try.prog 18 #[.pointer (some ⟨w.heap.size + 1 + 1 + 2, 0, none⟩), .slice (some ⟨bl, 0, none⟩) ss.length cl] w3 fun e w' => (∃ v, e = .returned v) ∧
        ∃ gt ct, Tab w' (w.heap.size + 1 + 1 + 2) bm gt ct (putAll [] ss) ∧ (gt = g ∨ W2.heap.size ≤ gt) ∧ Turn (foot (w.heap.size + 1 + 1 + 2) bm g) W2 w' := by
    intro w3 hB3 bl cl hrow
    have ht3 : Turn (foot (w.heap.size + 1 + 1 + 2) bm g) W2 w3 := (Turn.drew _ W2).trans (Turn.of_below hB3) (fun i hi e => by omega)
    have hT3 : Tab w3 (w.heap.size + 1 + 1 + 2) bm g c1 [] := (HX.out.2.2.2.2.2.2.kept (Turn.drew (fun _ => False) W2) (fun _ _ e => e)).kept (Turn.of_below hB3) (by rintro k (rfl | rfl | rfl) <;> omega)
    have hl := row_lt hrow
    have hl1 : W2.heap.size ≤ bl := hl.1
    refine (putAll_yes hT3 ss (some ⟨bl, 0, none⟩) bl 0 cl (strs_of_row hrow) (by rintro k (rfl | rfl | rfl) <;> omega) Hsz.out.1 hb2).mono ?_
    rintro e w' ⟨rfl, _, gt, ct, hT4, hg4, ht4⟩
    exact ⟨⟨_, rfl⟩, gt, ct, hT4, hg4.imp id (fun h => Nat.le_trans hB3.size h), ht3.trans ht4 (fun _ _ e => e)⟩
  clear b3 b4 b5 b6 hR2 hB2 hT2 HT1
  gi_cut [] from 21 (fun wx => ∃ gt ct, Tab wx (w.heap.size + 1 + 1 + 2) bm gt ct (putAll [] ss) ∧ (gt = g ∨ W2.heap.size ≤ gt) ∧ Turn (foot (w.heap.size + 1 + 1 + 2) bm g) W2 wx)
  case first =>
    have hfw : ∀ f, Fence.wide.fn f := fun _ => trivial
    refine wp_plainly ?_
    gi_region_with (first | (gi_at_call 19; refine CallsIn.mono (callsIn_wide.2 hlent) ?_; rintro e w3 ⟨bl, cl, rfl, hrow, hB3⟩; have d5 : w3.cell? ⟨w1.heap.size, 0, none⟩ = some (.pointer (some ⟨w.heap.size + 1 + 1 + 2, 0, none⟩)) := (hB3.cell (p := ⟨w1.heap.size, 0, none⟩) (by show w1.heap.size < W2.heap.size; omega)).trans c5) | (gi_at_call 18; refine CallsIn.mono (callsIn_wide.2 (hput _ hB3 _ _ hrow)) ?_; rintro e w4 ⟨⟨v, rfl⟩, hq⟩))
    all_goals dsimp only [plainly]
    all_goals gi_wp2
    all_goals gi_meet
    all_goals exact hq
  case rest =>
    clear hlent hput c5
    obtain ⟨gt, ct, hT3, hg3, ht3⟩ := hcut
    have hG1 := HG1.out
    obtain ⟨bt, hbt⟩ : ∃ bt, w.heap.size + 1 + 1 + 2 = bt := ⟨_, rfl⟩
    obtain ⟨s1, hs1e⟩ : ∃ s1, w1.heap.size = s1 := ⟨_, rfl⟩
    rw [hbt] at hlt1 hT3 ht3 HX ⊢
    rw [hs1e] at hlt1 hs1 hsz2 HX ⊢
    have hfo : ∀ k, foot bt bm g k → w.heap.size + 2 ≤ k ∧ k < s1 := by rintro k (rfl | rfl | rfl) <;> omega
    have hscz := ht3.size
    have hB3 : Below w.heap.size w wc := HX.out.2.2.2.2.2.1.trans (ht3.below HX.out.2.2.2.2.2.1.size (fun k e => by have := hfo k e; omega))
    have hR3 : RTab wc (s1 + 1) (.slice none 0 0) [] := HX.out.2.2.2.2.1.kept ht3 (by rintro k (rfl | e) e2; (have := hfo _ e2; omega); simp [Value.ownBlock] at e)
    have b3 := Boxed.turn HX.out.1 ht3 (fun e => by have := hfo _ e; omega)
    have b4 := Boxed.turn HX.out.2.1 ht3 (fun e => by have := hfo _ e; omega)
    have b5 := Boxed.turn HX.out.2.2.1 ht3 (fun e => by have := hfo _ e; omega)
    have b6 := Boxed.turn HX.out.2.2.2.1 ht3 (fun e => by have := hfo _ e; omega)
    have hTl := hT3.lt
    have hTn := hT3.ne
    obtain ⟨bb, hSb, hbb⟩ := HS.out.pick wc.heap.size
    have hrput := rputAll_yes hR3 ss a bb off cap (hSb.below hB3) (by rintro k (rfl | e); omega; simp [Value.ownBlock] at e) hb2
    have hgt : (w.heap.size + 2 ≤ gt ∧ gt < s1) ∨ (s1 + 3 ≤ gt ∧ gt < wc.heap.size) := by omega
    have HX3 : Hid (Boxed wc w.heap.size 27 (.slice a' ms.length cap') ∧ Boxed wc (w.heap.size + 1) 4 (.bool false) ∧ Boxed wc s1 23 (.pointer (some ⟨bt, 0, none⟩)) ∧ Boxed wc (s1 + 1 + 1) 26 (.pointer (some ⟨s1 + 1, 0, none⟩)) ∧ Below w.heap.size w wc ∧ Tab wc bt bm gt ct (putAll [] ss)) := ⟨b3, b4, b5, b6, hB3, hT3⟩
    have HN : Hid ((w.heap.size + 2 ≤ bt ∧ bt < s1) ∧ (w.heap.size + 2 ≤ bm ∧ bm < s1) ∧ ((w.heap.size + 2 ≤ gt ∧ gt < s1) ∨ (s1 + 3 ≤ gt ∧ gt < wc.heap.size)) ∧ (gt ≠ bt ∧ gt ≠ bm) ∧ s1 + 3 ≤ wc.heap.size) := ⟨by omega, by omega, hgt, by omega, by omega⟩
    have d6 := b6.cell
    have hfw : ∀ f, Fence.wide.fn f := fun _ => trivial
    clear b3 b4 b5 b6 hB3 hR3 hSb hbb hgt hTl hTn hscz hfo hG1 hg3 ht3 HX HG1 hT3 hlt1 hs1 hsz2 hbt hs1e
    gi_upto_region 7 with (gi_at_call 20; refine CallsIn.mono (callsIn_wide.2 hrput) ?_; rintro e w4 ⟨vr, rfl, _, sv, hR4, hsv, ht4⟩)
    have hfo : ∀ k, rfoot (s1 + 1) (.slice none 0 0) k → k = s1 + 1 := by rintro k (rfl | e); rfl; simp [Value.ownBlock] at e
    have hNo := HN.out
    have hs4 := ht4.size
    have hB4 : Below w.heap.size w w4 := HX3.out.2.2.2.2.1.trans (ht4.below HX3.out.2.2.2.2.1.size (fun k e => by have := hfo k e; omega))
    have hT4 : Tab w4 bt bm gt ct (putAll [] ss) := HX3.out.2.2.2.2.2.kept ht4 (fun k hk e => by have := hfo k e; rcases hk with rfl | rfl | rfl <;> omega)
    have b3 := Boxed.turn HX3.out.1 ht4 (fun e => by have := hfo _ e; omega)
    have b4 := Boxed.turn HX3.out.2.1 ht4 (fun e => by have := hfo _ e; omega)
    have b5 := Boxed.turn HX3.out.2.2.1 ht4 (fun e => by have := hfo _ e; omega)
    have b6 := Boxed.turn HX3.out.2.2.2.1 ht4 (fun e => by have := hfo _ e; omega)
    have hsl : ∀ k, sv.ownBlock = some k → wc.heap.size ≤ k ∧ k < w4.heap.size := fun k e => ⟨(hsv k e).resolve_left (by simp [Value.ownBlock]), hR4.lt k (.inr e)⟩
    have HMB : Hid (MB w (w4.heap.size + 3) bt bm gt (s1 + 1) sv w.heap.size (w.heap.size + 1) s1 (s1 + 1 + 1) (w4.heap.size + 1) (w4.heap.size + 1 + 1)) := mb_of w s1 wc.heap.size w4.heap.size bt bm gt sv hNo.1 hNo.2.1 hNo.2.2.1 hNo.2.2.2.1 ⟨hNo.2.2.2.2, hs4⟩ hsl
    have HX4 : Hid (Boxed w4 w.heap.size 27 (.slice a' ms.length cap') ∧ Boxed w4 (w.heap.size + 1) 4 (.bool false) ∧ Boxed w4 s1 23 (.pointer (some ⟨bt, 0, none⟩)) ∧ Boxed w4 (s1 + 1 + 1) 26 (.pointer (some ⟨s1 + 1, 0, none⟩)) ∧ Below w.heap.size w w4 ∧ Tab w4 bt bm gt ct (putAll [] ss) ∧ RTab w4 (s1 + 1) sv (putAll [] ss) ∧ (∀ k, sv.ownBlock = some k → k ≠ gt)) := ⟨b3, b4, b5, b6, hB4, hT4, hR4, fun k e => by have := hsl k e; omega⟩
    have e5 := b5.cell
    have e6 := (b6.alloc (.cells #[.pointer (some ⟨bt, 0, none⟩)] 23)).cell
    have hrl : Calls Try.prog 14 #[.pointer (some ⟨s1 + 1, 0, none⟩)] (w4.alloc (.cells #[.pointer (some ⟨bt, 0, none⟩)] 23)) _ := rlen_yes (hR4.kept (Turn.alloc (fun _ => False) w4 (.cells #[.pointer (some ⟨bt, 0, none⟩)] 23)) (fun _ _ e => e))
    clear b3 b4 b5 b6 hB4 hT4 hsl hsv ht4 hfo hNo hs4 HX3 hrput d6 hR4 HN
    gi_wp2_with (first | (gi_at_call 21; refine CallsIn.mono (callsIn_wide.2 (all_any _ _)) ?_; rintro e w' ⟨rfl, rfl⟩) | (gi_at_call 14; refine CallsIn.mono (callsIn_wide.2 hrl) ?_; rintro e w' ⟨rfl, hw⟩; have hw' := hw.symm; subst hw'))
    clear hrl e5 e6 hfn
    generalize hts : putAll [] ss = ts at HX4 ⊢
    have htl : ts.length ≤ ss.length := by rw [← hts]; have := (putAll_len [] ss).2; simpa using this
    clear hts
    obtain ⟨W0, hW0⟩ : ∃ W0, (((w4.alloc (.cells #[.pointer (some ⟨bt, 0, none⟩)] 23)).alloc (.cells #[.int .i64 (ts.length : Int)] 3)).alloc (.cells #[.int .i64 0] 3)) = W0 := ⟨_, rfl⟩
    have hsz0 : W0.heap.size = w4.heap.size + 3 := by rw [← hW0]; simp
    have hB40 : Below w4.heap.size w4 W0 := by rw [← hW0]; exact (((Below.refl _ w4).alloc (Nat.le_refl _) _).alloc (by simp) _).alloc (by simp; omega) _
    have ba : Boxed W0 w4.heap.size 23 (.pointer (some ⟨bt, 0, none⟩)) := by rw [← hW0]; exact ((Boxed.new w4 23 _).alloc _).alloc _
    have b8 : Boxed W0 (w4.heap.size + 1) 3 (.int .i64 (ts.length : Int)) := by
      rw [← hW0]
      have h0 := (Boxed.new (w4.alloc (.cells #[.pointer (some ⟨bt, 0, none⟩)] 23)) 3 (.int .i64 (ts.length : Int))).alloc (.cells #[.int .i64 0] 3)
      simpa only [World.size_alloc] using h0
    have b9 : Boxed W0 (w4.heap.size + 1 + 1) 3 (.int .i64 0) := by
      rw [← hW0]
      have h0 := Boxed.new ((w4.alloc (.cells #[.pointer (some ⟨bt, 0, none⟩)] 23)).alloc (.cells #[.int .i64 (ts.length : Int)] 3)) 3 (.int .i64 0)
      simpa only [World.size_alloc] using h0
    have ht40 := Turn.of_below hB40
    have hX := HX4.out
    have hT0 : Tab W0 bt bm gt ct ts := hX.2.2.2.2.2.1.kept ht40 (by have := hX.2.2.2.2.2.1.lt; rintro k (rfl | rfl | rfl) <;> omega)
    have hI0 : MI w W0.heap.size bt bm gt (s1 + 1) sv w.heap.size (w.heap.size + 1) s1 (s1 + 1 + 1) (w4.heap.size + 1) (w4.heap.size + 1 + 1) (.slice a' ms.length cap') ts ms 0 0 0 W0 :=
      ⟨b9, Boxed.turn hX.2.1 ht40 (by have := hX.2.1.lt; omega), Boxed.turn hX.1 ht40 (by have := hX.1.lt; omega), Boxed.turn hX.2.2.1 ht40 (by have := hX.2.2.1.lt; omega), Boxed.turn hX.2.2.2.1 ht40 (by have := hX.2.2.2.1.lt; omega), b8,
        ⟨gt, ct, sv, by simpa [putAll] using hT0, by simpa [putAll] using hX.2.2.2.2.2.2.1.below hB40, .inl rfl, fun x e => ⟨.inl e, hX.2.2.2.2.2.2.2 x e⟩⟩, hX.2.2.2.2.1.trans (hB40.mono hX.2.2.2.2.1.size), Nat.le_refl _⟩
    rw [hW0]
    rw [← hsz0] at HMB
    have hgD : gt < W0.heap.size := hT0.lt.2.2
    have HI0 : Hid (MI w W0.heap.size bt bm gt (s1 + 1) sv w.heap.size (w.heap.size + 1) s1 (s1 + 1 + 1) (w4.heap.size + 1) (w4.heap.size + 1 + 1) (.slice a' ms.length cap') ts ms 0 0 0 W0) := hI0
    clear hX ht40 hB40 b8 b9 hW0 HX4 hI0
    clear hsz0
    generalize w4.heap.size + 1 + 1 = B9 at HMB HI0 ⊢
    generalize w4.heap.size + 1 = B8 at HMB HI0 ⊢
    generalize w4.heap.size = Ba at ba ⊢
    generalize s1 + 1 + 1 = B6 at HMB HI0 ⊢
    generalize s1 + 1 = br at HMB HI0 ⊢
    have HB4 : Hid (w.heap.size ≤ w.heap.size + 1) := Nat.le_succ _
    generalize w.heap.size + 1 = B4 at HMB HI0 HB4 ⊢
    generalize hB3 : w.heap.size = B3 at HMB HI0 ⊢
    refine' wpIn_rangeFunc_ownG (α := Nat) rfl (by decide) (gf := 45) (lb := #[.pointer (some ⟨Ba, 0, none⟩)]) rfl trivial (enters_of Try.func45 (by kernel_rfl) rfl)
      (allN_stops (7 - 1) (by decide) Ba bt bm gt ct ts W0 ba.cell hT0) krow_t (krow_b hgD) (Below.refl _ _) (fun _ => rfl)
      (fun pre W => MI w W0.heap.size bt bm gt br sv B3 B4 s1 B6 B8 B9 (.slice a' ms.length cap') ts ms pre.length pre.length pre.length W) (fun c pre _ => c = .ret ∧ ∃ q x, pre = q ++ [x] ∧ x ≠ q.length)
      (mi_own HMB.out) (fun c s A B row hs hg hr => hs) HI0.out _ ?assign ?body ?done ?stop
    case assign =>
      intro l x W K hK
      dsimp only [encsN]
      gi_wp2
      exact hK
    case body =>
      intro l pre x W hI hm
      obtain ⟨gk, ck, svk, hTk, hRk, hgk, hsvk⟩ := hI.tr
      have hpl := pa_pre ts (ms.take pre.length)
      have hpre := putAll_pre ts (ms.take pre.length) pre.length hm
      have c0 := hRk.c0
      obtain ⟨ra, rcap, rfl, hmax, rb, hra, hrc⟩ := hRk.slice
      obtain rfl := hra (by omega)
      have c9 := hI.b9.cell
      have f9 := hI.b9.frozen
      have c4 := hI.b4.cell
      have f4 := hI.b4.frozen
      have c6 := hI.b6.cell
      have c8 := hI.b8.cell
      have hct : W.cell? ⟨rb, pre.length, none⟩ = some (.string (ts[pre.length]?.getD ⟨#[]⟩)) := by
        rw [hrc _ (by omega), ← hpre]; simp [show pre.length < (putAll ts (ms.take pre.length)).length by omega]
      have hge : decide (ts.length ≤ pre.length) = false := by simp; omega
      have hmb : ((pre.length : Nat) : Int) < ((putAll ts (ms.take pre.length)).length : Int) := by omega
      have hsl : ts.length ≤ 9223372036854775807 := by omega
      generalize (putAll ts (ms.take pre.length)).length = pl at c0 hmb hmax
      clear hTk hRk hgk hsvk hpl hpre hra hrc ba hT0 hgD
      have hfw : ∀ f, Fence.wide.fn f := fun _ => trivial
      by_cases hx : x = pre.length
      · subst hx
        generalize ts[pre.length]?.getD ⟨#[]⟩ = s at hct ⊢
        gi_wp2
        refine round_quiet_lit (F := Fence.wide) rfl (by kernel_rfl) (by kernel_rfl) (by kernel_rfl) ?_
        repeat (gi_big_quiet_step (fail))
        refine wpQuietIn_nil ?_
        intro _ hw'
        obtain ⟨nq, hw''⟩ := hw'
        subst hw''
        have hI1 := hI.drewN nq
        have hK1 := KG.drewN W0.heap.size gt ts.length W nq
        generalize W.drewN nq = W1 at hI1 hK1 ⊢
        have HI1 : Hid (MI w W0.heap.size bt bm gt br sv B3 B4 s1 B6 B8 B9 (.slice a' ms.length cap') ts ms pre.length pre.length pre.length W1 ∧ KG W0.heap.size gt ts.length W W1) := ⟨hI1, hK1⟩
        have c9 := hI1.b9.cell
        have c3 := hI1.b3.cell
        have c5 := hI1.b5.cell
        have f9 := hI1.b9.frozen
        clear hI hI1 hK1 c0 hct hge hmb hmax c4 f4 c6 c8
        by_cases hlt : pre.length < ms.length
        · have hlb : ((pre.length : Nat) : Int) < (ms.length : Int) := by omega
          gi_upto_region 18 with (fail)
          obtain rfl := HM.out.1 (by omega)
          have hmb1 : (ts.length + ms.length) * 16 ≤ 140737488355328 := le16 (by omega)
          have hcm : W1.cell? ⟨b', off' + pre.length, none⟩ = some (.string ms[pre.length]) := (HM.out.below HI1.out.1.below).2 pre.length hlt
          have hsm : ms[pre.length].size ≤ 281474976710656 := Hsz.out.2 _ (List.getElem_mem hlt)
          have hput := mi_put HMB.out HI1.out.1.drew hlt hsm hmb1
          have hmx : Try.prog.follows .mixedOrders = true := by kernel_rfl
          generalize hms : ms[pre.length] = m at hcm hput
          generalize hix : (putAll ts (ms.take (pre.length + 1))).idxOf m = ix at hput
          gi_cut [12, 13] from 60 (fun s12 s13 wx => s12 = .int .i64 ix ∧ s13 = .int .i64 0 ∧ MI w W0.heap.size bt bm gt br sv B3 B4 s1 B6 B8 B9 (.slice (some ⟨b', off', none⟩) ms.length cap') ts ms pre.length (pre.length + 1) pre.length wx ∧ KG W0.heap.size gt ts.length W1.drew wx)
          case first =>
            refine wp_plainly ?_
            gi_region_with_o (gi_at_call 22; refine (CallsIn.inRound l (callsIn_wide.2 hput)).mono ?_; rintro e w2 ⟨rfl, hp⟩)
            all_goals dsimp only [plainly]
            all_goals gi_wp2
            all_goals gi_meet
            all_goals exact ⟨rfl, rfl, hp⟩
          case rest =>
            obtain ⟨rfl, rfl, hI2, hK2⟩ := hcut
            generalize wc = V2 at hI2 hK2 ⊢
            have HI2 : Hid (MI w W0.heap.size bt bm gt br sv B3 B4 s1 B6 B8 B9 (.slice (some ⟨b', off', none⟩) ms.length cap') ts ms pre.length (pre.length + 1) pre.length V2 ∧ KG W0.heap.size gt ts.length W V2) := ⟨hI2, HI1.out.2.trans ((KG.drew _ _ _ W1).trans hK2)⟩
            clear hput hcm c9 c3 c5 f9 hK2
            have c9 := hI2.b9.cell
            have c3 := hI2.b3.cell
            have c6 := hI2.b6.cell
            have f9 := hI2.b9.frozen
            have hcm : V2.cell? ⟨b', off' + pre.length, none⟩ = some (.string m) := by rw [← hms]; exact (HM.out.below hI2.below).2 pre.length hlt
            have hput := mi_rput HMB.out hI2.drew hlt hmb1
            rw [hms, hix] at hput
            clear hI2
            gi_upto_region 19 with (fail)
            gi_cut [14, 15] from 69 (fun s14 s15 wx => s14 = .int .i64 ix ∧ s15 = .int .i64 0 ∧ MI w W0.heap.size bt bm gt br sv B3 B4 s1 B6 B8 B9 (.slice (some ⟨b', off', none⟩) ms.length cap') ts ms pre.length (pre.length + 1) (pre.length + 1) wx ∧ KG W0.heap.size gt ts.length V2.drew wx)
            case first =>
              refine wp_plainly ?_
              gi_region_with_o (gi_at_call 23; refine (CallsIn.inRound l (callsIn_wide.2 hput)).mono ?_; rintro e w2 ⟨rfl, hp⟩)
              all_goals dsimp only [plainly]
              all_goals gi_wp2
              all_goals gi_meet
              all_goals exact ⟨rfl, rfl, hp⟩
            case rest =>
              obtain ⟨rfl, rfl, hI3, hK3⟩ := hcut
              generalize wc = V3 at hI3 hK3 ⊢
              clear hput hcm c9 c3 c6 f9
              have c9 := hI3.b9.cell
              have f9 := hI3.b9.frozen
              have hset := hI3.set HMB.out (pre.length + 1)
              have HF : Hid (MI w W0.heap.size bt bm gt br sv B3 B4 s1 B6 B8 B9 (.slice (some ⟨b', off', none⟩) ms.length cap') ts ms (pre.length + 1) (pre.length + 1) (pre.length + 1) (V3.setCell ⟨B9, 0, none⟩ (.int .i64 ((pre.length + 1 : Nat) : Int))) ∧ KG W0.heap.size gt ts.length W (V3.setCell ⟨B9, 0, none⟩ (.int .i64 ((pre.length + 1 : Nat) : Int)))) :=
                ⟨hset.1, (HI2.out.2.trans ((KG.drew _ _ _ V2).trans hK3)).trans hset.2⟩
              clear hset hI3 hK3
              gi_wp2_with (gi_at_call 24; refine (CallsIn.inRound l (callsIn_wide.2 (num_any _ _))).mono ?_; rintro e w' ⟨rfl, hw⟩; have hw' := hw.symm; subst hw')
              exact ⟨HF.out.2.1, HF.out.2.2, by simpa using HF.out.1⟩
        · have hlb : ((ms.length : Nat) : Int) ≤ ((pre.length : Nat) : Int) := by omega
          have hset := HI1.out.1.set HMB.out (pre.length + 1)
          have HF : Hid (MI w W0.heap.size bt bm gt br sv B3 B4 s1 B6 B8 B9 (.slice a' ms.length cap') ts ms (pre.length + 1) (pre.length + 1) (pre.length + 1) (W1.setCell ⟨B9, 0, none⟩ (.int .i64 ((pre.length + 1 : Nat) : Int))) ∧ KG W0.heap.size gt ts.length W (W1.setCell ⟨B9, 0, none⟩ (.int .i64 ((pre.length + 1 : Nat) : Int)))) := by
            refine ⟨?_, HI1.out.2.trans hset.2⟩
            have e1 : ms.take pre.length = ms.take (pre.length + 1) := by rw [List.take_of_length_le (by omega), List.take_of_length_le (by omega)]
            have hh := hset.1
            exact ⟨hh.b9, hh.b4, hh.b3, hh.b5, hh.b6, hh.b8, by rw [← e1]; exact hh.tr, hh.below, hh.size⟩
          clear hset
          gi_wp2
          exact ⟨HF.out.2.1, HF.out.2.2, by simpa using HF.out.1⟩
      · have hkne : ((x : Int) != ((pre.length : Nat) : Int)) = true := by simp; omega
        have HX : Hid (x ≠ pre.length) := hx
        generalize ts[x]?.getD ⟨#[]⟩ = s
        clear hx
        gi_wp2
        refine round_quiet_lit (F := Fence.wide) rfl (by kernel_rfl) (by kernel_rfl) (by kernel_rfl) ?_
        repeat (gi_big_quiet_step (fail))
        refine wpQuietIn_nil ?_
        intro _ hw'
        obtain ⟨nq, hw''⟩ := hw'
        subst hw''
        gi_wp2
        exact ⟨keepsFrom_set _ _ _ _ _, rfl, pre, x, rfl, HX.out⟩
    case done =>
      rintro D ys W hD rfl hI hK
      rw [List.length_range] at hI
      obtain ⟨gk, ck, svk, hTk, hRk, hgk, hsvk⟩ := hI.tr
      have c9 := hI.b9.cell
      have c8 := hI.b8.cell
      have c5 := hI.b5.cell
      have c6 := hI.b6.cell
      have hgo : Calls Try.prog 15 #[.pointer (some ⟨bt, 0, none⟩), .pointer (some ⟨br, 0, none⟩), .int .i64 0] W _ := callsIn_wide.1 (goes_yes W bt bm gk ck br svk _ 0 hTk hRk (by omega) (by omega))
      have HI : Hid (MI w W0.heap.size bt bm gt br sv B3 B4 s1 B6 B8 B9 (.slice a' ms.length cap') ts ms ts.length ts.length ts.length W ∧ W.heap[D]? = some (.deferred (some []))) := ⟨hI, hK⟩
      have hfw : ∀ f, Fence.wide.fn f := fun _ => trivial
      clear hI hK hTk hRk hgk hsvk ba hT0
      gi_wp2_with (first | (gi_at_call 15; refine CallsIn.mono (callsIn_wide.2 hgo) ?_; rintro e w10 ⟨rfl, hB10⟩) | (gi_at_call 17; refine CallsIn.mono (callsIn_wide.2 (known_any _)) ?_; rintro e w11 ⟨rfl, hB11⟩; have hb4 : Boxed w11 B4 4 (.bool false) := (hB11.block _ (Nat.lt_of_lt_of_le HI.out.1.b4.lt hB10.size)).trans ((hB10.block _ HI.out.1.b4.lt).trans HI.out.1.b4); have c4 := hb4.cell; have f4 := hb4.frozen))
      have hKd : w11.heap[D]? = some (.deferred (some [])) := by
        have hl := (Array.getElem?_eq_some_iff.1 HI.out.2).1
        exact (hB11.block D (Nat.lt_of_lt_of_le hl hB10.size)).trans ((hB10.block D hl).trans HI.out.2)
      have hK' := (KeepsOthers.setCell w11 ⟨B4, 0, none⟩ (.bool true)).same D _ hKd rfl
      have hBw : Below w.heap.size w w11 := by
        have h1 := HI.out.1.below.trans (hB10.mono HI.out.1.below.size)
        exact h1.trans (hB11.mono h1.size)
      have hD0 := HMB.out.base
      have h4 : w.heap.size ≤ B4 := HB4.out
      refine ⟨by simp, .inl ⟨_, _, rfl, run_takeDeferred hK', ?_⟩⟩
      have hc5 := cell_kept (World.cell?_setCell_same' w11 ⟨B4, 0, none⟩ (.bool true) (by rw [c4]; rfl)) (grownBy_putObj' _ D (.deferred none)) (fun r e => by cases e; exact ⟨_, hK', rfl⟩)
      refine ⟨.bool true, ?_, rfl, (hBw.setCell (p := ⟨B4, 0, none⟩) h4 _).trans (belowK_b (w := w) (Nat.le_refl _) _ D _ _ (by omega) hK' rfl rfl)⟩
      simp [results, Try.results4, go_sem, hc5]
    case stop =>
      rintro D c pre W hD ⟨k, hk, rfl⟩ ⟨_, q, x, e1, e2⟩ _
      exfalso
      have hl := congrArg List.length e1
      rw [List.length_range, List.length_append, List.length_singleton] at hl
      subst hl
      rw [List.range_succ] at e1
      have := List.append_inj_right e1 (by simp)
      simp at this
      omega
end Go.Proofs.Ytdmopioiaaecfaa
