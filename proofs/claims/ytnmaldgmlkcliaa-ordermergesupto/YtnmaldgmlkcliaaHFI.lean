/- Heaps: Pop. -/
import Derived.Test.YtnmaldgmlkcliaaHEI
namespace Go.Proofs.Ytnmaldgmlkcliaa.HI
open Go.RowKit Go.Maps Go.Shelf Go.Sort Go.Proofs.Ytnmaldgmlkcliaa

section
variable {w : World} {hb g cap turns : Nat} {came : List E} {fv v : Value} {cf : (Int) → (Int) → Int}

theorem pop_none (h : Hp w hb fv v turns []) : Calls Try.prog 32 #[.pointer (some ⟨hb, 0, none⟩)] w fun e w' => e = .returned (.tuple #[.int .i64 0, .bool false]) ∧ Stay w w' := by
  have hl := fun (W : World) (hW : Stay w W) => peek_none (h.stay hW)
  go_enter Try.func32, Try.ntmps32
  go_wp2_with fail
  refine (hl _ (Stay.refl _)).mono ?_
  rintro e w9 ⟨rfl, hw⟩
  have HW : Hid (Stay w w9) := hw
  clear hw
  go_wp2
  go_ret2
  exact ⟨rfl, HW.out⟩

/-- The first goes out, the last comes in its place. -/
theorem pop_perm {α : Type} {l : List α} {a b : α} {n : Nat} (hn : l.length = n + 1) (ha : l[0]? = some a) (hb : l[n]? = some b) : (a :: (l.set 0 b).take n).Perm l := by
  cases l with
  | nil => simp at hn
  | cons x t =>
    simp at ha hn
    subst ha
    cases n with
    | zero =>
      have : t = [] := List.eq_nil_of_length_eq_zero hn
      subst this
      simp
    | succ n =>
      simp only [List.set_cons_zero, List.take_succ_cons]
      have e : t = t.take n ++ [b] := by
        conv => lhs; rw [← List.take_append_drop n t]
        congr 1
        have h1 : n < t.length := by omega
        rw [List.drop_eq_getElem_cons h1, List.drop_of_length_le (by omega)]
        simp at hb
        rw [List.getElem?_eq_getElem h1] at hb
        simpa using hb
      conv => rhs; rw [e]
      exact List.Perm.cons _ ((List.perm_append_comm (l₁ := [b]) (l₂ := t.take n)))
theorem Hp.len {n c : Nat} {a : Option Addr} (h : Hp w hb fv (.slice a n c) turns came) : n = came.length := by
  rcases h.row with ⟨h1, h2⟩ | ⟨g', c', h1, _⟩
  · simp at h1; simp [h1, h2]
  · simp at h1; exact h1.2.1

theorem cut_hp {c2 : List E} {n : Nat} {z : E} (h : Hp w hb fv (.slice (some ⟨g, 0, none⟩) (n + 1) cap) turns c2) (hC : Came w g cap c2) (hn : c2.length = n + 1) (hz : c2[n]? = some z) :
    Hp ((stored w g n (0, 0)).setCell ⟨hb, 1, none⟩ (.slice (some ⟨g, 0, none⟩) n cap)) hb fv (.slice (some ⟨g, 0, none⟩) n cap) turns (c2.take n) ∧ Came ((stored w g n (0, 0)).setCell ⟨hb, 1, none⟩ (.slice (some ⟨g, 0, none⟩) n cap)) g cap (c2.take n) ∧
      Turn (foot hb (.slice (some ⟨g, 0, none⟩) (n + 1) cap)) w ((stored w g n (0, 0)).setCell ⟨hb, 1, none⟩ (.slice (some ⟨g, 0, none⟩) n cap)) := by
  have hgb : g ≠ hb := by have := h.two; simpa [Value.ownBlock] using this
  have hC1 := hC.store n z (0, 0) hz
  have hH1 := Hp.store h (by simp [hn]) n (0, 0) hC1
  have hC2 := hC1.cut n (by simp [hn])
  rw [List.take_set_of_le (Nat.le_refl _)] at hC2
  have hC3 := hC2.storeOther hb 1 (.slice (some ⟨g, 0, none⟩) n cap) hgb
  have hl : (c2.take n).length = n := by simp [hn]
  refine ⟨⟨?_, .inr ⟨g, cap, by rw [hl], hC3⟩, by simp [Value.ownBlock, hgb]⟩, hC3, (stored_turn (Turn.refl _ _) (.inr rfl) _ _).set (.inl rfl) _ _⟩
  rw [heap_setCell_same _ _ _ _ _ _ hH1.box]
  simp

set_option maxRecDepth 100000 in
set_option maxHeartbeats 4000000 in
theorem pop_some (hf : Fv fv cf) (h : Hp w hb fv v turns came) (hh : IsHeap (ahd cf) came) (e : E) (he : came[0]? = some e) (hsz : came.length ≤ 1152921504606846976) :
    Calls Try.prog 32 #[.pointer (some ⟨hb, 0, none⟩)] w fun e' w' => e' = .returned (.tuple #[.int .i64 e.1, .bool true]) ∧ ∃ v' came', (e :: came').Perm came ∧ IsHeap (ahd cf) came' ∧ Hp w' hb fv v' turns came' ∧ Turn (foot hb v) w w' ∧ (∀ k, foot hb v' k → foot hb v k) := by
  have hpk := fun (W : World) (hW : Stay w W) => peek_some (h.stay hW) e he
  obtain ⟨g, cap, hv, hC⟩ := h.row.at he
  obtain ⟨n, hn⟩ : ∃ n, came.length = n + 1 := ⟨came.length - 1, by have := (List.getElem?_eq_some_iff.1 he).1; omega⟩
  obtain ⟨b, hb'⟩ : ∃ b, came[n]? = some b := ⟨_, List.getElem?_eq_getElem (by omega)⟩
  rw [hn] at hv
  subst hv
  have hgb : g ≠ hb := by have := h.two; simpa [Value.ownBlock] using this
  have hbl := h.lt hb (.inl rfl)
  have hgl := hC.lt
  have lc := hC.len
  rw [hn] at lc hsz
  unfold maxLen at lc
  have ln : (n : Int) < (n : Int) + 1 := by omega
  have lz : (0 : Int) < (n : Int) + 1 := by omega
  have ncap : (n : Int) ≤ (cap : Int) := by omega
  have HH : Hid (Hp w hb fv (.slice (some ⟨g, 0, none⟩) (n + 1) cap) turns came ∧ Came w g cap came ∧ IsHeap (ahd cf) came ∧ Fv fv cf ∧ came[0]? = some e ∧ came[n]? = some b ∧ came.length = n + 1) := ⟨h, hC, hh, hf, he, hb', hn⟩
  clear h hC hh hf he hb' hn
  go_enter Try.func32, Try.ntmps32
  go_wp2_with fail
  refine (hpk _ (Stay.refl _)).mono ?_
  rintro e9 w1 ⟨rfl, hst⟩
  have HS : Hid (Stay w w1) := hst
  have HH1 : Hid (Hp w1 hb fv (.slice (some ⟨g, 0, none⟩) (n + 1) cap) turns came ∧ Came w1 g cap came) := ⟨HH.out.1.stay hst, HH.out.2.1.stay hst⟩
  clear hpk hst
  have k1 := HH1.out.1.c1
  have fz := HH1.out.2.free
  have fb := HH1.out.1.free 1
  obtain ⟨b1, b3⟩ := b
  have d0 : w1.cell? ⟨g, n * 2, none⟩ = some (.int .i64 b1) := HH1.out.2.cell n _ HH.out.2.2.2.2.2.1 0 (by decide)
  have d1 : w1.cell? ⟨g, n * 2 + 1, none⟩ = some (.int .i64 (b3 : Int)) := HH1.out.2.cell n _ HH.out.2.2.2.2.2.1 1 (by decide)
  obtain ⟨e1, e3⟩ := e
  have c0 : w1.cell? ⟨g, 0, none⟩ = some (.int .i64 e1) := HH1.out.2.cell 0 _ HH.out.2.2.2.2.1 0 (by decide)
  have c1 : w1.cell? ⟨g, 1, none⟩ = some (.int .i64 (e3 : Int)) := HH1.out.2.cell 0 _ HH.out.2.2.2.2.1 1 (by decide)
  go_wp2_with fail
  go_region
  obtain ⟨X2, hX2⟩ : ∃ X, X = (stored w1 g 0 (b1, b3)).drew := ⟨_, rfl⟩
  change Exit.then _ _ Exit.normal _ (stored w1 g 0 (b1, b3)).drew
  rw [← hX2]
  have hC2 : Came X2 g cap (came.set 0 (b1, b3)) := by rw [hX2]; exact (HH1.out.2.store 0 _ (b1, b3) HH.out.2.2.2.2.1).stay (Stay.drew _)
  have hH2 : Hp X2 hb fv (.slice (some ⟨g, 0, none⟩) (n + 1) cap) turns (came.set 0 (b1, b3)) := by rw [hX2] at hC2 ⊢; exact (Hp.store HH1.out.1 (by simp [HH.out.2.2.2.2.2.2]) 0 _ (HH1.out.2.store 0 _ (b1, b3) HH.out.2.2.2.2.1)).stay (Stay.drew _)
  have hT2 : Turn (foot hb (.slice (some ⟨g, 0, none⟩) (n + 1) cap)) w X2 := by rw [hX2]; exact (stored_turn (Turn.of_stay HS.out) (.inr rfl) 0 _).trans (Turn.of_stay (Stay.drew _))
  have hnn : (came.set 0 (b1, b3))[n]? = some (b1, b3) := by
    rw [List.getElem?_set]
    split
    · rename_i h0; rw [if_pos (by have := HH.out.2.2.2.2.2.2; omega)]
    · exact HH.out.2.2.2.2.2.1
  clear hX2 k1 fz fb d0 d1 c0 c1
  have k1 := hH2.c1
  have fz := hC2.free
  have fb := hH2.free 1
  have d0 : X2.cell? ⟨g, n * 2, none⟩ = some (.int .i64 b1) := hC2.cell n _ hnn 0 (by decide)
  have d1 : X2.cell? ⟨g, n * 2 + 1, none⟩ = some (.int .i64 (b3 : Int)) := hC2.cell n _ hnn 1 (by decide)
  have HX : Hid _ := And.intro hC2 (And.intro hH2 (And.intro hT2 hnn))
  clear hC2 hH2 hT2 hnn
  have hl2 : (came.set 0 (b1, b3)).length = n + 1 := by simp [HH.out.2.2.2.2.2.2]
  obtain ⟨q1, q2, q3⟩ := cut_hp HX.out.2.1 HX.out.1 hl2 HX.out.2.2.2
  have htl : ((came.set 0 (b1, b3)).take n).length = n := by simp [HH.out.2.2.2.2.2.2]
  have hdn : Down (ahd cf) ((came.set 0 (b1, b3)).take n) 0 := down_start HH.out.2.2.1 (fun k hk hkl => by
    rw [htl] at hkl
    rw [List.getElem?_take_of_lt hkl, List.getElem?_set_ne (by omega)])
  have hsk := sink_any HH.out.2.2.2.1 (by rw [htl]; exact q1) q2 hdn (by rw [htl]; omega)
  rw [htl] at hsk
  have HQ : Hid _ := And.intro q1 (And.intro q2 q3)
  have HP : Hid ((((e1, e3) : E) :: (came.set 0 (b1, b3)).take n).Perm came) := pop_perm HH.out.2.2.2.2.2.2 HH.out.2.2.2.2.1 HH.out.2.2.2.2.2.1
  clear q1 q2 q3 hdn hl2 htl
  go_wp2_with fail
  refine hsk.mono ?_
  rintro e9 w5 ⟨rfl, came', hp, hhp, hH, hC, hT⟩
  have H5 : Hid _ := And.intro hp (And.intro hhp (And.intro hH hT))
  clear hp hhp hH hC hT hsk
  go_wp2
  go_ret2
  refine ⟨rfl, _, came', (List.Perm.cons _ H5.out.1).trans HP.out, H5.out.2.1, H5.out.2.2.1, ?_, ?_⟩
  · exact (HX.out.2.2.1.trans HQ.out.2.2).then H5.out.2.2.2 (fun k _ e => .inr (by rw [e]; rfl))
  · rintro k (rfl | hk)
    · exact .inl rfl
    · exact .inr hk
end
end Go.Proofs.Ytnmaldgmlkcliaa.HI
