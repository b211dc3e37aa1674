/- Take. -/
import Derived.Test.YtdnophgcdnghkaaIMi
import Derived.Test.YtdnophgcdnghkaaIYi
namespace Go.Proofs.Ytdnophgcdnghkaa.I
open Go.RowKit Go.Maps Go.Proofs.Ytdnophgcdnghkaa

/-- What a taken key leaves. -/
abbrev gap : E := { key := 0, val := 0, hash := 0, place := 0, there := false }

section
variable {w : World} {bt pb N len reach : Nat} {fp : Nat × Nat × Int} {cv : Value} {came : List E} {places : List Nat}

theorem Came.wipe {g cap t : Nat} {e : E} (h : Came w g cap came) (he : came[t]? = some e) :
    Came (((((w.setCell ⟨g, t * 5, none⟩ (.int .i64 0)).setCell ⟨g, t * 5 + 1, none⟩ (.int .i64 0)).setCell ⟨g, t * 5 + 2, none⟩ (.int .u64 0)).setCell ⟨g, t * 5 + 3, none⟩ (.int .i64 0)).setCell ⟨g, t * 5 + 4, none⟩ (.bool false)) g cap (came.set t gap) := by
  have hl := (List.getElem?_eq_some_iff.1 he).1
  have a1 := h.store t 0 e { e with key := 0 } (.int .i64 0) he (by decide) rfl
  have a2 := a1.store t 1 { e with key := 0 } { e with key := 0, val := 0 } (.int .i64 0) (List.getElem?_set_self hl) (by decide) rfl
  rw [List.set_set] at a2
  have a3 := a2.store t 2 _ { e with key := 0, val := 0, hash := 0 } (.int .u64 0) (List.getElem?_set_self hl) (by decide) rfl
  rw [List.set_set] at a3
  have a4 := a3.store t 3 _ { e with key := 0, val := 0, hash := 0, place := 0 } (.int .i64 0) (List.getElem?_set_self hl) (by decide) rfl
  rw [List.set_set] at a4
  have a5 := a4.store t 4 _ gap (.bool false) (List.getElem?_set_self hl) (by decide) rfl
  rw [List.set_set] at a5
  exact a5

/-- The five stores of a wipe turn nothing but the row. -/
theorem Turn.wipe (w : World) (g t : Nat) : Turn (fun k => k = g) w (((((w.setCell ⟨g, t * 5, none⟩ (.int .i64 0)).setCell ⟨g, t * 5 + 1, none⟩ (.int .i64 0)).setCell ⟨g, t * 5 + 2, none⟩ (.int .u64 0)).setCell ⟨g, t * 5 + 3, none⟩ (.int .i64 0)).setCell ⟨g, t * 5 + 4, none⟩ (.bool false)) :=
  (((((Turn.refl (fun k => k = g) w).set (g := g) rfl _ _).set (g := g) rfl _ _).set (g := g) rfl _ _).set (g := g) rfl _ _).set (g := g) rfl _ _

theorem gone_at {t t' : Nat} {e' : E} (h : (came.set t gap)[t']? = some e') (hth : e'.there = true) : t' ≠ t ∧ came[t']? = some e' := by
  by_cases ht : t' = t
  · subst ht
    by_cases hl : t' < came.length
    · rw [List.getElem?_set_self hl] at h; simp only [Option.some.injEq] at h; subst h; cases hth
    · rw [List.getElem?_eq_none (by simp; omega)] at h; cases h
  · rw [List.getElem?_set_ne (Ne.symm ht)] at h; exact ⟨ht, h⟩

theorem take_tab (h : Tab w bt fp cv pb N len reach came places) {t g cap : Nat} {e : E} (he : came[t]? = some e) (hth : e.there = true) (hcv : cv.ownBlock = some g) {came2 : List E} {places2 : List Nat} {w2 : World} (hS : Sim (came.set t gap) came2) (hM : Mem w2 bt fp g cap pb N (len - 1) reach came2 places2)
    (hL : Lies N came2.length reach came2 places2) (hz : zeros places2 = zeros places + 1) (hT : Turn (foot bt pb cv) w w2) : Tab w2 bt fp (.slice (some ⟨g, 0, none⟩) came2.length cap) pb N (len - 1) reach came2 places2 := by
  have hlen : came2.length = came.length := by rw [hS.len, List.length_set]
  have hlv := live_set_gone (e' := gap) he hth rfl
  have hcnt := h.cnt
  have hzer := h.zer
  have hfew := h.few
  refine ⟨hM.box, .inr ⟨g, cap, rfl, hM.row⟩, hM.spots, h.fns.turn hT ?_, h.pow, h.eight, hL, by omega, ?_, by omega, h.rlt, ?_, ?_, ?_, ?_, by rw [hlen]; exact h.short⟩
  · rintro k hk (rfl | rfl | h3)
    · exact (h.apart _ hk).1 rfl
    · exact (h.apart _ hk).2.1 rfl
    · exact (h.apart k hk).2.2 h3
  · have := (hS.lives).len; omega
  · intro t' e' he' hth'
    obtain ⟨p, hp⟩ := hS.at he'
    exact h.keys t' { e' with place := p } (gone_at hp hth').2 hth'
  · intro t1 e1 t2 e2 h1 hth1 h2 hth2 hs
    obtain ⟨p1, hp1⟩ := hS.at h1
    obtain ⟨p2, hp2⟩ := hS.at h2
    exact h.uniq t1 { e1 with place := p1 } t2 { e2 with place := p2 } (gone_at hp1 hth1).2 hth1 (gone_at hp2 hth2).2 hth2 hs
  · intro k hk
    have ha := h.apart k hk
    rw [hcv] at ha
    exact ha
  · have h2 := h.two
    rw [hcv] at h2
    exact h2

theorem close_tab (h : Tab w bt fp cv pb N len reach came places) {g cap : Nat} (hcv : cv.ownBlock = some g) {places2 : List Nat} {w2 : World} (hM : Mem w2 bt fp g cap pb N len reach (live came) places2)
    (hL : Lies N (live came).length reach (live came) places2) (hz : zeros places2 = zeros places) (hT : Turn (foot bt pb cv) w w2) : Tab w2 bt fp (.slice (some ⟨g, 0, none⟩) (live came).length cap) pb N len reach (live came) places2 := by
  have hll := live_length_le came
  have hlive : live (live came) = live came := by unfold live; rw [List.filter_filter]; simp
  refine ⟨hM.box, .inr ⟨g, cap, rfl, hM.row⟩, hM.spots, h.fns.turn hT ?_, h.pow, h.eight, hL, by rw [hz]; exact h.zer, by rw [hlive]; exact h.cnt, h.few, h.rlt, ?_, ?_, ?_, ?_, by have := h.short; omega⟩
  · rintro k hk (rfl | rfl | h3)
    · exact (h.apart _ hk).1 rfl
    · exact (h.apart _ hk).2.1 rfl
    · exact (h.apart k hk).2.2 h3
  · intro t' e' he' hth'
    obtain ⟨t, h1, h2, _⟩ := rank_ex he'
    exact h.keys t e' h1 h2
  · intro t1 e1 t2 e2 h1 hth1 h2 hth2 hs
    obtain ⟨u1, a1, a2, a3⟩ := rank_ex h1
    obtain ⟨u2, b1, b2, b3⟩ := rank_ex h2
    have := h.uniq u1 e1 u2 e2 a1 a2 b1 b2 hs
    rw [← a3, ← b3, this]
  · intro k hk
    have ha := h.apart k hk
    rw [hcv] at ha
    exact ha
  · have h2 := h.two
    rw [hcv] at h2
    exact h2

theorem take_no (h : Tab w bt fp cv pb N len reach came places) (k : Int) (hk : KeyOk k) (hno : ∀ (t : Nat) (e : E), came[t]? = some e → e.there = true → sm fp e.key k = false) :
    Calls Try.prog 27 #[.pointer (some ⟨bt, 0, none⟩), .int .i64 (k)] w fun e' w' => e' = .returned (.tuple #[(.int .i64 0), .bool false]) ∧ ∃ n, w' = w.drewN n := by
  have hf := find_no h k hk hno
  clear h hno
  go_enter Try.func27, Try.ntmps27
  go_wp2_with fail
  refine hf.mono ?_
  rintro e9 w9 ⟨rfl, n, rfl⟩
  clear hf
  go_wp2
  go_ret2
  exact ⟨rfl, n, rfl⟩

set_option maxRecDepth 100000 in
set_option maxHeartbeats 2000000 in
theorem take_yes (h : Tab w bt fp cv pb N len reach came places) (k : Int) (hk : KeyOk k) {t : Nat} {e : E} (he : came[t]? = some e) (hth : e.there = true) (hs : sm fp e.key k = true) :
    Calls Try.prog 27 #[.pointer (some ⟨bt, 0, none⟩), .int .i64 (k)] w fun e' w' => e' = .returned (.tuple #[.int .i64 (e.val), .bool true]) ∧ ∃ cv' came' places', Tab w' bt fp cv' pb N (len - 1) reach came' places' ∧ Sim (live (came.set t gap)) (live came') ∧ came'.length ≤ came.length ∧ cv'.ownBlock = cv.ownBlock ∧ Turn (foot bt pb cv) w w' := by
  obtain ⟨g, cap, hcv, hC⟩ := h.row.at he
  have hf := find_yes h k hk hcv hC he hth hs
  have HT : Hid (Tab w bt fp cv pb N len reach came places) := h
  have HE : Hid (came[t]? = some e) := he
  have HCV : Hid (cv = .slice (some ⟨g, 0, none⟩) came.length cap) := hcv
  have hlt := (List.getElem?_eq_some_iff.1 he).1
  have hgl := hC.lt
  clear h he
  go_enter Try.func27, Try.ntmps27
  go_wp2_with fail
  refine hf.mono ?_
  rintro e9 w9 ⟨rfl, n, hw9⟩
  have hT9 := HT.out.drew n
  have hS9 : Stay w (w.drewN n) := Stay.drewN w n
  have hC9 : Came (w.drewN n) g cap came := hC
  rw [← hw9] at hT9 hS9 hC9
  obtain ⟨c0, c1, c2, c3, c4⟩ := hC9.cells t e HE.out
  rw [hth] at c4
  have f0 := hC9.free (t * 5)
  have f1 := hC9.free (t * 5 + 1)
  have f2 := hC9.free (t * 5 + 2)
  have f3 := hC9.free (t * 5 + 3)
  have f4 := hC9.free (t * 5 + 4)
  have hg9 := hC9.lt
  have H9 : Hid _ := And.intro hT9 (And.intro hS9 hC9)
  clear hf hcv hw9 hC hgl
  have b4 := hT9.box.c4
  have bf := hT9.box.free 4
  clear hT9 hS9 hC9
  go_upto_region 6 with fail
  go_upto_region 7 with fail
  obtain ⟨hT9, hS9, hC9⟩ := H9.out
  have hcl := hT9.short
  have hM9 := hT9.mem HCV.out hC9
  have hMw := hM9.reRow (hC9.wipe HE.out) (Turn.wipe w9 g t) (by rw [List.length_set])
  have hM7 := hMw.turn (S := fun _ => False) (Turn.of_stay (Stay.new _ (.cells #[.int .i64 (e.key), .int .i64 (e.val), .int .u64 e.hash, .int .i64 e.place, .bool true] 75))) (fun _ _ e => e)
  have hT7 : Turn (foot bt pb cv) w ((((((w9.setCell ⟨g, t * 5, none⟩ (.int .i64 0)).setCell ⟨g, t * 5 + 1, none⟩ (.int .i64 0)).setCell ⟨g, t * 5 + 2, none⟩ (.int .u64 0)).setCell ⟨g, t * 5 + 3, none⟩ (.int .i64 0)).setCell ⟨g, t * 5 + 4, none⟩ (.bool false)).alloc (.cells #[.int .i64 (e.key), .int .i64 (e.val), .int .u64 e.hash, .int .i64 e.place, .bool true] 75)) :=
    ((Turn.of_stay hS9).trans ((Turn.wipe w9 g t).mono (fun k _ hk => .inr (.inr (by rw [HCV.out, hk]; rfl))))).trans (Turn.of_stay (Stay.new _ _))
  have hbx3 : ((((((w9.setCell ⟨g, t * 5, none⟩ (.int .i64 0)).setCell ⟨g, t * 5 + 1, none⟩ (.int .i64 0)).setCell ⟨g, t * 5 + 2, none⟩ (.int .u64 0)).setCell ⟨g, t * 5 + 3, none⟩ (.int .i64 0)).setCell ⟨g, t * 5 + 4, none⟩ (.bool false)).alloc (.cells #[.int .i64 (e.key), .int .i64 (e.val), .int .u64 e.hash, .int .i64 e.place, .bool true] 75)).cell? ⟨w9.heap.size, 3, none⟩ = some (.int .i64 e.place) := by
    have := new_cells (((((w9.setCell ⟨g, t * 5, none⟩ (.int .i64 0)).setCell ⟨g, t * 5 + 1, none⟩ (.int .i64 0)).setCell ⟨g, t * 5 + 2, none⟩ (.int .u64 0)).setCell ⟨g, t * 5 + 3, none⟩ (.int .i64 0)).setCell ⟨g, t * 5 + 4, none⟩ (.bool false)) [.int .i64 (e.key), .int .i64 (e.val), .int .u64 e.hash, .int .i64 e.place, .bool true] 75 3 _ rfl
    simpa [add_at] using this
  have hbx1 : ((((((w9.setCell ⟨g, t * 5, none⟩ (.int .i64 0)).setCell ⟨g, t * 5 + 1, none⟩ (.int .i64 0)).setCell ⟨g, t * 5 + 2, none⟩ (.int .u64 0)).setCell ⟨g, t * 5 + 3, none⟩ (.int .i64 0)).setCell ⟨g, t * 5 + 4, none⟩ (.bool false)).alloc (.cells #[.int .i64 (e.key), .int .i64 (e.val), .int .u64 e.hash, .int .i64 e.place, .bool true] 75)).cell? ⟨w9.heap.size, 1, none⟩ = some (.int .i64 (e.val)) := by
    have := new_cells (((((w9.setCell ⟨g, t * 5, none⟩ (.int .i64 0)).setCell ⟨g, t * 5 + 1, none⟩ (.int .i64 0)).setCell ⟨g, t * 5 + 2, none⟩ (.int .u64 0)).setCell ⟨g, t * 5 + 3, none⟩ (.int .i64 0)).setCell ⟨g, t * 5 + 4, none⟩ (.bool false)) [.int .i64 (e.key), .int .i64 (e.val), .int .u64 e.hash, .int .i64 e.place, .bool true] 75 1 _ rfl
    simpa [add_at] using this
  have hsz7 : w9.heap.size < ((((((w9.setCell ⟨g, t * 5, none⟩ (.int .i64 0)).setCell ⟨g, t * 5 + 1, none⟩ (.int .i64 0)).setCell ⟨g, t * 5 + 2, none⟩ (.int .u64 0)).setCell ⟨g, t * 5 + 3, none⟩ (.int .i64 0)).setCell ⟨g, t * 5 + 4, none⟩ (.bool false)).alloc (.cells #[.int .i64 (e.key), .int .i64 (e.val), .int .u64 e.hash, .int .i64 e.place, .bool true] 75)).heap.size := by simp
  have hbl9 : bt < w9.heap.size ∧ pb < w9.heap.size := ⟨hT9.box.lt, hT9.spots.lt⟩
  generalize (((((w9.setCell ⟨g, t * 5, none⟩ (.int .i64 0)).setCell ⟨g, t * 5 + 1, none⟩ (.int .i64 0)).setCell ⟨g, t * 5 + 2, none⟩ (.int .u64 0)).setCell ⟨g, t * 5 + 3, none⟩ (.int .i64 0)).setCell ⟨g, t * 5 + 4, none⟩ (.bool false)).alloc (.cells #[.int .i64 (e.key), .int .i64 (e.val), .int .u64 e.hash, .int .i64 e.place, .bool true] 75) = w7 at hM7 hT7 hbx3 hbx1 hsz7 ⊢
  clear hM9 hMw c0 c1 c2 c3 c4 f0 f1 f2 f3 f4 b4 bf
  have hlive := live_set_gone (e' := gap) HE.out hth rfl
  have hcnt := HT.out.cnt
  have hlen1 : 1 ≤ len := by omega
  have b4 := hM7.box.c4
  have bf := hM7.box.free 4
  have hM8 := hM7.setLen (len - 1)
  rw [show ((len - 1 : Nat) : Int) = (len : Int) - 1 by omega] at hM8
  have hT8 : Turn (foot bt pb cv) w (w7.setCell ⟨bt, 4, none⟩ (.int .i64 ((len : Int) - 1))) := hT7.set (.inl rfl) _ _
  have hbx3' : (w7.setCell ⟨bt, 4, none⟩ (.int .i64 ((len : Int) - 1))).cell? ⟨w9.heap.size, 3, none⟩ = some (.int .i64 e.place) := ((Turn.refl (fun k => k = bt) w7).set (g := bt) rfl _ _).cell hbx3 (by show ¬ w9.heap.size = bt; omega)
  have hbx1' : (w7.setCell ⟨bt, 4, none⟩ (.int .i64 ((len : Int) - 1))).cell? ⟨w9.heap.size, 1, none⟩ = some (.int .i64 (e.val)) := ((Turn.refl (fun k => k = bt) w7).set (g := bt) rfl _ _).cell hbx1 (by show ¬ w9.heap.size = bt; omega)
  have hlb : len ≤ 1099511627776 := by have := live_length_le came; omega
  have HB : Hid (w9.heap.size < w7.heap.size ∧ bt < w9.heap.size ∧ pb < w9.heap.size ∧ g < w9.heap.size ∧ Turn (foot bt pb cv) w (w7.setCell ⟨bt, 4, none⟩ (.int .i64 ((len : Int) - 1))) ∧ (w7.setCell ⟨bt, 4, none⟩ (.int .i64 ((len : Int) - 1))).cell? ⟨w9.heap.size, 1, none⟩ = some (.int .i64 (e.val))) := ⟨hsz7, hbl9.1, hbl9.2, hg9, hT8, hbx1'⟩
  have hME := HT.out.lies.gone hlt HE.out hth (g := gap) rfl
  have hmend := mend_any hM8 HT.out.pow HT.out.eight (by rw [List.length_set]; exact hME) (by have := HT.out.zer; have := HT.out.few; have := HT.out.eight; omega) (fun t' e' he' hth' => by rw [(HT.out.keys t' e' (gone_at he' hth').2 hth').1]; exact hf_lt _ _) (by rw [List.length_set]; exact HT.out.short) HT.out.rlt
  clear hT9 hS9 hC9 hM7 hT7 hM8 hT8 hbx1 hbx3 hbx1' hcnt hlive hME hg9 hbl9 hsz7
  go_wp2_with fail
  refine hmend.mono ?_
  rintro e9 w8 ⟨rfl, came2, places2, hS2, hM2, hL2, hz2, hTm⟩
  rw [List.length_set] at hL2
  have hlen2 : came2.length = came.length := by rw [hS2.len, List.length_set]
  obtain ⟨x1, x2, x3, x4, hT8, hx1⟩ := HB.out
  have d1 : w8.cell? ⟨w9.heap.size, 1, none⟩ = some (.int .i64 (e.val)) := hTm.cell hx1 (by rintro (h0 | h0 | h0) <;> (have : w9.heap.size = _ := h0; omega))
  have hTw : Turn (foot bt pb cv) w w8 := hT8.trans (hTm.mono (fun k _ hk => by
    rcases hk with rfl | rfl | rfl
    · exact .inl rfl
    · exact .inr (.inl rfl)
    · exact .inr (.inr (by rw [HCV.out]; rfl))))
  have hTab := take_tab HT.out HE.out hth (show cv.ownBlock = some g by rw [HCV.out]; rfl) hS2 hM2 (by rw [hlen2]; exact hL2) hz2 hTw
  have d2 := hM2.box.c2
  have d4 := hM2.box.c4
  have hcn2 := hTab.cnt
  have hll2 := live_length_le came2
  have hC2 : came2.length ≤ 1099511627776 := hTab.short
  have HX : Hid (Tab w8 bt fp (.slice (some ⟨g, 0, none⟩) came2.length cap) pb N (len - 1) reach came2 places2 ∧ Sim (came.set t gap) came2 ∧ Mem w8 bt fp g cap pb N (len - 1) reach came2 places2 ∧ Turn (foot bt pb cv) w w8 ∧ came2.length = came.length) := ⟨hTab, hS2, hM2, hTw, hlen2⟩
  have HY : Hid (w9.heap.size < w8.heap.size ∧ bt < w9.heap.size ∧ pb < w9.heap.size ∧ g < w9.heap.size) := ⟨Nat.lt_of_lt_of_le x1 (by have := hTm.size; simpa using this), x2, x3, x4⟩
  clear hmend hS2 hM2 hL2 hz2 hTm hTab hTw hT8 hx1 x1 x2 x3 x4 hlen2 HB b4 bf hbx3'
  generalize hl1 : len - 1 = l1 at d4 HX hcn2
  have HL1 : Hid (len - 1 = l1) := hl1
  have hl1b : l1 ≤ 1099511627776 := by omega
  have hcle : l1 ≤ came2.length := by omega
  have HCN : Hid (l1 = (live came2).length) := hcn2
  clear hl1 hcn2
  by_cases hgt : 2 * l1 < came2.length
  · have hgi : 2 * (l1 : Int) < (came2.length : Int) := by omega
    go_wp2_with fail
    go_quiet (fail)
    have hcg := closeGaps_any (HX.out.2.2.1.drew nq) (HX.out.1.drew nq).lies HX.out.1.pow.bd (by rw [← HCN.out]; omega) hC2
    go_wp2_with fail
    refine hcg.mono ?_
    rintro e9 w5 ⟨rfl, places3, hM3, hL3, hz3, hT3⟩
    have d1' : w5.cell? ⟨w9.heap.size, 1, none⟩ = some (.int .i64 (e.val)) := hT3.cell d1 (by have := HY.out; rintro (h0 | h0 | h0) <;> (have : w9.heap.size = _ := h0; omega))
    have hT3' : Turn (foot bt pb (.slice (some ⟨g, 0, none⟩) came2.length cap)) w8 w5 := (Turn.of_stay (Stay.drewN w8 nq)).trans (hT3.mono (fun k _ hk => by
      rcases hk with rfl | rfl | rfl
      · exact .inl rfl
      · exact .inr (.inl rfl)
      · exact .inr (.inr rfl)))
    have hTab := close_tab HX.out.1 rfl hM3 hL3 hz3 hT3'
    have H5 : Hid (Tab w5 bt fp (.slice (some ⟨g, 0, none⟩) (live came2).length cap) pb N l1 reach (live came2) places3 ∧ Turn (foot bt pb cv) w w5) := by
      refine ⟨hTab, HX.out.2.2.2.1.trans (hT3'.mono (fun k _ hk => ?_))⟩
      rcases hk with rfl | rfl | hk
      · exact .inl rfl
      · exact .inr (.inl rfl)
      · exact .inr (.inr (by rw [HCV.out]; exact hk))
    clear hcg hM3 hL3 hz3 hT3 hT3' hTab d1
    go_wp2
    go_ret2
    refine ⟨rfl, _, _, _, by rw [HL1.out]; exact H5.out.1, ?_, ?_, by rw [HCV.out]; rfl, H5.out.2⟩
    · have hlive : live (live came2) = live came2 := by unfold live; rw [List.filter_filter]; simp
      rw [hlive]; exact HX.out.2.1.lives
    · have := HX.out.2.2.2.2; omega
  · have hgi : ¬ 2 * (l1 : Int) < (came2.length : Int) := by omega
    go_wp2_with fail
    go_quiet (fail)
    have H5 : Hid (Tab (w8.drewN nq) bt fp (.slice (some ⟨g, 0, none⟩) came2.length cap) pb N l1 reach came2 places2 ∧ Turn (foot bt pb cv) w (w8.drewN nq)) := ⟨HX.out.1.drew nq, HX.out.2.2.2.1.trans (Turn.of_stay (Stay.drewN _ _))⟩
    go_wp2
    go_ret2
    exact ⟨rfl, _, _, _, by rw [HL1.out]; exact H5.out.1, HX.out.2.1.lives, by have := HX.out.2.2.2.2; omega, by rw [HCV.out]; rfl, H5.out.2⟩
end
end Go.Proofs.Ytdnophgcdnghkaa.I
