/- Put. Put of a key that is not there. -/
import Derived.Test.YtnhmjheipfopoaaIKl
import Derived.Test.YtnhmjheipfopoaaIGl
namespace Go.Proofs.Ytnhmjheipfopoaa.L
open Go.RowKit Go.Maps Go.Proofs.Ytnhmjheipfopoaa

theorem infoEnt : (Try.prog.info? 113).map (fun i => (i.zero, i.size, i.bytes)) = some (some (.agg #[.slice none 0 0, .int .i64 0, .int .u64 0, .int .i64 0, .bool false]), 5, 56) := by kernel_rfl

/-- An entry that is there. -/
abbrev ent (k : LK) (v : Int) (h p : Nat) : E := { key := k, val := v, hash := h, place := p, there := true }

section
variable {w w' : World} {bt pb N len reach : Nat} {fp : List LK} {cv : Value} {came : List E} {places : List Nat}

theorem Row.owns (h : Row w cv came) : w.ownsRow 0 113 5 cv came.length (flat came) := by
  refine ⟨flat_len came, ?_⟩
  rcases h with ⟨rfl, rfl⟩ | ⟨g, cap, rfl, cur, h1, h2, h3, h4, h5⟩
  · exact .inl ⟨rfl, rfl⟩
  · exact .inr ⟨g, cap, cur, rfl, Nat.zero_le _, h1, h2, h3, h4, h5⟩

theorem Row.of_owns {v : Value} (h : w.ownsRow 0 113 5 v came.length (flat came)) (hne : v ≠ .slice none 0 0) : ∃ g cap, v = .slice (some ⟨g, 0, none⟩) came.length cap ∧ Came w g cap came := by
  rcases h.2 with ⟨h0, _⟩ | ⟨g, cap, cur, rfl, _, h1, h2, h3, h4, h5⟩
  · exact absurd h0 hne
  · exact ⟨g, cap, rfl, cur, h1, h2, h3, h4, h5⟩

theorem Tab.setVal (h : Tab w bt fp cv pb N len reach came places) {g cap t : Nat} {e : E} (hcv : cv = .slice (some ⟨g, 0, none⟩) came.length cap) (hC : Came w g cap came) (he : came[t]? = some e) (v : Int) :
    Tab (w.setCell ⟨g, t * 5 + 1, none⟩ (.int .i64 (v))) bt fp cv pb N len reach (came.set t { e with val := v }) places := by
  subst hcv
  have hl := (List.getElem?_eq_some_iff.1 he).1
  have two := h.two
  simp only [Value.ownBlock, ne_eq, Option.some.injEq] at two
  have hcg : ∀ (t' : Nat) (e' : E), (came.set t { e with val := v })[t']? = some e' → ∃ v', came[t']? = some { e' with val := v' } := by
    intro t' e' h'
    by_cases ht : t' = t
    · subst ht; rw [List.getElem?_set_self hl] at h'; simp only [Option.some.injEq] at h'; subst h'; exact ⟨e.val, he⟩
    · rw [List.getElem?_set_ne (Ne.symm ht)] at h'; exact ⟨e'.val, h'⟩
  refine { h with box := ?_, row := ?_, spots := h.spots.storeOther _ _ _ (fun e => two.2.2 e.symm), fns := ?_, lies := ?_, cnt := ?_, keys := ?_, uniq := ?_, short := by simpa using h.short }
  · obtain ⟨pc0, this⟩ := h.box
    refine ⟨pc0, ?_⟩
    exact (Below.heap_setCell _ _ _ _ (by show bt ≠ g; exact fun e => two.2.1 e.symm)).trans this
  · refine .inr ⟨g, cap, by rw [List.length_set], hC.store t 1 e _ _ he (by decide) rfl⟩
  · refine h.fns.turn (S := fun k => k = g) ((Turn.refl (fun k => k = g) w).set (g := g) rfl _ _) ?_
    intro k hk e; subst e; exact (h.apart k hk).2.2 rfl
  · have hL := h.lies
    rw [List.length_set]
    refine ⟨hL.len, fun p t' hp => ?_, fun t' e' ht' he' hth => ?_, fun t' e' ht' he' hth => ?_, fun t' e' ht' he' hth => ?_⟩
    · obtain ⟨h1, e', h2, h3, h4⟩ := hL.back p t' hp
      refine ⟨h1, ?_⟩
      by_cases ht : t' = t
      · subst ht; rw [he] at h2; simp only [Option.some.injEq] at h2; subst h2
        exact ⟨_, List.getElem?_set_self hl, h3, h4⟩
      · exact ⟨e', by rw [List.getElem?_set_ne (Ne.symm ht)]; exact h2, h3, h4⟩
    · obtain ⟨v', h'⟩ := hcg t' e' he'
      exact hL.here t' { e' with val := v' } ht' h' hth
    · obtain ⟨v', h'⟩ := hcg t' e' he'
      exact hL.first t' { e' with val := v' } ht' h' hth
    · obtain ⟨v', h'⟩ := hcg t' e' he'
      exact hL.near t' { e' with val := v' } ht' h' hth
  · rw [live_set_same (e' := { e with val := v }) he rfl]; exact h.cnt
  · intro t' e' he' hth
    obtain ⟨v', h'⟩ := hcg t' e' he'
    exact h.keys t' { e' with val := v' } h' hth
  · intro t1 e1 t2 e2 h1 hth1 h2 hth2 hs
    obtain ⟨v1, h1'⟩ := hcg t1 e1 h1
    obtain ⟨v2, h2'⟩ := hcg t2 e2 h2
    exact h.uniq t1 { e1 with val := v1 } t2 { e2 with val := v2 } h1' hth1 h2' hth2 hs

set_option maxRecDepth 100000 in
set_option maxHeartbeats 1000000 in
/-- Put of a key that is there. -/
theorem put_yes (h : Tab w bt fp cv pb N len reach came places) (k : LK) (hk : KeyOk fp k) (v : Int) {t : Nat} {e : E} (he : came[t]? = some e) (hth : e.there = true) (hs : sm fp e.key k = true) :
    Calls Try.prog 63 #[.pointer (some ⟨bt, 0, none⟩), k.v, .int .i64 (v)] w fun e' w' => e' = .returned (.tuple #[.int .i64 (e.val), .bool true, .int .i64 0]) ∧
      Tab w' bt fp cv pb N len reach (came.set t { e with val := v }) places ∧ Turn (foot bt pb cv) w w' := by
  obtain ⟨g, cap, hcv, hC⟩ := h.row.at he
  have hm := made_yes h.box.c0
  have hh := hash_any h.fns k hk
  have hse := h.search k hk
  have c0 := h.box.c0
  have HA : Hid (∀ r, Ends N (hf fp k % N) came places (hit fp (hf fp k) k) r → ∀ W, Stay w W → Calls Try.prog 77 #[.pointer (some ⟨bt, 0, none⟩), .int .i64 (r : Int)] W fun e w' => e = .returned (.pointer (some ⟨g, t * 5, none⟩)) ∧ ∃ k, w' = W.drewN k) :=
    fun r hE W hW => h.atYes hE.lt (h.ends_yes hE he hth hs).2 hcv hC hW
  have HF : Hid (∀ W, Stay w W → Tab (W.setCell ⟨g, t * 5 + 1, none⟩ (.int .i64 (v))) bt fp cv pb N len reach (came.set t { e with val := v }) places ∧ Turn (foot bt pb cv) w (W.setCell ⟨g, t * 5 + 1, none⟩ (.int .i64 (v)))) :=
    fun W hW => ⟨(h.stay hW).setVal hcv (hC.turn (S := fun _ => False) (Turn.of_stay hW) (fun e => e)) he v, (Turn.of_stay hW).set (.inr (.inr (by rw [hcv]; rfl))) _ _⟩
  have cvl : ∀ W, Stay w W → W.cell? ⟨g, t * 5 + 1, none⟩ = some (.int .i64 (e.val)) := fun W hW => hW.cell (hC.cells t e he).2.1
  have cfr : ∀ W, Stay w W → W.frozen? ⟨g, t * 5 + 1, none⟩ = false := fun W hW => (hC.turn (S := fun _ => False) (Turn.of_stay hW) (fun e => e)).free (t * 5 + 1)
  clear h hC he hcv
  go_enter Try.func63, Try.ntmps63
  go_wp2_with fail
  refine hm.mono ?_
  rintro e9 w9 ⟨rfl, hw⟩
  have hw' := hw.symm; subst hw'
  clear hm
  go_wp2_with fail
  refine hh.mono ?_
  rintro e9 w9 ⟨rfl, hw⟩
  have hw' := hw.symm; subst hw'
  clear hh
  go_wp2_with fail
  refine hse.mono ?_
  rintro e9 W ⟨r, rfl, hE, hW⟩
  have hat := HA.out r hE W hW
  have HWW : Hid (Stay w W) := hW
  have c0 := hW.cell c0
  clear hse HA hW
  go_wp2_with fail
  refine hat.mono ?_
  rintro e9 w9 ⟨rfl, n2, hw⟩
  have HW9 : Hid (Stay w w9) := by rw [hw]; exact HWW.out.trans (Stay.drewN _ _)
  have c1 := cvl w9 HW9.out
  have f1 := cfr w9 HW9.out
  have HF3 : Hid _ := HF.out w9 HW9.out
  clear hat hw cvl cfr HF c0
  go_wp2
  go_ret3
  exact ⟨rfl, HF3.out⟩
end
end Go.Proofs.Ytnhmjheipfopoaa.L
namespace Go.Proofs.Ytnhmjheipfopoaa.L
open Go.RowKit Go.Maps Go.Proofs.Ytnhmjheipfopoaa

section
variable {w w' : World} {bt pb N len reach : Nat} {fp : List LK} {cv : Value} {came : List E} {places : List Nat}

theorem Tab.mem (h : Tab w bt fp cv pb N len reach came places) {g cap : Nat} (hcv : cv = .slice (some ⟨g, 0, none⟩) came.length cap) (hC : Came w g cap came) : Mem w bt fp g cap pb N len reach came places := by
  subst hcv
  have two := h.two
  simp only [Value.ownBlock, ne_eq, Option.some.injEq] at two
  exact ⟨h.box, hC, h.spots, ⟨two.1, fun e => two.2.1 e.symm, fun e => two.2.2 e.symm⟩, h.lies.len⟩

/-- What is said of keys alone goes over to a row that differs in places. -/
theorem keys_sim {came' : List E} (hS : Sim came came') (hk : ∀ (t : Nat) (e : E), came[t]? = some e → e.there = true → e.hash = hf fp e.key ∧ KeyOk fp e.key) : ∀ (t : Nat) (e : E), came'[t]? = some e → e.there = true → e.hash = hf fp e.key ∧ KeyOk fp e.key := by
  intro t e he hth
  obtain ⟨p, hp⟩ := hS.at he
  exact hk t { e with place := p } hp hth
theorem uniq_sim {came' : List E} (hS : Sim came came') (hu : ∀ (t : Nat) (e : E) (t' : Nat) (e' : E), came[t]? = some e → e.there = true → came[t']? = some e' → e'.there = true → sm fp e.key e'.key = true → t = t') :
    ∀ (t : Nat) (e : E) (t' : Nat) (e' : E), came'[t]? = some e → e.there = true → came'[t']? = some e' → e'.there = true → sm fp e.key e'.key = true → t = t' := by
  intro t e t' e' he hth he' hth' hs
  obtain ⟨p, hp⟩ := hS.at he
  obtain ⟨p', hp'⟩ := hS.at he'
  exact hu t { e with place := p } t' { e' with place := p' } hp hth hp' hth' hs

theorem double_tab (h : Tab w bt fp cv pb N len reach came places) (hge : 3 * N < 4 * (len + 1)) (hN2 : N ≤ 274877906944) :
    Calls Try.prog 79 #[.pointer (some ⟨bt, 0, none⟩)] w fun e' w' => e' = .returned (.tuple #[]) ∧ ∃ came' places' reach', Sim came came' ∧ Tab w' bt fp cv w.heap.size (2 * N) len reach' came' places' ∧ Turn (foot bt pb cv) w w' := by
  have h8 := h.eight
  have hcnt := h.cnt
  have hll := live_length_le came
  obtain ⟨e, he⟩ : ∃ e, came[0]? = some e := ⟨_, List.getElem?_eq_getElem (by omega)⟩
  obtain ⟨g, cap, hcv, hC⟩ := h.row.at he
  have hM := h.mem hcv hC
  have hfew := h.few
  refine (double_any hM h.pow hN2 (by omega) (fun t e he hth => by rw [(h.keys t e he hth).1]; exact hf_lt _ _) h.short).mono ?_
  rintro e9 w9 ⟨rfl, came', places', reach', hS, hL, hr, hz, hM', hT⟩
  have hT2 : Turn (foot bt pb cv) w w9 := hT.mono (fun i _ hi => by
    rcases hi with rfl | rfl
    · exact .inl rfl
    · exact .inr (.inr (by rw [hcv]; rfl)))
  refine ⟨rfl, came', places', reach', hS, ?_, hT2⟩
  have hlen := hS.len
  have hcv' : cv = .slice (some ⟨g, 0, none⟩) came'.length cap := by rw [hlen]; exact hcv
  have hlts := fun k hk => h.lt k (.inl hk)
  have hltf := fun k hk => h.lt k (.inr hk)
  refine ⟨?_, .inr ⟨g, cap, hcv', hM'.row⟩, hM'.spots, h.fns.turn hT2 ?_, ?_, by omega, by rw [hlen]; exact hL, by rw [← hcnt] at hz; exact hz, ?_, by omega, hr, keys_sim hS h.keys, uniq_sim hS h.uniq, ?_, ?_, by rw [hlen]; exact h.short⟩
  · have := hM'.box
    rw [← hcv'] at this
    exact this
  · rintro k hk (rfl | rfl | h3)
    · exact (h.apart _ hk).1 rfl
    · exact (h.apart _ hk).2.1 rfl
    · exact (h.apart k hk).2.2 h3
  · obtain ⟨m, rfl, hm⟩ := h.pow
    refine ⟨m + 1, by rw [Nat.pow_succ]; omega, ?_⟩
    apply Nat.le_of_not_lt
    intro hlt
    have := Nat.pow_le_pow_right (show 0 < 2 by decide) (show 40 ≤ m by omega)
    have e : (2 : Nat) ^ 40 = 1099511627776 := by decide
    omega
  · have := (hS.lives).len; omega
  · intro k hk
    have := hltf k hk
    have ha := h.apart k hk
    exact ⟨ha.1, by omega, ha.2.2⟩
  · refine ⟨by have := hlts bt (.inl rfl); omega, h.two.2.1, ?_⟩
    intro h0
    have := hlts w.heap.size (.inr (.inr h0))
    omega

/-- Behind the append: memory as lay needs it. -/
theorem app_mem (h : Tab w bt fp cv pb N len reach came places) (e0 : E) (o : Obj) {v' : Value} {w2 : World} (hown : w2.ownsRow 0 113 5 v' (came.length + 1) (flat came ++ encE e0)) (hgrow : (w.alloc o).grownBy w2 cv.ownBlock)
    (hnil : v' = .slice none 0 0 ↔ cv = .slice none 0 0 ∧ 1 = 0) (hloc : v'.ownBlock = cv.ownBlock ∨ v'.ownBlock = some (w.alloc o).heap.size) :
    ∃ g cap, v' = .slice (some ⟨g, 0, none⟩) (came.length + 1) cap ∧ w2.cell? ⟨bt, 2, none⟩ = some cv ∧ w2.frozen? ⟨bt, 2, none⟩ = false ∧ Mem (w2.setCell ⟨bt, 2, none⟩ (.slice (some ⟨g, 0, none⟩) (came.length + 1) cap)) bt fp g cap pb N len reach (came ++ [e0]) places ∧
      Turn (foot bt pb cv) w (w2.setCell ⟨bt, 2, none⟩ (.slice (some ⟨g, 0, none⟩) (came.length + 1) cap)) ∧ (cv.ownBlock = some g ∨ w.heap.size ≤ g) := by
  have hfl : flat came ++ encE e0 = flat (came ++ [e0]) := by rw [flat_append]; simp [flat]
  rw [hfl, show came.length + 1 = (came ++ [e0]).length by simp] at hown
  obtain ⟨g, cap, rfl, hC⟩ := Row.of_owns hown (fun e => by have := (hnil.1 e).2; omega)
  have hT1 : Turn (foot bt pb cv) w (w.alloc o) := Turn.of_stay (Stay.new w o)
  have hT2 : Turn (foot bt pb cv) w w2 := ⟨hgrow.os.trans hT1.os, hgrow.tape.trans hT1.tape, hgrow.output.trans hT1.output, Nat.le_trans hT1.size hgrow.size, fun k hk hn =>
    (hgrow.block k (Nat.lt_of_lt_of_le hk hT1.size) (fun e => hn (.inr (.inr e.symm)))).trans (hT1.block k hk hn)⟩
  have hlts := fun k hk => h.lt k (.inl hk)
  have hblt := hlts bt (.inl rfl)
  have hpbl := hlts pb (.inr (.inl rfl))
  have hbb : w2.heap[bt]? = w.heap[bt]? := (hgrow.block bt (by simp; omega) (fun e => h.two.2.1 e.symm)).trans (Below.heap_alloc w o bt hblt)
  have hpp : w2.heap[pb]? = w.heap[pb]? := (hgrow.block pb (by simp; omega) (fun e => h.two.2.2 e.symm)).trans (Below.heap_alloc w o pb hpbl)
  have hbox : Box w2 bt fp cv pb N len reach := ⟨h.box.choose, hbb.trans h.box.choose_spec⟩
  have hg : cv.ownBlock = some g ∨ w.heap.size ≤ g := by
    rcases hloc with h1 | h1
    · exact .inl h1.symm
    · right; simp only [Value.ownBlock, Option.some.injEq, World.size_alloc] at h1; omega
  have hgb : g ≠ bt := by
    rintro rfl
    rcases hg with h1 | h1
    · exact h.two.2.1 h1
    · omega
  have hgp : g ≠ pb := by
    rintro rfl
    rcases hg with h1 | h1
    · exact h.two.2.2 h1
    · omega
  refine ⟨g, cap, by simp, hbox.c2, hbox.free 2, ⟨?_, hC.storeOther _ _ _ hgb, (h.spots.block hpp).storeOther _ _ _ (Ne.symm h.two.1), ⟨h.two.1, Ne.symm hgb, Ne.symm hgp⟩, h.lies.len⟩, hT2.set (.inl rfl) _ _, hg⟩
  obtain ⟨pc0, hbox⟩ := hbox
  refine ⟨pc0, ?_⟩
  rw [heap_setCell_same _ _ _ _ _ _ hbox]
  simp

/-- Behind lay and the count: the table with one more. -/
theorem fin_tab (h : Tab w bt fp cv pb N len reach came places) (hroom : 4 * (len + 1) ≤ 3 * N) (hcl : came.length + 1 ≤ 1099511627776) {k : LK} {v : Int} (hk : KeyOk fp k) (hno : ∀ (t : Nat) (e : E), came[t]? = some e → e.there = true → sm fp e.key k = false) {g cap r : Nat} {w3 w4 : World}
    (hF : Free N (hf fp k % N) places r) (hg : cv.ownBlock = some g ∨ w.heap.size ≤ g) (hT3 : Turn (foot bt pb cv) w w3)
    (hM : Mem w4 bt fp g cap pb N len (max reach (dist N (hf fp k % N) r)) ((came ++ [(ent k v (hf fp k) 0)]).set came.length (ent k v (hf fp k) r)) (places.set r (came.length + 1)))
    (hT4 : Turn (three bt pb g) w3 w4) :
    ∃ cv' pb' reach', Tab (w4.setCell ⟨bt, 4, none⟩ (.int .i64 ((len : Int) + 1))) bt fp cv' pb' N (len + 1) reach' (came ++ [(ent k v (hf fp k) r)]) (places.set r (came.length + 1)) ∧
      Turn (foot bt pb cv) w (w4.setCell ⟨bt, 4, none⟩ (.int .i64 ((len : Int) + 1))) ∧ (∀ j, foot bt pb' cv' j → foot bt pb cv j ∨ w.heap.size ≤ j) := by
  have hset : (came ++ [(ent k v (hf fp k) 0)]).set came.length (ent k v (hf fp k) r) = came ++ [(ent k v (hf fp k) r)] := by
    rw [List.set_append, if_neg (by omega)]; simp
  have hM5 := hM.setLen (len + 1)
  rw [hset] at hM5
  have hT4' : Turn (foot bt pb cv) w w4 := hT3.then hT4 (fun i hi hh => by
    rcases hh with rfl | rfl | rfl
    · exact .inl rfl
    · exact .inr (.inl rfl)
    · rcases hg with h1 | h1
      · exact .inr (.inr h1)
      · omega)
  have hT5 : Turn (foot bt pb cv) w (w4.setCell ⟨bt, 4, none⟩ (.int .i64 ((len : Int) + 1))) := hT4'.set (.inl rfl) _ _
  have hL := (h.lies.more (Nat.le_refl _) (ent k v (hf fp k) 0)).lay (e := (ent k v (hf fp k) 0)) (by simp) rfl hF
  dsimp only at hL
  rw [hset] at hL
  have hlen : (came ++ [(ent k v (hf fp k) r)]).length = came.length + 1 := by simp
  have hcg : ∀ (t : Nat) (e : E), (came ++ [(ent k v (hf fp k) r)])[t]? = some e → (came[t]? = some e ∧ t < came.length) ∨ (t = came.length ∧ e = (ent k v (hf fp k) r)) := by
    intro t e he
    by_cases ht : t < came.length
    · rw [List.getElem?_append_left ht] at he; exact .inl ⟨he, ht⟩
    · have hl := (List.getElem?_eq_some_iff.1 he).1
      rw [hlen] at hl
      have : t = came.length := by omega
      subst this
      simp at he
      exact .inr ⟨rfl, he.symm⟩
  have hlts := fun k hk => h.lt k (.inl hk)
  refine ⟨.slice (some ⟨g, 0, none⟩) (came.length + 1) cap, pb, _, ⟨?_, ?_, hM5.spots, h.fns.turn hT5 ?_, h.pow, h.eight, by rw [hlen]; exact hL, ?_, ?_, hroom, ?_, ?_, ?_, ?_, ?_, by rw [hlen]; exact hcl⟩, hT5, ?_⟩
  · have := hM5.box
    rw [hlen] at this
    exact this
  · exact .inr ⟨g, cap, by rw [hlen], hM5.row⟩
  · rintro j hj (rfl | rfl | h3)
    · exact (h.apart _ hj).1 rfl
    · exact (h.apart _ hj).2.1 rfl
    · exact (h.apart j hj).2.2 h3
  · have h1 := zeros_set_pos hF.2.1 (show came.length + 1 ≠ 0 by omega)
    have h2 := h.zer
    omega
  · rw [live_append]
    have := h.cnt
    simp [live] at *
    exact this
  · have h1 := (dist_spec (Nat.mod_lt (hf fp k) h.pow.bd.1) hF.1).1
    have h2 := h.rlt
    omega
  · intro t e he hth
    rcases hcg t e he with ⟨h1, _⟩ | ⟨_, rfl⟩
    · exact h.keys t e h1 hth
    · exact ⟨rfl, hk⟩
  · intro t e t' e' he hth he' hth' hs
    rcases hcg t e he with ⟨h1, h1l⟩ | ⟨rfl, rfl⟩
    · rcases hcg t' e' he' with ⟨h2, _⟩ | ⟨rfl, rfl⟩
      · exact h.uniq t e t' e' h1 hth h2 hth' hs
      · rw [hno t e h1 hth] at hs; cases hs
    · rcases hcg t' e' he' with ⟨h2, _⟩ | ⟨rfl, rfl⟩
      · have := sm_symm hs
        rw [hno t' e' h2 hth'] at this; cases this
      · rfl
  · intro j hj
    have ha := h.apart j hj
    refine ⟨ha.1, ha.2.1, ?_⟩
    intro h0
    simp only [Value.ownBlock, Option.some.injEq] at h0
    subst h0
    rcases hg with h1 | h1
    · exact ha.2.2 h1
    · have := h.lt g (.inr hj); omega
  · refine ⟨h.two.1, ?_, ?_⟩
    · simp only [Value.ownBlock, ne_eq, Option.some.injEq]; exact fun e => hM.ne.b e.symm
    · simp only [Value.ownBlock, ne_eq, Option.some.injEq]; exact fun e => hM.ne.c e.symm
  · rintro j (rfl | rfl | hj)
    · exact .inl (.inl rfl)
    · exact .inl (.inr (.inl rfl))
    · simp only [Value.ownBlock, Option.some.injEq] at hj
      subst hj
      rcases hg with h1 | h1
      · exact .inl (.inr (.inr h1))
      · exact .inr h1
end
end Go.Proofs.Ytnhmjheipfopoaa.L
