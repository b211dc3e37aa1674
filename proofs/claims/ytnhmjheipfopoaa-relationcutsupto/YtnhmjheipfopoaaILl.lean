/- Put. -/
import Derived.Test.YtnhmjheipfopoaaIKl
import Derived.Test.YtnhmjheipfopoaaIGl
namespace Go.Proofs.Ytnhmjheipfopoaa.L
open Go.RowKit Go.Maps Go.Proofs.Ytnhmjheipfopoaa

theorem infoEnt : (Try.prog.info? 113).map (fun i => (i.zero, i.size, i.bytes)) = some (some (.agg #[.slice none 0 0, .int .i64 0, .int .u64 0, .int .i64 0, .bool false]), 5, 56) := by kernel_rfl

/-- An entry that is there. -/
abbrev ent (k : LK) (v : Int) (h p : Nat) : E := { key := k, val := v, hash := h, place := p, there := true }

section
variable {w w' : World} {bt pb N len reach : Nat} {fp : List LK} {cv : Value} {came : List E} {places : List Nat}

theorem Row.owns (h : Row w cv came) : w.ownsRow 0 113 5 cv came.length (flat came) := by
  refine ⟨flat_len came, ?_⟩
  rcases h with ⟨rfl, rfl⟩ | ⟨g, cap, rfl, cur, h1, h2, h3, h4, h5⟩
  · exact .inl ⟨rfl, rfl⟩
  · exact .inr ⟨g, cap, cur, rfl, Nat.zero_le _, h1, h2, h3, h4, h5⟩

theorem Row.of_owns {v : Value} (h : w.ownsRow 0 113 5 v came.length (flat came)) (hne : v ≠ .slice none 0 0) : ∃ g cap, v = .slice (some ⟨g, 0, none⟩) came.length cap ∧ Came w g cap came := by
  rcases h.2 with ⟨h0, _⟩ | ⟨g, cap, cur, rfl, _, h1, h2, h3, h4, h5⟩
  · exact absurd h0 hne
  · exact ⟨g, cap, rfl, cur, h1, h2, h3, h4, h5⟩

theorem Tab.setVal (h : Tab w bt fp cv pb N len reach came places) {g cap t : Nat} {e : E} (hcv : cv = .slice (some ⟨g, 0, none⟩) came.length cap) (hC : Came w g cap came) (he : came[t]? = some e) (v : Int) :
    Tab (w.setCell ⟨g, t * 5 + 1, none⟩ (.int .i64 (v))) bt fp cv pb N len reach (came.set t { e with val := v }) places := by
  subst hcv
  have hl := (List.getElem?_eq_some_iff.1 he).1
  have two := h.two
  simp only [Value.ownBlock, ne_eq, Option.some.injEq] at two
  have hcg : ∀ (t' : Nat) (e' : E), (came.set t { e with val := v })[t']? = some e' → ∃ v', came[t']? = some { e' with val := v' } := by
    intro t' e' h'
    by_cases ht : t' = t
    · subst ht; rw [List.getElem?_set_self hl] at h'; simp only [Option.some.injEq] at h'; subst h'; exact ⟨e.val, he⟩
    · rw [List.getElem?_set_ne (Ne.symm ht)] at h'; exact ⟨e'.val, h'⟩
  refine { h with box := ?_, row := ?_, spots := h.spots.storeOther _ _ _ (fun e => two.2.2 e.symm), fns := ?_, lies := ?_, cnt := ?_, keys := ?_, uniq := ?_, short := by simpa using h.short }
  · obtain ⟨pc0, this⟩ := h.box
    refine ⟨pc0, ?_⟩
    exact (Below.heap_setCell _ _ _ _ (by show bt ≠ g; exact fun e => two.2.1 e.symm)).trans this
  · refine .inr ⟨g, cap, by rw [List.length_set], hC.store t 1 e _ _ he (by decide) rfl⟩
  · refine h.fns.turn (S := fun k => k = g) ((Turn.refl (fun k => k = g) w).set (g := g) rfl _ _) ?_
    intro k hk e; subst e; exact (h.apart k hk).2.2 rfl
  · have hL := h.lies
    rw [List.length_set]
    refine ⟨hL.len, fun p t' hp => ?_, fun t' e' ht' he' hth => ?_, fun t' e' ht' he' hth => ?_, fun t' e' ht' he' hth => ?_⟩
    · obtain ⟨h1, e', h2, h3, h4⟩ := hL.back p t' hp
      refine ⟨h1, ?_⟩
      by_cases ht : t' = t
      · subst ht; rw [he] at h2; simp only [Option.some.injEq] at h2; subst h2
        exact ⟨_, List.getElem?_set_self hl, h3, h4⟩
      · exact ⟨e', by rw [List.getElem?_set_ne (Ne.symm ht)]; exact h2, h3, h4⟩
    · obtain ⟨v', h'⟩ := hcg t' e' he'
      exact hL.here t' { e' with val := v' } ht' h' hth
    · obtain ⟨v', h'⟩ := hcg t' e' he'
      exact hL.first t' { e' with val := v' } ht' h' hth
    · obtain ⟨v', h'⟩ := hcg t' e' he'
      exact hL.near t' { e' with val := v' } ht' h' hth
  · rw [live_set_same (e' := { e with val := v }) he rfl]; exact h.cnt
  · intro t' e' he' hth
    obtain ⟨v', h'⟩ := hcg t' e' he'
    exact h.keys t' { e' with val := v' } h' hth
  · intro t1 e1 t2 e2 h1 hth1 h2 hth2 hs
    obtain ⟨v1, h1'⟩ := hcg t1 e1 h1
    obtain ⟨v2, h2'⟩ := hcg t2 e2 h2
    exact h.uniq t1 { e1 with val := v1 } t2 { e2 with val := v2 } h1' hth1 h2' hth2 hs

set_option maxRecDepth 100000 in
set_option maxHeartbeats 1000000 in
/-- Put of a key that is there. -/
theorem put_yes (h : Tab w bt fp cv pb N len reach came places) (k : LK) (hk : KeyOk fp k) (v : Int) {t : Nat} {e : E} (he : came[t]? = some e) (hth : e.there = true) (hs : sm fp e.key k = true) :
    Calls Try.prog 63 #[.pointer (some ⟨bt, 0, none⟩), k.v, .int .i64 (v)] w fun e' w' => e' = .returned (.tuple #[.int .i64 (e.val), .bool true, .int .i64 0]) ∧
      Tab w' bt fp cv pb N len reach (came.set t { e with val := v }) places ∧ Turn (foot bt pb cv) w w' := by
  obtain ⟨g, cap, hcv, hC⟩ := h.row.at he
  have hm := made_yes h.box.c0
  have hh := hash_any h.fns k hk
  have hse := h.search k hk
  have c0 := h.box.c0
  have HA : Hid (∀ r, Ends N (hf fp k % N) came places (hit fp (hf fp k) k) r → ∀ W, Stay w W → Calls Try.prog 77 #[.pointer (some ⟨bt, 0, none⟩), .int .i64 (r : Int)] W fun e w' => e = .returned (.pointer (some ⟨g, t * 5, none⟩)) ∧ ∃ k, w' = W.drewN k) :=
    fun r hE W hW => h.atYes hE.lt (h.ends_yes hE he hth hs).2 hcv hC hW
  have HF : Hid (∀ W, Stay w W → Tab (W.setCell ⟨g, t * 5 + 1, none⟩ (.int .i64 (v))) bt fp cv pb N len reach (came.set t { e with val := v }) places ∧ Turn (foot bt pb cv) w (W.setCell ⟨g, t * 5 + 1, none⟩ (.int .i64 (v)))) :=
    fun W hW => ⟨(h.stay hW).setVal hcv (hC.turn (S := fun _ => False) (Turn.of_stay hW) (fun e => e)) he v, (Turn.of_stay hW).set (.inr (.inr (by rw [hcv]; rfl))) _ _⟩
  have cvl : ∀ W, Stay w W → W.cell? ⟨g, t * 5 + 1, none⟩ = some (.int .i64 (e.val)) := fun W hW => hW.cell (hC.cells t e he).2.1
  have cfr : ∀ W, Stay w W → W.frozen? ⟨g, t * 5 + 1, none⟩ = false := fun W hW => (hC.turn (S := fun _ => False) (Turn.of_stay hW) (fun e => e)).free (t * 5 + 1)
  clear h hC he hcv
  go_enter Try.func63, Try.ntmps63
  go_wp2_with fail
  refine hm.mono ?_
  rintro e9 w9 ⟨rfl, hw⟩
  have hw' := hw.symm; subst hw'
  clear hm
  go_wp2_with fail
  refine hh.mono ?_
  rintro e9 w9 ⟨rfl, hw⟩
  have hw' := hw.symm; subst hw'
  clear hh
  go_wp2_with fail
  refine hse.mono ?_
  rintro e9 W ⟨r, rfl, hE, hW⟩
  have hat := HA.out r hE W hW
  have HWW : Hid (Stay w W) := hW
  have c0 := hW.cell c0
  clear hse HA hW
  go_wp2_with fail
  refine hat.mono ?_
  rintro e9 w9 ⟨rfl, n2, hw⟩
  have HW9 : Hid (Stay w w9) := by rw [hw]; exact HWW.out.trans (Stay.drewN _ _)
  have c1 := cvl w9 HW9.out
  have f1 := cfr w9 HW9.out
  have HF3 : Hid _ := HF.out w9 HW9.out
  clear hat hw cvl cfr HF c0
  go_wp2
  go_ret3
  exact ⟨rfl, HF3.out⟩
end
end Go.Proofs.Ytnhmjheipfopoaa.L
