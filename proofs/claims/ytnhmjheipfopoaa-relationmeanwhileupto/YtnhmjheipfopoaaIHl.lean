/- lay: the key of a turn is put in the first empty place from its home on. -/
import Derived.Test.YtnhmjheipfopoaaIEl
import Derived.Deep.Cut
import Derived.Deep.RegionWith
namespace Go.Proofs.Ytnhmjheipfopoaa.L
open Go.RowKit Go.Maps Go.Proofs.Ytnhmjheipfopoaa

/-- The blocks of the rows and of the box are three. -/
structure Apart3 (bt pb g : Nat) : Prop where
  a : bt ≠ pb
  b : bt ≠ g
  c : pb ≠ g

/-- What lay needs of memory, and keeps: the box, the rows. -/
structure Mem (w : World) (bt : Nat) (fp : List LK) (g cap pb N len reach : Nat) (came : List E) (places : List Nat) : Prop where
  box : Box w bt fp (.slice (some ⟨g, 0, none⟩) came.length cap) pb N len reach
  row : Came w g cap came
  spots : Spots w pb places
  ne : Apart3 bt pb g
  len : places.length = N

section
variable {w w' : World} {bt g cap pb N len reach : Nat} {fp : List LK} {came : List E} {places : List Nat}

theorem Mem.setPlace (h : Mem w bt fp g cap pb N len reach came places) {t : Nat} {e : E} (he : came[t]? = some e) (p : Nat) :
    Mem (w.setCell ⟨g, t * 5 + 3, none⟩ (.int .i64 (p : Int))) bt fp g cap pb N len reach (came.set t { e with place := p }) places := by
  refine ⟨?_, h.row.store t 3 e _ _ he (by decide) rfl, h.spots.storeOther _ _ _ h.ne.c, h.ne, h.len⟩
  obtain ⟨pc, this⟩ := h.box
  refine ⟨pc, ?_⟩
  rw [List.length_set]
  exact (Below.heap_setCell _ _ _ _ (by show bt ≠ g; exact h.ne.b)).trans this

theorem Mem.setSpot (h : Mem w bt fp g cap pb N len reach came places) (p v : Nat) :
    Mem (w.setCell ⟨pb, p, none⟩ (.int .i64 (v : Int))) bt fp g cap pb N len reach came (places.set p v) := by
  refine ⟨?_, h.row.storeOther _ _ _ (Ne.symm h.ne.c), h.spots.store p v, h.ne, by simpa using h.len⟩
  obtain ⟨pc, this⟩ := h.box
  refine ⟨pc, ?_⟩
  exact (Below.heap_setCell _ _ _ _ (by show bt ≠ pb; exact h.ne.a)).trans this

theorem Mem.setReach (h : Mem w bt fp g cap pb N len reach came places) (r : Nat) :
    Mem (w.setCell ⟨bt, 5, none⟩ (.int .i64 (r : Int))) bt fp g cap pb N len r came places := by
  refine ⟨?_, h.row.storeOther _ _ _ (Ne.symm h.ne.b), h.spots.storeOther _ _ _ (Ne.symm h.ne.a), h.ne, h.len⟩
  obtain ⟨pc, this⟩ := h.box
  refine ⟨pc, ?_⟩
  rw [heap_setCell_same _ _ _ _ _ _ this]
  simp

theorem Mem.setLen (h : Mem w bt fp g cap pb N len reach came places) (r : Nat) :
    Mem (w.setCell ⟨bt, 4, none⟩ (.int .i64 (r : Int))) bt fp g cap pb N r reach came places := by
  refine ⟨?_, h.row.storeOther _ _ _ (Ne.symm h.ne.b), h.spots.storeOther _ _ _ (Ne.symm h.ne.a), h.ne, h.len⟩
  obtain ⟨pc, this⟩ := h.box
  refine ⟨pc, ?_⟩
  rw [heap_setCell_same _ _ _ _ _ _ this]
  simp

theorem Mem.drew (h : Mem w bt fp g cap pb N len reach came places) (n : Nat) : Mem (w.drewN n) bt fp g cap pb N len reach came places :=
  ⟨h.box, h.row, h.spots, h.ne, h.len⟩

/-- The blocks that lay writes. -/
def three (bt pb g : Nat) (k : Nat) : Prop := k = bt ∨ k = pb ∨ k = g

set_option maxRecDepth 100000 in
set_option maxHeartbeats 2000000 in
theorem lay_any (h : Mem w bt fp g cap pb N len reach came places) (hN : Pow N) (hz : 0 < zeros places) {t : Nat} {e : E} (he : came[t]? = some e) (hh : e.hash < 18446744073709551616) (_hr : reach < N) (hshort : came.length ≤ 1099511627776) :
    Calls Try.prog 80 #[.pointer (some ⟨bt, 0, none⟩), .int .i64 (t : Int)] w fun e' w' => e' = .returned (.tuple #[]) ∧ ∃ r, Free N (e.hash % N) places r ∧
      Mem w' bt fp g cap pb N len (max reach (dist N (e.hash % N) r)) (came.set t { e with place := r }) (places.set r (t + 1)) ∧ Turn (three bt pb g) w w' := by
  have hb := hN.bd
  have c2 := h.box.c2
  obtain ⟨pc3, c3⟩ := h.box.c3
  have htl := (List.getElem?_eq_some_iff.1 he).1
  have hcl := h.row.len
  have ch := (h.row.cells t e he).2.2.1
  have cp := (h.row.cells t e he).2.2.2.1
  have f3 := h.row.free (t * 5 + 3)
  have hlt : e.hash % N < N := Nat.mod_lt _ hb.1
  have hhome := home_any ⟨_, c3⟩ hN e.hash hh
  obtain ⟨z, hz1, hz2⟩ := zeros_ex hz
  rw [h.len] at hz1
  have HM : Hid (Mem w bt fp g cap pb N len reach came places) := h
  have HE : Hid (came[t]? = some e) := he
  have HZ : Hid (z < N ∧ places[z]? = some 0) := ⟨hz1, hz2⟩
  have HN : Hid (Pow N) := hN
  clear h he hz1 hz2 hz hN
  generalize hhm : e.hash % N = home at hhome hlt
  have HH : Hid (e.hash % N = home) := hhm
  clear hhm
  go_enter Try.func80, Try.ntmps80
  go_wp2_with fail
  refine hhome.mono ?_
  rintro e9 w9 ⟨rfl, hw⟩
  have hw' := hw.symm; subst hw'
  clear hhome
  go_wp2_with fail
  have hM1 := HM.out.setPlace HE.out home
  have hT1 : Turn (three bt pb g) w (w.setCell ⟨g, t * 5 + 3, none⟩ (.int .i64 (home : Int))) := (Turn.refl _ w).set (.inr (.inr rfl)) _ _
  generalize w.setCell ⟨g, t * 5 + 3, none⟩ (.int .i64 (home : Int)) = w1 at hM1 hT1 ⊢
  have HM1 : Hid (Mem w1 bt fp g cap pb N len reach (came.set t { e with place := home }) places ∧ Turn (three bt pb g) w w1) := ⟨hM1, hT1⟩
  clear hM1 hT1 c2 c3 ch cp f3
  go_loopw [20] (fun _u wr => ∃ s : Nat, s < N ∧ (∀ q, q < N → dist N home q < dist N home s → ∃ t, places[q]? = some (t + 1)) ∧ Mem wr bt fp g cap pb N len reach (came.set t { e with place := s }) places ∧ Turn (three bt pb g) w wr)
    (fun _u wr => dist N (intOf ((wr.cell? ⟨g, t * 5 + 3, none⟩).getD undef)).toNat z)
  case atStart => exact ⟨home, hlt, fun q _ hd => by rw [dist_self] at hd; omega, HM1.out⟩
  case round =>
    obtain ⟨s, hs, hpast, hM, hT⟩ := hrel
    have hces : (came.set t { e with place := s })[t]? = some { e with place := s } := List.getElem?_set_self htl
    obtain ⟨pc3, c3⟩ := hM.box.c3
    have cp : wr.cell? ⟨g, t * 5 + 3, none⟩ = some (.int .i64 (s : Int)) := (hM.row.cells t _ hces).2.2.2.1
    have ch : wr.cell? ⟨g, t * 5 + 2, none⟩ = some (.int .u64 (e.hash : Int)) := (hM.row.cells t _ hces).2.2.1
    have f3 := hM.row.free (t * 5 + 3)
    have hzh : dist N home s ≤ dist N home z := by
      apply Nat.le_of_not_lt
      intro hd
      obtain ⟨t, h1⟩ := hpast z HZ.out.1 hd
      rw [HZ.out.2] at h1; simp at h1
    cases hp : places[s]? with
    | none => rw [List.getElem?_eq_none_iff] at hp; have := hM.len; omega
    | some v =>
      have cs := hM.spots.cell s v hp
      have HR : Hid ((∀ q, q < N → dist N home q < dist N home s → ∃ t, places[q]? = some (t + 1)) ∧ Mem wr bt fp g cap pb N len reach (came.set t { e with place := s }) places ∧ Turn (three bt pb g) w wr ∧ dist N home s ≤ dist N home z) := ⟨hpast, hM, hT, hzh⟩
      have HP : Hid (places[s]? = some v) := hp
      have fs := hM.spots.free s
      have hnx := fun n => next_any (w := wr.drewN n) ⟨_, c3⟩ HN.out s hs
      clear hpast hM hT hzh hp hces
      cases v with
      | zero =>
        go_wp2_with fail
        go_quiet (fail)
        go_wp2_with fail
        go_region
        go_wp2_with fail
        have hM5 : Mem ((wr.drewN (nq + 1)).setCell ⟨pb, s, none⟩ (.int .i64 ((t : Int) + 1))) bt fp g cap pb N len reach (came.set t { e with place := s }) (places.set s (t + 1)) := (HR.out.2.1.drew (nq + 1)).setSpot s (t + 1)
        have hT5 : Turn (three bt pb g) w ((wr.drewN (nq + 1)).setCell ⟨pb, s, none⟩ (.int .i64 ((t : Int) + 1))) := (HR.out.2.2.1.trans (Turn.of_stay (Stay.drewN _ _))).set (.inr (.inl rfl)) _ _
        generalize (wr.drewN (nq + 1)).setCell ⟨pb, s, none⟩ (.int .i64 ((t : Int) + 1)) = w5 at hM5 hT5 ⊢
        clear c3 cp ch f3 cs fs hnx
        have hces : (came.set t { e with place := s })[t]? = some { e with place := s } := List.getElem?_set_self htl
        obtain ⟨pc3, c3⟩ := hM5.box.c3
        have c5 := hM5.box.c5
        have f5 := hM5.box.free 5
        have cp : w5.cell? ⟨g, t * 5 + 3, none⟩ = some (.int .i64 (s : Int)) := (hM5.row.cells t _ hces).2.2.2.1
        have ch : w5.cell? ⟨g, t * 5 + 2, none⟩ = some (.int .u64 (e.hash : Int)) := (hM5.row.cells t _ hces).2.2.1
        have hst : Calls Try.prog 93 #[.pointer (some ⟨bt, 0, none⟩), .int .u64 (e.hash : Int), .int .i64 (s : Int)] w5.drew fun e w' => e = .returned (.int .i64 ((dist N home s : Nat) : Int)) ∧ w' = w5.drew := by
          have := steps_any (w := w5.drew) (bt := bt) (pb := pb) ⟨_, c3⟩ HN.out e.hash s hh hs
          rw [HH.out] at this; exact this
        have hds := (dist_spec hlt hs).1
        generalize hdd : dist N home s = d at hst hds
        have HD : Hid (dist N home s = d) := hdd
        have HM5 : Hid (Mem w5 bt fp g cap pb N len reach (came.set t { e with place := s }) (places.set s (t + 1)) ∧ Turn (three bt pb g) w w5) := ⟨hM5, hT5⟩
        have hmx : (if reach < d then (d : Int) else (reach : Int)) = ((max reach d : Nat) : Int) := by split <;> omega
        have HF : Hid (∃ r, Free N home places r ∧ Mem (w5.setCell ⟨bt, 5, none⟩ (.int .i64 (if reach < d then (d : Int) else (reach : Int)))).drew bt fp g cap pb N len (max reach (dist N home r)) (came.set t { e with place := r }) (places.set r (t + 1)) ∧
            Turn (three bt pb g) w (w5.setCell ⟨bt, 5, none⟩ (.int .i64 (if reach < d then (d : Int) else (reach : Int)))).drew) := by
          refine ⟨s, ⟨hs, HP.out, HR.out.1⟩, ?_, (hT5.set (.inl rfl) _ _).trans (Turn.of_stay (Stay.drew _))⟩
          rw [hmx, hdd]
          exact (hM5.setReach (max reach d)).drew 1
        clear hM5 hT5 hces c3 hdd hmx
        go_region_with (go_at_call 93; refine hst.mono ?_; rintro e9 w9 ⟨rfl, hw⟩; have hw' := hw.symm; subst hw')
        all_goals go_end0
        all_goals exact ⟨rfl, HF.out⟩
      | succ v =>
        have h0 : (((v + 1 : Nat) : Int) != 0) = true := by simp; omega
        go_wp2_with fail
        go_quiet (fail)
        go_wp2_with fail
        refine (hnx _).mono ?_
        rintro e9 w9 ⟨rfl, hw⟩
        have hw' := hw.symm; subst hw'
        go_wp2_with fail
        have hne : s ≠ z := by
          rintro rfl; have := HZ.out.2; rw [HP.out] at this; simp at this
        have hm := past_more hlt hs HZ.out.1 hne HR.out.2.2.2 (fun q => ∃ t, places[q]? = some (t + 1)) HR.out.1 ⟨v, HP.out⟩
        have hMn := (HR.out.2.1.drew nq).setPlace (t := t) (e := { e with place := s }) (List.getElem?_set_self htl) (nx N s)
        rw [List.set_set] at hMn
        refine ⟨⟨nx N s, hm.2.1, hm.1, hMn, (HR.out.2.2.1.trans (Turn.of_stay (Stay.drewN _ _))).set (.inr (.inr rfl)) _ _⟩, ?_⟩
        rw [cp, World.cell?_setCell_same' _ _ _ (by show ((wr.cell? _).isSome) = true; rw [cp]; rfl)]
        simpa [intOf] using hm.2.2.2
end
end Go.Proofs.Ytnhmjheipfopoaa.L
