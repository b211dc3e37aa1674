/- mend: the layout as if a key had never come. -/
import Derived.Test.YtdnophgcdnghkaaIKi
import Derived.BigRegion
namespace Go.Proofs.Ytdnophgcdnghkaa.I
open Go.RowKit Go.Maps Go.Proofs.Ytdnophgcdnghkaa

section
variable {w : World} {bt g cap pb N len reach : Nat} {fp : Nat × Nat × Int} {came : List E} {places : List Nat}

/-- What holds between two rounds of the mending. -/
structure Mid (w wr : World) (bt : Nat) (fp : Nat × Nat × Int) (g cap pb N len reach : Nat) (came came' : List E) (places places' : List Nat) (z m s : Nat) : Prop where
  mends : Mends N came.length reach came' places' m
  seen : Seen N came' places' m s
  slt : s < N
  ne : m ≠ s
  zlt : z < N
  zat : places'[z]? = some 0
  zfar : dist N m s ≤ dist N m z
  sim : Sim came came'
  mem : Mem wr bt fp g cap pb N len reach came' places'
  zer : zeros places' = zeros places
  turn : Turn (three bt pb g) w wr

theorem Mid.drew {wr : World} {came' : List E} {places' : List Nat} {z m s : Nat} (h : Mid w wr bt fp g cap pb N len reach came came' places places' z m s) (n : Nat) : Mid w (wr.drewN n) bt fp g cap pb N len reach came came' places places' z m s :=
  { h with mem := h.mem.drew n, turn := h.turn.trans (Turn.of_stay (Stay.drewN _ _)) }

theorem Mid.next {wr : World} {came' : List E} {places' : List Nat} {z m s t : Nat} {e : E} (h : Mid w wr bt fp g cap pb N len reach came came' places places' z m s) (hN : 8 ≤ N) (hp : places'[s]? = some (t + 1)) (he : came'[t]? = some e) (hd : dist N (e.hash % N) s ≤ dist N (e.hash % N) m) :
    Mid w wr bt fp g cap pb N len reach came came' places places' z m (nx N s) ∧ dist N (nx N s) z < dist N s z := by
  have hm := h.mends.hole
  have hsz : s ≠ z := by rintro rfl; rw [h.zat] at hp; simp at hp
  have a1 := dist_spec hm h.slt
  have a2 := dist_spec hm h.zlt
  have a3 := nx_spec h.slt
  have a4 := dist_spec hm a3.1
  have a5 := dist_spec h.slt h.zlt
  have a6 := dist_spec a3.1 h.zlt
  have a7 := h.zfar
  have a8 := h.ne
  have b1 := h.slt
  have b2 := h.zlt
  exact ⟨{ h with seen := h.seen.more hm h.slt h.ne hp he hd, slt := a3.1, ne := by omega, zfar := by omega }, by omega⟩

theorem Mid.move {wr wr' : World} {came' : List E} {places' : List Nat} {z m s t : Nat} {e : E} (h : Mid w wr bt fp g cap pb N len reach came came' places places' z m s) (hN : 8 ≤ N) (hp : places'[s]? = some (t + 1)) (he : came'[t]? = some e) (hd : dist N (e.hash % N) m < dist N (e.hash % N) s)
    (hM : Mem wr' bt fp g cap pb N len reach (came'.set t { e with place := m }) (places'.set m (t + 1))) (hT : Turn (three bt pb g) w wr') :
    Mid w wr' bt fp g cap pb N len reach came (came'.set t { e with place := m }) places (places'.set m (t + 1)) z s (nx N s) ∧ dist N (nx N s) z < dist N s z := by
  have hm := h.mends.hole
  have hsz : s ≠ z := by rintro rfl; rw [h.zat] at hp; simp at hp
  obtain ⟨v, hv⟩ := h.mends.full
  have hmz : m ≠ z := by rintro rfl; rw [h.zat] at hv; simp at hv
  have a3 := nx_spec h.slt
  have a4 := dist_spec h.slt a3.1
  have a5 := dist_spec h.slt h.zlt
  have a6 := dist_spec a3.1 h.zlt
  have b1 := h.slt
  have b2 := h.zlt
  have hml : m < places'.length := by rw [h.mends.len]; exact hm
  refine ⟨⟨h.mends.move h.slt h.ne h.seen hp he (by omega) hd, Seen.start s h.slt, a3.1, by omega, h.zlt, ?_, by omega, h.sim.set he, hM, ?_, hT⟩, by omega⟩
  · rw [getElem?_set_eq hml, if_neg hmz]; exact h.zat
  · rw [zeros_set_same hv (by omega) (by omega)]; exact h.zer

theorem Mid.done {wr wr' : World} {came' : List E} {places' : List Nat} {z m s : Nat} (h : Mid w wr bt fp g cap pb N len reach came came' places places' z m s) (hN : 8 ≤ N) (hend : places'[s]? = some 0 ∨ reach < dist N m s)
    (hM : Mem wr' bt fp g cap pb N len reach came' (places'.set m 0)) (hT : Turn (three bt pb g) w wr') :
    ∃ came'' places'', Sim came came'' ∧ Mem wr' bt fp g cap pb N len reach came'' places'' ∧ Lies N came.length reach came'' places'' ∧ zeros places'' = zeros places + 1 ∧ Turn (three bt pb g) w wr' := by
  obtain ⟨v, hv⟩ := h.mends.full
  exact ⟨came', places'.set m 0, h.sim, hM, h.mends.done h.slt h.ne h.seen (by omega) hend, by rw [zeros_set_zero hv (by omega), h.zer], hT⟩

set_option maxRecDepth 100000 in
set_option maxHeartbeats 1000000 in
theorem mend_any (h : Mem w bt fp g cap pb N len reach came places) (hN : Pow N) (hN8 : 8 ≤ N) {m : Nat} (hMe : Mends N came.length reach came places m) (hz : 0 < zeros places) (hh : ∀ (t : Nat) (e : E), came[t]? = some e → e.there = true → e.hash < 18446744073709551616) (_hshort : came.length ≤ 1099511627776) (_hr : reach < N) :
    Calls Try.prog 48 #[.pointer (some ⟨bt, 0, none⟩), .int .i64 (m : Int)] w fun e' w' => e' = .returned (.tuple #[]) ∧ ∃ came'' places'', Sim came came'' ∧ Mem w' bt fp g cap pb N len reach came'' places'' ∧ Lies N came.length reach came'' places'' ∧ zeros places'' = zeros places + 1 ∧ Turn (three bt pb g) w w' := by
  have hb := hN.bd
  obtain ⟨z, hz1, hz2⟩ := zeros_ex hz
  rw [h.len] at hz1
  have hm := hMe.hole
  have hmz : m ≠ z := by
    rintro rfl; obtain ⟨v, hv⟩ := hMe.full; rw [hz2] at hv; simp at hv
  have hnx0 := next_any h.box.c3 hN m hm
  have HM0 : Hid (Mid w w bt fp g cap pb N len reach came came places places z m (nx N m)) := by
    have a3 := nx_spec hm
    have a4 := dist_spec hm a3.1
    have a5 := dist_spec hm hz1
    exact ⟨hMe, Seen.start m hm, a3.1, by omega, hz1, hz2, by omega, Sim.refl _, h, rfl, Turn.refl _ _⟩
  have HN : Hid (Pow N) := hN
  have HH : Hid (∀ (t : Nat) (e : E), came[t]? = some e → e.there = true → e.hash < 18446744073709551616) := hh
  clear h hMe hz1 hz2 hmz hz hN hh
  go_enter Try.func48, Try.ntmps48
  go_wp2_with fail
  refine hnx0.mono ?_
  rintro e9 w9 ⟨rfl, hw⟩
  have hw' := hw.symm; subst hw'
  clear hnx0
  go_wp2_with fail
  go_loopw [1, 4, 5] (fun um us _u wr => ∃ (m s : Nat) (came' : List E) (places' : List Nat), um = .int .i64 (m : Int) ∧ us = .int .i64 (s : Int) ∧ Mid w wr bt fp g cap pb N len reach came came' places places' z m s)
    (fun _um us _u _ => dist N (intOf us).toNat z)
  case atStart => exact ⟨m, nx N m, came, places, rfl, rfl, HM0.out⟩
  case round =>
    obtain ⟨m, s, came', places', rfl, rfl, hR⟩ := hrel
    clear HM0 hm
    have hm := hR.mends.hole
    have hs := hR.slt
    have hml : m < places'.length := by rw [hR.mends.len]; exact hm
    obtain ⟨pc3, c3⟩ := hR.mem.box.c3
    have c5 := hR.mem.box.c5
    have fm := hR.mem.spots.free m
    obtain ⟨vm, hvm⟩ := hR.mends.full
    have cm := hR.mem.spots.cell m _ hvm
    cases hp : places'[s]? with
    | none => rw [List.getElem?_eq_none_iff] at hp; have := hR.mends.len; omega
    | some v =>
      have cs := hR.mem.spots.cell s v hp
      have HR : Hid (Mid w wr bt fp g cap pb N len reach came came' places places' z m s ∧ places'[s]? = some v) := ⟨hR, hp⟩
      have hbt := fun n => between_any (w := wr.drewN n) ⟨_, c3⟩ HN.out m s hm hs
      have hdl := (dist_spec hm hs).1
      generalize hd0 : dist N m s = d0 at hbt hdl
      have HD0 : Hid (dist N m s = d0) := hd0
      clear hR hp hd0 hvm
      cases v with
      | zero =>
        go_wp2_with fail
        go_quiet (fail)
        go_wp2_with fail
        have hfin := HR.out.1.done hN8 (.inl HR.out.2) ((HR.out.1.drew nq).mem.setSpot m 0) ((HR.out.1.drew nq).turn.set (.inr (.inl rfl)) _ _)
        go_end0
        exact ⟨rfl, hfin⟩
      | succ t =>
        have h0 : (((t + 1 : Nat) : Int) != 0) = true := by simp; omega
        by_cases hfar : d0 ≤ reach
        · have hfd : decide ((d0 : Int) ≤ (reach : Int)) = true := by simp; omega
          obtain ⟨htn, e, he, hth, hpl⟩ := HR.out.1.mends.back s t (Ne.symm HR.out.1.ne) HR.out.2
          obtain ⟨p, hpe⟩ := HR.out.1.sim.at he
          have hhe := HH.out t { e with place := p } hpe hth
          dsimp only at hhe
          have hlen := HR.out.1.sim.len
          have HE : Hid (came'[t]? = some e) := he
          clear hpe hpl he
          go_wp2_with fail
          go_quiet ((go_at_call 58; exact Calls.quiet_of_same (hbt _)))
          have hM1 := (HR.out.1.drew nq).mem
          have hat := at_some (w := wr.drewN nq) g came'.length cap hM1.box.c2 hM1.box.c3 HN.out s t hs (hM1.spots.cell s (t + 1) HR.out.2) (List.getElem?_eq_some_iff.1 HE.out).1 (by have := hM1.row.len; omega)
          clear hM1 hbt
          go_wp2_with fail
          refine hat.mono ?_
          rintro e9 w9 ⟨rfl, n2, hw9⟩
          rw [World.drewN_drewN] at hw9
          have hR9 := HR.out.1.drew (nq + n2)
          rw [← hw9] at hR9
          have HR9 : Hid (Mid w w9 bt fp g cap pb N len reach came came' places places' z m s) := hR9
          have ch := (hR9.mem.row.cells t e HE.out).2.2.1
          obtain ⟨pc4, d3⟩ := hR9.mem.box.c3
          have hst := fun n q (hq : q < N) => steps_any (w := w9.drewN n) (bt := bt) (pb := pb) ⟨_, d3⟩ HN.out e.hash q hhe hq
          clear hat hw9 hR9 c3 c5 fm cm cs
          go_wp2_with fail
          go_quiet ((go_at_call 50; refine Calls.quiet_of_same (hst _ _ ?_); assumption))
          clear hst d3 ch
          have hRA := HR9.out.drew nq
          generalize w9.drewN nq = wA at hRA ⊢
          have HRA : Hid (Mid w wA bt fp g cap pb N len reach came came' places places' z m s) := hRA
          obtain ⟨pc4, d3⟩ := hRA.mem.box.c3
          have ds := hRA.mem.spots.cell s _ HR.out.2
          by_cases hd : dist N (e.hash % N) m < dist N (e.hash % N) s
          · obtain ⟨vm', hvm'⟩ := hRA.mends.full
            have dm := hRA.mem.spots.cell m _ hvm'
            have fm := hRA.mem.spots.free m
            clear hRA hvm'
            go_wp2_with fail
            go_region
            have hMB : Mem (wA.setCell ⟨pb, m, none⟩ (.int .i64 ((t : Int) + 1))).drew bt fp g cap pb N len reach came' (places'.set m (t + 1)) := (HRA.out.mem.setSpot m (t + 1)).drew 1
            have hTB : Turn (three bt pb g) w (wA.setCell ⟨pb, m, none⟩ (.int .i64 ((t : Int) + 1))).drew := (HRA.out.turn.set (.inr (.inl rfl)) _ _).trans (Turn.of_stay (Stay.drew _))
            generalize (wA.setCell ⟨pb, m, none⟩ (.int .i64 ((t : Int) + 1))).drew = wB at hMB hTB ⊢
            have dp := (hMB.row.cells t e HE.out).2.2.2.1
            have fp3 := hMB.row.free (t * 5 + 3)
            have hMC := hMB.setPlace HE.out m
            have hTC : Turn (three bt pb g) w (wB.setCell ⟨g, t * 5 + 3, none⟩ (.int .i64 (m : Int))) := hTB.set (.inr (.inr rfl)) _ _
            have hnx := next_any (w := wB.setCell ⟨g, t * 5 + 3, none⟩ (.int .i64 (m : Int))) (bt := bt) (pb := pb) hMC.box.c3 HN.out s hs
            have HC : Hid _ := And.intro hMC hTC
            clear hMB hTB hMC hTC d3 ds dm fm
            go_wp2_with fail
            refine hnx.mono ?_
            rintro e9 w8 ⟨rfl, hw⟩
            have hw' := hw.symm; subst hw'
            clear hnx
            go_wp2_with fail
            have hfin := HRA.out.move hN8 HR.out.2 HE.out hd HC.out.1 HC.out.2
            exact ⟨⟨s, nx N s, _, _, rfl, rfl, hfin.1⟩, by simpa [intOf] using hfin.2⟩
          · have hdi : ¬ ((dist N (e.hash % N) m : Nat) : Int) < ((dist N (e.hash % N) s : Nat) : Int) := by omega
            have hnx := next_any (w := wA) (bt := bt) (pb := pb) ⟨_, d3⟩ HN.out s hs
            clear hRA
            go_wp2_with fail
            refine hnx.mono ?_
            rintro e9 w8 ⟨rfl, hw⟩
            have hw' := hw.symm; subst hw'
            clear hnx
            go_wp2_with fail
            have hfin := HRA.out.next hN8 HR.out.2 HE.out (by omega)
            exact ⟨⟨m, nx N s, came', places', rfl, rfl, hfin.1⟩, by simpa [intOf] using hfin.2⟩
        · have hfd : decide ((d0 : Int) ≤ (reach : Int)) = false := by simp; omega
          go_wp2_with fail
          go_quiet ((go_at_call 58; exact Calls.quiet_of_same (hbt _)))
          go_wp2_with fail
          have hfin := HR.out.1.done hN8 (.inr (by rw [HD0.out]; omega)) ((HR.out.1.drew nq).mem.setSpot m 0) ((HR.out.1.drew nq).turn.set (.inr (.inl rfl)) _ _)
          go_end0
          exact ⟨rfl, hfin⟩
end
end Go.Proofs.Ytdnophgcdnghkaa.I
