/- The program's table beside the document's: the same places, the same probes, the same told by places. -/
import Derived.Test.YtdnophgcdnghkaaJ4a
namespace Go.Proofs.Ytdnophgcdnghkaa.I
open Go.RowKit Go.Maps Go.Proofs.Ytdnophgcdnghkaa

section
variable {W W' : World} {fp : Nat × Nat × Int} {bt br pb N n len reach : Nat} {way : Int} {ps : List (Int × Int)} {o o' : Nat → Nat} {cv : Value} {came came2 : List E} {places places2 : List Nat}
theorem Tab.hashes (hT : Tab W bt fp cv pb N len reach came places) (hw : fp.2.2 = way) (i : Nat) (e : E) (he : (live came)[i]? = some e) : e.hash = hashOf way e.key := by
  obtain ⟨t, h1, h2, -⟩ := rank_ex he
  rw [(hT.keys t e h1 h2).1]
  unfold hf
  rw [hw]
theorem Tab.same (hT : Tab W bt fp cv pb N len reach came places) (h1 : (live came).map kv = ps) (hw : fp.2.2 = way) (h2 : LayI way ps N ps.length came2 places2) {i : Nat} {e x : E} (he : (live came)[i]? = some e) (hx : came2[i]? = some x) : e.place = x.place ∧ e.key = x.key ∧ x.hash = hashOf way x.key ∧ x.there = true := by
  obtain ⟨hl, hst⟩ := h2.strips
  obtain ⟨h3, p, hp, h4, -, h5⟩ := hst i x hx
  refine ⟨lay_same hT.lies (by have := hT.pow.bd; omega) h1 (fun i e he => hT.hashes hw i e he) h2 he hx, ?_, by rw [h5, h4], h3⟩
  rw [← h1, List.getElem?_map, he] at hp
  have hp := Option.some.inj hp
  rw [h4, ← hp]
  rfl
theorem Tab.taken (hT : Tab W bt fp cv pb N len reach came places) (h1 : (live came).map kv = ps) (hw : fp.2.2 = way) (h2 : LayI way ps N ps.length came2 places2) (q : Nat) : (∃ t, places[q]? = some (t + 1)) ↔ ∃ t, places2[q]? = some (t + 1) := by
  obtain ⟨hl, hst⟩ := h2.strips
  obtain ⟨r2, hL⟩ := h2.lies
  have hll : (live came).length = ps.length := by rw [← h1, List.length_map]
  constructor
  · rintro ⟨t, ht⟩
    obtain ⟨h3, e, h4, h5, h6⟩ := hT.lies.back q t ht
    have h7 := live_rank h4 h5
    have hi := (List.getElem?_eq_some_iff.1 h7).1
    have hx : came2[rank came t]? = some (came2[rank came t]'(by omega)) := List.getElem?_eq_getElem _
    obtain ⟨q1, q2, q3, q4⟩ := hT.same h1 hw h2 h7 hx
    obtain ⟨q5, q6⟩ := hL.here _ _ (by omega) hx q4
    rw [← q1, h6] at q6
    exact ⟨_, q6⟩
  · rintro ⟨t, ht⟩
    obtain ⟨h3, x, h4, h5, h6⟩ := hL.back q t ht
    have h7 : (live came)[t]? = some ((live came)[t]'(by omega)) := List.getElem?_eq_getElem _
    obtain ⟨q1, q2, q3, q4⟩ := hT.same h1 hw h2 h7 h4
    obtain ⟨t0, k1, k2, k3⟩ := rank_ex h7
    obtain ⟨q5, q6⟩ := hT.lies.here t0 _ (List.getElem?_eq_some_iff.1 k1).1 k1 k2
    rw [q1, h6] at q6
    exact ⟨_, q6⟩
/-- Where a search from the key's home on ends: at the key, or at the first empty place. -/
structure EndAt (way : Int) (ps : List (Int × Int)) (key : Int) (N : Nat) (came : List E) (places : List Nat) (r : Nat) : Prop where
  yes : ∀ i, atN way ps key = some i → ∃ x : E, (live came)[i]? = some x ∧ r = x.place
  no : atN way ps key = none → Free N (hashOf way key % N) places r
theorem free_ex {home : Nat} (hl : places.length = N) : ∀ (d q : Nat), dist N home q = d → places[q]? = some 0 → ∃ r, Free N home places r := by
  intro d
  induction d using Nat.strongRecOn with
  | _ d ih =>
    intro q hd hq
    by_cases h : ∃ q', places[q']? = some 0 ∧ dist N home q' < d
    · obtain ⟨q', h1, h2⟩ := h
      exact ih _ h2 q' rfl h1
    · refine ⟨q, by have := (List.getElem?_eq_some_iff.1 hq).1; omega, hq, fun q' hq' hd' => ?_⟩
      have hx : places[q']? = some (places[q']'(by omega)) := List.getElem?_eq_getElem _
      cases hv : places[q']'(by omega) with
      | zero => rw [hv] at hx; exact absurd ⟨q', hx, by omega⟩ h
      | succ t => rw [hv] at hx; exact ⟨t, hx⟩
theorem Tab.endAt (hT : Tab W bt fp cv pb N len reach came places) (h1 : (live came).map kv = ps) (key : Int) : ∃ r, EndAt way ps key N came places r := by
  cases ho : atN way ps key with
  | some i =>
    obtain ⟨t, x, q1, q2, q3, q4, q5, q6⟩ := pick_some h1 ho
    refine ⟨x.place, ⟨fun j hj => ?_, fun h => ?_⟩⟩
    · rw [ho] at hj
      cases hj
      exact ⟨x, q4, rfl⟩
    · rw [ho] at h
      cases h
  | none =>
    obtain ⟨q, h3, h4⟩ := zeros_ex (l := places) (by have := hT.zer; have := hT.few; have := hT.eight; omega)
    obtain ⟨r, hr⟩ := free_ex hT.lies.len _ q rfl h4
    refine ⟨r, ⟨fun j hj => ?_, fun _ => hr⟩⟩
    rw [ho] at hj
    cases hj
theorem ends_at (hT : Tab W bt fp cv pb N len reach came places) (h1 : (live came).map kv = ps) (hw : fp.2.2 = way) {key : Int} {r r0 : Nat} (hE : Ends N (hf fp key % N) came places (hit fp (hf fp key) key) r) (hA : EndAt way ps key N came places r0) : r = r0 := by
  have hN : 0 < N := by have := hT.pow.bd; omega
  have hho : hf fp key = hashOf way key := by unfold hf; rw [hw]
  have hhl : hashOf way key % N < N := Nat.mod_lt _ hN
  cases ho : atN way ps key with
  | some i =>
    obtain ⟨t, x, q1, q2, q3, q4, q5, q6⟩ := pick_some h1 ho
    have hs : sm fp x.key key = true := by unfold sm; rw [hw]; exact q3
    obtain ⟨hr, -⟩ := hT.ends_yes hE q1 q2 hs
    obtain ⟨y, hy, hr0⟩ := hA.yes i ho
    rw [q4] at hy
    cases hy
    rw [hr, hr0]
  | none =>
    obtain ⟨hr, hr0, hrp⟩ := hT.ends_no hE (fun t e he hth => by unfold sm; rw [hw]; exact pick_none h1 ho t e he hth)
    obtain ⟨k1, k2, k3⟩ := hA.no ho
    rw [hho] at hrp
    rcases Nat.lt_trichotomy (dist N (hashOf way key % N) r) (dist N (hashOf way key % N) r0) with g | g | g
    · obtain ⟨t, ht⟩ := k3 r hr g
      rw [hr0] at ht; simp at ht
    · exact dist_inj hhl hr k1 g
    · obtain ⟨t, ht⟩ := hrp r0 k1 g
      rw [k2] at ht; simp at ht
theorem pends_at (hT : Tab W bt fp cv pb N len reach came places) (h1 : (live came).map kv = ps) (hw : fp.2.2 = way) (h2 : LayI way ps N ps.length came2 places2) {key : Int} {r r2 : Nat}
    (hA : EndAt way ps key N came places r) (hP : PEnds N (hashOf way key % N) places2 (atN way ps key) r2) : r = r2 := by
  have hN : 0 < N := by have := hT.pow.bd; omega
  have hho : hf fp key = hashOf way key := by unfold hf; rw [hw]
  have hhl : hashOf way key % N < N := Nat.mod_lt _ hN
  cases ho : atN way ps key with
  | some i =>
    obtain ⟨t, x, q1, q2, q3, q4, q5, q6⟩ := pick_some h1 ho
    have hs : sm fp x.key key = true := by unfold sm; rw [hw]; exact q3
    have hr : r = x.place := by
      obtain ⟨y, hy, hr0⟩ := hA.yes i ho
      rw [q4] at hy
      cases hy
      exact hr0
    obtain ⟨hl, hst⟩ := h2.strips
    obtain ⟨rr, hL⟩ := h2.lies
    have hip : i < ps.length := (List.getElem?_eq_some_iff.1 q6).1
    have hy : came2[i]? = some (came2[i]'(by omega)) := List.getElem?_eq_getElem _
    obtain ⟨k1, k2, k3, k4⟩ := hT.same h1 hw h2 q4 hy
    generalize came2[i]'(by omega) = y at *
    obtain ⟨g1, g2⟩ := hL.here i y hip hy k4
    have hfst := hL.first i y hip hy k4
    have hyh : y.hash = hashOf way key := by
      rw [k3, ← k2, ← hho]
      have := sm_hash hs
      unfold hf at this ⊢
      rw [← hw]
      exact this
    rw [hyh] at hfst
    rw [hr, k1]
    rw [ho] at hP
    rcases Nat.lt_trichotomy (dist N (hashOf way key % N) r2) (dist N (hashOf way key % N) y.place) with g | g | g
    · obtain ⟨t', ht', hp⟩ := hfst r2 hP.lt g
      rcases hP.stop with s | ⟨u, s, hu⟩
      · rw [hp] at s; simp at s
      · rw [hp] at s
        have e1 := Option.some.inj s
        have e2 := Option.some.inj hu
        omega
    · exact (dist_inj hhl hP.lt g1 g).symm
    · obtain ⟨u, hu, hne⟩ := hP.past y.place g1 g
      rw [g2] at hu
      have e1 := Option.some.inj hu
      exact absurd (by congr 1; omega) hne
  | none =>
    obtain ⟨hr, hr0, hrp⟩ := hA.no ho
    rw [ho] at hP
    have hz2 : places2[r2]? = some 0 := by
      rcases hP.stop with s | ⟨u, s, hu⟩
      · exact s
      · cases hu
    rcases Nat.lt_trichotomy (dist N (hashOf way key % N) r2) (dist N (hashOf way key % N) r) with g | g | g
    · obtain ⟨t, ht⟩ := (hT.taken h1 hw h2 r2).1 (hrp r2 hP.lt g)
      rw [hz2] at ht; simp at ht
    · exact (dist_inj hhl hP.lt hr g).symm
    · obtain ⟨u, hu, -⟩ := hP.past r hr g
      obtain ⟨t, ht⟩ := (hT.taken h1 hw h2 r).2 ⟨u, hu⟩
      rw [hr0] at ht; simp at ht

def pk2 (e : E) : Int × Int := ((e.place : Int), e.key)
theorem Tab.rising (hT : Tab W bt fp cv pb N len reach came places) : ((byPl (live came)).map pk2).Pairwise (fun a b => a.1 < b.1) := by
  have hF := hT.lies.fst
  have h1 : (live came).Pairwise (fun a b => a.place ≠ b.place) := by
    rw [List.pairwise_iff_getElem]
    intro i j hi hj hij he
    have := hF.inj i j _ _ (List.getElem?_eq_getElem hi) (List.getElem?_eq_getElem hj) he
    omega
  have h2 : (byPl (live came)).Pairwise (fun a b => a.place ≠ b.place) := h1.perm (byPl_perm (live came)).symm (fun h e => h e.symm)
  rw [List.pairwise_map]
  refine (h2.and (byPl_rise (live came))).imp ?_
  intro a b ⟨g1, g2⟩
  show (a.place : Int) < (b.place : Int)
  omega
/-- What is told by places is what the document tells. -/
theorem Tab.laid (hT : Tab W bt fp cv pb N len reach came places) (h1 : (live came).map kv = ps) (hw : fp.2.2 = way) (h2 : LayI way ps N ps.length came2 places2) : (byPl (live came)).map pk2 = laidL ps places2 N := by
  obtain ⟨hl, hst⟩ := h2.strips
  have hll : (live came).length = ps.length := by rw [← h1, List.length_map]
  refine sorted_ext hT.rising (laidL_sorted ps places2 N) fun x => ?_
  rw [laidL_is h2, List.mem_map]
  constructor
  · rintro ⟨e, he, rfl⟩
    obtain ⟨i, hi⟩ := List.getElem?_of_mem ((byPl_perm (live came)).mem_iff.1 he)
    have hil := (List.getElem?_eq_some_iff.1 hi).1
    have hx : came2[i]? = some (came2[i]'(by omega)) := List.getElem?_eq_getElem _
    obtain ⟨q1, q2, -⟩ := hT.same h1 hw h2 hi hx
    exact ⟨_, List.getElem_mem _, by unfold pk2; rw [q1, q2]⟩
  · rintro ⟨x, hx, rfl⟩
    obtain ⟨i, hi⟩ := List.getElem?_of_mem hx
    have hil := (List.getElem?_eq_some_iff.1 hi).1
    have he : (live came)[i]? = some ((live came)[i]'(by omega)) := List.getElem?_eq_getElem _
    obtain ⟨q1, q2, -⟩ := hT.same h1 hw h2 he hi
    exact ⟨_, (byPl_perm (live came)).mem_iff.2 (List.getElem_mem _), by unfold pk2; rw [q1, q2]⟩

theorem place_pair (h : TS W fp bt ps N n o) (hR : RS W br way ps N o) (hw : fp.2.2 = way) (key : Int) (hk : KeyOk key) (hn : n ≤ 68719476736) : ∃ (p : Int) (ok : Bool),
    Calls Try.prog 29 #[.pointer (some ⟨bt, 0, none⟩), .int .i64 key] W (fun e w' => e = .returned (.tuple #[.int .i64 p, .bool ok]) ∧ Stay W w') ∧
    ∀ V, Stay W V → Calls Try.prog 30 #[.pointer (some ⟨br, 0, none⟩), .int .i64 key] V (fun e w' => e = .returned (.tuple #[.int .i64 p, .bool ok]) ∧ Stay V w') := by
  obtain ⟨f1, f2, f3, f4, -⟩ := h.facts
  obtain ⟨cv, pb, len, reach, came, places, hT, h1, h2, h3, h4⟩ := h
  obtain ⟨a, b, c, hR, h5⟩ := hR
  cases ho : atN way ps key with
  | none =>
    refine ⟨0, false, (place_no hT key hk (fun t e he hth => by unfold sm; rw [hw]; exact pick_none h1 ho t e he hth)).mono ?_, fun V hV => rPlace_no (hR.stay hV) key hk f2 (by omega) ho⟩
    rintro e w' ⟨rfl, k, rfl⟩
    exact ⟨rfl, Stay.drewN _ _⟩
  | some i =>
    obtain ⟨t, x, q1, q2, q3, q4, q5, q6⟩ := pick_some h1 ho
    refine ⟨x.place, true, (place_yes hT key hk q1 q2 (by unfold sm; rw [hw]; exact q3)).mono ?_, fun V hV => (rPlace_yes (hR.stay hV) key hk f2 (by omega) ho).mono ?_⟩
    · rintro e w' ⟨rfl, k, rfl⟩
      exact ⟨rfl, Stay.drewN _ _⟩
    · rintro e w' ⟨⟨came2, places2, y, hL, hy, rfl⟩, hs⟩
      obtain ⟨k1, -⟩ := hT.same h1 hw hL q4 hy
      exact ⟨by rw [k1], hs⟩
theorem probes_pair (h : TS W fp bt ps N n o) (hR : RS W br way ps N o) (hw : fp.2.2 = way) (key : Int) (hk : KeyOk key) (hn : n ≤ 68719476736) : ∃ p : Int,
    (∀ V, Stay W V → Calls Try.prog 31 #[.pointer (some ⟨bt, 0, none⟩), .int .i64 key] V (fun e w' => e = .returned (.int .i64 p) ∧ Stay V w')) ∧
    ∀ V, Stay W V → Calls Try.prog 32 #[.pointer (some ⟨br, 0, none⟩), .int .i64 key] V (fun e w' => e = .returned (.int .i64 p) ∧ Stay V w') := by
  obtain ⟨f1, f2, f3, f4, -⟩ := h.facts
  obtain ⟨cv, pb, len, reach, came, places, hT, h1, h2, h3, h4⟩ := h
  obtain ⟨a, b, c, hR, h5⟩ := hR
  have hho : hf fp key = hashOf way key := by unfold hf; rw [hw]
  obtain ⟨r0, hA⟩ := hT.endAt h1 key
  refine ⟨((dist N (hashOf way key % N) r0 + 1 : Nat) : Int), fun V hV => ?_, fun V hV => (rProbes_any (hR.stay hV) key hk f2 (by omega)).mono ?_⟩
  · refine (probes_any (hT.turn (S := fun _ => False) (Turn.of_stay hV) (fun _ _ e => e) (fun _ _ e => e)) key hk).mono ?_
    rintro e w' ⟨r, hE, rfl, k, rfl⟩
    rw [ends_at hT h1 hw hE hA, hho]
    exact ⟨rfl, Stay.drewN _ _⟩
  · rintro e w' ⟨⟨came2, places2, r2, hL, hP, rfl⟩, hs⟩
    rw [pends_at hT h1 hw hL hA hP]
    exact ⟨rfl, hs⟩
end
end Go.Proofs.Ytdnophgcdnghkaa.I
