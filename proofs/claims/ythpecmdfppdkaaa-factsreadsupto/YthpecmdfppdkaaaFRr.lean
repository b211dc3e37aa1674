/- FactsReads: the walk. -/
import Derived.Test.YthpecmdfppdkaaaFKv
import Derived.Test.YthpecmdfppdkaaaFRd
import Derived.Test.YthpecmdfppdkaaaFTm
namespace Go.Proofs.Ythpecmdfppdkaaa
open Go.RowKit Go.Maps

/-- Two lists of one's own that say the same. -/
theorem sameG {V : World} {b1 b2 : Nat} {v1 v2 : Value} {us1 us2 : List Value} {ts : List (List ByteArray)} (h1 : OwnG b1 V v1 us1 ts) (h2 : OwnG b2 V v2 us2 ts) (hl : ts.length ≤ 1048577) (hm : ∀ t ∈ ts, t.length ≤ 1048577) : Calls Try.prog 24 #[v1, v2] V fun e w' => e = .returned (.bool true) ∧ Stay V w' := by
  obtain ⟨a1, c1, m1, d1, rfl, hm1, hk1⟩ := h1.read (fun t ht => by have := hm t ht; omega)
  obtain ⟨a2, c2, m2, d2, rfl, hm2, hk2⟩ := h2.read (fun t ht => by have := hm t ht; omega)
  obtain ⟨xs, t1, e1, l1, q1⟩ := hk1 V (Stay.refl _)
  obtain ⟨ys, t2, e2, l2, q2⟩ := hk2 V (Stay.refl _)
  exact same_lit t1 l1 t2 l2 (e1.trans e2.symm) (by omega) (by omega) q1 q2

set_option maxRecDepth 100000 in
set_option maxHeartbeats 8000000 in
theorem reads_walk (s : ByteArray) (z : Int) (w : World) (hs : s.size ≤ 1048576) : Calls Try.prog 5 #[.string s, .int .i64 z] w fun e w' => e = .returned (.bool true) ∧ Stay w w' := by
  have hn := lnum_any
  have hkn := known_any
  have c1 := Scan_any s w (by omega)
  have c2 := fun V => rScan_any s V (by omega)
  have c3 := fun V => Read_any s z V (by omega)
  have c4 := fun V => rRead_any s z V hs
  have hlm : (toG (readT s.data.toList z).1).length ≤ 1048577 ∧ ∀ t ∈ toG (readT s.data.toList z).1, t.length ≤ 1048577 := by
    by_cases h0 : (readT s.data.toList z).2.2 = 0
    · obtain ⟨-, -, -, e4, e5, e6, e7⟩ := read_ok h0
      rw [data_len] at e4
      refine ⟨by simp only [toG, List.length_map]; omega, fun t ht => ?_⟩
      obtain ⟨u, hu, rfl⟩ := List.mem_map.1 ht
      have := (e7 u hu).1
      rw [List.length_map]; omega
    · rw [(read_bad h0).1]
      exact ⟨by simp [toG], fun t ht => by simp [toG] at ht⟩
  generalize plcZ (scanT s.data.toList) = z1 at *
  generalize errZ (scanT s.data.toList) = z2 at *
  generalize toG (readT s.data.toList z).1 = ts at *
  generalize (readT s.data.toList z).2.1 = z3 at *
  generalize (readT s.data.toList z).2.2 = z4 at *
  have HL : Hid (ts.length ≤ 1048577 ∧ ∀ t ∈ ts, t.length ≤ 1048577) := hlm
  clear hlm
  go_enter Try.func5, Try.ntmps5
  go_wp2_with (first
    | (go_at_call 20; refine c1.mono ?_; rintro e W1 ⟨rfl, hs1⟩; clear c1)
    | (go_at_call 21; refine (c2 _).mono ?_; rintro e W2 ⟨rfl, hs2⟩; have c3a := c3 W2; clear c2)
    | (go_at_call 22; refine c3a.mono ?_; rintro e W3 ⟨v3, us3, rfl, ho3, hs3⟩; have HO3 : Hid (OwnG W2.heap.size W3 v3 us3 ts) := ho3; have c3b := c3 W3; clear ho3 c3a c3)
    | (go_at_call 22; refine c3b.mono ?_; rintro e W4 ⟨v4, us4, rfl, ho4, hs4⟩; have HO4 : Hid (OwnG W3.heap.size W4 v4 us4 ts) := ho4; have c4a := c4 W4; clear ho4 c3b c4)
    | (go_at_call 23; refine c4a.mono ?_; rintro e W5 ⟨v5, us5, rfl, ho5, hs5⟩; have HO5 : Hid (OwnG W4.heap.size W5 v5 us5 ts) := ho5
       have sm1 := sameG (HO3.out.stay (hs4.trans hs5)) ho5 HL.out.1 HL.out.2
       clear ho5 c4a)
    | (go_at_call 24; refine sm1.mono ?_; rintro e W6 ⟨rfl, hs6⟩; have sm2 := sameG (HO4.out.stay (hs5.trans hs6)) (HO5.out.stay hs6) HL.out.1 HL.out.2; clear sm1)
    | (go_at_call 24; refine sm2.mono ?_; rintro e W7 ⟨rfl, hs7⟩
       have o3 := HO3.out.stay (((hs4.trans hs5).trans hs6).trans hs7)
       have o4 := HO4.out.stay ((hs5.trans hs6).trans hs7)
       have hne : ∀ k, blkG v3 us3 k → ¬ blkG v4 us4 k := fun k h3 h4 => (by have := (HO3.out.lt k h3).2; have := (HO4.out.lt k h4).1; omega)
       have z34 := (((hs4.trans hs5).trans hs6).trans hs7).size
       have z3 := (hs3.trans (((hs4.trans hs5).trans hs6).trans hs7)).size
       have ap := apart_of W7 v3 v4 us3 us4 (full_any W7 W2.heap.size v3 us3 ts _ o3 z3 HL.out.1 HL.out.2)
         (fun W' hT => full_any W' W3.heap.size v4 us4 ts _ (o4.turn hT (fun k h4 h3 => hne k h3 h4)) (Nat.le_trans z34 hT.size) HL.out.1 HL.out.2) hne (fun k h4 => (o4.lt k h4).2)
       have HB : Hid (∀ W8, Turn (fun k => blkG v3 us3 k ∨ blkG v4 us4 k) W7 W8 → Stay w W8) := fun W8 hT => hT.stay ((((((hs1.trans hs2).trans hs3).trans hs4).trans hs5).trans hs6).trans hs7) (fun k hk e => by
         have q1 := (hs1.trans hs2).size
         have q2 := ((hs1.trans hs2).trans hs3).size
         rcases e with e | e
         · have := (HO3.out.lt k e).1; omega
         · have := (HO4.out.lt k e).1; omega)
       clear sm2 o3 o4 hne z34 z3)
    | (go_at_call 25; refine ap.mono ?_; rintro e W8 ⟨rfl, hT8⟩; have H8 : Hid (Stay w W8) := HB.out W8 hT8; clear ap hT8)
    | (go_at_call 17; refine (hkn _).mono ?_; rintro e W9 ⟨rfl, hs9⟩)
    | (go_at_call 15; refine (hn _ _).mono ?_; rintro e w' ⟨rfl, hw'⟩; have hw2 := hw'.symm; subst hw2))
  go_ret
  exact ⟨rfl, H8.out.trans hs9⟩
end Go.Proofs.Ythpecmdfppdkaaa
