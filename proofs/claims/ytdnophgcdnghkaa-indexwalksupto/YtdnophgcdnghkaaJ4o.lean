/- What a walk tells, whenever it is begun. -/
import Derived.Test.YtdnophgcdnghkaaJ4g
namespace Go.Proofs.Ytdnophgcdnghkaa.I
open Go.RowKit Go.Maps Go.Shelf Go.Proofs.Ytdnophgcdnghkaa
section
variable {w W0 W1 W2 W3 Z : World} {fp : Nat × Nat × Int} {bt br n N N' : Nat} {way : Int} {o o1 o2 : Nat → Nat} {ps ps' : List (Int × Int)}
def Told2 (Z : World) (bt br pf gf : Nat) : Prop := ∃ ks vs : List Int, (∀ V, Stay Z V → Calls Try.prog pf #[.pointer (some ⟨br, 0, none⟩)] V (TellR V ks vs)) ∧
  ∀ V Bn, Stay Z V → V.cell? ⟨Bn, 0, none⟩ = some (.pointer (some ⟨bt, 0, none⟩)) → ∀ (a1 a2 : Option Addr) (b1 b2 c1 c2 : Nat) (leave : Int), RecS 1 encN V a1 b1 0 ks → RecS 1 encN V a2 b2 0 vs →
    Calls Try.prog 10 #[.func (.func gf) #[] #[.pointer (some ⟨Bn, 0, none⟩)], .agg #[.slice a1 ks.length c1, .slice a2 vs.length c2], .int .i64 leave] V fun e w' => e = .returned (.bool true) ∧ Stay V w'
theorem told_all (h : TS Z fp bt ps N n o) (hR : RS Z br way ps N o) (hn : n ≤ 1073741824) : Told2 Z bt br 12 35 := by
  have hfa := h.facts
  obtain ⟨cv, pb, len, reach, came, places, hT, h1, h2, h3, h4⟩ := h
  obtain ⟨a, b, c, hR, h5⟩ := hR
  have hll : (live came).length = ps.length := by rw [← h1, List.length_map]
  refine ⟨ps.map (·.1), ps.map (·.2), fun V hV => pairs_any (hR.stay hV) (by omega), fun V Bn hV hc a1 a2 b1 b2 c1 c2 leave hk hv => ?_⟩
  refine walks_any V (enters_of Try.func35 (by kernel_rfl) rfl) (f := fun x => ((live came)[x]?.getD gap).key) (g := fun x => ((live came)[x]?.getD gap).val) (n := (live came).length) (fun X hX => ?_) hk hv (by rw [List.length_map, hll]) (by rw [List.length_map, hll]) (fun i hi => ?_) (fun i hi => ?_) leave (by omega)
  · exact all_stops 8 (by decide) Bn (fun _ _ => False) X (Stay.cell hX hc) (hT.turn (S := fun _ => False) (Turn.of_stay (Stay.trans hV hX)) (fun _ _ e => e) (fun _ _ e => e)) (by omega) (fun _ _ _ hm => hm.elim) (fun _ _ _ _ hm => hm)
  · have hi2 : i < (live came).length := by rw [List.length_map] at hi; omega
    simp only [List.getElem?_eq_getElem hi2, Option.getD_some, List.getElem_map]
    simp only [← h1, List.getElem_map]
    rfl
  · have hi2 : i < (live came).length := by rw [List.length_map] at hi; omega
    simp only [List.getElem?_eq_getElem hi2, Option.getD_some, List.getElem_map]
    simp only [← h1, List.getElem_map]
    rfl
theorem told_lay (h : TS Z fp bt ps N n o) (hR : RS Z br way ps N o) (hw : fp.2.2 = way) (hn : n ≤ 1073741824) : Told2 Z bt br 14 37 := by
  have hfa := h.facts
  obtain ⟨cv, pb, len, reach, came, places, hT, h1, h2, h3, h4⟩ := h
  obtain ⟨a, b, c, hR, h5⟩ := hR
  have hll : (byPl (live came)).length = ps.length := by rw [byPl_len, ← h1, List.length_map]
  refine ⟨((byPl (live came)).map pk2).map (·.1), ((byPl (live came)).map pk2).map (·.2), fun V hV => ?_, fun V Bn hV hc a1 a2 b1 b2 c1 c2 leave hk hv => ?_⟩
  · refine (laid_any (hR.stay hV) (by omega) (by omega)).mono ?_
    rintro e w' ⟨came2, places2, hL, -, ht⟩
    rw [← hT.laid h1 hw hL] at ht
    exact ht
  refine walks_any V (enters_of Try.func37 (by kernel_rfl) rfl) (f := fun x => (((byPl (live came))[x]?.getD gap).place : Int)) (g := fun x => ((byPl (live came))[x]?.getD gap).key) (n := (byPl (live came)).length) (fun X hX => ?_) hk hv (by simp) (by simp) (fun i hi => ?_) (fun i hi => ?_) leave (by omega)
  · exact lay_stops 8 (by decide) Bn (fun _ _ => False) X (Stay.cell hX hc) (hT.turn (S := fun _ => False) (Turn.of_stay (Stay.trans hV hX)) (fun _ _ e => e) (fun _ _ e => e)) (by omega) (fun _ _ _ hm => hm.elim) (fun _ _ _ _ hm => hm)
  · have hi2 : i < (byPl (live came)).length := by simpa using hi
    simp only [List.getElem?_eq_getElem hi2, Option.getD_some, List.getElem_map]
    rfl
  · have hi2 : i < (byPl (live came)).length := by simpa using hi
    simp only [List.getElem?_eq_getElem hi2, Option.getD_some, List.getElem_map]
    rfl
end
end Go.Proofs.Ytdnophgcdnghkaa.I
