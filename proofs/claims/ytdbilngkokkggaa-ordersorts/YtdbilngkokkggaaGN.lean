/- order.Set, of any list: by the order and by the nil function. -/
import Derived.Test.YtdbilngkokkggaaGJ
import Derived.Test.YtdbilngkokkggaaGM
import Derived.Laws.EntriesVeiled
namespace Go.Proofs.Ytdbilngkokkggaa
open Go.RowKit Go.Maps Go.Shelf Go.Sort Go.Proofs.Ytdbilngkokkggaa.HT

theorem orderOf_fn (g : Nat) (w : World) : Calls Try.prog 55 #[.func (.func g) #[] #[]] w fun e w' => e = .returned (.func (.func g) #[] #[]) ∧ w' = w := by
  have he := eql_fn g #[]
  go_enter Try.func55, Try.ntmps55
  go_wp2
  go_ret
  exact ⟨rfl, rfl⟩

set_option maxRecDepth 100000 in
set_option maxHeartbeats 4000000 in
theorem oset_any {fv : Value} {g : Nat} {κ : Int × Int → Int} {cf : Int × Int → Int × Int → Int} (ho : Ord g κ cf) (hz : ∀ x y, cf x y = 0 ↔ κ x = κ y) (hfv : fv = .nilFunc ∨ ∃ f, fv = .func (.func f) #[] #[]) (hof : ∀ W, Calls Try.prog 55 #[fv] W fun e w' => e = .returned (.func (.func g) #[] #[]) ∧ w' = W) (w : World) (a : Option Addr) (b off c : Nat) (ts : List (Int × Int)) (hT : ThS w a b off ts) (ha : a = none → c = 0 ∧ ts = []) (hlx : ts.length * 16 ≤ 140737488355328) :
    Calls Try.prog 19 #[.slice a ts.length c, fv] w fun e w' => ∃ v Z, e = .returned v ∧ RisK κ Z ∧ Eqv κ ts Z ∧ OwnT w.heap.size w' v (uniqK κ Z ts.length) ∧ Stay w w' := by
  have HX : Hid (Ord g κ cf ∧ (∀ x y, cf x y = 0 ↔ κ x = κ y) ∧ ThS w a b off ts ∧ (a = none → c = 0 ∧ ts = []) ∧ ts.length * 16 ≤ 140737488355328) := ⟨ho, hz, hT, ha, hlx⟩
  obtain ⟨V, hV⟩ : ∃ V, V = w.alloc (.cells #[fv] 34) := ⟨_, rfl⟩
  obtain ⟨B, hB⟩ : ∃ B, B = w.heap.size := ⟨_, rfl⟩
  have k0 : V.cell? ⟨B, 0, none⟩ = some fv := by rw [hV, hB]; simp
  have k1 : V.frozen? ⟨B, 0, none⟩ = false := by rw [hV, hB]; simp
  have HV : Hid (Stay w V ∧ B = w.heap.size ∧ B < V.heap.size) := by rw [hV]; exact ⟨Stay.new _ _, hB, by rw [hB, World.size_alloc]; omega⟩
  have hT2 : Turn (fun k => k = B) V (V.setCell ⟨B, 0, none⟩ (.func (.func g) #[] #[])) := (Turn.refl (fun k => k = B) V).set rfl _ _
  have hst : Stay w (V.setCell ⟨B, 0, none⟩ (.func (.func g) #[] #[])) := hT2.stay HV.out.1 (fun k hk e => by have := HV.out; omega)
  have hso := osort_any ho (orderOf_fn g) (V.setCell ⟨B, 0, none⟩ (.func (.func g) #[] #[])) a b off c ts (hT.stay hst) ha hlx
  have k2 : (V.setCell ⟨B, 0, none⟩ (.func (.func g) #[] #[])).cell? ⟨B, 0, none⟩ = some (.func (.func g) #[] #[]) := World.cell?_setCell_same _ _ _ k0
  have HS : Hid (Stay w (V.setCell ⟨B, 0, none⟩ (.func (.func g) #[] #[])) ∧ (V.setCell ⟨B, 0, none⟩ (.func (.func g) #[] #[])).cell? ⟨B, 0, none⟩ = some (.func (.func g) #[] #[]) ∧ B < (V.setCell ⟨B, 0, none⟩ (.func (.func g) #[] #[])).heap.size) := ⟨hst, k2, World.block_lt_of_cell? _ _ k2⟩
  clear ho hz hT ha hlx hT2 hst
  generalize hV2 : V.setCell ⟨B, 0, none⟩ (.func (.func g) #[] #[]) = V2 at hso HS k2
  have HV2 : Hid (V.setCell ⟨B, 0, none⟩ (.func (.func g) #[] #[]) = V2) := hV2
  clear hV2
  rcases hfv with rfl | ⟨f, rfl⟩
  all_goals
    go_enter Try.func19, Try.ntmps19
    go_wp2_with fail
    rw [← hV, ← hB]
    clear hV hB
    refine (hof _).mono ?_
    rintro e9 w9 ⟨rfl, hw⟩
    have hw' := hw.symm; subst hw'
    clear hw
    go_wp2_with fail
    rw [HV2.out]
    refine hso.mono ?_
    rintro e1 w1 ⟨G, Z, rfl, hG, hr, hq, hl, hI, hs⟩
    have hc := compact_any HX.out.1 HX.out.2.1 w1 G B ts.length Z hl (by have := HX.out.2.2.2.2; omega) hI (hs.cell HS.out.2.1) (by have := HS.out.2.2; omega)
    have H1 : Hid (RisK κ Z ∧ Eqv κ ts Z ∧ Stay w w1 ∧ w.heap.size ≤ G) := ⟨hr, hq, HS.out.1.trans hs, Nat.le_trans HS.out.1.size hG⟩
    clear hG hr hq hl hI hs hso k0 k1 k2
    go_wp2_with fail
    refine hc.mono ?_
    rintro e2 w2 ⟨k, rfl, hk, hR, hT3⟩
    have H2 : Hid (OwnT w.heap.size w2 (.slice (some ⟨G, 0, none⟩) k ts.length) (uniqK κ Z ts.length) ∧ Stay w w2) := by
      have := hR.own H1.out.2.2.2
      rw [← hk] at this
      exact ⟨this, hT3.stay H1.out.2.2.1 (fun j hj e => by have := H1.out.2.2.2; omega)⟩
    clear hk hR hT3 hc
    go_wp2
    go_ret
    exact ⟨_, Z, rfl, H1.out.1, H1.out.2.1, H2.out.1, H2.out.2⟩
theorem zeroBy (x y : Int × Int) : byC x y = 0 ↔ x.1 = y.1 := by
  unfold byC
  split
  · simp; omega
  · split <;> simp <;> omega
/-- order.Set by the order. -/
theorem set_by (w : World) (a : Option Addr) (b off c : Nat) (ts : List (Int × Int)) (hT : ThS w a b off ts) (ha : a = none → c = 0 ∧ ts = []) (hlx : ts.length * 16 ≤ 140737488355328) :
    Calls Try.prog 19 #[.slice a ts.length c, .func (.func 18) #[] #[]] w fun e w' => ∃ v, e = .returned v ∧ OwnT w.heap.size w' v (setR ts) ∧ Stay w w' :=
  (oset_any ordBy zeroBy (.inr ⟨_, rfl⟩) orderOf_yes w a b off c ts hT ha hlx).mono fun e w' ⟨v, Z, he, hr, hq, hO, hs⟩ => by
    rw [uniqK_R, sorted_is hr hq] at hO
    exact ⟨v, he, hO, hs⟩
/-- order.Set by the nil function. -/
theorem set_nil (w : World) (a : Option Addr) (b off c : Nat) (ts : List (Int × Int)) (hT : ThS w a b off ts) (ha : a = none → c = 0 ∧ ts = []) (hlx : ts.length * 16 ≤ 140737488355328) :
    Calls Try.prog 19 #[.slice a ts.length c, .nilFunc] w fun e w' => ∃ v, e = .returned v ∧ OwnT w.heap.size w' v (ts.take 1) ∧ Stay w w' :=
  (oset_any ordNo (fun x y => by simp [noC]) (.inl rfl) orderOf_nil w a b off c ts hT ha hlx).mono fun e w' ⟨v, Z, he, hr, hq, hO, hs⟩ => by
    rw [none_is hq] at hO
    refine ⟨v, he, ?_, hs⟩
    cases ts with
    | nil => exact hO
    | cons x ts =>
      rw [List.length_cons, uniqK_no] at hO
      simpa using hO
end Go.Proofs.Ytdbilngkokkggaa
