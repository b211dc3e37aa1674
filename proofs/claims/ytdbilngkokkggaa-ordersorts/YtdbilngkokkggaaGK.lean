/- Does a list rise: the library's, order's, the document's. -/
import Derived.Test.YtdbilngkokkggaaGE
import Derived.Test.YtdbilngkokkggaaTC
namespace Go.Proofs.Ytdbilngkokkggaa
open Go.RowKit Go.Maps Go.Shelf Go.Sort Go.Proofs.Ytdbilngkokkggaa.HT

/-- The answer is a Bool that says whether p. -/
def SaysB (e : Ending) (p : Prop) : Prop := ∃ q : Bool, e = .returned (.bool q) ∧ (q = true ↔ p)
theorem SaysB.yes {p : Prop} (h : p) : SaysB (.returned (.bool true)) p := ⟨true, rfl, ⟨fun _ => h, fun _ => rfl⟩⟩
theorem SaysB.no {p : Prop} (h : ¬ p) : SaysB (.returned (.bool false)) p := ⟨false, rfl, ⟨fun e => (by cases e), fun e => absurd e h⟩⟩
/-- From place k on each thing is not below the one ahead. -/
def FromK (κ : Int × Int → Int) (ts : List (Int × Int)) (k : Nat) : Prop := ∀ j (h : j < ts.length), k ≤ j → 0 < j → κ (ts[j - 1]'(by omega)) ≤ κ ts[j]
theorem risk_from {κ : Int × Int → Int} {ts : List (Int × Int)} (h : FromK κ ts 1) : RisK κ ts := by
  have step : ∀ d i (hj : i + d < ts.length), κ (ts[i]'(by omega)) ≤ κ ts[i + d] := by
    intro d
    induction d with
    | zero => intro i hj; exact Int.le_refl _
    | succ d ih =>
      intro i hj
      have h1 := ih i (by omega)
      have h2 := h (i + d + 1) hj (by omega) (by omega)
      have e : ts[i + d + 1 - 1]'(by omega) = ts[i + d]'(by omega) := by congr 1
      rw [e] at h2
      have h3 : κ (ts[i + (d + 1)]'hj) = κ (ts[i + d + 1]'hj) := rfl
      omega
  unfold RisK
  rw [List.pairwise_iff_getElem]
  intro i j hi hj hij
  have := step (j - i) i (by omega)
  have e : ts[i + (j - i)]'(by omega) = ts[j] := by congr 1; omega
  rwa [e] at this
theorem not_risk {κ : Int × Int → Int} {ts : List (Int × Int)} {r : Nat} {x y : Int × Int} (hx : ts[r + 1]? = some x) (hy : ts[r]? = some y) (hlt : κ x < κ y) : ¬ RisK κ ts := fun h => by
  obtain ⟨h1, rfl⟩ := List.getElem?_eq_some_iff.1 hx
  obtain ⟨h2, rfl⟩ := List.getElem?_eq_some_iff.1 hy
  have := List.pairwise_iff_getElem.1 h r (r + 1) h2 h1 (by omega)
  omega

set_option maxRecDepth 100000 in
set_option maxHeartbeats 4000000 in
theorem isSorted_any {g : Nat} {κ : Int × Int → Int} {cf : Int × Int → Int × Int → Int} (h : Ord g κ cf) (w : World) (a : Option Addr) (b off c : Nat) (ts : List (Int × Int)) (hT : ThS w a b off ts) (hl : ts.length ≤ 8796093022208) :
    Calls Try.prog 58 #[.slice a ts.length c, .func (.func g) #[] #[]] w fun e w' => SaysB e (RisK κ ts) ∧ Stay w w' := by
  have HX : Hid (Ord g κ cf ∧ ThS w a b off ts) := ⟨h, hT⟩
  have hlI : (ts.length : Int) ≤ 8796093022208 := by omega
  have w0 : IntKind.i64.wrap ((ts.length : Int) - 1) = (ts.length : Int) - 1 := by rw [IntKind.wrap_i64]; omega
  have mixed : Try.prog.follows .mixedOrders = true := by kernel_rfl
  clear h hT
  go_enter Try.func58, Try.ntmps58
  go_wp2
  go_loopw [5] (fun vi wr => ∃ (k : Nat) (z : Int), k ≤ ts.length ∧ vi = .int .i64 z ∧ z = (k : Int) - 1 ∧ FromK κ ts k ∧ Stay w wr) (fun vi _ => (intOf vi + 1).toNat)
  case atStart => exact ⟨ts.length, (ts.length : Int) - 1, Nat.le_refl _, rfl, rfl, fun j hj hk _ => absurd hj (by omega), Stay.refl _⟩
  case round =>
    obtain ⟨k, z, hk, rfl, hz, hF, hst⟩ := hrel
    clear w0
    by_cases hgo : 2 ≤ k
    · obtain ⟨r, rfl⟩ : ∃ r, k = r + 2 := ⟨k - 2, by omega⟩
      obtain rfl : z = (r : Int) + 1 := by omega
      have hr1 : r + 1 < ts.length := by omega
      obtain rfl := HX.out.2.1 (by omega)
      have c1 := (HX.out.2.stay hst).2 (r + 1) hr1
      have c0 := (HX.out.2.stay hst).2 r (by omega)
      have hx : ts[r + 1]? = some ts[r + 1] := List.getElem?_eq_getElem hr1
      have hy : ts[r]? = some (ts[r]'(by omega)) := List.getElem?_eq_getElem (by omega)
      generalize ts[r + 1] = x at c1 hx
      generalize ts[r]'(by omega) = y at c0 hy
      obtain ⟨x1, x2⟩ := x
      obtain ⟨y1, y2⟩ := y
      dsimp only at c0 c1
      have m0 : ∀ n os, (grow (wr.drewN n) os).cell? ⟨b, off + (r + 1) * 2, none⟩ = some (.int .i64 x1) := fun n os => cell_grown (World.block_lt_of_cell? wr _ c1.1) c1.1 n os
      have m1 : ∀ n os, (grow (wr.drewN n) os).cell? ⟨b, off + (r + 1) * 2 + 1, none⟩ = some (.int .i64 x2) := fun n os => cell_grown (World.block_lt_of_cell? wr _ c1.2) c1.2 n os
      have m2 : ∀ n os, (grow (wr.drewN n) os).cell? ⟨b, off + r * 2, none⟩ = some (.int .i64 y1) := fun n os => cell_grown (World.block_lt_of_cell? wr _ c0.1) c0.1 n os
      have m3 : ∀ n os, (grow (wr.drewN n) os).cell? ⟨b, off + r * 2 + 1, none⟩ = some (.int .i64 y2) := fun n os => cell_grown (World.block_lt_of_cell? wr _ c0.2) c0.2 n os
      obtain ⟨d, hd⟩ : ∃ d, d = cf (x1, x2) (y1, y2) := ⟨_, rfl⟩
      have eg := HX.out.1.eg
      have hcg := HX.out.1.grown x1 x2 y1 y2 wr d hd
      have HK : Hid (d < 0 ↔ κ (x1, x2) < κ (y1, y2)) := by rw [hd]; exact HX.out.1.key _ _
      have HS : Hid (Stay w wr ∧ FromK κ ts (r + 2) ∧ ts[r + 1]? = some (x1, x2) ∧ ts[r]? = some (y1, y2)) := ⟨hst, hF, hx, hy⟩
      have hz0 : (0 : Int) < (r : Int) + 1 := by omega
      have p0 : (0 : Int) ≤ (r : Int) + 1 := by omega
      have e0 : ((r : Int) + 1).toNat = r + 1 := by omega
      have l1 : (r : Int) + 1 < (ts.length : Int) := by omega
      have l0 : (r : Int) < (ts.length : Int) := by omega
      have wd : IntKind.i64.wrap ((r : Int) + 1 - 1) = (r : Int) := by rw [IntKind.wrap_i64]; omega
      have wd2 : IntKind.i64.wrap (r : Int) = (r : Int) := by rw [IntKind.wrap_i64]; omega
      clear hst hF hx hy c0 c1 hd hz
      by_cases hlv : d < 0
      · go_wp2_with fail
        refine wp_region_quiet_grown (by assumption) (by kernel_rfl) ?_
        repeat (first | go_big_quiet_step (first | (go_at_fn g; refine Calls.grown_of (hcg _ _))) | quiet_step (first | (go_at_fn g; refine Calls.grown_of (hcg _ _))))
        refine wpQuiet_nil ?_
        intro _ hw'
        obtain ⟨⟨nq, osq⟩, hw''⟩ := hw'
        subst hw''
        have HS2 : Hid (Stay w (grow (wr.drewN nq) osq)) := stay_grow HS.out.1 _ _
        clear hcg m0 m1 m2 m3 eg
        go_wp2
        go_ret
        exact ⟨SaysB.no (not_risk HS.out.2.2.1 HS.out.2.2.2 (HK.out.1 hlv)), HS2.out⟩
      · have hlv3 : 0 ≤ d := by omega
        have hd1 : decide (d < 0) = false := decide_eq_false hlv
        go_wp2_with fail
        refine wp_region_quiet_grown (by assumption) (by kernel_rfl) ?_
        repeat (first | go_big_quiet_step (first | (go_at_fn g; refine Calls.grown_of (hcg _ _))) | quiet_step (first | (go_at_fn g; refine Calls.grown_of (hcg _ _))))
        refine wpQuiet_nil ?_
        intro _ hw'
        obtain ⟨⟨nq, osq⟩, hw''⟩ := hw'
        subst hw''
        have HS2 : Hid (Stay w (grow (wr.drewN nq) osq)) := stay_grow HS.out.1 _ _
        have HF2 : Hid (FromK κ ts (r + 1)) := fun j hj hk h0 => by
          by_cases e : j = r + 1
          · subst e
            have h1 := (List.getElem?_eq_some_iff.1 HS.out.2.2.1).2
            have h2 := (List.getElem?_eq_some_iff.1 HS.out.2.2.2).2
            have h3 : ts[r + 1 - 1]'(by omega) = ts[r]'(by omega) := by congr 1
            rw [h1, h3, h2]
            exact Int.not_lt.1 (fun e => absurd (HK.out.2 e) (by omega))
          · exact HS.out.2.1 j hj (by omega) h0
        clear hcg m0 m1 m2 m3 eg
        go_wp2
        exact ⟨⟨r + 1, (r : Int), by omega, rfl, by omega, HF2.out, HS2.out⟩, by simp [intOf]; omega⟩
    · have hz0 : ¬ (0 : Int) < z := by omega
      have HS : Hid (Stay w wr ∧ RisK κ ts) := ⟨hst, risk_from (fun j hj hk h0 => hF j hj (by omega) h0)⟩
      clear hst hF hz
      go_wp2
      go_ret
      exact ⟨SaysB.yes HS.out.2, HS.out.1⟩

theorem sorted_any {fv : Value} {g : Nat} {κ : Int × Int → Int} {cf : Int × Int → Int × Int → Int} (ho : Ord g κ cf) (hof : ∀ W, Calls Try.prog 55 #[fv] W fun e w' => e = .returned (.func (.func g) #[] #[]) ∧ w' = W) (w : World) (a : Option Addr) (b off c : Nat) (ts : List (Int × Int)) (hT : ThS w a b off ts) (hl : ts.length ≤ 8796093022208) :
    Calls Try.prog 20 #[.slice a ts.length c, fv] w fun e w' => SaysB e (RisK κ ts) ∧ Stay w w' := by
  have hc := isSorted_any ho w a b off c ts hT hl
  clear ho hT hl
  go_enter Try.func20, Try.ntmps20
  go_wp2_with fail
  refine (hof _).mono ?_
  rintro e9 w9 ⟨rfl, hw⟩
  have hw' := hw.symm; subst hw'
  clear hw
  go_wp2_with fail
  refine hc.mono ?_
  rintro e w1 ⟨⟨q, rfl, hq⟩, hst⟩
  have HS : Hid ((q = true ↔ RisK κ ts) ∧ Stay w w1) := ⟨hq, hst⟩
  clear hq hst hc
  go_wp2
  go_ret
  exact ⟨⟨q, rfl, HS.out.1⟩, HS.out.2⟩

set_option maxRecDepth 100000 in
set_option maxHeartbeats 4000000 in
theorem rsorted_any (w : World) (a : Option Addr) (b off c : Nat) (ts : List (Int × Int)) (hT : ThS w a b off ts) (hl : ts.length ≤ 8796093022208) :
    Calls Try.prog 21 #[.slice a ts.length c] w fun e w' => SaysB e (RisK (fun x => x.1) ts) ∧ Stay w w' := by
  have HX : Hid (ThS w a b off ts) := hT
  have hlI : (ts.length : Int) ≤ 8796093022208 := by omega
  clear hT
  go_enter Try.func21, Try.ntmps21
  go_wp2
  go_loopw [3] (fun vi wr => ∃ (r : Nat), vi = .int .i64 ((r : Int) + 1) ∧ r ≤ ts.length ∧ (∀ j (h : j < ts.length), j ≤ r → 0 < j → (ts[j - 1]'(by omega)).1 ≤ ts[j].1) ∧ Stay w wr) (fun vi _ => ts.length + 1 - (intOf vi).toNat)
  case atStart => exact ⟨0, by first | rfl | simp, Nat.zero_le _, fun j hj h1 h2 => absurd h2 (by omega), Stay.refl _⟩
  case round =>
    obtain ⟨r, rfl, hr, hF, hst⟩ := hrel
    by_cases hlt : r + 1 < ts.length
    · have hlt2 : (r : Int) + 1 < (ts.length : Int) := by omega
      obtain rfl := HX.out.1 (by omega)
      have c1 := ((HX.out.stay hst).2 (r + 1) hlt).1
      have c0 := ((HX.out.stay hst).2 r (by omega)).1
      have hx : ts[r + 1]? = some ts[r + 1] := List.getElem?_eq_getElem hlt
      have hy : ts[r]? = some (ts[r]'(by omega)) := List.getElem?_eq_getElem (by omega)
      generalize ts[r + 1] = x at c1 hx
      generalize ts[r]'(by omega) = y at c0 hy
      obtain ⟨x1, x2⟩ := x
      obtain ⟨y1, y2⟩ := y
      dsimp only at c0 c1
      have HS : Hid (Stay w wr ∧ (∀ j (h : j < ts.length), j ≤ r → 0 < j → (ts[j - 1]'(by omega)).1 ≤ ts[j].1) ∧ ts[r + 1]? = some (x1, x2) ∧ ts[r]? = some (y1, y2)) := ⟨hst, hF, hx, hy⟩
      have p0 : (0 : Int) ≤ (r : Int) + 1 := by omega
      have e0 : ((r : Int) + 1).toNat = r + 1 := by omega
      have l0 : (r : Int) < (ts.length : Int) := by omega
      have wd : IntKind.i64.wrap ((r : Int) + 1 - 1) = (r : Int) := by rw [IntKind.wrap_i64]; omega
      have wd2 : IntKind.i64.wrap (r : Int) = (r : Int) := by rw [IntKind.wrap_i64]; omega
      have wu : IntKind.i64.wrap ((r : Int) + 1 + 1) = (r : Int) + 1 + 1 := by rw [IntKind.wrap_i64]; omega
      clear hst hF hx hy
      by_cases hlv : x1 < y1
      · go_wp2_with fail
        go_quiet (fail)
        have HS2 : Hid (Stay w (wr.drewN nq)) := HS.out.1.trans (Stay.drewN _ _)
        go_wp2
        go_ret
        exact ⟨SaysB.no (not_risk HS.out.2.2.1 HS.out.2.2.2 hlv), HS2.out⟩
      · have hd1 : decide (x1 < y1) = false := decide_eq_false hlv
        go_wp2_with fail
        go_quiet (fail)
        have HS2 : Hid (Stay w (wr.drewN nq)) := HS.out.1.trans (Stay.drewN _ _)
        have HF2 : Hid (∀ j (h : j < ts.length), j ≤ r + 1 → 0 < j → (ts[j - 1]'(by omega)).1 ≤ ts[j].1) := fun j hj hk h0 => by
          by_cases e : j = r + 1
          · subst e
            have h1 := (List.getElem?_eq_some_iff.1 HS.out.2.2.1).2
            have h2 := (List.getElem?_eq_some_iff.1 HS.out.2.2.2).2
            have h3 : ts[r + 1 - 1]'(by omega) = ts[r]'(by omega) := by congr 1
            rw [h1, h3, h2]
            show y1 ≤ x1
            omega
          · exact HS.out.2.1 j hj (by omega) h0
        go_wp2
        exact ⟨⟨r + 1, by first | rfl | go_num | simp, by omega, HF2.out, HS2.out⟩, by simp [intOf]; omega⟩
    · have hlt2 : ¬ (r : Int) + 1 < (ts.length : Int) := by omega
      have HS : Hid (Stay w wr ∧ RisK (fun x => x.1) ts) := ⟨hst, risk_from (κ := fun x => x.1) (fun j hj hk h0 => hF j hj (by omega) h0)⟩
      clear hst hF
      go_wp2
      go_ret
      exact ⟨SaysB.yes HS.out.2, HS.out.1⟩
end Go.Proofs.Ytdbilngkokkggaa
