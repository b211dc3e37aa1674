/- What the document's Set leaves. -/
import Derived.Test.YtdbilngkokkggaaTD
import Derived.Test.YtdbilngkokkggaaSA
import Derived.Deep.Onto
namespace Go.Proofs.Ytdbilngkokkggaa
open Go.RowKit Go.Maps

/-- Of the first k of s those of which the one ahead has another rank. -/
def uniqR (s : List (Int × Int)) : Nat → List (Int × Int)
  | 0 => []
  | k + 1 => uniqR s k ++ (if k = 0 ∨ ¬ (s.getD k (0, 0)).1 = (s.getD (k - 1) (0, 0)).1 then [s.getD k (0, 0)] else [])
def setR (l : List (Int × Int)) : List (Int × Int) := uniqR (sortR l) l.length
theorem uniqR_len (s : List (Int × Int)) : ∀ k, (uniqR s k).length ≤ k
  | 0 => Nat.le_refl _
  | k + 1 => by
    have := uniqR_len s k
    simp only [uniqR, List.length_append]
    split <;> simp <;> omega

set_option maxRecDepth 100000 in
set_option maxHeartbeats 1000000 in
theorem rset_any (w : World) (a : Option Addr) (b off c : Nat) (l : List (Int × Int)) (hS : ThS w a b off l) (hb : (l.length + 1) * 16 ≤ 140737488355328) :
    Calls Try.prog 24 #[.slice a l.length c] w fun e w' => ∃ v, e = .returned v ∧ OwnT w.heap.size w' v (setR l) ∧ Stay w w' := by
  have hso := rsort_any w a b off c l hS (by omega)
  obtain ⟨s, hs⟩ : ∃ s, s = sortR l := ⟨_, rfl⟩
  have HSR : Hid (setR l = uniqR s l.length ∧ s.length = l.length ∧ (l.length + 1) * 16 ≤ 140737488355328) := ⟨by rw [hs]; rfl, by rw [hs]; exact sortR_len l, hb⟩
  rw [← hs] at hso
  have hl60 : (l.length : Int) ≤ 8796093022208 := by omega
  clear hs hS hb
  go_enter Try.func24, Try.ntmps24
  go_wp2_with fail
  refine hso.mono ?_
  rintro e w1 ⟨v, rfl, hown, hst⟩
  obtain ⟨sa, sb, sc, rfl, hT, hn, _, _⟩ := hown.form
  have S1 : Hid (Stay w w1 ∧ ThS w1 sa sb 0 s) := ⟨hst, hT⟩
  have hsl : (s.length : Int) = (l.length : Int) := by rw [HSR.out.2.1]
  clear hso hown hst hT hn
  go_wp2_with fail
  go_loopw [4, 5] (fun v i wr => ∃ k : Nat, k ≤ s.length ∧ i = .int .i64 k ∧ OwnT w1.heap.size wr v (uniqR s k) ∧ Stay w1 wr) (fun v i _ => s.length - (intOf i).toNat)
  case atStart => exact ⟨0, Nat.zero_le _, rfl, OwnT.nil, Stay.refl _⟩
  case round =>
    obtain ⟨k, hk, rfl, hown, hst⟩ := hrel
    by_cases hlt : k < s.length
    · have hi1 : (k : Int) < (s.length : Int) := by omega
      obtain rfl := S1.out.2.1 (by omega)
      have hcell : ∀ j (h : j < s.length), wr.cell? ⟨sb, j * 2, none⟩ = some (.int .i64 (s.getD j (0, 0)).1) ∧ wr.cell? ⟨sb, j * 2 + 1, none⟩ = some (.int .i64 (s.getD j (0, 0)).2) := fun j h => by
        have := (S1.out.2.stay hst).2 j h
        simp only [Nat.zero_add] at this
        simpa [List.getD_eq_getElem?_getD, List.getElem?_eq_getElem h] using this
      have hbd : ((uniqR s k).length + 1) * 16 ≤ 140737488355328 := by
        have := uniqR_len s k
        have := HSR.out.2
        omega
      obtain ⟨y, hy⟩ : ∃ y, y = s.getD k (0, 0) := ⟨_, rfl⟩
      obtain ⟨hc1, hc2⟩ := hcell k hlt
      rw [← hy] at hc1 hc2
      obtain ⟨y1, y2⟩ := y
      dsimp only at hc1 hc2
      have hu : uniqR s (k + 1) = uniqR s k ++ (if k = 0 ∨ ¬ y1 = (s.getD (k - 1) (0, 0)).1 then [(y1, y2)] else []) := by rw [uniqR, ← hy]
      have HN : Hid (OwnT w1.heap.size wr u4 (uniqR s k) ∧ Stay w1 wr) := ⟨hown, hst⟩
      have HBD : Hid (((uniqR s k).length + 1) * 16 ≤ 140737488355328) := hbd
      clear hown hst hbd hy
      rcases Nat.eq_zero_or_pos k with hk0 | hkp
      · rw [if_pos (.inl hk0)] at hu
        have HN2 : Hid (uniqR s (k + 1) = uniqR s k ++ [(y1, y2)]) := hu
        have ek : ((k : Int) == 0) = true := by simp [hk0]
        clear hcell hu hk0
        go_wp2_with fail
        go_quiet (fail)
        have HN5 : Hid (OwnT w1.heap.size (wr.drewN nq) u4 (uniqR s k) ∧ Stay w1 (wr.drewN nq)) := ⟨HN.out.1.stay (Stay.drewN _ _), HN.out.2.trans (Stay.drewN _ _)⟩
        have hc3 := (Stay.drewN wr nq).cell hc1
        have hc4 := (Stay.drewN wr nq).cell hc2
        clear hc1 hc2
        generalize wr.drewN nq = W at HN5 hc3 hc4 ⊢
        obtain ⟨v3, w3, hr, g2, g3, _, _⟩ := append_thing 29 HN5.out.1 y1 y2 HBD.out HN5.out.2.size
        have HR : Hid ((Builtin.append_ #[29, 29] 29 #[u4, .slice (some ⟨W.heap.size, 0, none⟩) 1 1]).run Try.prog (W.alloc (.cells #[.int .i64 y1, .int .i64 y2] 33)) = .ok v3 w3 ∧ OwnT w1.heap.size w3 v3 (uniqR s (k + 1)) ∧ Stay w1 w3) := ⟨hr, by rw [HN2.out]; exact g2, own_grow (HN5.out.2.alloc _) (Nat.le_refl _) (HN5.out.1.alloc _) g3⟩
        clear hr g2 g3
        go_wp2_with (at_builtin; refine wpList_append_by rfl (.tmp 30) (.tmp 35) 29 29 rfl _ _ rfl rfl HR.out.1 ?_)
        go_roundw
        case rel => exact ⟨k + 1, by omega, by go_num, HR.out.2.1, HR.out.2.2⟩
        case measure => simp [intOf]; omega
      · have hz := (hcell (k - 1) (by omega)).1
        obtain ⟨z, hz2⟩ : ∃ z, z = (s.getD (k - 1) (0, 0)).1 := ⟨_, rfl⟩
        rw [← hz2] at hz hu
        have ek : ((k : Int) == 0) = false := by rw [beq_eq_false_iff_ne]; omega
        have hwr : IntKind.i64.wrap ((k : Int) - 1) = ((k - 1 : Nat) : Int) := by rw [IntKind.wrap_i64]; omega
        have hwl : ((k - 1 : Nat) : Int) < (s.length : Int) := by omega
        clear hz2 hcell
        by_cases e : y1 = z
        · rw [if_neg (fun h => h.elim (fun h => by omega) (fun h => h e)), List.append_nil] at hu
          have HN3 : Hid (uniqR s (k + 1) = uniqR s k) := hu
          have eb : (y1 != z) = false := by simp [e]
          clear e hu
          go_wp2_with fail
          go_quiet (fail)
          go_wp2
          go_roundw
          case rel => exact ⟨k + 1, by omega, by go_num, by rw [HN3.out]; exact HN.out.1.stay (Stay.drewN _ _), HN.out.2.trans (Stay.drewN _ _)⟩
          case measure => simp [intOf]; omega
        · rw [if_pos (.inr e)] at hu
          have HN2 : Hid (uniqR s (k + 1) = uniqR s k ++ [(y1, y2)]) := hu
          have eb : (y1 != z) = true := by simpa using e
          clear e hu
          go_wp2_with fail
          go_quiet (fail)
          have HN5 : Hid (OwnT w1.heap.size (wr.drewN nq) u4 (uniqR s k) ∧ Stay w1 (wr.drewN nq)) := ⟨HN.out.1.stay (Stay.drewN _ _), HN.out.2.trans (Stay.drewN _ _)⟩
          have hc3 := (Stay.drewN wr nq).cell hc1
          have hc4 := (Stay.drewN wr nq).cell hc2
          clear hc1 hc2
          generalize wr.drewN nq = W at HN5 hc3 hc4 ⊢
          obtain ⟨v3, w3, hr, g2, g3, _, _⟩ := append_thing 29 HN5.out.1 y1 y2 HBD.out HN5.out.2.size
          have HR : Hid ((Builtin.append_ #[29, 29] 29 #[u4, .slice (some ⟨W.heap.size, 0, none⟩) 1 1]).run Try.prog (W.alloc (.cells #[.int .i64 y1, .int .i64 y2] 33)) = .ok v3 w3 ∧ OwnT w1.heap.size w3 v3 (uniqR s (k + 1)) ∧ Stay w1 w3) := ⟨hr, by rw [HN2.out]; exact g2, own_grow (HN5.out.2.alloc _) (Nat.le_refl _) (HN5.out.1.alloc _) g3⟩
          clear hr g2 g3
          go_wp2_with (at_builtin; refine wpList_append_by rfl (.tmp 30) (.tmp 35) 29 29 rfl _ _ rfl rfl HR.out.1 ?_)
          go_roundw
          case rel => exact ⟨k + 1, by omega, by go_num, HR.out.2.1, HR.out.2.2⟩
          case measure => simp [intOf]; omega
    · have hi1 : ¬ (k : Int) < (l.length : Int) := by omega
      have HW : Hid (OwnT w.heap.size wr u4 (setR l) ∧ Stay w wr) := by
        have hkl : k = l.length := by have := HSR.out.2.1; omega
        rw [hkl] at hown
        rw [HSR.out.1]
        exact ⟨hown.mono S1.out.1.size, S1.out.1.trans hst⟩
      clear hown hst
      go_wp2
      go_ret
      exact ⟨_, rfl, HW.out.1, HW.out.2⟩
end Go.Proofs.Ytdbilngkokkggaa
