/- What the document's Meet, Minus leave. -/
import Derived.Test.YtdbilngkokkggaaTF
namespace Go.Proofs.Ytdbilngkokkggaa
open Go.RowKit Go.Maps

def meetR (l m : List (Int × Int)) : List (Int × Int) := l.filter fun x => hasR m x.1
def minusR (l m : List (Int × Int)) : List (Int × Int) := l.filter fun x => !hasR m x.1
theorem filter_step {α : Type} (p : α → Bool) (l : List α) (k : Nat) (h : k < l.length) : (l.take (k + 1)).filter p = (l.take k).filter p ++ (if p l[k] then [l[k]] else []) := by
  rw [List.take_succ_eq_append_getElem h, List.filter_append]
  congr 1
  by_cases e : p l[k] <;> simp [e]
theorem filter_take_le {α : Type} (p : α → Bool) (l : List α) (k : Nat) : ((l.take k).filter p).length ≤ k := Nat.le_trans (List.length_filter_le _ _) (List.length_take_le _ _)

set_option maxRecDepth 100000 in
set_option maxHeartbeats 1000000 in
theorem rmeet_any (w : World) (a1 a2 : Option Addr) (b1 o1 b2 o2 c1 c2 : Nat) (l m : List (Int × Int)) (h1 : ThS w a1 b1 o1 l) (h2 : ThS w a2 b2 o2 m) (hl : l.length * 16 ≤ 140737488355328) (hm : m.length ≤ maxLen) :
    Calls Try.prog 36 #[.slice a1 l.length c1, .slice a2 m.length c2] w fun e w' => ∃ v, e = .returned v ∧ OwnT w.heap.size w' v (meetR l m) ∧ Stay w w' := by
  have HX : Hid (ThS w a1 b1 o1 l ∧ ThS w a2 b2 o2 m ∧ m.length ≤ maxLen ∧ l.length * 16 ≤ 140737488355328) := ⟨h1, h2, hm, hl⟩
  have hl60 : (l.length : Int) ≤ 8796093022208 := by omega
  clear h1 h2 hm hl
  go_enter Try.func36, Try.ntmps36
  go_wp2
  go_loopw [5, 6] (fun v i wr => ∃ k : Nat, k ≤ l.length ∧ i = .int .i64 k ∧ OwnT w.heap.size wr v (meetR (l.take k) m) ∧ Stay w wr) (fun v i _ => l.length - (intOf i).toNat)
  case atStart => exact ⟨0, Nat.zero_le _, rfl, OwnT.nil, Stay.refl _⟩
  case round =>
    obtain ⟨k, hk, rfl, hown, hst⟩ := hrel
    by_cases hlt : k < l.length
    · have hi1 : (k : Int) < (l.length : Int) := by omega
      obtain rfl := HX.out.1.1 (by omega)
      obtain ⟨hc1, hc2⟩ := (HX.out.1.stay hst).2 k hlt
      have he : meetR (l.take (k + 1)) m = meetR (l.take k) m ++ (if hasR m l[k].1 then [l[k]] else []) := filter_step _ l k hlt
      obtain ⟨y, hy⟩ : ∃ y, y = l[k] := ⟨_, rfl⟩
      rw [← hy] at hc1 hc2 he
      obtain ⟨y1, y2⟩ := y
      dsimp only at hc1 hc2 he
      have hhas := rhas_any wr a2 b2 o2 c2 m (HX.out.2.1.stay hst) HX.out.2.2.1 y1 y2
      obtain ⟨q, hq⟩ : ∃ q, q = hasR m y1 := ⟨_, rfl⟩
      rw [← hq] at hhas he
      have HW : Hid (OwnT w.heap.size wr u5 (meetR (l.take k) m) ∧ Stay w wr ∧ meetR (l.take (k + 1)) m = meetR (l.take k) m ++ (if q then [(y1, y2)] else [])) := ⟨hown, hst, he⟩
      clear hown hst he hy hq
      go_wp2_with fail
      refine hhas.mono ?_
      rintro e9 w1 ⟨rfl, hs1⟩
      have H1 : Hid (OwnT w.heap.size w1 u5 (meetR (l.take k) m) ∧ Stay w w1) := ⟨HW.out.1.stay hs1, HW.out.2.1.trans hs1⟩
      have d1 := hs1.cell hc1
      have d2 := hs1.cell hc2
      clear hhas hs1 hc1 hc2
      cases q
      case false =>
        go_wp2
        go_roundw
        case rel => exact ⟨k + 1, by omega, by go_num, by rw [HW.out.2.2]; simpa using H1.out.1, H1.out.2⟩
        case measure => simp [intOf]; omega
      case true =>
        obtain ⟨v3, w3, hr, g2, g3, _, _⟩ := append_thing 29 H1.out.1 y1 y2 (by
          have := filter_take_le (fun x : Int × Int => hasR m x.1) l k
          have : (meetR (l.take k) m).length ≤ k := this
          have := HX.out.2.2.2
          omega) H1.out.2.size
        have HR : Hid ((Builtin.append_ #[29, 29] 29 #[u5, .slice (some ⟨w1.heap.size, 0, none⟩) 1 1]).run Try.prog (w1.alloc (.cells #[.int .i64 y1, .int .i64 y2] 33)) = .ok v3 w3 ∧ OwnT w.heap.size w3 v3 (meetR (l.take (k + 1)) m) ∧ Stay w w3) := ⟨hr, by rw [HW.out.2.2]; exact g2, own_grow (H1.out.2.alloc _) (Nat.le_refl _) (H1.out.1.alloc _) g3⟩
        clear hr g2 g3
        go_wp2_with (at_builtin; refine wpList_append_by rfl (.tmp 19) (.tmp 24) 29 29 rfl _ _ rfl rfl HR.out.1 ?_)
        go_roundw
        case rel => exact ⟨k + 1, by omega, by go_num, HR.out.2.1, HR.out.2.2⟩
        case measure => simp [intOf]; omega
    · have hi1 : ¬ (k : Int) < (l.length : Int) := by omega
      have HW : Hid (OwnT w.heap.size wr u5 (meetR l m) ∧ Stay w wr) := by
        rw [List.take_of_length_le (by omega)] at hown
        exact ⟨hown, hst⟩
      clear hown hst
      go_wp2
      go_ret
      exact ⟨_, rfl, HW.out.1, HW.out.2⟩

set_option maxRecDepth 100000 in
set_option maxHeartbeats 1000000 in
theorem rminus_any (w : World) (a1 a2 : Option Addr) (b1 o1 b2 o2 c1 c2 : Nat) (l m : List (Int × Int)) (h1 : ThS w a1 b1 o1 l) (h2 : ThS w a2 b2 o2 m) (hl : l.length * 16 ≤ 140737488355328) (hm : m.length ≤ maxLen) :
    Calls Try.prog 37 #[.slice a1 l.length c1, .slice a2 m.length c2] w fun e w' => ∃ v, e = .returned v ∧ OwnT w.heap.size w' v (minusR l m) ∧ Stay w w' := by
  have HX : Hid (ThS w a1 b1 o1 l ∧ ThS w a2 b2 o2 m ∧ m.length ≤ maxLen ∧ l.length * 16 ≤ 140737488355328) := ⟨h1, h2, hm, hl⟩
  have hl60 : (l.length : Int) ≤ 8796093022208 := by omega
  clear h1 h2 hm hl
  go_enter Try.func37, Try.ntmps37
  go_wp2
  go_loopw [5, 6] (fun v i wr => ∃ k : Nat, k ≤ l.length ∧ i = .int .i64 k ∧ OwnT w.heap.size wr v (minusR (l.take k) m) ∧ Stay w wr) (fun v i _ => l.length - (intOf i).toNat)
  case atStart => exact ⟨0, Nat.zero_le _, rfl, OwnT.nil, Stay.refl _⟩
  case round =>
    obtain ⟨k, hk, rfl, hown, hst⟩ := hrel
    by_cases hlt : k < l.length
    · have hi1 : (k : Int) < (l.length : Int) := by omega
      obtain rfl := HX.out.1.1 (by omega)
      obtain ⟨hc1, hc2⟩ := (HX.out.1.stay hst).2 k hlt
      have he : minusR (l.take (k + 1)) m = minusR (l.take k) m ++ (if ! hasR m l[k].1 then [l[k]] else []) := filter_step _ l k hlt
      obtain ⟨y, hy⟩ : ∃ y, y = l[k] := ⟨_, rfl⟩
      rw [← hy] at hc1 hc2 he
      obtain ⟨y1, y2⟩ := y
      dsimp only at hc1 hc2 he
      have hhas := rhas_any wr a2 b2 o2 c2 m (HX.out.2.1.stay hst) HX.out.2.2.1 y1 y2
      obtain ⟨q, hq⟩ : ∃ q, q = hasR m y1 := ⟨_, rfl⟩
      rw [← hq] at hhas he
      have HW : Hid (OwnT w.heap.size wr u5 (minusR (l.take k) m) ∧ Stay w wr ∧ minusR (l.take (k + 1)) m = minusR (l.take k) m ++ (if ! q then [(y1, y2)] else [])) := ⟨hown, hst, he⟩
      clear hown hst he hy hq
      go_wp2_with fail
      refine hhas.mono ?_
      rintro e9 w1 ⟨rfl, hs1⟩
      have H1 : Hid (OwnT w.heap.size w1 u5 (minusR (l.take k) m) ∧ Stay w w1) := ⟨HW.out.1.stay hs1, HW.out.2.1.trans hs1⟩
      have d1 := hs1.cell hc1
      have d2 := hs1.cell hc2
      clear hhas hs1 hc1 hc2
      cases q
      case true =>
        go_wp2
        go_roundw
        case rel => exact ⟨k + 1, by omega, by go_num, by rw [HW.out.2.2]; simpa using H1.out.1, H1.out.2⟩
        case measure => simp [intOf]; omega
      case false =>
        obtain ⟨v3, w3, hr, g2, g3, _, _⟩ := append_thing 29 H1.out.1 y1 y2 (by
          have := filter_take_le (fun x : Int × Int => ! hasR m x.1) l k
          have : (minusR (l.take k) m).length ≤ k := this
          have := HX.out.2.2.2
          omega) H1.out.2.size
        have HR : Hid ((Builtin.append_ #[29, 29] 29 #[u5, .slice (some ⟨w1.heap.size, 0, none⟩) 1 1]).run Try.prog (w1.alloc (.cells #[.int .i64 y1, .int .i64 y2] 33)) = .ok v3 w3 ∧ OwnT w.heap.size w3 v3 (minusR (l.take (k + 1)) m) ∧ Stay w w3) := ⟨hr, by rw [HW.out.2.2]; exact g2, own_grow (H1.out.2.alloc _) (Nat.le_refl _) (H1.out.1.alloc _) g3⟩
        clear hr g2 g3
        go_wp2_with (at_builtin; refine wpList_append_by rfl (.tmp 20) (.tmp 25) 29 29 rfl _ _ rfl rfl HR.out.1 ?_)
        go_roundw
        case rel => exact ⟨k + 1, by omega, by go_num, HR.out.2.1, HR.out.2.2⟩
        case measure => simp [intOf]; omega
    · have hi1 : ¬ (k : Int) < (l.length : Int) := by omega
      have HW : Hid (OwnT w.heap.size wr u5 (minusR l m) ∧ Stay w wr) := by
        rw [List.take_of_length_le (by omega)] at hown
        exact ⟨hown, hst⟩
      clear hown hst
      go_wp2
      go_ret
      exact ⟨_, rfl, HW.out.1, HW.out.2⟩

end Go.Proofs.Ytdbilngkokkggaa
