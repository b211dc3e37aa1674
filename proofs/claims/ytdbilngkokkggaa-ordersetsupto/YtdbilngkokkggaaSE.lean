/- The document's Union. -/
import Derived.Test.YtdbilngkokkggaaSD
namespace Go.Proofs.Ytdbilngkokkggaa
open Go.RowKit Go.Maps Go.Sort

set_option maxRecDepth 100000 in
set_option maxHeartbeats 1000000 in
theorem runion_any (w : World) (a1 a2 : Option Addr) (b1 o1 b2 o2 c1 c2 : Nat) (l m : List (Int × Int)) (h1 : ThS w a1 b1 o1 l) (h2 : ThS w a2 b2 o2 m) (n1 : a1 = none → c1 = 0 ∧ l = []) (hb : (l.length + m.length + 1) * 16 ≤ 140737488355328) :
    Calls Try.prog 35 #[.slice a1 l.length c1, .slice a2 m.length c2] w fun e w' => ∃ v, e = .returned v ∧ OwnT w.heap.size w' v (sortR (l ++ minusR m l)) ∧ Stay w w' := by
  have hb0 : (([] : List (Int × Int)).length + l.length) * 16 ≤ 140737488355328 := by rw [List.length_nil]; omega
  have hz0 : w.heap.size ≤ (w.alloc (.cells #[] 33)).heap.size := by rw [World.size_alloc]; omega
  have h1' := h1.stay (Stay.new w (.cells #[] 33))
  obtain ⟨v1, w1, hr1, g1, k1, _, _⟩ := append_things (base := w.heap.size) (w := w.alloc (.cells #[] 33)) (ts := []) (us := l) 29 (own_litT w) h1' n1 hb0 hz0
  rw [List.nil_append] at g1
  have hs1 : Stay w w1 := own_grow (Stay.new w (.cells #[] 33)) (Nat.le_refl _) (own_litT w) k1
  have hmi := rminus_any w1 a2 a1 b2 o2 b1 o1 c2 c1 m l (h2.stay hs1) (h1.stay hs1) (by omega) (by unfold maxLen; omega)
  have H1 : Hid ((Builtin.append_ #[29, 29] 29 #[.slice (some ⟨w.heap.size, 0, none⟩) 0 0, .slice a1 l.length c1]).run Try.prog (w.alloc (.cells #[] 33)) = .ok v1 w1 ∧ OwnT w.heap.size w1 v1 l ∧ Stay w w1 ∧ (l.length + m.length + 1) * 16 ≤ 140737488355328) := ⟨hr1, g1, hs1, hb⟩
  clear h1 h2 n1 hb hr1 g1 k1 hs1 h1' hb0 hz0
  go_enter Try.func35, Try.ntmps35
  go_wp2_with (at_builtin; refine wpList_append_by rfl (.tmp 5) (.tmp 6) 29 29 rfl _ _ rfl rfl H1.out.1 ?_)
  refine hmi.mono ?_
  rintro e w2 ⟨v2, rfl, hown2, hst2⟩
  have hml : (minusR m l).length ≤ m.length := List.length_filter_le _ _
  obtain ⟨sa, sb, sc, rfl, hT2, hn2, _, _⟩ := hown2.form
  obtain ⟨v3, w3, hr3, g3, k3, _, _⟩ := append_things 29 (H1.out.2.1.stay hst2) hT2 hn2 (by have := H1.out.2.2.2; omega) (Nat.le_trans H1.out.2.2.1.size hst2.size)
  have hs3 : Stay w w3 := own_grow (H1.out.2.2.1.trans hst2) (Nat.le_refl _) (H1.out.2.1.stay hst2) k3
  have hul : (l ++ minusR m l).length * 16 ≤ 140737488355328 := by rw [List.length_append]; have := H1.out.2.2.2; omega
  obtain ⟨u, hu⟩ : ∃ u, u = l ++ minusR m l := ⟨_, rfl⟩
  rw [← hu] at g3 hul
  obtain ⟨ta, tb, tc, rfl, hT3, hn3, _, _⟩ := g3.form
  have hso := rsort_any w3 ta tb 0 tc u hT3 hul
  have H3 : Hid ((Builtin.append_ #[29, 29] 29 #[v1, .slice sa (minusR m l).length sc]).run Try.prog w2 = .ok (.slice ta u.length tc) w3 ∧ Stay w w3 ∧ u = l ++ minusR m l) := ⟨hr3, hs3, hu⟩
  clear hmi hown2 hst2 hml hT2 hn2 hr3 g3 k3 hs3 hT3 hn3 hu hul
  generalize (minusR m l).length = nn at H3 ⊢
  go_wp2_with (at_builtin; refine wpList_append_by rfl (.tmp 7) (.tmp 10) 29 29 rfl _ _ rfl rfl H3.out.1 ?_)
  refine hso.mono ?_
  rintro e w4 ⟨v, rfl, hown, hst⟩
  have HR : Hid (OwnT w.heap.size w4 v (sortR (l ++ minusR m l)) ∧ Stay w w4) := ⟨by rw [← H3.out.2.2]; exact hown.mono H3.out.2.1.size, H3.out.2.1.trans hst⟩
  clear hown hst hso H3 H1
  go_wp2
  go_ret
  exact ⟨_, rfl, HR.out⟩
end Go.Proofs.Ytdbilngkokkggaa
