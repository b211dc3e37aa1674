/- rising: the tuples in order, each once. -/
import Derived.Test.YtbbgembkdhcidaaFTa
namespace Go.Proofs.Ytbbgembkdhcidaa
open Go.RowKit Go.Maps Go.Shelf Go.Sort

theorem uniq_ok {Z : List Tx} (hP : Z.Pairwise fun a b => cmpS a.xs b.xs ≤ 0) : ∀ k, k ≤ Z.length → RisS ((uniqT Z k).map Tx.xs) ∧ (∀ z ∈ uniqT Z k, z ∈ Z.take k) ∧ (∀ z ∈ Z.take k, z.xs ∈ (uniqT Z k).map Tx.xs)
  | 0, _ => ⟨List.Pairwise.nil, fun z h => by simp [uniqT] at h, fun z h => by simp at h⟩
  | k + 1, hk => by
    obtain ⟨h1, h2, h3⟩ := uniq_ok hP k (by omega)
    have hkZ : k < Z.length := by omega
    have ht : Z.take (k + 1) = Z.take k ++ [Z[k]] := List.take_succ_eq_append_getElem hkZ
    have hg : Z.getD k noTx = Z[k] := by simp [List.getD_eq_getElem?_getD, hkZ]
    have hle : ∀ z ∈ Z.take k, cmpS z.xs Z[k].xs ≤ 0 := fun z hz => by
      obtain ⟨i, hi, rfl⟩ := List.mem_iff_getElem.1 hz
      rw [List.length_take] at hi
      rw [List.getElem_take]
      exact List.pairwise_iff_getElem.1 hP i k (by omega) hkZ (by omega)
    rw [uniqT, hg, ht]
    by_cases hc : k = 0 ∨ ¬ Z[k].xs = (Z.getD (k - 1) noTx).xs
    · rw [if_pos hc]
      refine ⟨?_, fun z hz => ?_, fun z hz => ?_⟩
      · rw [List.map_append]
        refine List.pairwise_append.2 ⟨h1, by simp, fun a ha b hb => ?_⟩
        simp only [List.map_cons, List.map_nil, List.mem_singleton] at hb
        subst hb
        obtain ⟨z, hz, rfl⟩ := List.mem_map.1 ha
        have hz2 := h2 z hz
        by_cases hk0 : k = 0
        · subst hk0; simp at hz2
        · have hk1 : k - 1 < Z.length := by omega
          have hg1 : Z.getD (k - 1) noTx = Z[k - 1] := by simp [List.getD_eq_getElem?_getD, hk1]
          rw [hg1] at hc
          have hne : ¬ Z[k].xs = Z[k - 1].xs := by rcases hc with h | h; exact absurd h hk0; exact h
          have hlast : cmpS Z[k - 1].xs Z[k].xs ≤ 0 := List.pairwise_iff_getElem.1 hP (k - 1) k hk1 hkZ (by omega)
          have hlt : cmpS Z[k - 1].xs Z[k].xs < 0 := by
            by_cases e : cmpS Z[k - 1].xs Z[k].xs = 0
            · exact absurd (cmpS_eq e).symm hne
            · omega
          have hzl : cmpS z.xs Z[k - 1].xs ≤ 0 := by
            obtain ⟨i, hi, rfl⟩ := List.mem_iff_getElem.1 hz2
            rw [List.length_take] at hi
            rw [List.getElem_take]
            by_cases e : i = k - 1
            · subst e; rw [cmpS_self]; omega
            · exact List.pairwise_iff_getElem.1 hP i (k - 1) (by omega) hk1 (by omega)
          exact cmpS_lt2 hzl hlt
      · rcases List.mem_append.1 hz with h | h
        · exact List.mem_append_left _ (h2 z h)
        · exact List.mem_append_right _ h
      · rw [List.map_append]
        rcases List.mem_append.1 hz with h | h
        · exact List.mem_append_left _ (h3 z h)
        · refine List.mem_append_right _ ?_
          rw [List.mem_singleton] at h
          rw [h]; simp
    · rw [if_neg hc, List.append_nil]
      have hk0 : ¬ k = 0 := fun e => hc (.inl e)
      have hk1 : k - 1 < Z.length := by omega
      have he : Z[k].xs = Z[k - 1].xs := by
        have : Z[k].xs = (Z.getD (k - 1) noTx).xs := Classical.not_not.1 (fun h => hc (.inr h))
        rw [this]; simp [List.getD_eq_getElem?_getD, hk1]
      refine ⟨h1, fun z hz => List.mem_append_left _ (h2 z hz), fun z hz => ?_⟩
      rcases List.mem_append.1 hz with h | h
      · exact h3 z h
      · rw [List.mem_singleton] at h
        rw [h, he]
        exact h3 _ (List.mem_iff_getElem.2 ⟨k - 1, by rw [List.length_take]; omega, by rw [List.getElem_take]⟩)
theorem uniq_set {ts zs : List Tx} (hp : zs.Perm ts) (hP : zs.Pairwise fun a b => cmpS a.xs b.xs ≤ 0) : (uniqT zs zs.length).map Tx.xs = setR (ts.map Tx.xs) ∧ ∀ z ∈ uniqT zs zs.length, z ∈ ts := by
  obtain ⟨h1, h2, h3⟩ := uniq_ok hP zs.length (Nat.le_refl _)
  rw [List.take_length] at h2 h3
  refine ⟨setR_is h1 (fun x => ⟨fun hx => ?_, fun hx => ?_⟩), fun z hz => hp.mem_iff.1 (h2 z hz)⟩
  · obtain ⟨z, hz, rfl⟩ := List.mem_map.1 hx
    exact List.mem_map.2 ⟨z, hp.mem_iff.1 (h2 z hz), rfl⟩
  · obtain ⟨z, hz, rfl⟩ := List.mem_map.1 hx
    exact h3 z (hp.mem_iff.2 hz)

set_option maxRecDepth 100000 in
set_option maxHeartbeats 2000000 in
theorem sortedFunc_any {w : World} {Bn : Nat} {a : Option Addr} {b off c : Nat} {ts : List Tx} (hc : w.cell? ⟨Bn, 0, none⟩ = some (.slice a ts.length c)) (hT : TxsS w a b off ts) (hl : ∀ t ∈ ts, t.xs.length ≤ maxLen) (hsz : ts.length * 24 ≤ 140737488355328) :
    Calls Try.prog 36 #[.func (.func 55) #[] #[.pointer (some ⟨Bn, 0, none⟩)], .func (.func 38) #[] #[]] w fun e w' => ∃ (v : Value) (zs : List Tx), e = .returned v ∧ zs.Perm ts ∧ zs.Pairwise (fun a b => cmpS a.xs b.xs ≤ 0) ∧ w'.ownsRow w.heap.size 39 1 v ts.length (zs.map Tx.v) ∧ Stay w w' := by
  have h1 := collect_any hc hT hsz
  have h2 := fun (W : World) (v : Value) (hs : Stay w W) (ho : W.ownsRow w.heap.size 39 1 v ts.length (ts.map Tx.v)) => sortT_any hs (fun t ht => by
    obtain ⟨i, hi, rfl⟩ := List.mem_iff_getElem.1 ht
    exact ⟨(hT.2 i hi).2, hl _ ht⟩) ho (by omega)
  clear hc hT hl hsz
  go_enter Try.func36, Try.ntmps36
  go_wp2_with (first
    | (go_at_call 53; refine h1.mono ?_; rintro e W1 ⟨v, rfl, ho, hb⟩; obtain ⟨a1, m1, c1, rfl⟩ := own_one ho; have h3 := h2 W1 _ hb ho; clear h1 h2 ho)
    | (go_at_call 54; refine h3.mono ?_; rintro e W2 ⟨rfl, zs, hp, hP, ho2, hs2⟩))
  go_ret
  exact ⟨_, zs, rfl, hp, hP, ho2, hs2⟩

theorem compact_none (p : Option Addr) (cap : Nat) (fv : Value) (w : World) : Calls Try.prog 39 #[.slice p 0 cap, fv] w fun e w' => e = .returned (.slice p 0 cap) ∧ w' = w := by
  go_enter Try.func39, Try.ntmps39
  go_wp2
  go_ret
  exact ⟨rfl, rfl⟩
set_option maxRecDepth 100000 in
set_option maxHeartbeats 2000000 in
theorem rising_any {w : World} {a : Option Addr} {b off c : Nat} {ts : List Tx} (hT : TxsS w a b off ts) (hl : ∀ t ∈ ts, t.xs.length ≤ maxLen) (hsz : ts.length ≤ 4398046511104) :
    Calls Try.prog 21 #[.slice a ts.length c] w fun e w' => ∃ (a' : Option Addr) (b' c' : Nat) (zs : List Tx), e = .returned (.slice a' zs.length c') ∧ TxsS w' a' b' 0 zs ∧ zs.map Tx.xs = setR (ts.map Tx.xs) ∧ (∀ z ∈ zs, z ∈ ts) ∧ w.heap.size ≤ b' ∧ Stay w w' := by
  have h1 := values_any w a ts.length c
  have h2 := sortedFunc_any (Bn := w.heap.size) (w := w.alloc (.cells #[.slice a ts.length c] 22)) (box_new _ _ _) (hT.stay (Stay.new w _)) hl (by omega)
  have HT : Hid (TxsS w a b off ts ∧ (∀ t ∈ ts, t.xs.length ≤ maxLen) ∧ ts.length ≤ 4398046511104) := ⟨hT, hl, hsz⟩
  clear hT hl hsz
  go_enter Try.func21, Try.ntmps21
  go_wp2_with (first
    | (go_at_call 37; refine h1.mono ?_; rintro e w' ⟨rfl, rfl⟩; clear h1)
    | fail)
  refine h2.mono ?_
  rintro e W1 ⟨v, zs, rfl, hp, hP, ho, hs⟩
  have hzl := hp.length_eq
  have hs1 : Stay w W1 := (Stay.new w _).trans hs
  have hall : ∀ z ∈ zs, z.S W1 := fun z hz => by
    obtain ⟨i, hi, hiz⟩ := List.mem_iff_getElem.1 (hp.mem_iff.1 hz)
    rw [← hiz]
    exact StrsS.stay (HT.out.1.2 i hi).2 hs1
  have huq := uniq_set hp hP
  have hz0 := hs.size
  rw [World.size_alloc] at hz0
  clear h2
  rcases ho.2 with ⟨rfl, h0⟩ | ⟨g, cap, cur, rfl, hb, hh, k1, k2, k3, k4⟩
  · have hco := compact_none none 0 (.func (.func 40) #[] #[]) W1
    have HZ : Hid (setR (ts.map Tx.xs) = [] ∧ Stay w W1) := by
      have e : ts = [] := List.eq_nil_of_length_eq_zero h0
      rw [e]
      exact ⟨rfl, hs1⟩
    clear huq hall ho hP hp hs1 hs hzl
    go_wp2_with (go_at_call 39; refine hco.mono ?_; rintro e w' ⟨rfl, hw'⟩; have hw2 := hw'.symm; subst hw2)
    go_ret
    exact ⟨none, w.heap.size, 0, [], rfl, ⟨fun h => absurd h (Nat.lt_irrefl _), fun _ h => absurd h (Nat.not_lt_zero _)⟩, HZ.out.1.symm, fun z hz => by simp at hz, Nat.le_refl _, HZ.out.2⟩
  · have hA : AllS (w.alloc (.cells #[.slice a ts.length c] 22)) zs := fun t ht => by
      obtain ⟨i, hi, hiz⟩ := List.mem_iff_getElem.1 (hp.mem_iff.1 ht)
      rw [← hiz]
      exact ⟨StrsS.stay (HT.out.1.2 i hi).2 (Stay.new w _), HT.out.2.1 _ (List.getElem_mem hi)⟩
    have hco := compactT_any hs hb hzl (by have := HT.out.2.2; omega) hA (rowV_of ho hzl.symm)
    clear k4 ho
    go_wp2_with (go_at_call 39; refine hco.mono ?_; rintro e W2 ⟨k, rfl, rfl, hR, hs2⟩)
    go_ret
    have hw2 : Stay w W2 := (Stay.new w _).trans hs2
    rw [hzl] at huq
    refine ⟨_, g, cap, uniqT zs ts.length, rfl, ⟨fun _ => rfl, fun j hj => ⟨?_, ?_⟩⟩, huq.1, huq.2, by rw [World.size_alloc] at hb; omega, hw2⟩
    · rw [Nat.zero_add]
      exact (hR.cell j _ (List.getElem?_eq_getElem hj)).1
    · obtain ⟨i, hi, hiz⟩ := List.mem_iff_getElem.1 (huq.2 _ (List.getElem_mem hj))
      rw [← hiz]
      exact StrsS.stay (HT.out.1.2 i hi).2 hw2
end Go.Proofs.Ytbbgembkdhcidaa
