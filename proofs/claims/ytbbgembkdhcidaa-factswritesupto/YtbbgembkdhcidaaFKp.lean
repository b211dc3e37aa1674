/- An append that keeps what lay there; the law's holds. -/
import Derived.Test.YtbbgembkdhcidaaFFg
import Derived.Deep.DeepAppendRoom
namespace Go.Proofs.Ytbbgembkdhcidaa
open Go.RowKit Go.Maps

/-- One more: the row has grown in its block, or it is laid anew and nothing old has turned. -/
theorem append_keep {t e : TypeId} {z : Value} {bytes : Nat} (ht : Try.prog.underlying t = some (.slice e)) (hinf : (Try.prog.info? e).map (fun i => (i.zero, i.size, i.bytes)) = some (some z, 1, bytes)) (hzs : z.cells.size = 1) {base : Nat} {w : World} {v : Value} {xs : List Value}
    (hown : w.ownsRow base e 1 v xs.length xs) (x : Value) (h1 : x.oneCell' = true) (h63 : xs.length + 1 ≤ maxLen) (hb : (xs.length + 1) * bytes ≤ 140737488355328) (hbase : base ≤ w.heap.size) :
    ∃ v' w', (Builtin.append_ #[t, t] t #[v, .slice (some ⟨w.heap.size, 0, none⟩) 1 1]).run Try.prog (w.alloc (.cells #[x] e)) = .ok v' w' ∧ w'.ownsRow base e 1 v' (xs.length + 1) (xs ++ [x]) ∧ Turn (fun k => v.ownBlock = some k) w w' ∧ ((∃ g, v.ownBlock = some g ∧ v'.ownBlock = some g) ∨ (v'.ownBlock = some (w.heap.size + 1) ∧ Stay w w')) := by
  obtain ⟨i0, hi, hz0, hz1, hz2⟩ := info_parts hinf
  have hown1 := hown.alloc (.cells #[x] e)
  have hnew := new_cells w [x] e
  obtain ⟨v', w', hr, h2, h3, h4, h5⟩ := run_append_own_at (P := Try.prog) (w.alloc (.cells #[x] e)) base t t e i0 z 1 bytes ht hi hz0 hz1 hz2 hzs (by decide) v xs.length xs hown1 ⟨w.heap.size, 0, none⟩ 1 1 [x] rfl hnew (by intro u hu; simp at hu; subst hu; exact h1) h63 hb (by simp; omega)
  rw [World.size_alloc] at h5
  have hT : Turn (fun k => v.ownBlock = some k) w w' := (Turn.of_stay (Stay.new w _)).trans (Turn.of_grown h3)
  refine ⟨v', w', hr, h2, hT, ?_⟩
  rcases hown1.2 with ⟨hv, h0⟩ | ⟨g, cap, cur, hv, hbg, hg, hnc, hcm, hcs, htake⟩
  · refine .inr ⟨?_, hT.stay (Stay.refl _) (fun k _ e => by rw [hv] at e; simp [Value.ownBlock] at e)⟩
    rcases h5 with e5 | e5
    · exfalso
      rcases h2.2 with ⟨hv', h0'⟩ | ⟨g', _, _, hv', _⟩
      · omega
      · rw [hv', hv] at e5; simp [Value.ownBlock] at e5
    · exact e5
  · by_cases hroom : xs.length + 1 ≤ cap
    · have hown2 := hown1
      rw [hv] at hown2
      obtain ⟨w'', hr2, _, _⟩ := run_append_own_spare (P := Try.prog) (w.alloc (.cells #[x] e)) base t t e i0 1 ht hi hz1 g xs.length cap xs hown2 ⟨w.heap.size, 0, none⟩ 1 1 [x] rfl hnew (by intro u hu; simp at hu; subst hu; exact h1) hroom
      rw [hv] at hr
      have e9 := hr.symm.trans hr2
      simp only [Result.ok.injEq] at e9
      refine .inl ⟨g, by rw [hv]; rfl, by rw [e9.1]; rfl⟩
    · have hown2 := hown1
      rw [hv] at hown2
      have holds : ∀ j u, xs[j]? = some u → (w.alloc (.cells #[x] e)).cell? ((⟨g, 0, none⟩ : Addr).add j) = some u := hown2.cells (g := g) rfl
      subst hz2
      have hr2 := run_append_grow (P := Try.prog) (w.alloc (.cells #[x] e)) t t e i0 z ht hi hz0 ⟨g, 0, none⟩ xs.length cap xs (by rw [hz1]; omega) holds ⟨w.heap.size, 0, none⟩ 1 1 [x] (by rw [hz1]; rfl) hnew (by omega) (by unfold maxLen at h63; omega) (growslice_fits (by omega) hb)
      rw [hv] at hr
      have e9 := hr.symm.trans hr2
      simp only [Result.ok.injEq] at e9
      refine .inr ⟨by rw [e9.1]; simp [Value.ownBlock], ?_⟩
      rw [e9.2]
      exact ((Stay.new w _).trans (Stay.drew _)).alloc _

set_option maxRecDepth 100000 in
set_option maxHeartbeats 2000000 in
theorem holds_any (w : World) (a1 : Option Addr) (b1 o1 c1 : Nat) (xs : List Tx) (mark : ByteArray) (hx : TxsS w a1 b1 o1 xs) (_hlx : xs.length ≤ 140737488355328) (hmx : ∀ t ∈ xs, t.xs.length ≤ 140737488355328) (hall : ∀ t ∈ xs, ∀ y ∈ t.xs, y = mark) :
    Calls Try.prog 26 #[.slice a1 xs.length c1, .string mark] w fun e w' => e = .returned (.bool true) ∧ w' = w := by
  obtain ⟨n, hn⟩ : ∃ n, n = xs.length := ⟨_, rfl⟩
  have HX : Hid (TxsS w a1 b1 o1 xs ∧ n = xs.length ∧ (∀ t ∈ xs, t.xs.length ≤ 140737488355328) ∧ ∀ t ∈ xs, ∀ y ∈ t.xs, y = mark) := ⟨hx, hn, hmx, hall⟩
  rw [← hn]
  rw [← hn] at _hlx
  clear hx hn hmx hall
  go_enter Try.func26, Try.ntmps26
  go_wp2
  go_loopw [5] (fun i wr => ∃ k : Nat, k ≤ n ∧ i = .int .i64 (k : Int) ∧ wr = w) (fun i _ => n - (intOf i).toNat)
  case atStart => exact ⟨0, Nat.zero_le _, rfl, rfl⟩
  case round =>
    obtain ⟨k, hk, rfl, rfl⟩ := hrel
    by_cases hlt : k < n
    · have h1 : k < xs.length := by rw [← HX.out.2.1]; exact hlt
      obtain rfl := HX.out.1.1 (by omega)
      obtain ⟨hc1, hd1⟩ := HX.out.1.2 k h1
      have hi1 : (k : Int) < (n : Int) := by omega
      have hml := HX.out.2.2.1 _ (List.getElem_mem h1)
      have hal := HX.out.2.2.2 _ (List.getElem_mem h1)
      unfold Tx.v at hc1
      unfold Tx.S at hd1
      generalize xs[k] = t at *
      obtain ⟨ta, tb, to, tc, tx⟩ := t
      dsimp only at *
      obtain ⟨m, hm⟩ : ∃ m, m = tx.length := ⟨_, rfl⟩
      have HM : Hid (m = tx.length ∧ StrsS wr ta tb to tx ∧ ∀ y ∈ tx, y = mark) := ⟨hm, hd1, hal⟩
      rw [← hm] at hc1 hml
      clear hm hd1 hal
      go_wp2
      go_loopw [6] (fun i wr' => ∃ j : Nat, j ≤ m ∧ i = .int .i64 (j : Int) ∧ wr' = wr) (fun i _ => m - (intOf i).toNat)
      case atStart => exact ⟨0, Nat.zero_le _, rfl, rfl⟩
      case round =>
        obtain ⟨j, hj, rfl, rfl⟩ := hrel
        by_cases hlt2 : j < m
        · have h2 : j < tx.length := by rw [← HM.out.1]; exact hlt2
          have hi2 : (j : Int) < (m : Int) := by omega
          obtain rfl := HM.out.2.1.1 (by omega)
          have hc2 := HM.out.2.1.2 j h2
          rw [HM.out.2.2 _ (List.getElem_mem h2)] at hc2
          go_wp2
          go_roundw
          case rel => exact ⟨j + 1, by omega, by simp, by first | rfl | trivial⟩
          case measure => simp [intOf]; omega
        · have hi2 : ¬ (j : Int) < (m : Int) := by omega
          go_wp2
          go_roundw
          case rel => exact ⟨k + 1, by omega, by simp, by first | rfl | trivial⟩
          case measure => simp [intOf]; omega
    · have hi1 : ¬ (k : Int) < (n : Int) := by omega
      go_wp2
      go_ret
      exact ⟨rfl, rfl⟩
end Go.Proofs.Ytbbgembkdhcidaa
