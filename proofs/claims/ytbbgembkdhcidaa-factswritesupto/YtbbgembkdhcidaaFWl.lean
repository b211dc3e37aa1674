/- Tuples that are lent: in new memory, with a mark behind the list and behind each tuple. No walk here. -/
import Derived.Test.YtbbgembkdhcidaaFLa
import Derived.Test.YtbbgembkdhcidaaFKv
namespace Go.Proofs.Ytbbgembkdhcidaa
open Go.RowKit Go.Maps

/-- One tuple that is lent. -/
structure LentT (wr : World) (lo : Nat) (t : Tx) : Prop where
  a : t.a = some ⟨t.b, 0, none⟩
  o : t.o = 0
  s : t.S wr
  c : t.xs.length + 1 ≤ t.c
  mrk : wr.cell? ⟨t.b, t.xs.length, none⟩ = some (.string ⟨#[109, 97, 114, 107]⟩)
  lo : lo ≤ t.b
section
variable {W wr wr' : World} {lo : Nat} {t : Tx} {v : Value} {m : List Tx}
theorem LentT.lt (h : LentT wr lo t) : t.b < wr.heap.size := World.block_lt_of_cell? _ _ h.mrk
theorem LentT.turn {S : Nat → Prop} (h : LentT wr lo t) (ht : Turn S wr wr') (hn : ¬ S t.b) : LentT wr' lo t :=
  ⟨h.a, h.o, StrsS.turn h.s ht (fun _ => hn), h.c, ht.cell h.mrk hn, h.lo⟩
theorem LentT.stay (h : LentT wr lo t) (hs : Stay wr wr') : LentT wr' lo t := h.turn (S := fun _ => False) (Turn.of_stay hs) (fun h => h)
/-- The list so far. -/
structure LentM (W wr : World) (v : Value) (m : List Tx) : Prop where
  row : wr.ownsRow W.heap.size 39 1 v m.length (m.map Tx.v)
  stay : Stay W wr
  each : ∀ t ∈ m, LentT wr W.heap.size t ∧ v.ownBlock ≠ some t.b
theorem LentM.nil (W : World) : LentM W W (.slice none 0 0) [] := ⟨World.ownsRow_nil _ _ _ _, Stay.refl _, fun t h => by simp at h⟩
/-- One value more behind the list. -/
theorem LentM.grow (h : LentM W wr v m) {V : World} (hs : Stay wr V) (x : Value) (h1 : x.oneCell' = true) (hb : (m.length + 1) * 24 ≤ 140737488355328) :
    ∃ v' V', (Builtin.append_ #[22, 22] 22 #[v, .slice (some ⟨V.heap.size, 0, none⟩) 1 1]).run Try.prog (V.alloc (.cells #[x] 39)) = .ok v' V' ∧ V'.ownsRow W.heap.size 39 1 v' (m.length + 1) (m.map Tx.v ++ [x]) ∧ Turn (fun k => v.ownBlock = some k) V V' ∧ Stay W V' ∧ (∀ t ∈ m, LentT V' W.heap.size t ∧ v'.ownBlock ≠ some t.b) ∧ (∀ k, v'.ownBlock = some k → v.ownBlock = some k ∨ k = V.heap.size + 1) := by
  have hrow : V.ownsRow W.heap.size 39 1 v (m.map Tx.v).length (m.map Tx.v) := by
    rw [List.length_map]
    exact (Turn.of_stay (S := fun _ => False) hs).row h.row (fun _ _ h => h)
  have hz := h.stay.size
  have hz2 := hs.size
  obtain ⟨v', V', hr, h2, h3, h4⟩ := append_keep Try.underlying22 infoSs rfl hrow x h1 (by rw [List.length_map]; unfold maxLen; omega) (by rw [List.length_map]; exact hb) (by omega)
  rw [List.length_map] at h2
  have hv : ∀ k, v'.ownBlock = some k → v.ownBlock = some k ∨ k = V.heap.size + 1 := fun k hk => by
    rcases h4 with ⟨g, e1, e2⟩ | ⟨e1, _⟩
    · rw [e2] at hk; rw [e1]; exact .inl hk
    · rw [e1] at hk; exact .inr (Option.some.inj hk).symm
  refine ⟨v', V', hr, h2, h3, h3.stay (h.stay.trans hs) (fun k hk e => ?_), fun t ht => ?_, hv⟩
  · have := (World.ownsRow.lt hrow k e).1; omega
  · obtain ⟨a1, a2⟩ := h.each t ht
    refine ⟨(a1.stay hs).turn h3 a2, fun e => ?_⟩
    rcases hv _ e with e | e
    · exact a2 e
    · have := a1.lt; omega
theorem LentM.push (h : LentM W wr v m) {V : World} (hs : Stay wr V) (ht : LentT V W.heap.size t) (hne : wr.heap.size ≤ t.b) (hb : (m.length + 1) * 24 ≤ 140737488355328) :
    ∃ v' V', (Builtin.append_ #[22, 22] 22 #[v, .slice (some ⟨V.heap.size, 0, none⟩) 1 1]).run Try.prog (V.alloc (.cells #[t.v] 39)) = .ok v' V' ∧ LentM W V' v' (m ++ [t]) := by
  obtain ⟨v', V', hr, h2, h3, h4, h5, h6⟩ := h.grow hs t.v rfl hb
  refine ⟨v', V', hr, by rw [List.length_append, List.map_append]; exact h2, h4, fun t' ht' => ?_⟩
  rcases List.mem_append.1 ht' with ht' | ht'
  · exact h5 t' ht'
  · rw [List.mem_singleton] at ht'
    subst ht'
    refine ⟨ht.turn h3 (fun e => ?_), fun e => ?_⟩
    · have := (World.ownsRow.lt h.row _ e).2; omega
    · rcases h6 _ e with e | e
      · have := (World.ownsRow.lt h.row _ e).2; omega
      · have := ht.lt; omega
/-- One tuple's copy, its mark, its cut, and the list grown by it. -/
theorem LentM.step (h : LentM W wr v m) {a : Option Addr} {b off c : Nat} {ss : List ByteArray} (hS : StrsS wr a b off ss) (ha : a = none → c = 0 ∧ ss = []) (hl : (ss.length + 1) * 16 ≤ 140737488355328) (hb : (m.length + 1) * 24 ≤ 140737488355328) :
    ∃ u1 V1, (Builtin.append_ #[39, 39] 39 #[.slice none 0 0, .slice a ss.length c]).run Try.prog wr = .ok u1 V1 ∧ ∃ G cap V2, (Builtin.append_ #[39, 39] 39 #[u1, .slice (some ⟨V1.heap.size, 0, none⟩) 1 1]).run Try.prog (V1.alloc (.cells #[.string ⟨#[109, 97, 114, 107]⟩] 9)) = .ok (.slice (some ⟨G, 0, none⟩) (ss.length + 1) cap) V2 ∧ ss.length + 1 ≤ cap ∧ Stay wr V2 ∧ ∃ v' V3, (Builtin.append_ #[22, 22] 22 #[v, .slice (some ⟨V2.heap.size, 0, none⟩) 1 1]).run Try.prog (V2.alloc (.cells #[.slice (some ⟨G, 0, none⟩) ss.length cap] 39)) = .ok v' V3 ∧ ∃ t : Tx, t.xs = ss ∧ LentM W V3 v' (m ++ [t]) := by
  obtain ⟨u1, V1, hap1, ho1, hg1, _, _⟩ := (OwnS.nil (base := wr.heap.size) (w := wr)).add 39 hS ha (by simp; omega) (Nat.le_refl _)
  rw [List.nil_append] at ho1
  have hs1 : Stay wr V1 := (Turn.of_grown hg1).stay (Stay.refl _) (fun k _ e => by simp [Value.ownBlock] at e)
  obtain ⟨u2, V2, hap2, ho2, hg2, _, _⟩ := (ho1.stay (Stay.new V1 (.cells #[.string ⟨#[109, 97, 114, 107]⟩] 9))).add 39 (strs_new V1 [⟨#[109, 97, 114, 107]⟩] 9) (c := 1) (fun e => by simp at e) (by simp; omega) (by have := hs1.size; simp; omega)
  have hs2 : Stay wr V2 := (Turn.of_grown hg2).stay (hs1.alloc _) (fun k hk e => by have := (ho1.lt k e).1; omega)
  obtain ⟨G, cap, rfl, hc1, hGb, hS2, hm2⟩ := ho2.last
  refine ⟨u1, V1, hap1, G, cap, V2, hap2, hc1, hs2, ?_⟩
  obtain ⟨v', V3, hr, hM⟩ := h.push (t := ⟨some ⟨G, 0, none⟩, G, 0, cap, ss⟩) hs2 ⟨rfl, rfl, hS2, hc1, hm2, by have := h.stay.size; show _ ≤ G; omega⟩ hGb hb
  exact ⟨v', V3, hr, _, rfl, hM⟩
/-- Tuples that are lent. -/
structure LentR (lo : Nat) (V : World) (G cap : Nat) (gs : List (List ByteArray)) : Prop where
  is : ∃ xs : List Tx, xs.map Tx.xs = gs ∧ TxsS V (some ⟨G, 0, none⟩) G 0 xs ∧ ∀ t ∈ xs, LentT V lo t
  cap : gs.length + 1 ≤ cap
  lo : lo ≤ G
  mrk : ∃ M, V.cell? ⟨G, gs.length, none⟩ = some (.slice (some ⟨M, 0, none⟩) 1 1) ∧ V.cell? ⟨M, 0, none⟩ = some (.string ⟨#[109, 97, 114, 107]⟩)
theorem LentR.stay {G cap : Nat} {gs : List (List ByteArray)} (h : LentR lo wr G cap gs) (hs : Stay wr wr') : LentR lo wr' G cap gs := by
  obtain ⟨xs, h1, h2, h3⟩ := h.is
  obtain ⟨M, h4, h5⟩ := h.mrk
  exact ⟨⟨xs, h1, h2.stay hs, fun t ht => (h3 t ht).stay hs⟩, h.cap, h.lo, M, hs.cell h4, hs.cell h5⟩
/-- The list's own mark. -/
theorem LentM.done (h : LentM W wr v m) (hb : (m.length + 1) * 24 ≤ 140737488355328) :
    ∃ G cap V', (Builtin.append_ #[22, 22] 22 #[v, .slice (some ⟨wr.heap.size + 1, 0, none⟩) 1 1]).run Try.prog ((wr.alloc (.cells #[.string ⟨#[109, 97, 114, 107]⟩] 9)).alloc (.cells #[.slice (some ⟨wr.heap.size, 0, none⟩) 1 1] 39)) = .ok (.slice (some ⟨G, 0, none⟩) (m.length + 1) cap) V' ∧ m.length ≤ cap ∧ LentR W.heap.size V' G cap (m.map Tx.xs) ∧ Stay W V' := by
  obtain ⟨v', V', hr, h2, h3, h4, h5, h6⟩ := h.grow (Stay.new wr (.cells #[.string ⟨#[109, 97, 114, 107]⟩] 9)) (.slice (some ⟨wr.heap.size, 0, none⟩) 1 1) rfl hb
  rw [World.size_alloc] at hr
  have hz := h.stay.size
  rcases h2.2 with ⟨hv, h0⟩ | ⟨g, cap, cur, hv, hbg, hg, k1, k2, k3, k4⟩
  · omega
  · subst hv
    have hrow := h2
    refine ⟨g, cap, V', hr, by omega, ⟨⟨m, rfl, ⟨fun _ => rfl, fun j hj => ⟨?_, (h5 _ (List.getElem_mem hj)).1.s⟩⟩, fun t ht => (h5 t ht).1⟩, by rw [List.length_map]; exact k1, hbg, wr.heap.size, ?_, ?_⟩, h4⟩
    · rw [Nat.zero_add]
      exact row_cell hrow j _ (by rw [List.getElem?_append_left (by rw [List.length_map]; exact hj), List.getElem?_map, List.getElem?_eq_getElem hj]; rfl)
    · rw [List.length_map]
      exact row_cell hrow m.length _ (by rw [List.getElem?_append_right (by rw [List.length_map]; exact Nat.le_refl _), List.length_map, Nat.sub_self]; rfl)
    · exact h3.cell (box_new _ _ _) (fun e => by have := (World.ownsRow.lt h.row _ e).2; exact absurd this (Nat.lt_irrefl _))
end
end Go.Proofs.Ytbbgembkdhcidaa
