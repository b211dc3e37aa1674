/- A relation beside the document's: adds, filled. -/
import Derived.Test.YtnhmjheipfopoaaL8l
namespace Go.Proofs.Ytnhmjheipfopoaa.L
open Go.RowKit Go.Maps Go.Shelf Go.Proofs.Ytnhmjheipfopoaa

/-- Both relations lie in memory, apart; U names their blocks; a list of places (block k, n cells) may be gone through. -/
def St (A : World) (U : Nat → Prop) (rb qb ar : Nat) (T : List (List Int)) (k n : Nat) : Prop :=
  ∃ F G R, RelN A F rb ar T k n ∧ RfS A G R qb ar T ∧ (∀ i, F i → ¬ G i ∧ ¬ R i) ∧ (∀ i, U i ↔ F i ∨ G i ∨ R i) ∧ (0 < n → ¬ G k)

section
variable {A A' : World} {U : Nat → Prop} {rb qb ar : Nat} {T : List (List Int)} {k n : Nat}

theorem RfS.turn {S G R : Nat → Prop} (h : RfS A G R qb ar T) (ht : Turn S A A') (hg : ∀ i, G i → ¬ S i) (hr : ∀ i, R i → ¬ S i) : RfS A' G R qb ar T := by
  obtain ⟨lv, us, h⟩ := h
  exact ⟨lv, us, h.turn ht hg hr⟩
theorem St.turn {S : Nat → Prop} (h : St A U rb qb ar T k n) (ht : Turn S A A') (hn : ∀ i, U i → ¬ S i) : St A' U rb qb ar T k n := by
  obtain ⟨F, G, R, h1, h2, h3, h4, h5⟩ := h
  exact ⟨F, G, R, h1.turn ht (fun i hi => hn i ((h4 i).2 (.inl hi))), h2.turn ht (fun i hi => hn i ((h4 i).2 (.inr (.inl hi)))) (fun i hi => hn i ((h4 i).2 (.inr (.inr hi)))), h3, h4, h5⟩
theorem St.stay (h : St A U rb qb ar T k n) (ht : Stay A A') : St A' U rb qb ar T k n := h.turn (S := fun _ => False) (Turn.of_stay ht) (fun _ _ e => e)
theorem St.lt (h : St A U rb qb ar T k n) : ∀ i, U i → i < A.heap.size := by
  obtain ⟨F, G, R, h1, ⟨lv, us, h2⟩, _, h4, _⟩ := h
  intro i hi
  rcases (h4 i).1 hi with q | q
  · exact h1.lt i q
  · exact h2.lt i q

/-- Both Adds, one behind the other, of lists that are alike. -/
theorem st_add (h : St A U rb qb ar T k n) (hTk : T = [] → ¬ U k ∨ k = qb) (hT : T.length + 1 ≤ 68719476736) (b cap : Nat) (t : List Int) (hI : IntsS A (some ⟨b, 0, none⟩) b 0 t) (hl : t.length ≤ 1048576) (hb : b < A.heap.size) (hn : ¬ U b) :
    Calls Try.prog 18 #[.pointer (some ⟨rb, 0, none⟩), .slice (some ⟨b, 0, none⟩) t.length cap] A fun e A1 => e = .returned (.tuple (addV ar T t)) ∧ Turn U A A1 ∧ KeepC k n A A1 ∧
      ∀ (a2 : Option Addr) (b2 o2 c2 : Nat), IntsS A1 a2 b2 o2 t → (0 < t.length → ¬ U b2 ∧ b2 < A.heap.size) → Calls Try.prog 37 #[.pointer (some ⟨qb, 0, none⟩), .slice a2 t.length c2] A1 fun e A2 => e = .returned (.tuple (addV ar T t)) ∧
        ∃ U', St A2 U' rb qb ar (addT ar T t) k n ∧ (∀ i, U' i → U i ∨ A.heap.size ≤ i) ∧ Turn U A A2 ∧ KeepC k n A A2 := by
  obtain ⟨F, G, R, h1, h2, h3, h4, h5⟩ := h
  have hlt1 := h1.lt
  have hltk : k < A.heap.size := by obtain ⟨_, _, _, _, q⟩ := h1; exact q.kr.2.2.2
  have hqG : G qb := by obtain ⟨_, _, q⟩ := h2; exact q.foot.1
  refine (add_N h1 (fun q hF => ?_) hT b 0 cap t hI (by unfold maxLen; omega) hb (fun hF => hn ((h4 b).2 (.inl hF)))).mono ?_
  · rcases hTk q with q | rfl
    · exact q ((h4 k).2 (.inl hF))
    · exact (h3 _ hF).1 hqG
  · rintro e A1 ⟨rfl, r1, r2, r3⟩
    have hz1 := r2.size
    have r2U : Turn U A A1 := r2.mono (fun i _ hi => (h4 i).2 (.inl hi))
    have hq1 : RfS A1 G R qb ar T := h2.turn r2 (fun i hi hF => (h3 i hF).1 hi) (fun i hi hF => (h3 i hF).2 hi)
    refine ⟨rfl, r2U, r3, fun a2 b2 o2 c2 hI2 hb2 => ?_⟩
    obtain ⟨lv, us, hq⟩ := hq1
    have hml : t.length ≤ maxLen := by unfold maxLen; omega
    have hgl : ∀ i, G i → i < A.heap.size := fun i hi => by obtain ⟨_, _, q⟩ := h2; exact q.lt i (.inl hi)
    have hrl : ∀ i, R i → i < A.heap.size := fun i hi => by obtain ⟨_, _, q⟩ := h2; exact q.lt i (.inr hi)
    have hGk : ∀ A2, Turn G A1 A2 → KeepC k n A1 A2 := fun A2 ht j hj => World.cell?_of_block (ht.block k (by omega) (h5 (by omega)))
    have hrel : ∀ (A2 : World) (G' : Nat → Prop), Turn G A1 A2 → (∀ i, G' i → G i ∨ A1.heap.size ≤ i) → RelN A2 (Grow F A.heap.size A1) rb ar (addT ar T t) k n ∧ ∀ i, Grow F A.heap.size A1 i → ¬ G' i := fun A2 G' ht hG' => by
      have hno : ∀ i, Grow F A.heap.size A1 i → ¬ G i := fun i hi hg => hi.elim (fun q => (h3 i q).1 hg) (fun q => by have := hgl i hg; omega)
      exact ⟨r1.turn ht hno, fun i hi hg => (hG' i hg).elim (hno i hi) (fun q => by have := r1.lt i hi; omega)⟩
    have hfin : ∀ (A2 : World) (G' R' : Nat → Prop), RfS A2 G' R' qb ar (addT ar T t) → (∀ i, G' i → G i ∨ A1.heap.size ≤ i) → (∀ i, R' i → R i ∨ A1.heap.size ≤ i) → Turn G A1 A2 → ∃ U', St A2 U' rb qb ar (addT ar T t) k n ∧ (∀ i, U' i → U i ∨ A.heap.size ≤ i) ∧ Turn U A A2 ∧ KeepC k n A A2 := fun A2 G' R' hR hG' hR' ht => by
      obtain ⟨q1, q2⟩ := hrel A2 G' ht hG'
      refine ⟨fun i => Grow F A.heap.size A1 i ∨ G' i ∨ R' i, ⟨_, G', R', q1, hR, fun i hi => ⟨q2 i hi, fun hr => ?_⟩, fun i => Iff.rfl, fun h0 hg => ?_⟩, fun i hi => ?_, r2U.then ht (fun i _ hg => (h4 i).2 (.inr (.inl hg))), r3.trans (hGk A2 ht)⟩
      · rcases hR' i hr with q | q
        · exact hi.elim (fun p => (h3 i p).2 q) (fun p => by have := hrl i q; omega)
        · have := r1.lt i hi; omega
      · rcases hG' k hg with q | q
        · exact h5 h0 q
        · omega
      · rcases hi with (q | q) | q | q
        · exact .inl ((h4 i).2 (.inl q))
        · exact .inr q.1
        · exact (hG' i q).imp (fun q => (h4 i).2 (.inr (.inl q))) (fun q => by omega)
        · exact (hR' i q).imp (fun q => (h4 i).2 (.inr (.inr q))) (fun q => by omega)
    unfold addT at hfin ⊢
    unfold addV
    by_cases hok : okT ar t = true
    · rw [if_pos hok]
      cases hp : posL T t with
      | nil =>
        rw [if_pos ⟨hok, hp⟩] at hfin
        rw [if_pos ⟨hok, rfl⟩]
        refine (y4Add_new hq hT a2 b2 o2 c2 t hI2 hml hok hp).mono ?_
        rintro e A2 ⟨rfl, G', R', g1, g2, g3, g4⟩
        exact ⟨rfl, hfin A2 G' R' g1 g2 g3 g4⟩
      | cons p l =>
        rw [if_neg (fun q => by rw [hp] at q; cases q.2)] at hfin
        rw [if_neg (fun q => by cases q.2)]
        refine (y4Add_old hq a2 b2 o2 c2 t hI2 hml hok hp).mono ?_
        rintro e A2 ⟨rfl, hs⟩
        exact ⟨rfl, hfin A2 G R ⟨lv, us, hq.stay hs⟩ (fun i hi => .inl hi) (fun i hi => .inl hi) (Turn.of_stay hs)⟩
    · rw [if_neg hok]
      rw [if_neg (fun q => hok q.1)] at hfin ⊢
      refine (y4Add_bad hq a2 b2 o2 c2 t hI2 hml (by simpa using hok)).mono ?_
      rintro e A2 ⟨rfl, rfl⟩
      exact ⟨rfl, hfin A2 G R ⟨lv, us, hq⟩ (fun i hi => .inl hi) (fun i hi => .inl hi) (Turn.refl _ _)⟩

theorem addV_three (ar : Nat) (T : List (List Int)) (t : List Int) : ∃ (p : Int) (b : Bool) (e : Int), addV ar T t = #[.int .i64 p, .bool b, .int .i64 e] := by
  unfold addV
  split
  · split
    · exact ⟨_, _, _, rfl⟩
    · exact ⟨_, _, _, rfl⟩
  · exact ⟨_, _, _, rfl⟩

set_option maxRecDepth 100000 in
set_option maxHeartbeats 4000000 in
/-- adds: a list is added to both; it stays, and is written over behind. -/
theorem adds_any (h : St A U rb qb ar T k n) (hTk : T = [] → ¬ U k ∨ k = qb) (hT : T.length + 1 ≤ 68719476736) (a : Option Addr) (b o c : Nat) (t : List Int) (hI : IntsS A a b o t) (hl : t.length ≤ 1048576) (hn : 0 < t.length → ¬ U b) :
    Calls Try.prog 14 #[.pointer (some ⟨rb, 0, none⟩), .pointer (some ⟨qb, 0, none⟩), .slice a t.length c] A fun e A' => e = .returned (.bool true) ∧
      ∃ U', St A' U' rb qb ar (addT ar T t) k n ∧ (∀ i, U' i → U i ∨ A.heap.size ≤ i) ∧ Turn U A A' ∧ KeepC k n A A' := by
  obtain ⟨p, bb, e0, hV⟩ := addV_three ar T t
  have hlent := lent_any A a b o c t hI (by omega)
  have hnum := q4num_any e0
  have HX : Hid (∀ A1 g cp, Stay A A1 → Lent4 A.heap.size A1 g cp t → Calls Try.prog 18 #[.pointer (some ⟨rb, 0, none⟩), .slice (some ⟨g, 0, none⟩) t.length cp] A1 fun e A2 => e = .returned (.tuple #[.int .i64 p, .bool bb, .int .i64 e0]) ∧
      Calls Try.prog 37 #[.pointer (some ⟨qb, 0, none⟩), .slice a t.length c] A2 fun e A3 => e = .returned (.tuple #[.int .i64 p, .bool bb, .int .i64 e0]) ∧
        Calls Try.prog 38 #[.slice (some ⟨g, 0, none⟩) t.length cp, .slice a t.length c] A3 fun e A4 => e = .returned (.bool true) ∧
          Calls Try.prog 39 #[.slice (some ⟨g, 0, none⟩) t.length t.length] A4 fun e A5 => (∃ r, e = .returned r) ∧ ∃ U', St A5 U' rb qb ar (addT ar T t) k n ∧ (∀ i, U' i → U i ∨ A.heap.size ≤ i) ∧ Turn U A A5 ∧ KeepC k n A A5) := fun A1 g cp hs hL => by
    have hb := hL.bound
    have hlt := h.lt
    have hsz := hs.size
    have hk : k < A.heap.size := by obtain ⟨F, G, R, ⟨_, _, _, _, q⟩, _⟩ := h; exact q.kr.2.2.2
    have hgU : ¬ U g := fun q => by have := hlt g q; omega
    refine (st_add (h.stay hs) hTk hT g cp t hL.ints hl hb.2.2.2 hgU).mono ?_
    rintro e A2 ⟨rfl, t2, k2, hy⟩
    rw [hV] at hy ⊢
    refine ⟨rfl, ?_⟩
    refine (hy a b o c (ints_turn (hI.stay hs) t2 hn) (fun h0 => ⟨hn h0, Nat.lt_of_lt_of_le (ints_lt hI h0) hsz⟩)).mono ?_
    rintro e A3 ⟨rfl, U', s3, u3, t3, k3⟩
    refine ⟨rfl, ?_⟩
    refine (left_any A3 g cp a b o c A.heap.size t (hL.turn t3 hgU) (ints_turn (hI.stay hs) t3 hn)).mono ?_
    rintro e A4 ⟨rfl, hs4⟩
    refine ⟨rfl, ?_⟩
    have hL4 := (hL.turn t3 hgU).stay hs4
    refine (spoil_any A4 _ _ (Rm.of_lent hL4) hl).mono ?_
    rintro e A5 ⟨hr, t5⟩
    have hg5 : ∀ i, (Value.slice (some ⟨g, 0, none⟩) t.length t.length).ownBlock = some i → i = g := fun i hi => (Option.some.inj hi).symm
    have hU'g : ∀ i, U' i → i ≠ g := fun i hi e => by
      subst e
      rcases u3 i hi with q | q
      · exact hgU q
      · omega
    refine ⟨hr, U', (s3.stay hs4).turn t5 (fun i hi q => hU'g i hi (hg5 i q)), fun i hi => (u3 i hi).imp id (fun q => by omega), ?_, ?_⟩
    · exact (((Turn.of_stay (S := U) hs).trans t3).trans (Turn.of_stay hs4)).then t5 (fun i hi q => by have := hg5 i q; omega)
    · have hz3 := t3.size
      have hz4 := hs4.size
      exact (((KeepC.stay hs hk).trans k3).trans (KeepC.stay hs4 (by omega))).trans (KeepC.turn t5 (by omega) (fun q => by have := hg5 k q; omega))
  clear h hI hn hV hTk
  go_enter Try.func14, Try.ntmps14
  go_wp2_with (first
    | (go_at_call 11; refine hlent.mono ?_; rintro e A1 ⟨g, cp, rfl, hL, hs⟩; have hb := hL.bound; have hb1 : (t.length : Int) + 2 ≤ (cp : Int) := (by omega); have hb2 : (cp : Int) ≤ 9223372036854775807 := (by have := hb.2.2.1; unfold maxLen at this; omega); have hadd := HX.out A1 g cp hs hL; clear hL hs hb hlent)
    | (go_at_call 18; refine hadd.mono ?_; rintro e A2 ⟨rfl, hy⟩; clear hadd)
    | (go_at_call 37; refine hy.mono ?_; rintro e A3 ⟨rfl, hlf⟩; clear hy)
    | (go_at_call 17; refine (hnum _).mono ?_; rintro e A3' ⟨rfl, hw⟩; have hw' := hw.symm; subst hw')
    | (go_at_call 38; refine hlf.mono ?_; rintro e A4 ⟨rfl, hsp⟩; clear hlf)
    | (go_at_call 39; refine hsp.mono ?_; rintro e A5 ⟨⟨r, rfl⟩, h5⟩; have H5 : Hid _ := h5; clear hsp h5))
  go_ret
  exact ⟨rfl, H5.out⟩
end
end Go.Proofs.Ytnhmjheipfopoaa.L
