/- What SafeRule's walk leans on: a rule and its like have one way; names with two marks behind them; lists that are written over; a program of one rule. No walk here. -/
import Derived.Test.YtpnjmldbohecdaaRUe
import Derived.Test.YtpnjmldbohecdaaEO
import Derived.Test.YtpnjmldbohecdaaEJ
import Derived.Test.YtpnjmldbohecdaaCH
import Derived.Test.YtpnjmldbohecdaaQN
namespace Go.Proofs.Ytpnjmldbohecdaa
open Go.RowKit Go.Maps Go.Shelf

theorem takeS_like (bs : List (Int × ByteArray)) (i : Int) {y x : Li} (h : y.like x) (s : List Int × (Int → List Int)) : takeS bs i y s = takeS bs i x s := by
  unfold takeS waits
  rw [terms_like h, show ofThree y = ofThree x from by unfold ofThree; rw [h.1]]
theorem takeN_like {us vs : List Li} (h : likes us vs) (bs : List (Int × ByteArray)) : ∀ k, takeN bs us k = takeN bs vs k
  | 0 => rfl
  | k + 1 => by
    rw [takeN, takeN, takeN_like h bs k]
    by_cases h1 : k < us.length
    · have h2 : k < vs.length := by rw [← h.1]; exact h1
      rw [List.getElem?_eq_getElem h1, List.getElem?_eq_getElem h2]
      exact takeS_like bs _ (h.2 k h1 h2) _
    · rw [List.getElem?_eq_none (by omega), List.getElem?_eq_none (by have := h.1; omega)]
theorem wayOk_like {us vs : List Li} (h : likes us vs) : wayOk us = wayOk vs := by
  unfold wayOk
  rw [bindP_like h, placesB_like 0 us vs h]
theorem wayL_like {us vs : List Li} (h : likes us vs) : wayL us = wayL vs := by
  unfold wayL
  rw [wayOk_like h, bindP_like h, h.1, takeN_like h]
theorem readyB_like {y x : Li} (h : y.like x) (us : List ByteArray) : readyB y us = readyB x us := by
  unfold readyB
  rw [terms_like h, h.1]
theorem ruleN_like {y x : Ru} (h : y.like x) : ruleN y = ruleN x := by unfold ruleN; rw [looseP_like h]
theorem ruleB_like {y x : Ru} (h : y.like x) : ruleB y = ruleB x := by unfold ruleB; rw [looseP_like h]

/-- The names with two marks behind them. -/
theorem names_any (V : World) (ua : Option Addr) (ub uo uc : Nat) (us : List ByteArray) (hU : RecS 1 encSt V ua ub uo us) (hua : ua = none → uc = 0 ∧ us = []) (hn : us.length ≤ 1048576) (m : ByteArray) :
    ∃ v1 A nb nc W2, (Builtin.append_ #[28, 28] 28 #[.slice none 0 0, .slice ua us.length uc]).run Try.prog V = .ok v1 A ∧
      (Builtin.append_ #[28, 28] 28 #[v1, .slice (some ⟨A.heap.size, 0, none⟩) 2 2]).run Try.prog (A.alloc (.cells #[.string m, .string m] 9)) = .ok (.slice (some ⟨nb, 0, none⟩) (us.length + 2) nc) W2 ∧
      RecS 1 encSt W2 (some ⟨nb, 0, none⟩) nb 0 (us ++ [m, m]) ∧ us.length + 2 ≤ nc ∧ nc ≤ maxLen ∧ Stay V W2 ∧ nb < W2.heap.size := by
  obtain ⟨v1, A, hr1, ho1, hg1, _, _⟩ := append_recs (P := Try.prog) (ty := 28) encStOk Try.underlying28 infoSt rfl (OwnR.nil (base := V.heap.size)) hU hua (by simp [maxLen]; omega) (by simp; omega) (Nat.le_refl _)
  have hs1 : Stay V A := ownR_grow (Stay.refl _) (Nat.le_refl _) (OwnR.nil (t := 9) (n := 1) (enc := encSt)) hg1
  obtain ⟨v2, W2, hr2, ho2, hg2, _, _⟩ := append_recs (P := Try.prog) (ty := 28) encStOk Try.underlying28 infoSt rfl (ho1.alloc (.cells (cellsR encSt [m, m]).toArray 9)) (recs_lit encStOk A [m, m] 9) (c := 2) (fun h => nomatch h) (by simp [maxLen]; omega) (by simp; omega) (by rw [World.size_alloc]; exact Nat.le_succ_of_le hs1.size)
  have hs2 : Stay V W2 := ownR_grow (hs1.alloc _) (Nat.le_refl _) (ho1.alloc _) hg2
  rw [List.nil_append] at ho2
  obtain ⟨a2, b2, c2, rfl, hR, _, hpos, hle, hmx⟩ := ho2.form encStOk
  obtain rfl := hpos (by simp)
  rw [List.length_append] at hr2 hle
  simp only [List.length_cons, List.length_nil] at hr2 hle
  exact ⟨v1, A, b2, c2, W2, hr1, hr2, hR, hle, hmx, hs2, (ho2.lt b2 rfl).2⟩

/-- All blocks but those from K up to K2 are as they were. -/
structure Off (K K2 : Nat) (A W : World) : Prop where
  os : W.os = A.os
  tape : W.tape = A.tape
  output : W.output = A.output
  size : A.heap.size ≤ W.heap.size
  block : ∀ k, k < K ∨ K2 ≤ k → k < A.heap.size → W.heap[k]? = A.heap[k]?
def HasN (t : TypeId) (n b : Nat) (W : World) : Prop := 0 < n → ∃ cur, W.heap[b]? = some (.cells cur t (0, 0)) ∧ n ≤ cur.size
section
variable {K K2 b o n b' : Nat} {A W W' : World} {t : TypeId} {v u : Value}
theorem Off.refl : Off K K2 A A := ⟨rfl, rfl, rfl, Nat.le_refl _, fun _ _ _ => rfl⟩
theorem Off.set (h : Off K K2 A W) (h1 : K ≤ b) (h2 : b < K2) (u : Value) : Off K K2 A (W.setCell ⟨b, o, none⟩ u) :=
  ⟨h.os, h.tape, h.output, by rw [show (W.setCell ⟨b, o, none⟩ u).heap.size = W.heap.size from by simp [World.setCell]]; exact h.size, fun k hk hl => (Below.heap_setCell _ _ _ _ (fun e => by rcases hk with g | g <;> (have e : k = b := e; omega))).trans (h.block k hk hl)⟩
theorem Off.stay {w0 : World} (h : Off K K2 A W) (hs : Stay w0 A) (hk : w0.heap.size ≤ K) : Stay w0 W :=
  ⟨h.os.trans hs.os, h.tape.trans hs.tape, h.output.trans hs.output, Nat.le_trans hs.size h.size, fun k hk' => (h.block k (.inl (by omega)) (Nat.lt_of_lt_of_le hk' hs.size)).trans (hs.block k hk')⟩
theorem Off.recs {α : Type} {m : Nat} {enc : α → List Value} {a : Option Addr} {off : Nat} {xs : List α} (h : Off K K2 A W) (hR : RecS m enc A a b off xs) (hb : 0 < xs.length → K2 ≤ b ∧ b < A.heap.size) : RecS m enc W a b off xs :=
  rec_held hR fun h0 => h.block b (.inr (hb h0).1) (hb h0).2
theorem set_heap1 (A : World) (b o : Nat) (cur : Array Value) (t : TypeId) (h : A.heap[b]? = some (.cells cur t (0, 0))) (u : Value) : (A.setCell ⟨b, o, none⟩ u).heap[b]? = some (.cells (cur.setIfInBounds o u) t (0, 0)) := by
  simp [World.setCell, Array.getElem?_modify, h]
theorem HasN.set (h : HasN t n b W) (u : Value) : HasN t n b (W.setCell ⟨b', o, none⟩ u) := fun h0 => by
  obtain ⟨cur, h1, h2⟩ := h h0
  by_cases e : b = b'
  · subst e
    exact ⟨_, set_heap1 W b o cur t h1 u, by simpa using h2⟩
  · exact ⟨cur, (Below.heap_setCell _ _ _ _ (fun e' => e e')).trans h1, h2⟩
theorem HasN.at (h : HasN t n b W) (ho : o < n) : (∃ v, W.cell? ⟨b, o, none⟩ = some v) ∧ W.frozen? ⟨b, o, none⟩ = false := by
  obtain ⟨cur, h1, h2⟩ := h (by omega)
  have ho' : o < cur.size := by omega
  refine ⟨⟨cur[o], ?_⟩, ?_⟩
  · simp [World.cell?, h1, ho']
  · simp [World.frozen?, h1]
theorem HasN.stay (h : HasN t n b W) (hs : Stay W W') : HasN t n b W' := fun h0 => by
  obtain ⟨cur, h1, h2⟩ := h h0
  exact ⟨cur, (hs.block b (Array.getElem?_eq_some_iff.1 h1).1).trans h1, h2⟩
/-- A list of its own can be written over. -/
theorem own_has {α : Type} {enc : α → List Value} (he : EncOk 1 enc) {base c : Nat} {a : Option Addr} {xs : List α} (h : OwnR t 1 enc base W (.slice a xs.length c) xs) : ∃ b, RecS 1 enc W a b 0 xs ∧ (0 < xs.length → a = some ⟨b, 0, none⟩ ∧ base ≤ b ∧ b < W.heap.size) ∧ HasN t xs.length b W := by
  obtain ⟨a', b, c', hv, hR, -, hp, -⟩ := h.form he
  simp only [Value.slice.injEq] at hv
  obtain ⟨rfl, -, rfl⟩ := hv
  refine ⟨b, hR, fun h0 => ?_, fun h0 => ?_⟩
  · have e := hp h0
    have := h.lt b (by rw [e]; rfl)
    exact ⟨e, this.1, this.2⟩
  · have e := hp h0
    subst e
    rcases h.2 with ⟨hx, -⟩ | ⟨g, cap, cur, hv, hg, hh, h1, h2, h3, -⟩
    · simp at hx
    · simp only [Value.slice.injEq, Option.some.injEq, Addr.mk.injEq] at hv
      obtain ⟨⟨rfl, -⟩, -, rfl⟩ := hv
      exact ⟨cur, hh, by rw [h3]; omega⟩
end
end Go.Proofs.Ytpnjmldbohecdaa
