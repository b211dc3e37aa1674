/- The document's faults: two lists that grow side by side, while a third is read. No walk here. -/
import Derived.Test.YtpnjmldbohecdaaEH
namespace Go.Proofs.Ytpnjmldbohecdaa
open Go.RowKit Go.Maps Go.Shelf

/-- Between two rounds: the faults up to here, the names that are done, the places that are read. -/
structure FI (w0 w1 : World) (la : Option Addr) (lb : Nat) (F : List (Int × Int × ByteArray)) (i : Int) (bs ps : List (Int × ByteArray)) (v1 v2 : Value) (k : Nat) (W : World) : Prop where
  out : OwnR 45 3 encLo w0.heap.size W v1 (F ++ (lf bs (ps.take k)).map (fun p => (i, p)))
  done : OwnR 9 1 encSt w1.heap.size W v2 (onceN bs ++ namesP (lf bs (ps.take k)))
  stay : Stay w0 W
  near : w1.heap.size ≤ W.heap.size
  order : w0.heap.size ≤ w1.heap.size
  uses : RecS 2 encP W la lb 0 ps
  lies : 0 < ps.length → lb < w1.heap.size ∧ v1.ownBlock ≠ some lb
  apart : ∀ q, v1.ownBlock = some q → v2.ownBlock ≠ some q
theorem rec_held {α : Type} {n : Nat} {enc : α → List Value} {w w' : World} {a : Option Addr} {b off : Nat} {xs : List α} (h : RecS n enc w a b off xs) (hb : 0 < xs.length → w'.heap[b]? = w.heap[b]?) : RecS n enc w' a b off xs :=
  ⟨h.1, fun j hj i v hv => by rw [← h.2 j hj i v hv]; exact World.cell?_of_block (hb (by omega))⟩
theorem FI.skip {w0 w1 : World} {la : Option Addr} {lb : Nat} {F : List (Int × Int × ByteArray)} {i : Int} {bs ps : List (Int × ByteArray)} {v1 v2 : Value} {k : Nat} {W : World} (h : FI w0 w1 la lb F i bs ps v1 v2 k W) (hk : k < ps.length) (hc : inB (onceN bs ++ namesP (lf bs (ps.take k))) ps[k].2 = true) : FI w0 w1 la lb F i bs ps v1 v2 (k + 1) W := by
  have e : lf bs (ps.take (k + 1)) = lf bs (ps.take k) := by rw [lf_take bs hk, hc, if_pos rfl, List.append_nil]
  exact ⟨by rw [e]; exact h.out, by rw [e]; exact h.done, h.stay, h.near, h.order, h.uses, h.lies, h.apart⟩
theorem FI.push {w0 w1 : World} {la : Option Addr} {lb : Nat} {F : List (Int × Int × ByteArray)} {i : Int} {bs ps : List (Int × ByteArray)} {v1 v2 : Value} {k : Nat} {W : World} (h : FI w0 w1 la lb F i bs ps v1 v2 k W) (hk : k < ps.length) (hc : inB (onceN bs ++ namesP (lf bs (ps.take k))) ps[k].2 = false)
    (hl : F.length + (lf bs ps).length ≤ 4294967296) (hb : bs.length ≤ 1099514773504) (ty1 ty2 : TypeId) :
    ∃ a2 n2 c2 W2 a1 n1 c1 W3, (Builtin.append_ #[28, 28] ty1 #[v2, .slice (some ⟨W.heap.size, 0, none⟩) 1 1]).run Try.prog (W.alloc (.cells #[.string ps[k].2] 9)) = .ok (.slice a2 n2 c2) W2 ∧ RecS 2 encP W2 la lb 0 ps ∧
      (Builtin.append_ #[37, 37] ty2 #[v1, .slice (some ⟨W2.drew.heap.size, 0, none⟩) 1 1]).run Try.prog (W2.drew.alloc (.cells #[.int .i64 i, .int .i64 ps[k].1, .string ps[k].2] 45)) = .ok (.slice a1 n1 c1) W3 ∧ FI w0 w1 la lb F i bs ps (.slice a1 n1 c1) (.slice a2 n2 c2) (k + 1) W3 := by
  have e : lf bs (ps.take (k + 1)) = lf bs (ps.take k) ++ [ps[k]] := by rw [lf_take bs hk, hc, if_neg (by simp)]
  have hm := lf_more bs hk hc
  have ho := onceN_len bs
  have hz0 := h.stay.size
  obtain ⟨hl1, hl2⟩ := h.lies (by omega)
  have hnp : ∀ l : List (Int × ByteArray), (namesP l).length = l.length := fun l => by simp [namesP]
  obtain ⟨a2, c2, W2, r2, o2, b2, k2, q2, s2⟩ := own_push encStOk Try.underlying28 infoSt rfl h.done ps[k].2 (by rw [List.length_append, hnp]; unfold maxLen; omega) (by rw [List.length_append, hnp]; omega) h.near ty1
  have hv2 : ∀ q, v2.ownBlock = some q → w1.heap.size ≤ q ∧ q < W.heap.size := h.done.lt
  have hv1 : ∀ q, v1.ownBlock = some q → w0.heap.size ≤ q ∧ q < W.heap.size := h.out.lt
  have hO1 : OwnR 45 3 encLo w0.heap.size W2 v1 (F ++ (lf bs (ps.take k)).map (fun p => (i, p))) := h.out.held fun q hq => k2 q (hv1 q hq).2 (h.apart q hq)
  have hU2 : RecS 2 encP W2 la lb 0 ps := rec_held h.uses fun _ => k2 lb (Nat.lt_of_lt_of_le hl1 h.near) (fun e => by have := (hv2 lb e).1; omega)
  have hst2 : Stay w0 W2 := Below.trans h.stay (Below.mono b2 h.order)
  have hsd : Stay W2 W2.drew := Stay.drew W2
  have hzd : W2.drew.heap.size = W2.heap.size := rfl
  obtain ⟨a1, c1, W3, r3, o3, b3, k3, q3, s3⟩ := own_push encLoOk Try.underlying37 infoLo rfl (hO1.stay hsd) (i, ps[k]) (by rw [List.length_append, List.length_map]; unfold maxLen; omega) (by rw [List.length_append, List.length_map]; omega) (by omega) ty2
  have hne : ∀ q, v1.ownBlock = some q → (Value.slice a2 ((onceN bs ++ namesP (lf bs (ps.take k))).length + 1) c2).ownBlock ≠ some q := fun q hq e2 => by
    rcases q2 with g | g
    · exact h.apart q hq (g ▸ e2)
    · rw [g] at e2
      have := Option.some.inj e2
      have := (hv1 q hq).2
      omega
  refine ⟨a2, _, c2, W2, a1, _, c1, W3, r2, hU2, r3, ?_, ?_, ?_, ?_, h.order, ?_, fun _ => ⟨hl1, fun e2 => ?_⟩, fun q hq e2 => ?_⟩
  · rw [e, List.map_append, ← List.append_assoc]; exact o3
  · rw [e]
    have : OwnR 9 1 encSt w1.heap.size W3 (.slice a2 ((onceN bs ++ namesP (lf bs (ps.take k))).length + 1) c2) (onceN bs ++ namesP (lf bs (ps.take k)) ++ [ps[k].2]) := (o2.stay hsd).held fun q hq => k3 q ((o2.stay hsd).lt q hq).2 (fun e3 => hne q e3 hq)
    simpa [namesP] using this
  · exact Below.trans (hst2.trans hsd) b3
  · have := h.near; omega
  · exact rec_held (hU2.stay hsd) fun _ => k3 lb (by have := h.near; omega) hl2
  · rcases q3 with g | g
    · exact hl2 (g ▸ e2)
    · rw [g] at e2
      have := Option.some.inj e2
      have := h.near
      omega
  · rcases q3 with g | g
    · exact hne q (g ▸ hq) e2
    · rw [g] at hq
      have h1 := Option.some.inj hq
      have h2 := (o2.lt q e2).2
      omega
end Go.Proofs.Ytpnjmldbohecdaa
